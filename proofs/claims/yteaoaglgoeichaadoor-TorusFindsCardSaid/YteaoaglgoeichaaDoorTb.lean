/-
  torus.bandOf: the rings of a width, and the rings over each line.
-/
import Derived.Test.YteaoaglgoeichaaDoorTA
import Derived.Test.YteaoaglgoeichaaDoorAE
import Derived.Test.YteaoaglgoeichaaDoorRg
import Derived.Deep.RegionHeld3
namespace Go.Proofs.YteaoaglgoeichaaDoor
open Go.RowKit Go.Maps Go.BigFrame Go.Sort
set_option linter.unusedVariables false
set_option linter.unusedSimpArgs false
set_option maxRecDepth 100000

theorem cells20 {w : World} {q : Nat} {z0 z1 z2 z3 z4 z5 z6 z7 z8 z9 z10 z11 z12 z13 z14 z15 z16 z17 z18 z19 : Value} {t : TypeId} {fr : Nat × Nat} (h : w.heap[q]? = some (.cells #[z0, z1, z2, z3, z4, z5, z6, z7, z8, z9, z10, z11, z12, z13, z14, z15, z16, z17, z18, z19] t fr)) :
    w.cell? ⟨q, 0, none⟩ = some z0 ∧ w.cell? ⟨q, 1, none⟩ = some z1 ∧ w.cell? ⟨q, 2, none⟩ = some z2 ∧ w.cell? ⟨q, 3, none⟩ = some z3 ∧ w.cell? ⟨q, 4, none⟩ = some z4 ∧ w.cell? ⟨q, 5, none⟩ = some z5 ∧ w.cell? ⟨q, 6, none⟩ = some z6 ∧ w.cell? ⟨q, 7, none⟩ = some z7 ∧ w.cell? ⟨q, 8, none⟩ = some z8 ∧ w.cell? ⟨q, 9, none⟩ = some z9 ∧ w.cell? ⟨q, 10, none⟩ = some z10 ∧ w.cell? ⟨q, 11, none⟩ = some z11 ∧ w.cell? ⟨q, 12, none⟩ = some z12 ∧ w.cell? ⟨q, 13, none⟩ = some z13 ∧ w.cell? ⟨q, 14, none⟩ = some z14 ∧ w.cell? ⟨q, 15, none⟩ = some z15 ∧ w.cell? ⟨q, 16, none⟩ = some z16 ∧ w.cell? ⟨q, 17, none⟩ = some z17 ∧ w.cell? ⟨q, 18, none⟩ = some z18 ∧ w.cell? ⟨q, 19, none⟩ = some z19 := by
  refine ⟨?_, ?_, ?_, ?_, ?_, ?_, ?_, ?_, ?_, ?_, ?_, ?_, ?_, ?_, ?_, ?_, ?_, ?_, ?_, ?_⟩ <;> simp [World.cell?, h]
theorem rowA6_eq (s : List Tl) (r : List Nat) (h : r.length ≤ 6) : ∃ c0 c1 c2 c3 c4 c5 a0 a1 a2 a3 a4 a5 b0 b1 b2 b3 b4 b5 : Int, pad6 (idxI r) = [c0, c1, c2, c3, c4, c5] ∧ north6 s r = [a0, a1, a2, a3, a4, a5] ∧ south6 s r = [b0, b1, b2, b3, b4, b5] ∧
    rowA6 s r = #[.int .i64 c0, .int .i64 c1, .int .i64 c2, .int .i64 c3, .int .i64 c4, .int .i64 c5, .int .i64 a0, .int .i64 a1, .int .i64 a2, .int .i64 a3, .int .i64 a4, .int .i64 a5, .int .i64 b0, .int .i64 b1, .int .i64 b2, .int .i64 b3, .int .i64 b4, .int .i64 b5, .int .i64 (east s r), .int .i64 (west s r)] := by
  obtain ⟨c0, c1, c2, c3, c4, c5, hc⟩ := len6 (pad6 (idxI r)) (pad6_len _ (by unfold idxI; rw [List.length_map]; exact h))
  obtain ⟨a0, a1, a2, a3, a4, a5, ha⟩ := len6 (north6 s r) (north_len6 s r h)
  obtain ⟨b0, b1, b2, b3, b4, b5, hb⟩ := len6 (south6 s r) (south_len6 s r h)
  refine ⟨c0, c1, c2, c3, c4, c5, a0, a1, a2, a3, a4, a5, b0, b1, b2, b3, b4, b5, hc, ha, hb, ?_⟩
  unfold idxI at hc
  simp [rowA6, rowV6, rowInts6, vals, hc, ha, hb]
theorem ringA_eq {s : List Tl} {x : Nat} {r : List Nat} {c0 c1 c2 c3 c4 c5 : Int} (hc : pad6 (idxI r) = [c0, c1, c2, c3, c4, c5]) :
    ringA s x r = #[.int .i64 c0, .int .i64 c1, .int .i64 c2, .int .i64 c3, .int .i64 c4, .int .i64 c5, .int .i64 (numT s x (lineN s r)), .int .i64 (numT s x (lineS s r))] := by
  simp [ringA, ringV, ringInts, vals, hc]
theorem ring_info : (Tryd.prog.info? 75).map (fun i => (i.zero, i.size, i.bytes)) = some (some (.agg #[.int .i64 0, .int .i64 0, .int .i64 0, .int .i64 0, .int .i64 0, .int .i64 0, .int .i64 0, .int .i64 0]), 8, 64) := by kernel_rfl
theorem ring_size : (Tryd.prog.info? 75).map (·.size) = some 8 := by kernel_rfl
theorem sints_info : (Tryd.prog.info? 25).map (fun i => (i.zero, i.size, i.bytes)) = some (some (.slice none 0 0), 1, 24) := by kernel_rfl
/-- the rings among the first k rows -/
def rgK (s : List Tl) (x k : Nat) : List (List Nat) := ((rws s x).take k).filter fun r => decide (east s r = west s r)
theorem rgK_zero (s : List Tl) (x : Nat) : rgK s x 0 = [] := rfl
theorem rgK_all (s : List Tl) (x : Nat) : rgK s x (rws s x).length = ringsE s x := by unfold rgK; rw [List.take_length]; rfl
theorem rgK_succ (s : List Tl) (x k : Nat) (r : List Nat) (hr : (rws s x)[k]? = some r) : rgK s x (k + 1) = rgK s x k ++ if east s r = west s r then [r] else [] := by
  have hk := (List.getElem?_eq_some_iff.1 hr).1
  have e := (List.getElem?_eq_some_iff.1 hr).2
  unfold rgK
  rw [List.take_succ_eq_append_getElem hk, e, List.filter_append]
  by_cases h : east s r = west s r <;> simp [h]
theorem rgK_pre (s : List Tl) (x k : Nat) : ∃ t, ringsE s x = rgK s x k ++ t := by
  refine ⟨((rws s x).drop k).filter fun r => decide (east s r = west s r), ?_⟩
  unfold rgK ringsE
  rw [← List.filter_append, List.take_append_drop]
theorem rgK_len (s : List Tl) (x k : Nat) : (rgK s x k).length ≤ k := by
  have h1 := List.length_filter_le (fun r => decide (east s r = west s r)) ((rws s x).take k)
  have h2 : ((rws s x).take k).length ≤ k := by rw [List.length_take]; omega
  unfold rgK
  omega
/-- the number that a line gets is its number at the end -/
theorem num_now (s : List Tl) (x k : Nat) (r : List Nat) (hr : (rws s x)[k]? = some r) (he : east s r = west s r) :
    (metT (lines6 s (rgK s x k)) (south6 s r)).idxOf (south6 s r) = numT s x (lineS s r) ∧ (metT (metT (lines6 s (rgK s x k)) (south6 s r)) (north6 s r)).idxOf (north6 s r) = numT s x (lineN s r) ∧
    metT (metT (lines6 s (rgK s x k)) (south6 s r)) (north6 s r) = lines6 s (rgK s x (k + 1)) := by
  have e1 : metT (metT (lines6 s (rgK s x k)) (south6 s r)) (north6 s r) = lines6 s (rgK s x (k + 1)) := by rw [rgK_succ s x k r hr, if_pos he, lines6_snoc]
  obtain ⟨t, ht⟩ := rgK_pre s x (k + 1)
  have h1 := lines6_pre s (rgK s x (k + 1)) t
  rw [← ht, ← e1] at h1
  refine ⟨?_, ?_, e1⟩
  · show _ = (lines6 s (ringsE s x)).idxOf (south6 s r)
    exact (idx_pre ((met_pre _ _).trans h1) (mem_met.2 (Or.inr rfl))).symm
  · show _ = (lines6 s (ringsE s x)).idxOf (north6 s r)
    exact (idx_pre h1 (mem_met.2 (Or.inr rfl))).symm
theorem rings_row {s : List Tl} {x : Nat} {r : List Nat} (h : r ∈ ringsE s x) : r.length = x ∧ ∀ i ∈ r, i < s.length :=
  ⟨rws_len s x r (List.mem_filter.1 h).1, rws_idx s x r (List.mem_filter.1 h).1⟩
/-- what bandOf returns -/
def IsBand (s : List Tl) (x : Nat) (W : World) (e : Ending) (w' : World) : Prop :=
  ∃ R rc O oc, e = .returned (.agg #[.slice R (ringsE s x).length rc, .slice (some ⟨O, 0, none⟩) (nlT s x) oc]) ∧ BandIn s x w' w'.heap.size R O ∧ BandLo W.heap.size w' R O (nlT s x) ∧ Below W.heap.size W w'
theorem cells2 {w : World} {q : Nat} {a b : Value} {t : TypeId} {fr : Nat × Nat} (h : w.heap[q]? = some (.cells #[a, b] t fr)) : w.cell? ⟨q, 0, none⟩ = some a ∧ w.cell? ⟨q, 1, none⟩ = some b := by
  refine ⟨?_, ?_⟩ <;> simp [World.cell?, h]
theorem frozen_b {w : World} {q : Nat} {cs : Array Value} {t : TypeId} (h : w.heap[q]? = some (.cells cs t (0, 0))) : ∀ o, w.frozen? ⟨q, o, none⟩ = false := fun o => by simp [World.frozen?, h]
theorem own_sl {w : World} {base n k : Nat} {e : TypeId} {v : Value} {xs : List Value} (h : w.ownsRow base e k v n xs) : ∃ A c, v = .slice A n c := by
  rcases h.2 with ⟨rfl, h0⟩ | ⟨g, cap, cur, rfl, _⟩
  · subst h0; exact ⟨none, 0, rfl⟩
  · exact ⟨_, _, rfl⟩
theorem grown_to {w w' : World} {r r' : Option Nat} (h : w.grownBy w' r') (e : r' = r) : w.grownBy w' r := e ▸ h
theorem sets2 {w : World} {q : Nat} {z0 z1 a b : Value} {t : TypeId} (h : w.heap[q]? = some (.cells #[z0, z1] t (0, 0))) : ((w.setCell ⟨q, 0, none⟩ a).setCell ⟨q, 1, none⟩ b).heap[q]? = some (.cells #[a, b] t (0, 0)) := by
  rw [heap_setCell_same _ q 1 _ t b (heap_setCell_same w q 0 _ t a h)]
  rfl
theorem keep_range {w w' : World} {g o : Nat} {cs : List Value} (h : w.rangeAt g o cs) (e : w'.heap[g]? = w.heap[g]?) : w'.rangeAt g o cs := fun j v hv => (World.cell?_of_block (a := ⟨g, o + j, none⟩) e).trans (h j v hv)

/-- the slots that the last region of bandOf's second loop writes -/
def bdD : List Nat := [58, 59, 60, 61, 62, 63, 64, 65, 66, 67, 68, 69, 70, 71]
/-- what its quiet operations yield -/
def bdV (hb O nl wt so : Nat) (A3 : Option Addr) (nL c3 j : Nat) (i : Nat) : Value :=
  [.pointer (some ⟨hb, 1, none⟩), .slice (some ⟨O, 0, none⟩) nl nl, .pointer (some ⟨wt, 7, none⟩), .int .i64 (so : Int), .pointer (some ⟨hb, 1, none⟩), .slice (some ⟨O, 0, none⟩) nl nl, .pointer (some ⟨wt, 7, none⟩), .int .i64 (so : Int), .pointer (some ⟨O, so, none⟩), .slice A3 nL c3, .int .i64 (j : Int), undef, undef, .pointer (some ⟨O, so, none⟩)].getD i undef
theorem news_oneB {w : World} {q : Nat} {v : Value} {t : TypeId} (h : w.heap[q]? = some (.cells #[v] t (0, 0))) : ∀ j u, [v][j]? = some u → w.cell? ((⟨q, 0, none⟩ : Addr).add j) = some u := by
  intro j u hj
  match j, hj with
  | 0, hj => 
    have e : v = u := by simpa using hj
    subst e
    rw [Addr.add_mid]
    simp [World.cell?, h]
  | j + 1, hj => simp at hj
set_option maxHeartbeats 8000000 in
theorem bandOf_any (s : List Tl) (S : Option Addr) (m d x : Nat) (w : World) (hm : m = s.length) (hS : SetIn w w.heap.size S s) (hml : m ≤ 1000) (hwf : ∀ t ∈ s, twf t) (hx : x ≤ 6) (hN : ∀ y, y ≤ x → (rws s y).length ≤ 100000000) :
    Calls Tryd.prog 20 #[.slice S m d, .int .i64 x] w (IsBand s x w) := by
  obtain ⟨i0, hi, hz0, hz1, hz2⟩ := info_parts ring_info
  have hmm := @run_makeMap Tryd.prog
  have hrows := fun (W : World) (hb : Below w.heap.size w W) => rowsOf_any6 s S m d x W hm (hS.keep hb hb.size) hml hx (fun y hy => Nat.le_trans (hN y hy) (by omega))
  obtain ⟨W0, hW0⟩ : ∃ W0, W0 = ((w.alloc (.cells #[.slice none 0 0, .slice none 0 0] 50)).alloc (.cells #[.slice none 0 0, .slice none 0 0] 50)).alloc (.map #[] 0) := ⟨_, rfl⟩
  have hb0 : Below w.heap.size w W0 := by rw [hW0]; exact (below_two w _ _).alloc (by simp; omega) _
  have hz0' : W0.heap.size = w.heap.size + 3 := by rw [hW0]; simp
  have hres0 : W0.heap[w.heap.size]? = some (.cells #[.slice none 0 0, .slice none 0 0] 50 (0, 0)) := by rw [hW0]; exact heap_kp (heap_kp (heap_at w _ _ rfl) _) _
  have hbox0 : W0.heap[w.heap.size + 1]? = some (.cells #[.slice none 0 0, .slice none 0 0] 50 (0, 0)) := by rw [hW0]; exact heap_kp (heap_at _ _ _ (by simp)) _
  have hmap0 : W0.ownsMap (H := Unit) Tryd.prog 70 (plainElem Tryd.prog 3) (w.heap.size + 1 + 1) 0 (.map []) := by
    rw [hW0]
    have := World.ownsMap_made (H := Unit) ((w.alloc (.cells #[.slice none 0 0, .slice none 0 0] 50)).alloc (.cells #[.slice none 0 0, .slice none 0 0] 50)) Tryd.prog 70 (plainElem Tryd.prog 3)
    simpa using this
  have HROWS := Lib.hid hrows
  have HN := Lib.hid (hN x (Nat.le_refl _))
  have HWF := Lib.hid hwf
  have HW0 := Lib.hid hW0
  have HZ0 := Lib.hid hz0'
  have HB0 := Lib.hid hb0
  have HRES0 := Lib.hid hres0
  have HBOX0 := Lib.hid hbox0
  have HMAP0 := Lib.hid hmap0
  clear hm hS hN hrows hwf hW0 hz0' hb0 hres0 hbox0 hmap0
  go_enter Tryd.func20, Tryd.ntmps20
  go_wp2_with (first
    | (go_at_call 33; rw [← HW0.out]; refine (HROWS.out _ HB0.out).mono ?_; rintro e w2 ⟨vL, rfl, hownL, hbL⟩; obtain ⟨L, hL⟩ : ∃ L, L = rws s x := ⟨_, rfl⟩; obtain ⟨n, hn⟩ : ∃ n, n = L.length := ⟨_, rfl⟩; have hlen : ∀ r ∈ L, r.length = x := (by rw [hL]; exact rws_len s x); rw [← hL, ← hn] at hownL; obtain ⟨A, c, rfl, hnc, hflat, hbase⟩ := own_flat hownL (fun a ha => rowV_len6 s a (by rw [hlen a ha]; omega)) hn.symm; have HL := Lib.hid hL; have HLn := Lib.hid hn; have HLen := Lib.hid hlen; have HFLAT := Lib.hid hflat; have HBASE := Lib.hid hbase; clear hL hn hlen hflat hbase hownL)
    | fail)
  have hn9 : n ≤ 100000000 := by rw [HLn.out, HL.out]; exact HN.out
  have hs2 : w.heap.size + 3 ≤ w2.heap.size := by rw [← HZ0.out]; exact hbL.size
  have hbox2 : Hid (w2.heap[w.heap.size + 1]? = some (.cells #[.slice none 0 0, .slice none 0 0] 50 (0, 0))) := (hbL.block _ (by rw [HZ0.out]; omega)).trans HBOX0.out
  have hres2 : Hid (w2.heap[w.heap.size]? = some (.cells #[.slice none 0 0, .slice none 0 0] 50 (0, 0))) := (hbL.block _ (by rw [HZ0.out]; omega)).trans HRES0.out
  have hmap2 : w2.ownsMap (H := Unit) Tryd.prog 70 (plainElem Tryd.prog 3) (w.heap.size + 1 + 1) 0 (.map []) := HMAP0.out.kept (grown_of_below hbL none) (by simp)
  have hb2 : Below w.heap.size w w2 := HB0.out.trans (hbL.mono HB0.out.size)
  clear hbL hmm
  go_loopw [18] (fun i wr => ∃ (k n' : Nat) (D' : DataW Unit) (vR : Value), k ≤ n ∧ i = .int .i64 k ∧ Hid (wr.heap[w.heap.size + 1]? = some (.cells #[vR, .slice none 0 0] 50 (0, 0))) ∧ wr.ownsMap Tryd.prog 70 (plainElem Tryd.prog 3) (w.heap.size + 1 + 1) n' D' ∧ n' ≤ 2 * k ∧ Hid (Nv D' (lines6 s (rgK s x k))) ∧
    wr.ownsRow w2.heap.size 75 8 vR (rgK s x k).length ((rgK s x k).flatMap (ringV s x)) ∧ Hid (∀ j, j < w2.heap.size → j ≠ w.heap.size + 1 → j ≠ w.heap.size + 1 + 1 → wr.heap[j]? = w2.heap[j]?) ∧ Below w.heap.size w wr ∧ w2.heap.size ≤ wr.heap.size) (fun i _ => n - (intOf i).toNat)
  case atStart => exact ⟨0, 0, .map [], _, Nat.zero_le _, rfl, hbox2, hmap2, Nat.le_refl _, Nv.empty, World.ownsRow_nil _ _ _ _, fun _ _ _ _ => rfl, hb2, Nat.le_refl _⟩
  case round =>
    clear hbox2 hmap2
    obtain ⟨k, n', D', vR, hk, rfl, hbox, hmap, hn', hnv, hown, hkeep, hbr, hsz⟩ := hrel
    obtain ⟨wo, rfl⟩ : ∃ wo : World, wo = wr := ⟨_, rfl⟩
    by_cases hlt : k < n
    · have hkl : k < L.length := by rw [← HLn.out]; exact hlt
      obtain ⟨r, hr⟩ : ∃ r, L[k]? = some r := ⟨_, List.getElem?_eq_getElem hkl⟩
      obtain ⟨g, rfl, hg, hrows⟩ := HFLAT.out (fun e => by rw [e] at hkl; simp at hkl)
      have hgb := HBASE.out _ rfl
      have hrange := keep_range (hrows k r hr) (hkeep.out g hg (by rw [HZ0.out] at hgb; simp at hgb; omega) (by rw [HZ0.out] at hgb; simp at hgb; omega))
      have hr6 : r.length ≤ 6 := by rw [HLen.out r (List.mem_of_getElem? hr)]; exact hx
      obtain ⟨c0, c1, c2, c3, c4, c5, a0, a1, a2, a3, a4, a5, b0, b1, b2, b3, b4, b5, hc, hna, hsb, hrow⟩ := rowA6_eq s r hr6
      have hrl : (rws s x)[k]? = some r := by rw [← HL.out]; exact hr
      have hone : Hid ((rowA6 s r).all (·.oneCell') = true) := rowA_one6 s r
      have hsize : Hid ((rowA6 s r).size = 20) := rowA_size6 s r hr6
      have hk0 : (0 : Int) ≤ (k : Int) := by omega
      have hkn' : (k : Int) < (n : Int) := by omega
      obtain ⟨E, hE⟩ : ∃ E, E = east s r := ⟨_, rfl⟩
      obtain ⟨V, hV⟩ : ∃ V, V = west s r := ⟨_, rfl⟩
      rw [← hE, ← hV] at hrow
      have HC := Lib.hid hc
      have HNA := Lib.hid hna
      have HSB := Lib.hid hsb
      have HROW := Lib.hid hrow
      have HR := Lib.hid hrl
      have HE := Lib.hid hE
      have HV := Lib.hid hV
      clear hkl hr hrows hgb hc hna hsb hrow hrl hE hV
      by_cases hEV : E = V
      · have dEV : (E == V) = true := beq_iff_eq.2 hEV
        have hEV' : Hid (east s r = west s r) := by show _ = _; rw [← HE.out, ← HV.out]; exact hEV
        clear hEV
        go_wp2_with (first
          | (refine wpList_load_mid rfl _ _ rfl g (k * 20) rfl (rowV6 s r) _ hrange Tryd.underlying72 rfl (by rw [row_size6]; simp [rowV_len6 s r hr6]) ?_)
          | (refine wpList_store_whole rfl _ _ _ rfl wo.heap.size (rowA6 s r) rfl rfl _ _ (heap_alloc_new wo _) (by rw [hsize.out]; rfl) (by rw [row_size6, hsize.out]) hone.out ?_; intro wz hgz hsz' hbz; have hvz := below_var hgz; rw [HROW.out] at hbz; obtain ⟨x0, x1, x2, x3, x4, x5, x6, x7, x8, x9, x10, x11, x12, x13, x14, x15, x16, x17, x18, x19⟩ := cells20 hbz))
        have hnw := Lib.hid (north_wf6 HWF.out (fun i hi => rws_idx s x r (List.mem_of_getElem? HR.out) i hi) hr6)
        have hsw := Lib.hid (south_wf6 HWF.out (fun i hi => rws_idx s x r (List.mem_of_getElem? HR.out) i hi) hr6)
        obtain ⟨e1, e2, e3⟩ := num_now s x k r HR.out hEV'.out
        obtain ⟨sN, hsN⟩ : ∃ sN : Nat, sN = numT s x (lineS s r) := ⟨_, rfl⟩
        obtain ⟨nN, hnN⟩ : ∃ nN : Nat, nN = numT s x (lineN s r) := ⟨_, rfl⟩
        rw [← hsN] at e1
        rw [← hnN] at e2
        have hmapz : wz.ownsMap Tryd.prog 70 (plainElem Tryd.prog 3) (w.heap.size + 1 + 1) n' D' := hmap.kept (grown_of_below hvz none) (by simp)
        have C1 : ∀ W, wz.grownBy W none → Calls Tryd.prog 34 #[.map (some (w.heap.size + 1 + 1)), .agg #[.int .i64 b0, .int .i64 b1, .int .i64 b2, .int .i64 b3, .int .i64 b4, .int .i64 b5]] W fun e w' => ∃ (n1 : Nat) (D1 : DataW Unit), e = .returned (.int .i64 sN) ∧ w'.ownsMap Tryd.prog 70 (plainElem Tryd.prog 3) (w.heap.size + 1 + 1) n1 D1 ∧ n1 ≤ n' + 1 ∧ Hid (Nv D1 (metT (lines6 s (rgK s x k)) (south6 s r))) ∧ W.grownBy w' (some (w.heap.size + 1 + 1)) := fun W hg => by
          have hh := number_any (south6 s r) (w.heap.size + 1 + 1) n' D' _ W (hmapz.kept hg (by simp)) hnv.out hsw.out (by omega)
          rw [HSB.out] at hh
          refine hh.mono ?_
          rintro e w' ⟨n1, D1, rfl, h1, h2, h3, h4⟩
          rw [← HSB.out] at h3 ⊢
          exact ⟨n1, D1, by rw [e1], h1, h2, h3, h4⟩
        have C2 : ∀ W n1 D1, W.ownsMap Tryd.prog 70 (plainElem Tryd.prog 3) (w.heap.size + 1 + 1) n1 D1 → Hid (Nv D1 (metT (lines6 s (rgK s x k)) (south6 s r))) → n1 ≤ n' + 1 → Calls Tryd.prog 34 #[.map (some (w.heap.size + 1 + 1)), .agg #[.int .i64 a0, .int .i64 a1, .int .i64 a2, .int .i64 a3, .int .i64 a4, .int .i64 a5]] W fun e w' => ∃ (n2 : Nat) (D2 : DataW Unit), e = .returned (.int .i64 nN) ∧ w'.ownsMap Tryd.prog 70 (plainElem Tryd.prog 3) (w.heap.size + 1 + 1) n2 D2 ∧ n2 ≤ n1 + 1 ∧ Hid (Nv D2 (lines6 s (rgK s x (k + 1)))) ∧ W.grownBy w' (some (w.heap.size + 1 + 1)) := fun W n1 D1 h1 h2 h3 => by
          have hh := number_any (north6 s r) (w.heap.size + 1 + 1) n1 D1 _ W h1 h2.out hnw.out (by omega)
          rw [HNA.out] at hh
          refine hh.mono ?_
          rintro e w' ⟨n2, D2, rfl, g1, g2, g3, g4⟩
          rw [← HNA.out] at g3 ⊢
          exact ⟨n2, D2, by rw [e2], g1, g2, by show Nv _ _; rw [← e3]; exact g3, g4⟩
        have HC1 := Lib.hid C1
        have HC2 := Lib.hid C2
        have HSN := Lib.hid hsN
        have HNN := Lib.hid hnN
        have hboxz : wz.heap[w.heap.size + 1]? = some (.cells #[vR, .slice none 0 0] 50 (0, 0)) := (hvz.block _ (by omega)).trans hbox.out
        have hlz : wo.heap.size < wz.heap.size := by rw [hsz']; simp
        have kp : ∀ {a : Addr} {u : Value}, a.block ≠ w.heap.size + 1 + 1 → wz.cell? a = some u → ∀ w', wz.grownBy w' (some (w.heap.size + 1 + 1)) → w'.cell? a = some u := fun hne h w' hg => hg.cell h (by intro e; injection e with e; exact hne e)
        have hne8 : wo.heap.size ≠ w.heap.size + 1 + 1 := by omega
        have y6 := kp (a := ⟨wo.heap.size, 6, none⟩) hne8 x6
        have y7 := kp (a := ⟨wo.heap.size, 7, none⟩) hne8 x7
        have y8 := kp (a := ⟨wo.heap.size, 8, none⟩) hne8 x8
        have y9 := kp (a := ⟨wo.heap.size, 9, none⟩) hne8 x9
        have y10 := kp (a := ⟨wo.heap.size, 10, none⟩) hne8 x10
        have y11 := kp (a := ⟨wo.heap.size, 11, none⟩) hne8 x11
        have y12 := kp (a := ⟨wo.heap.size, 12, none⟩) hne8 x12
        have y13 := kp (a := ⟨wo.heap.size, 13, none⟩) hne8 x13
        have y14 := kp (a := ⟨wo.heap.size, 14, none⟩) hne8 x14
        have y15 := kp (a := ⟨wo.heap.size, 15, none⟩) hne8 x15
        have y16 := kp (a := ⟨wo.heap.size, 16, none⟩) hne8 x16
        have y17 := kp (a := ⟨wo.heap.size, 17, none⟩) hne8 x17
        have HBZ := Lib.hid hbz
        have HBOXZ := Lib.hid hboxz
        have HY := Lib.hid (And.intro (And.intro x0 (And.intro x1 (And.intro x2 (And.intro x3 (And.intro x4 x5))))) hlz)
        have g0 : wz.grownBy wz none := World.grownBy.refl wz none
        have HVZ := Lib.hid hvz
        have HGR := Lib.hid hsz'
        clear x0 x1 x2 x3 x4 x5 x6 x7 x8 x9 x10 x11 x12 x13 x14 x15 x16 x17 x18 x19 hbz hboxz kp e1 e2 e3 C1 C2 hsN hnN hmap hmapz hgz hsz' hvz hrange dEV hlz hbox hnv
        go_region_held3 (fun w' => wz.grownBy w' (some (w.heap.size + 1 + 1))) (first | (with_reducible assumption) | (with_reducible exact grown_of_below (Below.refl _ _).drew _) | (with_reducible exact hg3) | (trace_state; fail))
          (first
          | (go_at_call 34; (with_reducible refine (HC1.out _ ?_).mono ?_); (focus (with_reducible exact grown_of_below (Below.refl _ _).drew _)); rintro e w3 ⟨n1, D1, rfl, hown1, hn1, hnv1, hg1'⟩; have hg1 := (grown_of_below (Below.refl wz.heap.size wz).drew (some (w.heap.size + 1 + 1))).trans hg1'; clear hg1')
          | (go_at_call 34; (with_reducible refine (HC2.out _ _ _ hown1 hnv1 hn1).mono ?_); rintro e w4 ⟨n2, D2, rfl, hown2, hn2, hnv2, hg2⟩; have hg3 := hg1.trans hg2))
        have hs4 := hg3.size
        obtain ⟨⟨x0, x1, x2, x3, x4, x5⟩, hlz⟩ := HY.out
        have kq : ∀ {a : Addr} {u : Value}, a.block ≠ w.heap.size + 1 + 1 → wz.cell? a = some u → w4.cell? a = some u := fun hne h => hg3.cell h (by intro e; injection e with e; exact hne e)
        have z0 := kq (a := ⟨wo.heap.size, 0, none⟩) hne8 x0
        have z1 := kq (a := ⟨wo.heap.size, 1, none⟩) hne8 x1
        have z2 := kq (a := ⟨wo.heap.size, 2, none⟩) hne8 x2
        have z3 := kq (a := ⟨wo.heap.size, 3, none⟩) hne8 x3
        have z4 := kq (a := ⟨wo.heap.size, 4, none⟩) hne8 x4
        have z5 := kq (a := ⟨wo.heap.size, 5, none⟩) hne8 x5
        have hbox4 : w4.heap[w.heap.size + 1]? = some (.cells #[vR, .slice none 0 0] 50 (0, 0)) := (hg3.block _ (by omega) (by simp)).trans HBOXZ.out
        obtain ⟨k0, k1⟩ := cells2 hbox4
        have hownz : wz.ownsRow w2.heap.size 75 8 vR (rgK s x k).length ((rgK s x k).flatMap (ringV s x)) := own_keep' hown HVZ.out
        have hneR : vR.ownBlock = none ∨ vR.ownBlock ≠ some (w.heap.size + 1 + 1) := by
          refine Or.inr fun e => ?_
          have := (hown.lt _ e).1
          omega
        have hown4 : w4.ownsRow w2.heap.size 75 8 vR (rgK s x k).length ((rgK s x k).flatMap (ringV s x)) := hownz.kept hg3 hneR
        have hfr4 : w4.frozen? ⟨w.heap.size + 1, 0, none⟩ = false := frozen_b hbox4 0
        have hring : ringV s x r = [.int .i64 c0, .int .i64 c1, .int .i64 c2, .int .i64 c3, .int .i64 c4, .int .i64 c5, .int .i64 nN, .int .i64 sN] := by
          have := ringA_eq (s := s) (x := x) HC.out
          rw [← HSN.out, ← HNN.out] at this
          exact congrArg Array.toList this
        have HRING := Lib.hid hring
        have HOWN4 := Lib.hid hown4
        have HBOX4 := Lib.hid hbox4
        have hrk := rgK_len s x k
        have HG3 := Lib.hid hg3
        clear x0 x1 x2 x3 x4 x5 kq hring hown hownz hown1 hg1 hnv1 hown4 hbox4 hg3 hg2 y6 y7 y8 y9 y10 y11 y12 y13 y14 y15 y16 y17 g0
        go_wp2_with (first
          | (at_builtin; refine wpList_append_own_at _ rfl _ _ 47 rfl w2.heap.size 75 i0 _ 8 64 Tryd.underlying47 hi hz0 hz1 hz2 rfl (by decide) _ _ _ rfl (HOWN4.out.alloc _) ⟨w4.heap.size, 0, none⟩ 1 1 [.int .i64 c0, .int .i64 c1, .int .i64 c2, .int .i64 c3, .int .i64 c4, .int .i64 c5, .int .i64 nN, .int .i64 sN] rfl rfl (cell_news _ _ rfl _ _) (by simp [Value.oneCell']) (by simp only [maxLen]; omega) (by omega) (by simp; omega) ?_; intro v5 w5 hown5 hgrow5' hnil5 hat5; have hgrow5 := grown_to (r := vR.ownBlock) hgrow5' rfl; clear hnil5 hat5 hgrow5'; obtain ⟨A5, cc5, rfl⟩ := own_sl hown5; have hbox5 := (hgrow5.block (w.heap.size + 1) (by simp; omega) (fun e => by have := (HOWN4.out.lt _ e.symm).1; omega)).trans (heap_kp HBOX4.out _); obtain ⟨q0, q1⟩ := cells2 hbox5; have qf := frozen_b hbox5)
          | fail)
        have hs5 := hgrow5.size
        have hs5' : w4.heap.size + 1 ≤ w5.heap.size := by simpa using hs5
        have hR2 : ∀ j, vR.ownBlock = some j → w2.heap.size ≤ j := fun j e => (HOWN4.out.lt j e).1
        have hlow : ∀ j, j < w2.heap.size → some j ≠ vR.ownBlock := fun j hj e => by have := hR2 j e.symm; omega
        have hmap6 := ((hown2.kept (World.grownBy_alloc w4 (.cells #[.int .i64 c0, .int .i64 c1, .int .i64 c2, .int .i64 c3, .int .i64 c4, .int .i64 c5, .int .i64 nN, .int .i64 sN] 75) none) (by simp)).kept hgrow5 (by first | exact hlow _ (by omega) | exact (hlow _ (by omega)).symm)).setCell (a := ⟨w.heap.size + 1, 0, none⟩) (by simp) (.slice A5 ((rgK s x k).length + 1) cc5)
        have hown6 := hown5.kept (grown_one w5 (w.heap.size + 1) 0 (.slice A5 ((rgK s x k).length + 1) cc5)) (Or.inr fun e => by have := (hown5.lt _ e).1; omega)
        have hrg : rgK s x (k + 1) = rgK s x k ++ [r] := by rw [rgK_succ s x k r HR.out, if_pos hEV'.out]
        have hown7 : (w5.setCell ⟨w.heap.size + 1, 0, none⟩ (.slice A5 ((rgK s x k).length + 1) cc5)).ownsRow w2.heap.size 75 8 (.slice A5 ((rgK s x k).length + 1) cc5) (rgK s x (k + 1)).length ((rgK s x (k + 1)).flatMap (ringV s x)) := by
          rw [hrg, List.flatMap_append, List.length_append, List.flatMap_cons, List.flatMap_nil, List.append_nil, HRING.out]
          exact hown6
        have hbox7 := heap_setCell_same w5 (w.heap.size + 1) 0 _ 50 (.slice A5 ((rgK s x k).length + 1) cc5) hbox5
        have hkeep7 : ∀ j, j < w2.heap.size → j ≠ w.heap.size + 1 → j ≠ w.heap.size + 1 + 1 → (w5.setCell ⟨w.heap.size + 1, 0, none⟩ (.slice A5 ((rgK s x k).length + 1) cc5)).heap[j]? = w2.heap[j]? := fun j h1 h2 h3 =>
          (heap_setCell_other w5 ⟨w.heap.size + 1, 0, none⟩ j _ h2).trans ((hgrow5.block j (by simp; omega) (hlow j h1)).trans ((heap_alloc_old' w4 _ j (by omega)).trans ((HG3.out.block j (by omega) (fun e => h3 (Option.some.inj e))).trans ((HVZ.out.block j (by omega)).trans (hkeep.out j h1 h2 h3)))))
        have hb7 : Below w.heap.size w (w5.setCell ⟨w.heap.size + 1, 0, none⟩ (.slice A5 ((rgK s x k).length + 1) cc5)) :=
          (((((hbr.trans (HVZ.out.mono hbr.size)).grown HG3.out (by omega) (fun j hj => by cases hj; omega)).alloc (by first | omega | (simp; omega)) _).grown hgrow5 (by first | omega | (simp; omega)) (fun j hj => by have := hR2 j hj; omega)).grown (grown_one w5 (w.heap.size + 1) 0 _) (by omega) (fun j hj => by cases hj; omega))
        have hsz7 : w2.heap.size ≤ (w5.setCell ⟨w.heap.size + 1, 0, none⟩ (.slice A5 ((rgK s x k).length + 1) cc5)).heap.size := by rw [setCell_heap_size]; omega
        have HM6 := Lib.hid hmap6
        have HO7 := Lib.hid hown7
        have HBX7 := Lib.hid hbox7
        have HK7 := Lib.hid hkeep7
        clear hmap6 hown6 hown7 hbox7 hkeep7 hown5 hown2 hgrow5 hbox5 q0 q1 qf hrg hlow hR2 z0 z1 z2 z3 z4 z5
        go_roundw
        case rel => exact ⟨k + 1, n2, D2, _, by omega, by go_num, HBX7.out, HM6.out, by omega, hnv2, HO7.out, HK7.out, hb7, hsz7⟩
        case measure => simp [intOf]; omega
      · have dEV : (E == V) = false := beq_eq_false_iff_ne.2 hEV
        have hrg : Hid (rgK s x (k + 1) = rgK s x k) := by
          show _ = _
          rw [rgK_succ s x k r HR.out, if_neg (by rw [← HE.out, ← HV.out]; exact hEV), List.append_nil]
        clear hEV
        go_wp2_with (first
          | (refine wpList_load_mid rfl _ _ rfl g (k * 20) rfl (rowV6 s r) _ hrange Tryd.underlying72 rfl (by rw [row_size6]; simp [rowV_len6 s r hr6]) ?_)
          | (refine wpList_store_whole rfl _ _ _ rfl wo.heap.size (rowA6 s r) rfl rfl _ _ (heap_alloc_new wo _) (by rw [hsize.out]; rfl) (by rw [row_size6, hsize.out]) hone.out ?_; intro wz hgz hsz' hbz; have hvz := below_var hgz; rw [HROW.out] at hbz; obtain ⟨x0, x1, x2, x3, x4, x5, x6, x7, x8, x9, x10, x11, x12, x13, x14, x15, x16, x17, x18, x19⟩ := cells20 hbz))
        have hnv2 : Hid (Nv D' (lines6 s (rgK s x (k + 1)))) := by show Nv _ _; rw [hrg.out]; exact hnv
        have hown2 := own_keep' hown hvz
        rw [← hrg.out] at hown2
        have hmap2 := hmap.kept (grown_of_below hvz none) (by simp)
        have hbox2 : Hid (wz.heap[w.heap.size + 1]? = some (.cells #[vR, .slice none 0 0] 50 (0, 0))) := (hvz.block _ (by omega)).trans hbox.out
        have hkeep2 : Hid (∀ j, j < w2.heap.size → j ≠ w.heap.size + 1 → j ≠ w.heap.size + 1 + 1 → wz.heap[j]? = w2.heap[j]?) := fun j h1 h2 h3 => (hvz.block j (by omega)).trans (hkeep.out j h1 h2 h3)
        have hb2 : Below w.heap.size w wz := hbr.trans (hvz.mono hbr.size)
        have hsz2 : w2.heap.size ≤ wz.heap.size := Nat.le_trans hsz hvz.size
        clear x0 x1 x2 x3 x4 x5 x6 x7 x8 x9 x10 x11 x12 x13 x14 x15 x16 x17 x18 x19 hown hmap hgz hbz hvz hrange hsz'
        go_roundw
        case rel => exact ⟨k + 1, n', D', vR, by omega, by go_num, hbox2, hmap2, by omega, hnv2, hown2, hkeep2, hb2, hsz2⟩
        case measure => simp [intOf]; omega
    · have e : k = n := by omega
      subst e
      have hkn : k = (rws s x).length := by rw [HLn.out, HL.out]
      have hrg : rgK s x k = ringsE s x := by rw [hkn]; exact rgK_all s x
      have hsize : Maps.size D' = nlT s x := by
        have := hnv.out.size
        rw [hrg] at this
        exact this
      rw [hrg] at hown
      have hrlen : (ringsE s x).length ≤ 100000000 := by rw [← hrg]; exact Nat.le_trans (rgK_len s x k) hn9
      have hnl : nlT s x ≤ 200000000 := by
        have := lines6_len s (ringsE s x)
        unfold nlT
        omega
      obtain ⟨rn, hrn⟩ : ∃ rn, rn = (ringsE s x).length := ⟨_, rfl⟩
      obtain ⟨nl, hnlE⟩ : ∃ nl, nl = nlT s x := ⟨_, rfl⟩
      obtain ⟨RL, hRL⟩ : ∃ RL, RL = ringsE s x := ⟨_, rfl⟩
      have hrows6 : ∀ r ∈ RL, r.length ≤ 6 := fun r hr => by rw [hRL] at hr; rw [(rings_row hr).1]; exact hx
      rw [← hrn] at hrlen
      rw [← hnlE] at hnl hsize
      rw [← hRL, show RL.length = rn by rw [hRL, hrn]] at hown
      obtain ⟨A2, c2, rfl, hrc, hflat, hbase⟩ := own_flat hown (fun a ha => ringV_len s x a (hrows6 a ha)) (by rw [hRL, hrn])
      obtain ⟨k0, k1⟩ := cells2 hbox.out
      have kf := frozen_b hbox.out
      obtain ⟨i1, gi, gz0, gz1, gz2⟩ := info_parts sints_info
      have hbyt : i1.bytes * nl ≤ 281474976710656 := by rw [gz2]; omega
      have HRN := Lib.hid hrn
      have HNL := Lib.hid hnlE
      have HRL := Lib.hid hRL
      have HR6 := Lib.hid hrows6
      have HFL2 := Lib.hid hflat
      have HBA2 := Lib.hid hbase
      have HOWN := Lib.hid hown
      clear hrg hkn hrn hnlE hRL hrows6 hown hflat hbase
      go_wp2_with (first
        | (at_len; refine wpList_len_own _ rfl _ 66 rfl 70 3 Tryd.underlying66 _ _ n' D' rfl hmap ?_; rw [hsize])
        | (at_make; refine wpList_make_full _ rfl _ _ 48 rfl wo.heap.size 25 i1 (.slice none 0 0) 1 Tryd.underlying48 gi gz0 gz1 .i64 .i64 _ _ nl rfl rfl rfl rfl hbyt (by simp only [maxLen]; omega) (Nat.le_refl _) ?_; intro w3 hown3 hgrow3; have hb3 : Below wo.heap.size wo w3 := ⟨hgrow3.os, hgrow3.tape, hgrow3.output, hgrow3.size, fun k hk => hgrow3.block k hk (by simp)⟩; have hbox3 := (hb3.block (w.heap.size + 1) (by omega)).trans hbox.out; obtain ⟨q0, q1⟩ := cells2 hbox3; have qf := frozen_b hbox3))
      obtain ⟨O, hO⟩ : ∃ O, O = wo.heap.size := ⟨_, rfl⟩
      have hov3 : OvT w3 O O nl (ovK s x 0) := by
        rw [hO]
        exact (OvT.made hown3 (fun i hi => made_at (.slice none 0 0) (nl * 1) i (by omega))).congr fun l _ => rfl
      have hO1 : w.heap.size + 1 < O := by omega
      obtain ⟨w4, hw4⟩ : ∃ w4, w4 = w3.setCell ⟨w.heap.size + 1, 1, none⟩ (.slice (some ⟨O, 0, none⟩) nl nl) := ⟨_, rfl⟩
      have g34 : w3.grownBy w4 (some (w.heap.size + 1)) := by rw [hw4]; exact grown_one _ _ _ _
      have hov4 : Hid (OvT w4 O O nl (ovK s x 0)) := hov3.other g34 hO1
      have hbox4 : w4.heap[w.heap.size + 1]? = some (.cells #[.slice A2 rn c2, .slice (some ⟨O, 0, none⟩) nl nl] 50 (0, 0)) := by rw [hw4]; exact heap_setCell_same w3 (w.heap.size + 1) 1 _ 50 _ hbox3
      have hb04 : Below w.heap.size w w4 := (hbr.trans (hb3.mono hbr.size)).grown g34 (by have := hb3.size; omega) (fun j hj => by cases hj; omega)
      have hrings : Hid (∀ (j : Nat) (r : List Nat), RL[j]? = some r → ∃ g2, A2 = some ⟨g2, 0, none⟩ ∧ g2 < O ∧ w2.heap.size ≤ g2 ∧ w4.rangeAt g2 (j * 8) (ringV s x r)) := fun j r hr => by
        obtain ⟨g2, hA2, hg2, hrg⟩ := HFL2.out (fun e => by rw [e] at hr; simp at hr)
        have hbz := HBA2.out _ hA2
        refine ⟨g2, hA2, by omega, hbz, ?_⟩
        exact keep_range (rangeAt_keep (hrg j r hr) hb3 hg2) (g34.block g2 (by have := hb3.size; omega) (by intro e; injection e with e; simp at hbz; omega))
      have hO4 : O < w4.heap.size := hov4.out.lt
      have hres4 : Hid (w4.heap[w.heap.size]? = some (.cells #[.slice none 0 0, .slice none 0 0] 50 (0, 0))) := (g34.block _ (by have := hb3.size; omega) (by simp)).trans ((hb3.block _ (by omega)).trans ((hkeep.out _ (by omega) (by omega) (by omega)).trans hres2.out))
      rw [← hO] 
      rw [← hw4]
      have HB04 := Lib.hid hb04
      have HBX4 := Lib.hid hbox4
      have HO := Lib.hid hO
      clear hov3 hw4 hb04 hbox4 hown3 hgrow3 hb3 hbox3 q0 q1 qf g34 hO k0 k1 kf hmap hbox hnv hsize hkeep hbr HWF HW0
      go_loopw [53] (fun i wr => ∃ j : Nat, j ≤ rn ∧ i = .int .i64 j ∧ Hid (OvT wr O O nl (ovK s x j)) ∧ Below O w4 wr) (fun i _ => rn - (intOf i).toNat)
      case atStart => exact ⟨0, Nat.zero_le _, rfl, hov4, Below.refl _ _⟩
      case round =>
        clear hov4
        obtain ⟨j, hj, rfl, hov, hb4⟩ := hrel
        obtain ⟨wt, rfl⟩ : ∃ wt : World, wt = wr := ⟨_, rfl⟩
        have hOt : O < wt.heap.size := hov.out.lt
        have hboxt : wt.heap[w.heap.size + 1]? = some (.cells #[.slice A2 rn c2, .slice (some ⟨O, 0, none⟩) nl nl] 50 (0, 0)) := (hb4.block _ hO1).trans HBX4.out
        by_cases hjn : j < rn
        · have hjl : j < RL.length := by rw [HRL.out, ← HRN.out]; exact hjn
          obtain ⟨r, hr⟩ : ∃ r, RL[j]? = some r := ⟨_, List.getElem?_eq_getElem hjl⟩
          obtain ⟨g2, rfl, hg2, -, hrg⟩ := hrings.out j r hr
          have hrange := rangeAt_keep hrg hb4 hg2
          have hmem : r ∈ ringsE s x := by rw [← HRL.out]; exact List.mem_of_getElem? hr
          have hr6 : r.length ≤ 6 := HR6.out r (List.mem_of_getElem? hr)
          obtain ⟨so, hso⟩ : ∃ so, so = numT s x (lineS s r) := ⟨_, rfl⟩
          have hsoE : so = soT s x j := by
            unfold soT
            rw [hso, ← HRL.out, List.getD_eq_getElem?_getD, hr]
            rfl
          have hsol : so < nl := by rw [hso, HNL.out]; exact (numT_lt s x hmem).1
          have hone : Hid ((ringA s x r).all (·.oneCell') = true) := ringA_one s x r
          have hsize : Hid ((ringA s x r).size = 8) := ringA_size s x r hr6
          have hat7 := (ringA_at s x r hr6).2
          rw [← hso] at hat7
          have hj0 : (0 : Int) ≤ (j : Int) := by omega
          have hjn' : (j : Int) < (rn : Int) := by omega
          have hs0 : (0 : Int) ≤ (so : Int) := by omega
          have hsn' : (so : Int) < (nl : Int) := by omega
          have HSOE := Lib.hid hsoE
          have HAT7 := Lib.hid hat7
          have HR := Lib.hid hr
          clear hjl hr hrg hmem hso hsoE hat7
          go_wp2_with (first
            | (refine wpList_load_mid rfl _ _ rfl g2 (j * 8) rfl (ringV s x r) _ hrange Tryd.underlying75 rfl (by rw [ring_size]; simp [ringV_len s x r hr6]) ?_)
            | (refine wpList_store_whole rfl _ _ _ rfl wt.heap.size (ringA s x r) rfl rfl _ _ (heap_alloc_new wt _) (by rw [hsize.out]; rfl) (by rw [ring_size, hsize.out]) hone.out ?_; intro wz hgz hsz' hbz))
          have hvz := below_var hgz
          have hlz : wt.heap.size < wz.heap.size := by rw [hsz']; simp
          have hovz := hov.out.keep hvz
          have hboxz := (hvz.block _ (by omega)).trans hboxt
          obtain ⟨k0, k1⟩ := cells2 hboxz
          have k7 : wz.cell? ⟨wt.heap.size, 7, none⟩ = some (.int .i64 (so : Int)) := (cell_of_row _ _ 7 _ _ _ hbz).trans (by have := HAT7.out; simpa [ringA] using this)
          obtain ⟨v, hcv0, hown0, hvO⟩ := hov.out.row so hsol
          have hcv := (hvz.cell (p := ⟨O, so, none⟩) hOt).trans hcv0
          have hown := own_keep' hown0 hvz
          have hvlt : ∀ g, v.ownBlock = some g → O ≤ g ∧ g < wt.heap.size := fun g hg => hown0.lt g hg
          clear hown0 hcv0
          obtain ⟨A3, c3, rfl, hnL, hnc3, hnm3, -, hA3⟩ := own_ints hown
          obtain ⟨nL, hnLE⟩ : ∃ nL, nL = (ovK s x j so).length := ⟨_, rfl⟩
          rw [← hnLE] at hcv hown hvO hnL hnc3 hnm3 hvlt
          have hnL9 : nL ≤ 100000000 := by
            have h1 := List.length_filter_le (fun i => decide (soT s x i = so)) (List.range j)
            rw [List.length_range] at h1
            have h2 : nL ≤ j := by rw [hnLE]; exact h1
            omega
          have hzf := hovz.fr
          have HOWN3 := Lib.hid hown
          have HOVZ := Lib.hid hovz
          have HNLE := Lib.hid hnLE
          have HVO := Lib.hid hvO
          have HVLT := Lib.hid hvlt
          have HVZ := Lib.hid hvz
          obtain ⟨i2, ji, jz0, jz1, jz2⟩ := info_parts int_info
          have hOz : O < wz.heap.size := by omega
          have hvlo : ∀ g, (Value.slice A3 nL c3).ownBlock = some g → O ≤ g := fun g hg => (hvlt g hg).1
          have hr1 : ∀ W, wz.grownBy W (Value.slice A3 nL c3).ownBlock → W.cell? ⟨w.heap.size + 1, 1, none⟩ = some (.slice (some ⟨O, 0, none⟩) nl nl) := fun W hg => hg.cell k1 (fun e => by have := (hvlt _ e.symm).1; simp at this; omega)
          have hr7 : ∀ W, wz.grownBy W (Value.slice A3 nL c3).ownBlock → W.cell? ⟨wt.heap.size, 7, none⟩ = some (.int .i64 (so : Int)) := fun W hg => hg.cell k7 (fun e => by have := (hvlt _ e.symm).2; simp at this)
          have hrv : ∀ W, wz.grownBy W (Value.slice A3 nL c3).ownBlock → W.cell? ⟨O, so, none⟩ = some (.slice A3 nL c3) := fun W hg => hg.cell hcv (fun e => hvO e.symm)
          clear hown hovz hboxz hnL hnLE hA3 hvO hvlt hgz hsz' hbz hvz hrange hboxt hnc3 hnm3
          refine wp_act rfl ?_
          intro t0 ht0
          have e5 : t0.getD 5 undef = .pointer (some ⟨w.heap.size + 1, 0, none⟩) := by rw [← ht0]; rfl
          have e11 : t0.getD 11 undef = .int .i64 (j : Int) := by rw [← ht0]; rfl
          have e12 : t0.getD 12 undef = .pointer (some ⟨wt.heap.size, 0, none⟩) := by rw [← ht0]; rfl
          have hsz : t0.size = 74 := by rw [← ht0]; rfl
          have hsn : so < nl := hsol
          have HT0 := Lib.hid ht0
          clear ht0
          have EF : ∀ (u : Nat → Value) (k : Nat), k ∈ bdD → (fillA t0 bdD u)[k]?.getD undef = u k := fun u k hk => by
            rw [← Array.getD_eq_getD_getElem?, fill_get, if_pos ⟨hk, by
              rw [hsz]
              have : ∀ k ∈ bdD, k < 74 := by decide
              exact this k hk⟩]
          have EG : ∀ (u : Nat → Value) (k : Nat), k ∉ bdD → (fillA t0 bdD u)[k]?.getD undef = t0.getD k undef := fun u k hk => by
            rw [← Array.getD_eq_getD_getElem?, fill_get, if_neg (fun hh => hk hh.1)]
          have EI : ∀ (u : Nat → Value) (k : Nat), k ∈ bdD → Act.eval ⟨fillA t0 bdD u, []⟩ (.tmp k) = u k := fun u k hk => eval_in hk (by
            rw [hsz]
            have : ∀ k ∈ bdD, k < 74 := by decide
            exact this k hk)
          have X0 : bdV (w.heap.size + 1) O nl wt.heap.size so A3 nL c3 j 0 = .pointer (some ⟨w.heap.size + 1, 1, none⟩) := rfl
          have X1 : bdV (w.heap.size + 1) O nl wt.heap.size so A3 nL c3 j 1 = .slice (some ⟨O, 0, none⟩) nl nl := rfl
          have X2 : bdV (w.heap.size + 1) O nl wt.heap.size so A3 nL c3 j 2 = .pointer (some ⟨wt.heap.size, 7, none⟩) := rfl
          have X3 : bdV (w.heap.size + 1) O nl wt.heap.size so A3 nL c3 j 3 = .int .i64 (so : Int) := rfl
          have X4 : bdV (w.heap.size + 1) O nl wt.heap.size so A3 nL c3 j 4 = .pointer (some ⟨w.heap.size + 1, 1, none⟩) := rfl
          have X5 : bdV (w.heap.size + 1) O nl wt.heap.size so A3 nL c3 j 5 = .slice (some ⟨O, 0, none⟩) nl nl := rfl
          have X6 : bdV (w.heap.size + 1) O nl wt.heap.size so A3 nL c3 j 6 = .pointer (some ⟨wt.heap.size, 7, none⟩) := rfl
          have X7 : bdV (w.heap.size + 1) O nl wt.heap.size so A3 nL c3 j 7 = .int .i64 (so : Int) := rfl
          have X8 : bdV (w.heap.size + 1) O nl wt.heap.size so A3 nL c3 j 8 = .pointer (some ⟨O, so, none⟩) := rfl
          have X9 : bdV (w.heap.size + 1) O nl wt.heap.size so A3 nL c3 j 9 = .slice A3 nL c3 := rfl
          have X10 : bdV (w.heap.size + 1) O nl wt.heap.size so A3 nL c3 j 10 = .int .i64 (j : Int) := rfl
          have X13 : bdV (w.heap.size + 1) O nl wt.heap.size so A3 nL c3 j 13 = .pointer (some ⟨O, so, none⟩) := rfl
          refine wp_region_inv (by kernel_rfl) (by kernel_rfl) (fun d a W => ∃ u q, a = ⟨fillA t0 bdD u, []⟩ ∧ RB 3 wz O nl so nL (.slice A3 nL c3) j (ovK s x j) (bdV (w.heap.size + 1) O nl wt.heap.size so A3 nL c3 j) d u q W)
            ⟨fun k => t0.getD k undef, 0, by rw [fill_self], RB.start _ _ (Below.refl _ _).drew (HOVZ.out.keep (Below.refl _ _).drew)⟩ ?fin
            (.cons ?c0 (.cons ?c1 (.cons ?c2 (.cons ?c3 (.cons ?c4 (.cons ?c5 (.cons ?c6 (.cons ?c7 (.cons ?c8 (.cons ?c9 (.cons ?c10 (.cons ?c11 (.cons ?c12 (.cons ?c13 (.cons ?c14 .nil)))))))))))))))
          case fin =>
            rintro d a W hall ⟨u, q, rfl, h⟩
            obtain ⟨ho, hbw⟩ := h.f14 (hall 14 (by decide))
            have hov6 : Hid (OvT W O O nl (ovK s x (j + 1))) := ho.congr fun l _ => by rw [ovK_succ, ← HSOE.out]
            have hb6' : Below O w4 wz := hb4.trans (HVZ.out.mono (Nat.le_of_lt hOt))
            have hb7 : Below O w4 W := hb6'.trans hbw
            rw [← HT0.out]
            simp only [Act.put, fillA, bdD, List.foldl_cons, List.foldl_nil, List.setIfInBounds_toArray, List.set_cons_zero, List.set_cons_succ]
            clear h ho hbw hall EF EG EI hb6' hr1 hr7 hrv
            go_wp2_with fail
            go_roundw
            case rel => exact ⟨j + 1, by omega, by go_num, hov6, hb7⟩
            case measure => simp [intOf]; omega
          case c0 =>
            intro d a W hd hp hI K hK
            obtain ⟨u, q, rfl, h⟩ := hI
            have hq := h.quiet 0 (qb_of rfl) hd
            rw [X0] at hq
            have hk := hK _ _ ⟨_, _, put_in (t0 := t0) (D := bdD) (u := u) (df := []) (k := 58) (v := .pointer (some ⟨w.heap.size + 1, 1, none⟩)) (by decide), hq⟩
            refine step_run rfl (v := .pointer (some ⟨w.heap.size + 1, 1, none⟩)) (w' := W) ?_ hk
            simp [execOp, go_sem, (EG u 5 (by decide)).trans e5]
          case c1 =>
            intro d a W hd hp hI K hK
            obtain ⟨u, q, rfl, h⟩ := hI
            have v0 := h.con 0 (qb_of rfl) (hp ⟨0, .data⟩ (by simp) rfl)
            rw [X0] at v0
            replace v0 : u 58 = .pointer (some ⟨w.heap.size + 1, 1, none⟩) := v0
            have hc := hr1 W (h.gr (h.no14 (i := 1) (by omega) hd))
            have hq := h.quiet 1 (qb_of rfl) hd
            rw [X1] at hq
            have hk := hK _ _ ⟨_, _, put_in (t0 := t0) (D := bdD) (u := u) (df := []) (k := 59) (v := .slice (some ⟨O, 0, none⟩) nl nl) (by decide), hq⟩
            refine step_run rfl (v := .slice (some ⟨O, 0, none⟩) nl nl) (w' := W) ?_ hk
            simp [execOp, go_sem, EF u 58 (by decide), v0, hc]
          case c2 =>
            intro d a W hd hp hI K hK
            obtain ⟨u, q, rfl, h⟩ := hI
            have hq := h.quiet 2 (qb_of rfl) hd
            rw [X2] at hq
            have hk := hK _ _ ⟨_, _, put_in (t0 := t0) (D := bdD) (u := u) (df := []) (k := 60) (v := .pointer (some ⟨wt.heap.size, 7, none⟩)) (by decide), hq⟩
            refine step_run rfl (v := .pointer (some ⟨wt.heap.size, 7, none⟩)) (w' := W) ?_ hk
            simp [execOp, go_sem, (EG u 12 (by decide)).trans e12]
          case c3 =>
            intro d a W hd hp hI K hK
            obtain ⟨u, q, rfl, h⟩ := hI
            have v2 := h.con 2 (qb_of rfl) (hp ⟨2, .data⟩ (by simp) rfl)
            rw [X2] at v2
            replace v2 : u 60 = .pointer (some ⟨wt.heap.size, 7, none⟩) := v2
            have hc := hr7 W (h.gr (h.no14 (i := 3) (by omega) hd))
            have hq := h.quiet 3 (qb_of rfl) hd
            rw [X3] at hq
            have hk := hK _ _ ⟨_, _, put_in (t0 := t0) (D := bdD) (u := u) (df := []) (k := 61) (v := .int .i64 (so : Int)) (by decide), hq⟩
            refine step_run rfl (v := .int .i64 (so : Int)) (w' := W) ?_ hk
            simp [execOp, go_sem, EF u 60 (by decide), v2, hc]
          case c4 =>
            intro d a W hd hp hI K hK
            obtain ⟨u, q, rfl, h⟩ := hI
            have hq := h.quiet 4 (qb_of rfl) hd
            rw [X4] at hq
            have hk := hK _ _ ⟨_, _, put_in (t0 := t0) (D := bdD) (u := u) (df := []) (k := 62) (v := .pointer (some ⟨w.heap.size + 1, 1, none⟩)) (by decide), hq⟩
            refine step_run rfl (v := .pointer (some ⟨w.heap.size + 1, 1, none⟩)) (w' := W) ?_ hk
            simp [execOp, go_sem, (EG u 5 (by decide)).trans e5]
          case c5 =>
            intro d a W hd hp hI K hK
            obtain ⟨u, q, rfl, h⟩ := hI
            have v4 := h.con 4 (qb_of rfl) (hp ⟨4, .data⟩ (by simp) rfl)
            rw [X4] at v4
            replace v4 : u 62 = .pointer (some ⟨w.heap.size + 1, 1, none⟩) := v4
            have hc := hr1 W (h.gr (h.no14 (i := 5) (by omega) hd))
            have hq := h.quiet 5 (qb_of rfl) hd
            rw [X5] at hq
            have hk := hK _ _ ⟨_, _, put_in (t0 := t0) (D := bdD) (u := u) (df := []) (k := 63) (v := .slice (some ⟨O, 0, none⟩) nl nl) (by decide), hq⟩
            refine step_run rfl (v := .slice (some ⟨O, 0, none⟩) nl nl) (w' := W) ?_ hk
            simp [execOp, go_sem, EF u 62 (by decide), v4, hc]
          case c6 =>
            intro d a W hd hp hI K hK
            obtain ⟨u, q, rfl, h⟩ := hI
            have hq := h.quiet 6 (qb_of rfl) hd
            rw [X6] at hq
            have hk := hK _ _ ⟨_, _, put_in (t0 := t0) (D := bdD) (u := u) (df := []) (k := 64) (v := .pointer (some ⟨wt.heap.size, 7, none⟩)) (by decide), hq⟩
            refine step_run rfl (v := .pointer (some ⟨wt.heap.size, 7, none⟩)) (w' := W) ?_ hk
            simp [execOp, go_sem, (EG u 12 (by decide)).trans e12]
          case c7 =>
            intro d a W hd hp hI K hK
            obtain ⟨u, q, rfl, h⟩ := hI
            have v6 := h.con 6 (qb_of rfl) (hp ⟨6, .data⟩ (by simp) rfl)
            rw [X6] at v6
            replace v6 : u 64 = .pointer (some ⟨wt.heap.size, 7, none⟩) := v6
            have hc := hr7 W (h.gr (h.no14 (i := 7) (by omega) hd))
            have hq := h.quiet 7 (qb_of rfl) hd
            rw [X7] at hq
            have hk := hK _ _ ⟨_, _, put_in (t0 := t0) (D := bdD) (u := u) (df := []) (k := 65) (v := .int .i64 (so : Int)) (by decide), hq⟩
            refine step_run rfl (v := .int .i64 (so : Int)) (w' := W) ?_ hk
            simp [execOp, go_sem, EF u 64 (by decide), v6, hc]
          case c8 =>
            intro d a W hd hp hI K hK
            obtain ⟨u, q, rfl, h⟩ := hI
            have v5 := h.con 5 (qb_of rfl) (hp ⟨5, .data⟩ (by simp) rfl)
            rw [X5] at v5
            replace v5 : u 63 = .slice (some ⟨O, 0, none⟩) nl nl := v5
            have v7 := h.con 7 (qb_of rfl) (hp ⟨7, .data⟩ (by simp) rfl)
            rw [X7] at v7
            replace v7 : u 65 = .int .i64 (so : Int) := v7
            have hq := h.quiet 8 (qb_of rfl) hd
            rw [X8] at hq
            have hk := hK _ _ ⟨_, _, put_in (t0 := t0) (D := bdD) (u := u) (df := []) (k := 66) (v := .pointer (some ⟨O, so, none⟩)) (by decide), hq⟩
            refine step_run rfl (v := .pointer (some ⟨O, so, none⟩)) (w' := W) ?_ hk
            simp [execOp, go_sem, EF u 63 (by decide), v5, EF u 65 (by decide), v7, hs0, hsn', hsn, Tryd.underlying48]
          case c9 =>
            intro d a W hd hp hI K hK
            obtain ⟨u, q, rfl, h⟩ := hI
            have v8 := h.con 8 (qb_of rfl) (hp ⟨8, .data⟩ (by simp) rfl)
            rw [X8] at v8
            replace v8 : u 66 = .pointer (some ⟨O, so, none⟩) := v8
            have hc := hrv W (h.gr (h.no14 (i := 9) (by omega) hd))
            have hq := h.quiet 9 (qb_of rfl) hd
            rw [X9] at hq
            have hk := hK _ _ ⟨_, _, put_in (t0 := t0) (D := bdD) (u := u) (df := []) (k := 67) (v := .slice A3 nL c3) (by decide), hq⟩
            refine step_run rfl (v := .slice A3 nL c3) (w' := W) ?_ hk
            simp [execOp, go_sem, EF u 66 (by decide), v8, hc]
          case c10 =>
            intro d a W hd hp hI K hK
            obtain ⟨u, q, rfl, h⟩ := hI
            have hq := h.quiet 10 (qb_of rfl) hd
            rw [X10] at hq
            have hk := hK _ _ ⟨_, _, put_in (t0 := t0) (D := bdD) (u := u) (df := []) (k := 68) (v := .int .i64 (j : Int)) (by decide), hq⟩
            refine step_run rfl (v := .int .i64 (j : Int)) (w' := W) ?_ hk
            simp [execOp, go_sem, (EG u 11 (by decide)).trans e11]
          case c11 =>
            intro d a W hd hp hI K hK
            obtain ⟨u, q, rfl, h⟩ := hI
            have v10 := h.con 10 (qb_of rfl) (hp ⟨10, .data⟩ (by simp) rfl)
            rw [X10] at v10
            replace v10 : u 68 = .int .i64 (j : Int) := v10
            refine step_run rfl (v := .slice (some ⟨W.heap.size, 0, none⟩) 1 1) (w' := W.alloc (.cells #[.int .i64 (j : Int)] 3)) ?_ (hK _ _ ⟨_, _, put_in (by decide), h.s11 hd⟩)
            simp [execOp, go_sem, EF u 68 (by decide), v10]
          case c12 =>
            intro d a W hd hp hI K hK
            obtain ⟨u, q, rfl, h⟩ := hI
            have v9 := h.con 9 (qb_of rfl) (hp ⟨9, .data⟩ (by simp) rfl)
            rw [X9] at v9
            replace v9 : u 67 = .slice A3 nL c3 := v9
            have p11 : d 11 = true := hp ⟨11, .data⟩ (by simp) rfl
            obtain ⟨a69, b69⟩ := h.f11 p11 hd
            refine step_app rfl (.tmp 67) (.tmp 69) 25 rfl O 3 i2 (.int .i64 0) 1 8 Tryd.underlying25 ji jz0 jz1 jz2 rfl (by decide) (.slice A3 nL c3) nL (vals (idxI (ovK s x j so))) ((EI u 67 (by decide)).trans v9) (own_keep' HOWN3.out (h.o0 hd).2) ⟨q, 0, none⟩ 1 1 [.int .i64 (j : Int)] ((EI u 69 (by decide)).trans a69) rfl (news_oneB b69) (one_int (j : Int)) (by simp only [maxLen]; omega) (by omega) (Nat.le_of_lt (h.o0 hd).1.lt) ?_
            intro v' w' own hg' hat'
            obtain ⟨A5, c5, rfl⟩ := own_sl own
            refine hK _ _ ⟨_, _, put_in (by decide), h.s12 hd p11 hsol hcv hOz ?_ hg' hat' HVO.out⟩
            rw [List.length_append, ← HNLE.out]
            have e : vals (idxI (ovK s x j so ++ [j])) = vals (idxI (ovK s x j so)) ++ [.int .i64 (j : Int)] := by simp [vals, idxI]
            rw [e]
            exact own
          case c13 =>
            intro d a W hd hp hI K hK
            obtain ⟨u, q, rfl, h⟩ := hI
            have v1 := h.con 1 (qb_of rfl) (hp ⟨1, .data⟩ (by simp) rfl)
            rw [X1] at v1
            replace v1 : u 59 = .slice (some ⟨O, 0, none⟩) nl nl := v1
            have v3 := h.con 3 (qb_of rfl) (hp ⟨3, .data⟩ (by simp) rfl)
            rw [X3] at v3
            replace v3 : u 61 = .int .i64 (so : Int) := v3
            have hq := h.quiet 13 (qb_of rfl) hd
            rw [X13] at hq
            have hk := hK _ _ ⟨_, _, put_in (t0 := t0) (D := bdD) (u := u) (df := []) (k := 71) (v := .pointer (some ⟨O, so, none⟩)) (by decide), hq⟩
            refine step_run rfl (v := .pointer (some ⟨O, so, none⟩)) (w' := W) ?_ hk
            simp [execOp, go_sem, EF u 59 (by decide), v1, EF u 61 (by decide), v3, hs0, hsn', hsn, Tryd.underlying48]
          case c14 =>
            intro d a W hd hp hI K hK
            obtain ⟨u, q, rfl, h⟩ := hI
            have hall : ∀ k, k < 14 → d k = true := fun k hk => by
              have : k = 0 ∨ k = 1 ∨ k = 2 ∨ k = 3 ∨ k = 4 ∨ k = 5 ∨ k = 6 ∨ k = 7 ∨ k = 8 ∨ k = 9 ∨ k = 10 ∨ k = 11 ∨ k = 12 ∨ k = 13 := by omega
              rcases this with rfl | rfl | rfl | rfl | rfl | rfl | rfl | rfl | rfl | rfl | rfl | rfl | rfl | rfl
              · exact hp ⟨0, .phase⟩ (by simp) rfl
              · exact hp ⟨1, .phase⟩ (by simp) rfl
              · exact hp ⟨2, .phase⟩ (by simp) rfl
              · exact hp ⟨3, .phase⟩ (by simp) rfl
              · exact hp ⟨4, .phase⟩ (by simp) rfl
              · exact hp ⟨5, .phase⟩ (by simp) rfl
              · exact hp ⟨6, .phase⟩ (by simp) rfl
              · exact hp ⟨7, .phase⟩ (by simp) rfl
              · exact hp ⟨8, .phase⟩ (by simp) rfl
              · exact hp ⟨9, .phase⟩ (by simp) rfl
              · exact hp ⟨10, .phase⟩ (by simp) rfl
              · exact hp ⟨11, .phase⟩ (by simp) rfl
              · exact hp ⟨12, .data⟩ (by simp) rfl
              · exact hp ⟨13, .data⟩ (by simp) rfl
            have v13 := h.con 13 (qb_of rfl) (hall 13 (by omega))
            rw [X13] at v13
            replace v13 : u 71 = .pointer (some ⟨O, so, none⟩) := v13
            obtain ⟨⟨A5, c5, a70⟩, hco, hfo, -⟩ := h.f12 (hall 12 (by omega)) hd
            refine step_skip rfl (w' := W.setCell ⟨O, so, none⟩ (u 70)) ?_ (hK _ _ ⟨u, _, rfl, h.s14 hd hall hvlo hOz⟩)
            simp [execOp, go_sem, EF u 71 (by decide), EF u 70 (by decide), v13, a70, hco, hfo]
        · have e : j = rn := by omega
          subst e
          have hovE : OvT wt O O nl (ovT s x) := hov.out.congr fun l _ => by rw [HRN.out]; exact ovK_all s x l
          obtain ⟨k0, k1⟩ := cells2 hboxt
          have hrest := (hb4.block w.heap.size (by omega)).trans hres4.out
          obtain ⟨y0, y1⟩ := cells2 hrest
          have yf := frozen_b hrest
          have HOVE := Lib.hid hovE
          have HBT := Lib.hid (HB04.out.trans (hb4.mono (by omega)))
          have HREST := Lib.hid hrest
          clear hov hovE hboxt hrest
          go_wp2_with fail
          obtain ⟨x0, x1⟩ := cells2 (sets2 (a := .slice A2 j c2) (b := .slice (some ⟨O, 0, none⟩) nl nl) HREST.out)
          refine bodyPost_ret (v := .agg #[.slice A2 j c2, .slice (some ⟨O, 0, none⟩) nl nl]) (by simp [results, Tryd.results20, go_sem, x0, x1]) rfl ?_
          have G6 : wt.grownBy ((wt.setCell ⟨w.heap.size, 0, none⟩ (.slice A2 j c2)).setCell ⟨w.heap.size, 1, none⟩ (.slice (some ⟨O, 0, none⟩) nl nl)) (some w.heap.size) := (grown_one wt w.heap.size 0 _).trans (grown_one _ w.heap.size 1 _)
          have hO6 := HOVE.out.other G6 (by omega)
          refine ⟨A2, c2, O, nl, by rw [← HNL.out, ← HRN.out], ⟨?_, hO6.lt, fun l hl => ?_⟩, ⟨fun b e => ?_, ?_, fun l hl A k c hc b e => ?_⟩, ?_⟩
          · rw [← HRL.out]
            intro hne
            obtain ⟨r0, hr0⟩ : ∃ r, RL[0]? = some r := ⟨_, List.getElem?_eq_getElem (List.length_pos_iff.2 hne)⟩
            obtain ⟨g2, hA2, hg2, hg2b, -⟩ := hrings.out 0 r0 hr0
            refine ⟨g2, hA2, Nat.lt_trans hg2 hO6.lt, fun i r hr => ?_⟩
            obtain ⟨g3, hA3, hg3, hg3b, hrg⟩ := hrings.out i r hr
            rw [hA2] at hA3
            cases hA3
            exact keep_range (rangeAt_keep hrg hb4 hg2) (G6.block g2 (by omega) (by intro e; injection e with e; omega))
          · obtain ⟨A, c, h1, h2⟩ := hO6.ints l (by rw [HNL.out]; exact hl)
            exact ⟨A, c, h1, h2⟩
          · have := HBA2.out b e; omega
          · omega
          · have := hO6.low l (by rw [HNL.out]; exact hl) hc b e; omega
          · exact HBT.out.grown G6 (by have := HBT.out.size; omega) fun g e => by cases e; exact Nat.le_refl _
end Go.Proofs.YteaoaglgoeichaaDoor

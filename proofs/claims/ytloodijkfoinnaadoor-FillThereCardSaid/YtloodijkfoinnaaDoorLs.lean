/-
  groutworklaw02: lists.
-/
import Derived.Test.YtloodijkfoinnaaDoorFi
import Derived.Test.YtloodijkfoinnaaDoorSo
import Derived.Test.YtloodijkfoinnaaDoorFg
import Derived.Test.YtloodijkfoinnaaDoorFp
import Derived.Test.YtloodijkfoinnaaDoorFk
import Derived.Deep.Cut
import Derived.Deep.CutRange
import Derived.Deep.RegionHeld3
import Derived.Deep.DrawnRows
namespace Go.Proofs.YtloodijkfoinnaaDoor
open Go.RowKit Go.Maps Go.BigFrame Go.Sort
set_option linter.unusedVariables false
set_option linter.unusedSimpArgs false
set_option maxRecDepth 100000

/-- a list's slice: its place, its capacity -/
def lz (z : Nat × Nat × List Int) : Value := .slice (some ⟨z.1, 0, none⟩) z.2.2.length z.2.1
/-- each list lies in a block of its own, from base on, which is not g -/
def LOk (w : World) (base : Nat) (g : Option Nat) (Z : List (Nat × Nat × List Int)) : Prop := ∀ z ∈ Z, base ≤ z.1 ∧ z.1 < w.heap.size ∧ some z.1 ≠ g ∧ w.rangeAt z.1 0 (vals z.2.2)
theorem LOk.grown {w w' : World} {base : Nat} {g g' : Option Nat} {Z : List (Nat × Nat × List Int)} (h : LOk w base g Z) (hg : w.grownBy w' g) (hne : g' = g ∨ ∃ b, g' = some b ∧ w.heap.size ≤ b) : LOk w' base g' Z := fun z hz => by
  obtain ⟨h1, h2, h3, h4⟩ := h z hz
  refine ⟨h1, Nat.lt_of_lt_of_le h2 hg.size, ?_, fun j v hv => ?_⟩
  · rcases hne with e | ⟨b, e, hb⟩
    · rw [e]; exact h3
    · rw [e]
      intro e'
      have : z.1 = b := by simpa using e'
      omega
  · exact (World.cell?_of_block (hg.block z.1 h2 h3)).trans (h4 j v hv)
theorem LOk.nil (w : World) (base : Nat) (g : Option Nat) : LOk w base g [] := fun z hz => by cases hz
def IsLists (cs : List Int) (n : Nat) (W : World) (e : Ending) (w' : World) : Prop :=
  ∃ v Z, e = .returned v ∧ Z.map (·.2.2) = lsts cs n ∧ w'.ownsRow W.heap.size 23 1 v Z.length (Z.map lz) ∧ LOk w' W.heap.size v.ownBlock Z ∧ Below W.heap.size W w'
/-- the lists that go on from the first q of some lists -/
def lpart (cs : List Int) (L : List (List Int)) (q : Nat) : List (List Int) := (L.take q).flatMap fun l => cs.map fun v => l ++ [v]
/-- and from list l with the first j colours -/
def lpart2 (cs : List Int) (L : List (List Int)) (q : Nat) (l : List Int) (j : Nat) : List (List Int) := lpart cs L q ++ (cs.take j).map fun v => l ++ [v]
theorem lpart2_zero (cs : List Int) (L : List (List Int)) (q : Nat) (l : List Int) : lpart2 cs L q l 0 = lpart cs L q := by simp [lpart2]
theorem lpart2_succ (cs : List Int) (L : List (List Int)) (q : Nat) (l : List Int) (j : Nat) (hj : j < cs.length) : lpart2 cs L q l (j + 1) = lpart2 cs L q l j ++ [l ++ [cs.getD j 0]] := by
  unfold lpart2
  rw [List.take_succ_eq_append_getElem hj, List.map_append, ← List.append_assoc, getD_of_lt cs j 0 hj]
  rfl
theorem lpart2_end (cs : List Int) (L : List (List Int)) (q : Nat) (l : List Int) (hq : L[q]? = some l) : lpart2 cs L q l cs.length = lpart cs L (q + 1) := by
  obtain ⟨hl, e⟩ := List.getElem?_eq_some_iff.1 hq
  unfold lpart2 lpart
  rw [List.take_succ_eq_append_getElem hl, List.flatMap_append, List.take_length, e]
  simp
theorem lpart_all (cs : List Int) (L : List (List Int)) (n : Nat) (hL : L = lsts cs n) : lpart cs L L.length = lsts cs (n + 1) := by
  unfold lpart
  rw [List.take_length, hL]
  rfl
theorem lists_info : (Tryd.prog.info? 23).map (fun i => (i.zero, i.size, i.bytes)) = some (some (.slice none 0 0), 1, 24) := by kernel_rfl
theorem flatMap_len (cs : List Int) (f : List Int → Int → List Int) : ∀ L : List (List Int), (L.flatMap fun l => cs.map (f l)).length = L.length * cs.length
  | [] => by simp
  | l :: L => by rw [List.flatMap_cons, List.length_append, List.length_map, flatMap_len cs f L, List.length_cons, Nat.add_mul]; omega
theorem lsts_len (cs : List Int) : ∀ n, (lsts cs n).length = cs.length ^ n
  | 0 => by simp [lsts]
  | n + 1 => by
    simp only [lsts]
    rw [flatMap_len cs (fun l v => l ++ [v]), lsts_len cs n, Nat.pow_succ]
theorem lpart2_le (cs : List Int) (L : List (List Int)) (k q : Nat) (l : List Int) (j : Nat) (hL : L = lsts cs k) (hq : L[q]? = some l) (hj : j ≤ cs.length) : (lpart2 cs L q l j).length ≤ (lsts cs (k + 1)).length := by
  have hql := (List.getElem?_eq_some_iff.1 hq).1
  unfold lpart2 lpart
  rw [List.length_append, flatMap_len cs (fun l v => l ++ [v]), List.length_map, List.length_take, List.length_take, Nat.min_eq_left (by omega), Nat.min_eq_left hj, lsts_len, Nat.pow_succ, ← lsts_len, ← hL]
  have : (q + 1) * cs.length ≤ L.length * cs.length := Nat.mul_le_mul_right _ hql
  rw [Nat.add_mul] at this
  omega
theorem own_one_list (w : World) (q : Nat) (v : Value) (t : TypeId) (base : Nat) (hb : base ≤ q) (h : w.heap[q]? = some (.cells #[v] t (0, 0))) : w.ownsRow base t 1 (.slice (some ⟨q, 0, none⟩) 1 1) 1 [v] :=
  ⟨rfl, Or.inr ⟨q, 1, #[v], rfl, hb, h, Nat.le_refl _, by simp [maxLen], rfl, rfl⟩⟩
theorem one_slice (A : Option Addr) (n c : Nat) : ∀ z ∈ [Value.slice A n c], z.oneCell' = true := fun z hz => by rw [List.mem_singleton] at hz; rw [hz]; rfl
theorem own_shape {w : World} {base n : Nat} {e : TypeId} {v : Value} {xs : List Value} (h : w.ownsRow base e 1 v n xs) : ∃ A c, v = .slice A n c ∧ ∀ j, j < n → ∃ g, A = some ⟨g, 0, none⟩ ∧ base ≤ g ∧ g < w.heap.size ∧ w.cell? ⟨g, j, none⟩ = xs[j]? := by
  rcases h.2 with ⟨rfl, h0⟩ | ⟨g, cap, cur, rfl, hb, hh, hnc, hm, hs, hx⟩
  · exact ⟨none, 0, by rw [h0], fun j hj => by omega⟩
  · exact ⟨_, _, rfl, fun j hj => ⟨g, rfl, hb, (Array.getElem?_eq_some_iff.1 hh).1, h.cellAt j (by omega)⟩⟩
theorem lok_more {wi w6 w9 : World} {base g6 c6 yn : Nat} {e : TypeId} {v7 v9 : Value} {Y : List (Nat × Nat × List Int)} {o : Obj} {l : List Int} {u : Int} {xs : List Value}
    (hO : wi.ownsRow base e 1 v7 yn xs) (h : LOk wi base v7.ownBlock Y) (hb : Below wi.heap.size wi w6) (hg0 : base ≤ g6) (hg1 : wi.heap.size ≤ g6) (hg2 : g6 < w6.heap.size)
    (hr : ∀ j v, (vals l ++ [Value.int .i64 u])[j]? = some v → w6.cell? ⟨g6, 0 + j, none⟩ = some v) (hg9 : (w6.alloc o).grownBy w9 v7.ownBlock) (hat : v9.ownBlock = v7.ownBlock ∨ v9.ownBlock = some (w6.alloc o).heap.size) : LOk w9 base v9.ownBlock (Y ++ [(g6, c6, l ++ [u])]) := by
  have hs6 := hb.size
  have hgr : wi.grownBy w9 v7.ownBlock := (⟨hb.os, hb.tape, hb.output, hb.size, fun k hk _ => hb.block k hk⟩ : wi.grownBy w6 v7.ownBlock).trans ((World.grownBy_alloc w6 o _).trans hg9)
  have hn7 : some g6 ≠ v7.ownBlock := fun e' => by have := (hO.lt _ e'.symm).2; omega
  intro z hz
  rcases List.mem_append.1 hz with h1 | h1
  · exact h.grown hgr (hat.imp id fun e' => ⟨_, e', by simp; omega⟩) z h1
  · rw [List.mem_singleton] at h1
    subst h1
    have hs9 := hg9.size
    simp at hs9
    refine ⟨hg0, Nat.lt_of_lt_of_le hg2 (by omega), ?_, fun j v hv => ?_⟩
    · rcases hat with e' | e'
      · rw [e']; exact hn7
      · rw [e']
        intro e2
        have : g6 = (w6.alloc o).heap.size := by simpa using e2
        simp at this
        omega
    · refine (World.cell?_of_block (a := ⟨g6, 0 + j, none⟩) (hg9.block g6 (by simp; omega) hn7)).trans ?_
      refine (World.cell?_of_block (a := ⟨g6, 0 + j, none⟩) (show (w6.alloc o).heap[g6]? = w6.heap[g6]? from ?_)).trans (hr j v ?_)
      · show (w6.heap.push o)[g6]? = _
        rw [Array.getElem?_push, if_neg (by omega)]
      · rw [← hv]; simp [vals]
set_option maxHeartbeats 8000000 in
theorem lists_any (cs : List Int) (C : Option Addr) (m d n : Nat) (w : World) (hm : m = cs.length) (hC : IntsIn w w.heap.size C cs) (hml : m ≤ 1000000) (hn : n ≤ 1000) (hN : ∀ i, i ≤ n → (lsts cs i).length ≤ 1000000) :
    Calls Tryd.prog 24 #[.slice C m d, .int .i64 n] w (IsLists cs n w) := by
  obtain ⟨i0, hi, hz0, hz1, hz2⟩ := info_parts lists_info
  obtain ⟨i1, gi, gz0, gz1, gz2⟩ := info_parts int_info
  have HM := Lib.hid hm
  have HN := Lib.hid hN
  have HC := Lib.hid hC
  clear hm hN hC
  go_enter Tryd.func24, Tryd.ntmps24
  go_wp2_with fail
  go_loopw [5, 6] (fun v i wr => ∃ (k : Nat) (Z : List (Nat × Nat × List Int)), k ≤ n ∧ i = .int .i64 k ∧ Hid (Z.map (·.2.2) = lsts cs k) ∧ Hid (wr.ownsRow w.heap.size 23 1 v Z.length (Z.map lz)) ∧ Hid (LOk wr w.heap.size v.ownBlock Z) ∧ Hid (Below w.heap.size w wr)) (fun _ i _ => n - (intOf i).toNat)
  case atStart =>
    refine ⟨0, [(w.heap.size, 0, [])], Nat.zero_le _, rfl, rfl, own_one_list _ (w.heap.size + 1) _ _ _ (by omega) (heap_at _ _ _ (by simp)), ?_, below_two w _ _⟩
    intro z hz
    rw [List.mem_singleton] at hz
    subst hz
    exact ⟨Nat.le_refl _, by simp; omega, by simp [Value.ownBlock], fun j v hv => by simp [vals] at hv⟩
  case round =>
    obtain ⟨k, Z, hk, rfl, hZ, hown, hlok, hbw⟩ := hrel
    obtain ⟨wl, rfl⟩ : ∃ wl : World, wl = wr := ⟨_, rfl⟩
    obtain ⟨A, c, rfl, hat⟩ := own_shape hown.out
    obtain ⟨zn, hzn⟩ : ∃ zn, zn = Z.length := ⟨_, rfl⟩
    have hzl : zn ≤ 1000000 := by
      have h1 := congrArg List.length hZ.out
      rw [List.length_map, ← hzn] at h1
      rw [h1]
      exact HN.out k hk
    obtain ⟨L, hL⟩ : ∃ L, L = Z.map (·.2.2) := ⟨_, rfl⟩
    have HL : Hid (L = Z.map (·.2.2)) := hL
    have HLs : Hid (L = lsts cs k) := by show _ = _; rw [hL]; exact hZ.out
    have HAT := Lib.hid hat
    have HZN := Lib.hid hzn
    rw [← hzn] at hown HAT hlok
    rw [← hzn]
    clear hat hL hzn hZ
    by_cases hlt : k < n
    · have HCN : Hid ((lsts cs (k + 1)).length ≤ 1000000) := HN.out (k + 1) hlt
      go_wp2_with fail
      go_loopw [7, 8] (fun v i wr => ∃ (q : Nat) (Y : List (Nat × Nat × List Int)), q ≤ zn ∧ i = .int .i64 q ∧ Hid (Y.map (·.2.2) = lpart cs L q) ∧ Hid (wr.ownsRow wl.heap.size 23 1 v Y.length (Y.map lz)) ∧ Hid (LOk wr wl.heap.size v.ownBlock Y) ∧ Hid (Below wl.heap.size wl wr)) (fun _ i _ => zn - (intOf i).toNat)
      case atStart => exact ⟨0, [], Nat.zero_le _, rfl, by simp [Hid, lpart], World.ownsRow_nil _ _ _ _, LOk.nil _ _ _, Below.refl _ _⟩
      case round =>
        obtain ⟨q, Y, hq, rfl, hY, hownY, hlokY, hbl⟩ := hrel
        obtain ⟨wq, rfl⟩ : ∃ wq : World, wq = wr := ⟨_, rfl⟩
        by_cases hqz : q < zn
        · have hqZ : q < Z.length := by rw [← HZN.out]; exact hqz
          obtain ⟨g, rfl, hgb, hgl, hcell⟩ := HAT.out q hqz
          obtain ⟨⟨lb, lc, l⟩, hzq⟩ : ∃ z, Z[q]? = some z := ⟨_, List.getElem?_eq_getElem hqZ⟩
          have hzm : (lb, lc, l) ∈ Z := List.mem_of_getElem? hzq
          obtain ⟨hl1, hl2, hl3, hl4⟩ := hlok.out _ hzm
          rw [List.getElem?_map, hzq] at hcell
          obtain ⟨ln, hln⟩ : ∃ ln, ln = l.length := ⟨_, rfl⟩
          have hcell' : wl.cell? ⟨g, q, none⟩ = some (.slice (some ⟨lb, 0, none⟩) ln lc) := by rw [hcell, hln]; rfl
          have hLq : Hid (L[q]? = some l) := by show _ = _; rw [HL.out, List.getElem?_map, hzq]; rfl
          have hlk : Hid (ln = k) := by
            show _ = _
            have h1 : l ∈ L := List.mem_of_getElem? hLq.out
            rw [HLs.out] at h1
            rw [hln]
            exact ((mem_lsts cs k l).1 h1).1
          have hln9 : ln ≤ 1000 := by rw [hlk.out]; omega
          have HLN : Hid ((vals l).length = ln * 1) := by show _ = _; rw [hln]; simp [vals]
          have HROW : Hid (∀ w', Below wl.heap.size wl w' → w'.rangeAt lb 0 (vals l)) := fun w' h => rangeAt_keep hl4 h hl2
          have hY2 : Hid (Y.map (·.2.2) = lpart2 cs L q l 0) := by show _ = _; rw [lpart2_zero]; exact hY.out
          have kout : ∀ w', Below wl.heap.size wl w' → w'.cell? ⟨g, q, none⟩ = some (.slice (some ⟨lb, 0, none⟩) ln lc) := fun w' h => (h.cell (p := ⟨g, q, none⟩) hgl).trans hcell'
          have HLNL := Lib.hid hln
          clear hcell hcell' hzq hzm hl1 hl2 hl3 hl4 hY hln hqZ
          go_wp2_with fail
          go_loopw [7, 9] (fun v i wr => ∃ (j : Nat) (Y : List (Nat × Nat × List Int)), j ≤ m ∧ i = .int .i64 j ∧ Hid (Y.map (·.2.2) = lpart2 cs L q l j) ∧ Hid (wr.ownsRow wl.heap.size 23 1 v Y.length (Y.map lz)) ∧ Hid (LOk wr wl.heap.size v.ownBlock Y) ∧ Hid (Below wl.heap.size wl wr)) (fun _ i _ => m - (intOf i).toNat)
          case atStart => exact ⟨0, Y, Nat.zero_le _, rfl, hY2, hownY, hlokY, hbl⟩
          case round =>
            clear hY2 hownY hlokY hbl Y wq
            obtain ⟨j, Y, hj, rfl, hY, hownY, hlokY, hbl⟩ := hrel
            obtain ⟨wi, rfl⟩ : ∃ wi : World, wi = wr := ⟨_, rfl⟩
            by_cases hjm : j < m
            · have hjc : j < cs.length := by rw [← HM.out]; exact hjm
              obtain ⟨cb, co, rfl, hcb, ccell⟩ := IntsIn.at HC.out hbw.out hjc
              obtain ⟨u, hu⟩ : ∃ u, u = cs.getD j 0 := ⟨_, rfl⟩
              rw [← hu] at ccell
              have hcl : cb < wl.heap.size := Nat.lt_of_lt_of_le hcb hbw.out.size
              have kcol : ∀ w', Below wl.heap.size wl w' → w'.cell? ⟨cb, co + j, none⟩ = some (.int .i64 u) := fun w' h => (h.cell (p := ⟨cb, co + j, none⟩) hcl).trans ccell
              have hYj : Hid (lpart2 cs L q l (j + 1) = Y.map (·.2.2) ++ [l ++ [u]]) := by show _ = _; rw [lpart2_succ cs L q l j hjc, hY.out, hu]
              obtain ⟨yn, hyn⟩ : ∃ yn, yn = Y.length := ⟨_, rfl⟩
              have hyl : yn ≤ 1000000 := by
                have h1 := congrArg List.length hY.out
                rw [List.length_map, ← hyn] at h1
                rw [h1]
                refine Nat.le_trans ?_ HCN.out
                exact lpart2_le cs L k q l j HLs.out hLq.out (Nat.le_of_lt hjc)
              have HYN := Lib.hid hyn
              have HS0 : Hid (Below wl.heap.size wl wi) := hbl
              have HBL : Hid (Below wl.heap.size wl wi) := hbl
              have HOY := hownY
              rw [← hyn] at HOY
              have hj0 : (0 : Int) ≤ (j : Int) := by omega
              have hjm' : (j : Int) < (m : Int) := by omega
              have hq0 : (0 : Int) ≤ (q : Int) := by omega
              have hqz' : (q : Int) < (zn : Int) := by omega
              have hls := hbl.out.size
              clear hjc hu ccell hY hyn hownY
              go_wp2_with fail
              go_region_held3 (fun w' => Below wl.heap.size wl w') (first | (with_reducible assumption) | (with_reducible exact HS0.out.drew) | (with_reducible exact HS0.out) | (with_reducible exact (be_alloc HS0.out _).drew) | (with_reducible exact (be_alloc (be_alloc HS0.out _) _).drew) | (with_reducible exact be_alloc (be_alloc HS0.out _).drew _) | ((with_reducible refine Below.drew ?_); (with_reducible assumption)) | ((with_reducible refine Below.drew ?_); (with_reducible refine be_alloc ?_ _); (with_reducible assumption)) | (with_reducible exact be_alloc (be_alloc HS0.out.drew _) _) | (with_reducible exact be_alloc HS0.out.drew _) | ((with_reducible refine be_alloc ?_ _); (with_reducible assumption)))
                  (first
              | ((with_reducible refine step_append_own2 rfl (.tmp 30) (.tmp 34) 23 rfl wi.heap.size 3 i1 (.int .i64 0) 1 8 Tryd.underlying23 gi gz0 gz1 gz2 rfl (by decide) (.slice (some ⟨wi.heap.size, 0, none⟩) 0 0) 0 [] ?_ ?_ ⟨lb, 0, none⟩ ln lc (vals l) ?_ HLN.out ?_ (vals_one _) ?_ ?_ ?_ ?_); (focus (simp [Act.eval, Act.put]; done));
                  (focus (refine own_empty_at _ _ _ _ ?_ ?_; (focus (first | (refine heap_at _ _ _ ?_; simp; done) | (refine heap_kp (heap_at _ _ _ ?_) _; simp; done))); (focus (first | exact Nat.le_refl _ | (simp; done) | omega | (simp; omega))))); (focus (simp [Act.eval, Act.put]; done));
                  (focus (intro jj uu hu; rw [Addr.add_mid]; refine HROW.out _ ?_ jj uu hu; with_reducible assumption));
                  (focus (simp only [maxLen]; omega)); (focus omega); (focus (refine Below.size (B := wi.heap.size) ?_; (first | exact be_alloc (be_alloc (Below.refl _ _).drew _) _ | exact be_alloc (Below.refl _ _).drew _)));
                  intro v3 w3 own3 hg3 hat3;
                  simp only [Nat.zero_add, List.nil_append] at own3;
                  have hb3 : Below wi.heap.size wi w3 := (by refine Below.grown (row := some (wi.heap.size)) ?_ hg3 ?_ ?_; (focus (first | exact be_alloc (be_alloc (Below.refl _ _).drew _) _ | exact be_alloc (Below.refl _ _).drew _)); (focus (refine Below.size (B := wi.heap.size) ?_; (first | exact be_alloc (be_alloc (Below.refl _ _).drew _) _ | exact be_alloc (Below.refl _ _).drew _))); (focus (intro kk hk; simp at hk; omega)));
                  (first | (refine have_then (P := w3.heap[wi.heap.size + 1]? = some (.cells #[.int .i64 u] 3 (0, 0))) ?_ ?_; (focus (refine keepZ hg3 ?_ ?_; (focus (first | (refine heap_at _ _ _ ?_; simp; done) | (refine heap_kp (heap_at _ _ _ ?_) _; simp; done))); (focus (first | (simp [Value.ownBlock]; done) | (simp [Value.ownBlock]; omega))))); intro z5) | (have z5 : True := trivial));
                  have ne3 := own_ne hat3 (show (Value.slice (some ⟨wi.heap.size, 0, none⟩) 0 0).ownBlock = some (wi.heap.size) from rfl);
                  have lt3 := own3.lt;
                  have hs3 := hb3.size;
                  have hs3l : Below wl.heap.size wl w3 := HBL.out.trans (hb3.mono HBL.out.size);
                  clear hg3 hat3;
                  have OWN3 := Lib.hid own3; have NE3 := Lib.hid ne3; have LT3 := Lib.hid lt3; have Z5 := Lib.hid z5; have HB3 := Lib.hid hb3; clear own3 ne3 lt3 z5 hb3)
              | ((with_reducible refine step_append_own2 rfl (.tmp 30) (.tmp 34) 23 rfl wi.heap.size 3 i1 (.int .i64 0) 1 8 Tryd.underlying23 gi gz0 gz1 gz2 rfl (by decide) (.slice (some ⟨wi.heap.size + 1, 0, none⟩) 0 0) 0 [] ?_ ?_ ⟨lb, 0, none⟩ ln lc (vals l) ?_ HLN.out ?_ (vals_one _) ?_ ?_ ?_ ?_); (focus (simp [Act.eval, Act.put]; done));
                  (focus (refine own_empty_at _ _ _ _ ?_ ?_; (focus (first | (refine heap_at _ _ _ ?_; simp; done) | (refine heap_kp (heap_at _ _ _ ?_) _; simp; done))); (focus (first | exact Nat.le_refl _ | (simp; done) | omega | (simp; omega))))); (focus (simp [Act.eval, Act.put]; done));
                  (focus (intro jj uu hu; rw [Addr.add_mid]; refine HROW.out _ ?_ jj uu hu; with_reducible assumption));
                  (focus (simp only [maxLen]; omega)); (focus omega); (focus (refine Below.size (B := wi.heap.size) ?_; (first | exact be_alloc (be_alloc (Below.refl _ _).drew _) _ | exact be_alloc (Below.refl _ _).drew _)));
                  intro v3 w3 own3 hg3 hat3;
                  simp only [Nat.zero_add, List.nil_append] at own3;
                  have hb3 : Below wi.heap.size wi w3 := (by refine Below.grown (row := some (wi.heap.size + 1)) ?_ hg3 ?_ ?_; (focus (first | exact be_alloc (be_alloc (Below.refl _ _).drew _) _ | exact be_alloc (Below.refl _ _).drew _)); (focus (refine Below.size (B := wi.heap.size) ?_; (first | exact be_alloc (be_alloc (Below.refl _ _).drew _) _ | exact be_alloc (Below.refl _ _).drew _))); (focus (intro kk hk; simp at hk; omega)));
                  (first | (refine have_then (P := w3.heap[wi.heap.size]? = some (.cells #[.int .i64 u] 3 (0, 0))) ?_ ?_; (focus (refine keepZ hg3 ?_ ?_; (focus (first | (refine heap_at _ _ _ ?_; simp; done) | (refine heap_kp (heap_at _ _ _ ?_) _; simp; done))); (focus (first | (simp [Value.ownBlock]; done) | (simp [Value.ownBlock]; omega))))); intro z5) | (have z5 : True := trivial));
                  have ne3 := own_ne hat3 (show (Value.slice (some ⟨wi.heap.size + 1, 0, none⟩) 0 0).ownBlock = some (wi.heap.size + 1) from rfl);
                  have lt3 := own3.lt;
                  have hs3 := hb3.size;
                  have hs3l : Below wl.heap.size wl w3 := HBL.out.trans (hb3.mono HBL.out.size);
                  clear hg3 hat3;
                  have OWN3 := Lib.hid own3; have NE3 := Lib.hid ne3; have LT3 := Lib.hid lt3; have Z5 := Lib.hid z5; have HB3 := Lib.hid hb3; clear own3 ne3 lt3 z5 hb3)
              | ((with_reducible refine step_append_own2 rfl (.tmp 35) (.tmp 40) 23 rfl wi.heap.size 3 i1 (.int .i64 0) 1 8 Tryd.underlying23 gi gz0 gz1 gz2 rfl (by decide) v3 ln (vals l) ?_ ?_ ⟨wi.heap.size, 0, none⟩ 1 1 [.int .i64 u] ?_ rfl ?_ (one_int u) ?_ ?_ ?_ ?_); (focus (simp [Act.eval, Act.put]; done));
                  (focus (first | exact OWN3.out | exact OWN3.out.alloc _)); (focus (simp [Act.eval, Act.put]; done));
                  (focus (refine news_one (e := 3) ?_; first | exact Z5.out | exact heap_keep Z5.out _ | (first | (refine heap_at _ _ _ ?_; simp; done) | (refine heap_kp (heap_at _ _ _ ?_) _; simp; done))));
                  (focus (simp only [maxLen]; omega)); (focus omega); (focus (refine Below.size (B := wi.heap.size) ?_; (first | exact HB3.out | exact be_alloc HB3.out _)));
                  intro v6 w6 own6 hg6 hat6;
                  have hb6 : Below wi.heap.size wi w6 := (by refine Below.grown ?_ hg6 ?_ ?_; (focus (first | exact HB3.out | exact be_alloc HB3.out _)); (focus (refine Below.size (B := wi.heap.size) ?_; (first | exact HB3.out | exact be_alloc HB3.out _))); (focus (intro kk hk; exact (LT3.out kk hk).1)));
                  have hs6l : Below wl.heap.size wl w6 := HBL.out.trans (hb6.mono HBL.out.size);
                  have hs6 := hb6.size;
                  obtain ⟨g6, c6, rfl, hgl6, hgh6, hrg6⟩ := own_row own6 (Nat.succ_pos _);
                  have RG6 := Lib.hid hrg6; have HB6 := Lib.hid hb6;
                  clear own6 hg6 hat6 hrg6 hb6 OWN3 NE3 LT3 Z5 HB3)
              | ((with_reducible refine step_append_own2 rfl (.tmp 35) (.tmp 40) 23 rfl wi.heap.size 3 i1 (.int .i64 0) 1 8 Tryd.underlying23 gi gz0 gz1 gz2 rfl (by decide) v3 ln (vals l) ?_ ?_ ⟨wi.heap.size + 1, 0, none⟩ 1 1 [.int .i64 u] ?_ rfl ?_ (one_int u) ?_ ?_ ?_ ?_); (focus (simp [Act.eval, Act.put]; done));
                  (focus (first | exact OWN3.out | exact OWN3.out.alloc _)); (focus (simp [Act.eval, Act.put]; done));
                  (focus (refine news_one (e := 3) ?_; first | exact Z5.out | exact heap_keep Z5.out _ | (first | (refine heap_at _ _ _ ?_; simp; done) | (refine heap_kp (heap_at _ _ _ ?_) _; simp; done))));
                  (focus (simp only [maxLen]; omega)); (focus omega); (focus (refine Below.size (B := wi.heap.size) ?_; (first | exact HB3.out | exact be_alloc HB3.out _)));
                  intro v6 w6 own6 hg6 hat6;
                  have hb6 : Below wi.heap.size wi w6 := (by refine Below.grown ?_ hg6 ?_ ?_; (focus (first | exact HB3.out | exact be_alloc HB3.out _)); (focus (refine Below.size (B := wi.heap.size) ?_; (first | exact HB3.out | exact be_alloc HB3.out _))); (focus (intro kk hk; exact (LT3.out kk hk).1)));
                  have hs6l : Below wl.heap.size wl w6 := HBL.out.trans (hb6.mono HBL.out.size);
                  have hs6 := hb6.size;
                  obtain ⟨g6, c6, rfl, hgl6, hgh6, hrg6⟩ := own_row own6 (Nat.succ_pos _);
                  have RG6 := Lib.hid hrg6; have HB6 := Lib.hid hb6;
                  clear own6 hg6 hat6 hrg6 hb6 OWN3 NE3 LT3 Z5 HB3)
              | ((with_reducible refine step_append_own2 rfl (.tmp 35) (.tmp 40) 23 rfl wi.heap.size 3 i1 (.int .i64 0) 1 8 Tryd.underlying23 gi gz0 gz1 gz2 rfl (by decide) v3 ln (vals l) ?_ ?_ ⟨w3.heap.size, 0, none⟩ 1 1 [.int .i64 u] ?_ rfl ?_ (one_int u) ?_ ?_ ?_ ?_); (focus (simp [Act.eval, Act.put]; done));
                  (focus (first | exact OWN3.out | exact OWN3.out.alloc _)); (focus (simp [Act.eval, Act.put]; done));
                  (focus (refine news_one (e := 3) ?_; first | exact Z5.out | exact heap_keep Z5.out _ | (first | (refine heap_at _ _ _ ?_; simp; done) | (refine heap_kp (heap_at _ _ _ ?_) _; simp; done))));
                  (focus (simp only [maxLen]; omega)); (focus omega); (focus (refine Below.size (B := wi.heap.size) ?_; (first | exact HB3.out | exact be_alloc HB3.out _)));
                  intro v6 w6 own6 hg6 hat6;
                  have hb6 : Below wi.heap.size wi w6 := (by refine Below.grown ?_ hg6 ?_ ?_; (focus (first | exact HB3.out | exact be_alloc HB3.out _)); (focus (refine Below.size (B := wi.heap.size) ?_; (first | exact HB3.out | exact be_alloc HB3.out _))); (focus (intro kk hk; exact (LT3.out kk hk).1)));
                  have hs6l : Below wl.heap.size wl w6 := HBL.out.trans (hb6.mono HBL.out.size);
                  have hs6 := hb6.size;
                  obtain ⟨g6, c6, rfl, hgl6, hgh6, hrg6⟩ := own_row own6 (Nat.succ_pos _);
                  have RG6 := Lib.hid hrg6; have HB6 := Lib.hid hb6;
                  clear own6 hg6 hat6 hrg6 hb6 OWN3 NE3 LT3 Z5 HB3)
              | ((with_reducible refine step_append_own2 rfl (.tmp 29) (.tmp 42) 49 rfl wl.heap.size 23 i0 (.slice none 0 0) 1 24 Tryd.underlying49 hi hz0 hz1 hz2 rfl (by decide) u7 yn (Y.map lz) ?_ ?_ ⟨w6.heap.size, 0, none⟩ 1 1 [.slice (some ⟨g6, 0, none⟩) (ln + 1) c6] ?_ rfl ?_ (one_slice _ _ _) ?_ ?_ ?_ ?_); (focus (simp [Act.eval, Act.put]; done));
                  (focus (exact (own_keep' HOY.out HB6.out).alloc _)); (focus (simp [Act.eval, Act.put]; done));
                  (focus (refine news_one (e := 23) ?_; (refine heap_at _ _ _ ?_; simp; done)));
                  (focus (simp only [maxLen]; omega)); (focus omega); (focus (simp; omega));
                  intro v9 w9 own9 hg9 hat9;
                  have hs9l : Below wl.heap.size wl w9 := (by refine Below.grown (be_alloc hs6l _) hg9 ?_ ?_; (focus (simp; omega)); (focus (intro kk hk; exact (HOY.out.lt kk hk).1)));
                  have OWN9 := Lib.hid own9; have HG9 := Lib.hid hg9; have HAT9 := Lib.hid hat9; clear own9 hg9 hat9)
              | fail)
              all_goals
                have hez : Hid (lz (g6, c6, l ++ [u]) = .slice (some ⟨g6, 0, none⟩) (ln + 1) c6) := by show _ = _; unfold lz; rw [List.length_append, ← HLNL.out]; rfl
                have hYn : Hid ((Y ++ [(g6, c6, l ++ [u])]).map (·.2.2) = lpart2 cs L q l (j + 1)) := by show _ = _; rw [hYj.out, List.map_append]; rfl
                have hON : Hid (w9.ownsRow wl.heap.size 23 1 v9 (Y ++ [(g6, c6, l ++ [u])]).length ((Y ++ [(g6, c6, l ++ [u])]).map lz)) := by
                  show World.ownsRow _ _ _ _ _ _ _
                  rw [List.length_append, List.map_append, ← HYN.out, List.map_cons, hez.out]
                  exact OWN9.out
                have hLN := Lib.hid (lok_more (u := u) (c6 := c6) HOY.out hlokY.out HB6.out (Nat.le_trans hls hgl6) hgl6 hgh6 RG6.out HG9.out HAT9.out)
                have hBN := Lib.hid hs9l
                clear RG6 HB6 OWN9 HG9 HAT9 hs9l hgl6 hgh6 hez
                go_wp2_with fail
                go_roundw
                case rel => exact ⟨j + 1, Y ++ [(g6, c6, l ++ [u])], by omega, by go_num, hYn, hON, hLN, hBN⟩
                case measure => simp [intOf]; omega
            · have hje : j = cs.length := by rw [← HM.out]; omega
              have hY3 : Hid (Y.map (·.2.2) = lpart cs L (q + 1)) := by
                show _ = _
                rw [hY.out, hje]
                exact lpart2_end cs L q l hLq.out
              clear hY hje
              go_wp2_with fail
              go_roundw
              case rel => exact ⟨q + 1, Y, by omega, by go_num, hY3, hownY, hlokY, hbl⟩
              case measure => simp [intOf]; omega
        · have hqe : q = L.length := by rw [HL.out, List.length_map, ← HZN.out]; omega
          have hY3 : Hid (Y.map (·.2.2) = lsts cs (k + 1)) := by
            show _ = _
            rw [hY.out, hqe]
            exact lpart_all cs L k HLs.out
          have hbw2 : Hid (Below w.heap.size w wq) := hbw.out.trans (hbl.out.mono hbw.out.size)
          clear hY hqe
          go_wp2_with fail
          go_roundw
          case rel => exact ⟨k + 1, Y, by omega, by go_num, hY3, own_mono hownY.out hbw.out.size, fun z hz => ⟨Nat.le_trans hbw.out.size (hlokY.out z hz).1, (hlokY.out z hz).2⟩, hbw2⟩
          case measure => simp [intOf]; omega
    · have hke : k = n := by omega
      subst hke
      have HLL : Hid (Z.map (·.2.2) = lsts cs k) := by show _ = _; rw [← HL.out]; exact HLs.out
      go_wp2_with fail
      go_ret
      refine ⟨.slice A zn c, Z, rfl, HLL.out, ?_, hlok.out, hbw.out⟩
      rw [← HZN.out]
      exact hown.out
end Go.Proofs.YtloodijkfoinnaaDoor

/-
  fill.First.
-/
import Derived.Test.YtgadfmknjpanpaaGreatDoorFy
import Derived.Test.YtgadfmknjpanpaaGreatDoorFh
import Derived.Maps.OwnSet
import Derived.Maps.AppendAt
namespace Go.Proofs.YtgadfmknjpanpaaGreatDoor
open Go.RowKit Go.Maps Go.BigFrame Go.Sort
set_option linter.unusedVariables false
set_option linter.unusedSimpArgs false
set_option maxRecDepth 100000

theorem find_same {β : Type} {p : β → Bool} {l : List β} {a b : β} (h : l.find? p = some a) (h' : l.find? p = some b) : a = b := Option.some.inj (h.symm.trans h')
theorem three_sets {w : World} {q : Nat} {z0 z1 z2 a b c : Value} {t : TypeId} (h : w.heap[q]? = some (.cells #[z0, z1, z2] t (0, 0))) :
    (((w.setCell ⟨q, 0, none⟩ a).setCell ⟨q, 1, none⟩ b).setCell ⟨q, 2, none⟩ c).heap[q]? = some (.cells #[a, b, c] t (0, 0)) := by
  have h1 := heap_setCell_same _ q 2 _ t c (heap_setCell_same _ q 1 _ t b (heap_setCell_same w q 0 _ t a h))
  rw [h1]
  rfl
theorem three_below {w0 w : World} {B q : Nat} {a b c : Value} (h : Below B w0 w) (hq : B ≤ q) : Below B w0 (((w.setCell ⟨q, 0, none⟩ a).setCell ⟨q, 1, none⟩ b).setCell ⟨q, 2, none⟩ c) := ((h.setCell hq _).setCell hq _).setCell hq _
theorem store_row {P : Program} {w : World} {q : Nat} {zs : Array Value} {t : TypeId} (V : Array Value) (hq : w.heap[q]? = some (.cells zs t (0, 0))) (hz : zs.size = V.size) (h1 : V.all (·.oneCell') = true) :
    ∃ W', (storeCells ⟨q, 0, none⟩ V.toList).run P w = .ok () W' ∧ w.grownBy W' (some q) ∧ W'.heap.size = w.heap.size ∧ W'.heap[q]? = some (.cells V t (0, 0)) := by
  have ht := there_block hq
  obtain ⟨g1, g2⟩ := setCells_grown q V.toList 0 w
  refine ⟨w.setCells q (0 + 0) V.toList, run_storeCells_cells q 0 V.toList 0 w (fun j hj => ?_) (fun j hj => ?_) (fun u hu => (Array.all_eq_true_iff_forall_mem.1 h1) u (by simpa using hu)), g1, g2, ?_⟩
  · have := (ht j (by rw [hz]; simpa using hj)).1
    simpa using this
  · have := (ht j (by rw [hz]; simpa using hj)).2
    simpa using this
  · have := setCells_block q t V.toList [] zs.toList w (by simpa using hq) (by simpa using hz) (Array.getElem?_eq_some_iff.1 hq).1
    simpa using this
theorem line_size : (Tryz.prog.info? 65).map (·.size) = some 8 := by kernel_rfl
theorem row_news {w : World} {q : Nat} {s : List Tl} {r : List Nat} {t : TypeId} (h : w.heap[q]? = some (.cells (rowA s r) t (0, 0))) (h8 : r.length ≤ 8) : ∀ j u, (vals (idxI r))[j]? = some u → w.cell? ((⟨q, 0, none⟩ : Addr).add j) = some u := by
  intro j u hu
  have hj : j < r.length := by
    have := (List.getElem?_eq_some_iff.1 hu).1
    simpa [vals, idxI] using this
  rw [Addr.add_mid, Nat.zero_add, cell_of_row _ _ _ _ _ _ h, (row_lines s r h8 j (by omega)).2.2, ← hu]
  unfold pad8 vals idxI
  rw [List.getD_eq_getElem?_getD, List.getElem?_append_left (by rw [List.length_map]; exact hj), List.getElem?_map, List.getElem?_eq_getElem hj, List.getElem?_map, List.getElem?_map, List.getElem?_eq_getElem hj]
  rfl
theorem row_north {w : World} {q : Nat} {s : List Tl} {r : List Nat} {t : TypeId} (h : w.heap[q]? = some (.cells (rowA s r) t (0, 0))) (h8 : r.length ≤ 8) : w.rangeAt q 8 (vals (north s r)) := fun j u hu => by
  have hj : j < (north s r).length := by
    have := (List.getElem?_eq_some_iff.1 hu).1
    simpa [vals] using this
  have hj8 : j < 8 := by rw [north_len s r h8] at hj; exact hj
  rw [cell_of_row _ _ _ _ _ _ h, (row_lines s r h8 j hj8).1, ← hu]
  unfold vals
  rw [List.getD_eq_getElem?_getD, List.getElem?_map, List.getElem?_eq_getElem hj]
  rfl
set_option maxHeartbeats 8000000 in
theorem first_any (s : List Tl) (d : Ed) (S : Option Addr) (m mc : Nat) (wd hg : Int) (N E U V : Option Addr) (nc ec uc vc : Nat) (w : World) (hm : m = s.length) (hS : SetIn w w.heap.size S s) (hwf : ∀ t ∈ s, twf t) (hml : m ≤ 9223372036854775807)
    (hn : d.n.length ≤ 9223372036854775807) (he : d.e.length ≤ 9223372036854775807) (hs : d.s.length ≤ 9223372036854775807) (hwl : d.w.length ≤ 9223372036854775807) (hE : EdIn w w.heap.size N E U V d) :
    Calls Tryz.prog 8 #[.slice S m mc, .int .i64 wd, .int .i64 hg, .agg #[.slice N d.n.length nc, .slice E d.e.length ec, .slice U d.s.length uc, .slice V d.w.length vc]] w (IsFirstRes s wd hg d w) := by
  have hbx : Below w.heap.size w ((w.alloc (.cells #[.slice N d.n.length nc, .slice E d.e.length ec, .slice U d.s.length uc, .slice V d.w.length vc] 35)).alloc (.cells #[.int .i64 0, .int .i64 0, .slice none 0 0] 31)) := below_two w _ _
  have hck := check_any s S m mc wd hg N E U V d.n.length d.e.length d.s.length d.w.length nc ec uc vc ((w.alloc (.cells #[.slice N d.n.length nc, .slice E d.e.length ec, .slice U d.s.length uc, .slice V d.w.length vc] 35)).alloc (.cells #[.int .i64 0, .int .i64 0, .slice none 0 0] 31)) hm (hS.keep hbx hbx.size) hwf hml hn he hs hwl
  by_cases hc0 : checkE s wd hg d.n.length d.e.length d.s.length d.w.length = 0
  · obtain ⟨a, b, rfl, rfl, hv, ha1, ha8, hb1, hb60, hok, htm⟩ := check_ok hc0
    have hNr : ∀ x, x ≤ a → (rws s x).length ≤ 1000000000 := fun x hx => Nat.le_trans (rws_few s a htm x hx) (by omega)
    have hm1 : m ≤ 1000 := by rw [hm]; exact (vld_iff.1 hv).1
    rw [hc0] at hck
    have HK : Hid (∀ e w', Below w.heap.size w w' → (match firstE s a b d with
        | none => e = .returned (.tuple #[.agg #[.int .i64 0, .int .i64 0, .slice none 0 0], .int .i64 6])
        | some c => ∃ v, e = .returned (.tuple #[.agg #[.int .i64 a, .int .i64 b, v], .int .i64 0]) ∧ w'.ownsRow w.heap.size 3 1 v c.length (vals (idxI c))) → IsFirstRes s a b d w e w') := fun e w' hb he => by
      refine ⟨hb, ?_⟩
      rw [if_neg (by simpa using hc0), Int.toNat_natCast, Int.toNat_natCast]
      exact he
    have hrows := fun (W : World) (hb : Below w.heap.size w W) => rowsOf_any s S m mc a W hm (hS.keep hb hb.size) hm1 ha8 hNr
    have hLr : ∀ r ∈ rws s a, r.length = a ∧ ∀ i ∈ r, i < s.length := fun r hr => ⟨rws_len s a r hr, rws_idx s a r hr⟩
    have hL9 : (rws s a).length ≤ 1000000000 := hNr a (Nat.le_refl _)
    obtain ⟨L, hL⟩ : ∃ L, L = rws s a := ⟨_, rfl⟩
    have hnone : ∀ ks : List (List Int), ks.Nodup → (∀ l, l ∉ ks → levF L (admE s d b) (south s) (north s) b b l = 0) → (∀ l ∈ ks, 0 < levF L (admE s d b) (south s) (north s) b b l) → (ks = [] ↔ stksE s a b d = []) := fun ks h1 h2 h3 => by
      rw [stksE_pad s a b d, ← hL]
      exact lev_none L _ _ _ b hb1 ks h1 h2 h3
    have HL := Lib.hid hL
    have HLR := Lib.hid hLr
    have HL9 := Lib.hid hL9
    have HWF := Lib.hid hwf
    have HE := Lib.hid hE
    have HOK := Lib.hid hok
    have HCK := Lib.hid hck
    have HROWS := Lib.hid hrows
    have HNONE := Lib.hid hnone
    obtain ⟨nn, hnn⟩ : ∃ nn, nn = d.n.length := ⟨_, rfl⟩
    obtain ⟨en, hen⟩ : ∃ en, en = d.e.length := ⟨_, rfl⟩
    obtain ⟨sn, hsn⟩ : ∃ sn, sn = d.s.length := ⟨_, rfl⟩
    obtain ⟨wn, hwn⟩ : ∃ wn, wn = d.w.length := ⟨_, rfl⟩
    have hRO : ∀ (W : World), Below w.heap.size w W → RectOk d a b nn en sn wn W W.heap.size N E U V := fun W hb => ⟨hnn, hen, hsn, hwn, hok, hE.keep hb hb.size⟩
    have HRO := Lib.hid hRO
    rw [← hnn, ← hen, ← hsn, ← hwn] at HCK hbx ⊢
    clear hck hc0 hm hS hwf hE hrows hLr hL9 hNr hv htm hok hL hnn hen hsn hwn hRO hnone hn he hs hwl
    obtain ⟨i1, gi, gz0, gz1, gz2⟩ := info_parts int_info
    obtain ⟨nab, hnab⟩ : ∃ nab, nab = a * b := ⟨_, rfl⟩
    have hab : nab ≤ 480 := by rw [hnab]; exact Nat.mul_le_mul ha8 hb60
    have eab : (a : Int) * (b : Int) = (nab : Int) := by rw [hnab, Int.natCast_mul]
    have hby : i1.bytes * nab ≤ 281474976710656 := by rw [gz2]; omega
    have HNAB := Lib.hid hnab
    clear hnab
    go_enter Tryz.func8, Tryz.ntmps8
    go_wp2_with fail
    refine HCK.out.mono ?_
    rintro e w1 ⟨rfl, hb1'⟩
    have hbw1 : Below w.heap.size w w1 := hbx.trans (hb1'.mono hbx.size)
    obtain ⟨hc1, hf1⟩ := bcell hb1'
    have k0 := (cell_of_row _ _ 0 _ _ _ ((hb1'.block w.heap.size (by simp; omega)).trans (heap_kp (heap_at w _ _ rfl) _))).trans (show _ = some (Value.slice N nn nc) from rfl)
    have k1 := (cell_of_row _ _ 1 _ _ _ ((hb1'.block w.heap.size (by simp; omega)).trans (heap_kp (heap_at w _ _ rfl) _))).trans (show _ = some (Value.slice E en ec) from rfl)
    have k2 := (cell_of_row _ _ 2 _ _ _ ((hb1'.block w.heap.size (by simp; omega)).trans (heap_kp (heap_at w _ _ rfl) _))).trans (show _ = some (Value.slice U sn uc) from rfl)
    have k3 := (cell_of_row _ _ 3 _ _ _ ((hb1'.block w.heap.size (by simp; omega)).trans (heap_kp (heap_at w _ _ rfl) _))).trans (show _ = some (Value.slice V wn vc) from rfl)
    have hl1 : w.heap.size + 1 < w1.heap.size := Nat.lt_of_lt_of_le (by simp) hb1'.size
    have HP1 := Lib.hid ((hb1'.block (w.heap.size + 1) (by simp)).trans (heap_at _ _ _ (by simp)))
    have hS1 : Below w1.heap.size w1 w1 := Below.refl _ _
    have kp : ∀ {a : Addr} {u : Value}, w1.cell? a = some u → ∀ w', Below w1.heap.size w1 w' → w'.cell? a = some u := fun h w' hb => (hb.cell (World.block_lt_of_cell? w1 _ h)).trans h
    have r0 := kp k0
    have r1 := kp k1
    have r2 := kp k2
    have r3 := kp k3
    have HC1 : Hid (∀ W, Below w1.heap.size w1 W → Calls Tryz.prog 23 #[.slice S m mc, .int .i64 a] W (IsRows s a W)) := fun W hb => HROWS.out W (hbw1.trans (hb.mono hbw1.size))
    clear hc1 hf1 hb1' kp k0 k1 k2 k3
    go_upto_region 4 with fail
    go_cut [11] from 26 to 31 (fun u wx => ∃ (q rc : Nat) (R : Option Addr), u = .pointer (some ⟨q, 0, none⟩) ∧ Hid (wx.heap[q]? = some (.cells #[.int .i64 (b : Int), .slice N nn nc, .slice E en ec, .slice U sn uc, .slice V wn vc, .slice R L.length rc] 60 (0, 0))) ∧ Hid (FlatIn (rowV s) 26 wx wx.heap.size R L) ∧ Below w1.heap.size w1 wx)
    case first =>
      go_region_held3 (fun w' => Below w1.heap.size w1 w') (first | (with_reducible assumption) | (with_reducible exact (Below.refl _ _).drew) | (with_reducible exact (be_alloc hS1 _).drew) | ((with_reducible refine be_alloc ?_ _); (with_reducible assumption)) | ((with_reducible refine six_below ?_ ?_) <;> first | (with_reducible assumption) | exact Nat.le_refl _ | omega | (simp; done)))
        (first
        | (go_at_call 23; (with_reducible refine (HC1.out _ ?_).mono ?_); (focus assumption); rintro e w2 ⟨vR, rfl, hown2, hb2⟩; rw [← HL.out] at hown2; (first | (refine have_then (P := w2.heap[w1.heap.size]? = some (.cells #[.int .i64 0, .slice none 0 0, .slice none 0 0, .slice none 0 0, .slice none 0 0, .slice none 0 0] 60 (0, 0))) ?_ ?_; (focus (refine (hb2.block _ ?_).trans (heap_at _ _ _ ?_) <;> first | rfl | (simp; done))); intro z6; obtain ⟨y0, y1, y2, y3, y4, y5⟩ := cells6 z6; have yf := frozen_blk z6; have Z6 := Lib.hid z6; clear z6) | skip); obtain ⟨R, rc, rfl, -, hfl2, hba2⟩ := own_flat hown2 (fun r hr => rowV_len s r (by rw [HL.out] at hr; rw [rws_len s a r hr]; exact ha8)) rfl; have hbw2 := rows_below hb2 (by assumption); have HF2 := Lib.hid hfl2; have HBA2 := Lib.hid hba2; clear hown2 hfl2 hba2)
        | fail)
      · go_wp2_with fail
        go_meet
        exact ⟨w2.heap.size, rc, R, rfl, heap_alloc_new _ _, HF2.out.keep ((Below.refl _ _).alloc (Nat.le_refl _) _) (by simp), be_alloc hbw2 _⟩
      · go_wp2_with fail
        go_meet
        exact ⟨w1.heap.size, rc, R, rfl, six_sets Z6.out, flat_grown HF2.out (six_grown _ _ _ _ _ _ _ _) (fun b' hb' => by have := HBA2.out b' hb'; simp at this; omega) (Nat.le_refl _), six_below hbw2 (Nat.le_refl _)⟩
    case rest =>
      obtain ⟨q, rc, R, rfl, HQ, HF, hbc⟩ := hcut
      obtain ⟨k0, k1, k2, k3, k4, k5⟩ := cells6 HQ.out
      have hbwc : Below w.heap.size w wc := hbw1.trans (hbc.mono hbw1.size)
      have hlv := levels_any s d L a b N E U V R nn nc en ec sn uc wn vc L.length rc wc (by rw [HL.out]; exact HLR.out) HWF.out (by omega) ha8 hb1 hb60 rfl (by rw [HL.out]; exact HL9.out) (HRO.out wc hbwc) HF.out
      have HLVS := Lib.hid hlv
      have HCW := Lib.hid hbwc
      clear hlv hbwc r0 r1 r2 r3
      go_wp2_with (first
        | (go_at_call 24; refine HLVS.out.mono ?_; rintro e w2 ⟨lb, lc, rfl, hlb, hlev, hb2⟩; obtain ⟨b0, n0, D0, ks0, hcell0, hmap0, hn0, hlv0⟩ := hlev 0 (Nat.zero_le _); have HLV0 := Lib.hid hlv0; have HLEV := Lib.hid hlev; have hp2 := heap_below (heap_below HP1.out hbc hl1) hb2 (Nat.lt_of_lt_of_le hl1 hbc.size); have HP2 := Lib.hid hp2; obtain ⟨y0, y1, y2, y3⟩ := zcells hp2; clear hlv0 hlev hp2)
        | (at_len; refine wpList_len_own _ rfl _ 63 rfl 65 3 Tryz.underlying63 _ b0 n0 D0 rfl hmap0 ?_)
        | (at_make; refine wpList_make_own _ rfl _ _ 29 rfl w2.heap.size 3 i1 (.int .i64 0) 1 Tryz.underlying29 gi gz0 gz1 .i64 .i64 _ nab rfl rfl rfl hby (by simp only [maxLen]; omega) (by simp) ?_; intro w3 hown3 hgrow3))
      · have h0 : (((Maps.size D0 : Nat) : Int) == 0) = true := by assumption
        have hks : ks0 = [] := (lv_size HLV0.out (hmap0.entries line_law)).1 (by simpa using h0)
        have hst : stksE s a b d = [] := (HNONE.out ks0 HLV0.out.nodup HLV0.out.zero HLV0.out.pos).1 hks
        obtain ⟨x0, x1, x2, -⟩ := zcells (three_sets (a := .int .i64 0) (b := .int .i64 0) (c := .slice none 0 0) HP2.out)
        refine bodyPost_ret (v := .tuple #[.agg #[.int .i64 0, .int .i64 0, .slice none 0 0], .int .i64 6]) (by simp [results, Tryz.results8, go_sem, x0, x1, x2]) rfl ?_
        refine HK.out _ _ (three_below (HCW.out.trans (hb2.mono HCW.out.size)) (by omega)) ?_
        unfold firstE
        rw [hst]
        rfl
      · have h0 : (((Maps.size D0 : Nat) : Int) == 0) = false := by assumption
        have hks : ks0 ≠ [] := fun e => by
          have := (lv_size HLV0.out (hmap0.entries line_law)).2 e
          rw [this] at h0
          simp at h0
        have hst : Hid (stksE s a b d ≠ []) := fun e => hks ((HNONE.out ks0 HLV0.out.nodup HLV0.out.zero HLV0.out.pos).2 e)
        clear h0 hks hmap0 hcell0 HLV0 y0 y1 y2 y3
        have hst0 : Hid (stk (rws s a) (admE s d b) (south s) (north s) (b - 0) 0 none ≠ []) := by
          have := hst.out
          rw [stksE_pad] at this
          exact this
        have hhead : Hid ((stksE s a b d).head? = (stk (rws s a) (admE s d b) (south s) (north s) (b - 0) 0 none).head?.map (([] : List (List Nat)) ++ ·)) := by
          show _ = _
          rw [stksE_pad]
          simp
        have hz3 : w2.heap.size ≤ w3.heap.size := hgrow3.size
        have hb23 : Below w2.heap.size w2 w3 := ⟨hgrow3.os, hgrow3.tape, hgrow3.output, hgrow3.size, fun k hk => hgrow3.block k hk (by simp)⟩
        have hbb : Hid ((w3.alloc (.cells #[.int .i64 0, .int .i64 0, .int .i64 0, .int .i64 0, .int .i64 0, .int .i64 0, .int .i64 0, .int .i64 0] 65)).heap[w3.heap.size]? = some (.cells (vals [0, 0, 0, 0, 0, 0, 0, 0]).toArray 65 (0, 0))) := heap_alloc_new w3 _
        have hlw0 : Hid (lwf [0, 0, 0, 0, 0, 0, 0, 0]) := ⟨rfl, fun v hv => by simp at hv; subst hv; rfl⟩
        go_loopw [13, 45] (fun v yv wr => ∃ (y : Nat) (P : List (List Nat)) (below : List Int) (b' : Option (List Int)), y ≤ b ∧ yv = .int .i64 y ∧ wr.ownsRow w2.heap.size 3 1 v (y * a) (vals (idxI P.flatten)) ∧ v.ownBlock ≠ some w3.heap.size ∧ Hid (lwf below) ∧ Hid (wr.heap[w3.heap.size]? = some (.cells (vals below).toArray 65 (0, 0))) ∧
          Hid ((y = 0 ∧ b' = none) ∨ (0 < y ∧ b' = some below)) ∧ Hid (stk (rws s a) (admE s d b) (south s) (north s) (b - y) y b' ≠ []) ∧ Hid ((stksE s a b d).head? = (stk (rws s a) (admE s d b) (south s) (north s) (b - y) y b').head?.map (P ++ ·)) ∧ Below w2.heap.size w2 wr ∧ w3.heap.size < wr.heap.size) (fun _ yv _ => b - (intOf yv).toNat)
        case atStart =>
          refine ⟨0, [], [0, 0, 0, 0, 0, 0, 0, 0], none, Nat.zero_le _, rfl, ?_, ?_, hlw0, hbb, Or.inl ⟨rfl, rfl⟩, hst0, hhead, hb23.alloc hz3 _, by simp⟩
          · rw [Nat.zero_mul]
            exact hown3.alloc _
          · intro e
            have := (hown3.lt _ e).2
            omega
        case round =>
          clear hst0 hhead hbb hown3 hgrow3 hlw0
          obtain ⟨y, P, below, b', hy, rfl, hown, hne, hlw, hbb, hbl, hst, hhd, hbt, hlt⟩ := hrel
          obtain ⟨wt, rfl⟩ : ∃ wt : World, wt = wr := ⟨_, rfl⟩
          by_cases hyb : y < b
          · obtain ⟨k, hk⟩ : ∃ k, k + (y + 1) = b := ⟨b - (y + 1), by omega⟩
            have hby1 : b - y = k + 1 := by omega
            have hstk := hst.out
            rw [hby1] at hstk
            obtain ⟨r, hpk, hrm, hst2⟩ := pick_some _ _ _ _ k y b' hstk
            have hok := pick_ok s d a b y k b' _ hk hbl.out
            rw [hpk] at hok
            have hhd2 : Hid ((stksE s a b d).head? = (stk (rws s a) (admE s d b) (south s) (north s) (b - (y + 1)) (y + 1) (some (north s r))).head?.map ((P ++ [r]) ++ ·)) := by
              show _ = _
              rw [hhd.out, hby1, first_step, hpk, show b - (y + 1) = k by omega]
              simp [Function.comp_def]
            have hst3 : Hid (stk (rws s a) (admE s d b) (south s) (north s) (b - (y + 1)) (y + 1) (some (north s r)) ≠ []) := by
              rw [show b - (y + 1) = k by omega]
              exact hst2
            obtain ⟨hrl, hri⟩ := HLR.out r hrm
            have hr8 : r.length ≤ 8 := by omega
            have hnw := north_wf HWF.out hri hr8
            obtain ⟨bj, nj, Dj, kj, hcj, hmj, hnj, hlj⟩ := (HLEV.out (y + 1) (by omega)).keep hbt
            obtain ⟨e0, e1, e2, e3, e4, e5, e6, e7, heb⟩ := len8 below hlw.out.1
            subst heb
            have hbw : Below w.heap.size w wt := (HCW.out.trans (hb2.mono HCW.out.size)).trans (hbt.mono (HCW.out.trans (hb2.mono HCW.out.size)).size)
            have hq2 : q < w2.heap.size := Nat.lt_of_lt_of_le (Array.getElem?_eq_some_iff.1 HQ.out).1 hb2.size
            obtain ⟨k0, k1, k2, k3, k4, k5⟩ := cells6 (heap_below (heap_below HQ.out hb2 (Array.getElem?_eq_some_iff.1 HQ.out).1) hbt hq2)
            have hRt : FlatIn (rowV s) 26 wt wt.heap.size R L := (HF.out.keep hb2 hb2.size).keep hbt hbt.size
            have hFR := fun (W' : World) (hb : Below wt.heap.size wt W') => firstRow_any s d L a b y N E U V R nn nc en ec sn uc wn vc L.length rc _ bj nj Dj kj _ W' (by rw [HL.out]; exact HLR.out) HWF.out (by omega) ha8 hb60 hyb rfl (by rw [HL.out]; exact HL9.out) (HRO.out W' (hbw.trans (hb.mono hbw.size))) (hRt.keep hb hb.size) hlw.out (hmj.kept (grown_of_below hb none) (by simp)) hlj ⟨r, by rw [HL.out]; exact hrm, by have := List.find?_some hok; rw [HL.out]; exact this⟩
            have hsz26 : (rowA s r).size = 26 := rowA_size s r hr8
            have hone26 : (rowA s r).all (·.oneCell') = true := rowA_one s r
            have hfr : Hid (L.find? (okRow s d b y [e0, e1, e2, e3, e4, e5, e6, e7] (levF L (admE s d b) (south s) (north s) b (b - (y + 1)))) = some r) := by rw [HL.out]; exact hok
            simp only [vals, List.map_cons, List.map_nil] at hFR
            have HFR := Lib.hid hFR
            have hb8 := hbb.out
            simp only [vals, List.map_cons, List.map_nil] at hb8
            obtain ⟨j0, j1, j2, j3, j4, j5, j6, j7⟩ := cells8 hb8
            have HRL := Lib.hid hrl
            have HNW := Lib.hid hnw
            have kp : ∀ {a : Addr} {u : Value}, wt.cell? a = some u → ∀ w', Below wt.heap.size wt w' → w'.cell? a = some u := fun h w' hb => (hb.cell (World.block_lt_of_cell? wt _ h)).trans h
            have r0 := kp k0
            have r1 := kp k1
            have r2 := kp k2
            have r3 := kp k3
            have r4 := kp k4
            have r5 := kp k5
            have s0 := kp j0
            have s1 := kp j1
            have s2 := kp j2
            have s3 := kp j3
            have s4 := kp j4
            have s5 := kp j5
            have s6 := kp j6
            have s7 := kp j7
            have t0 := kp hcj
            have hS1 : Below wt.heap.size wt wt := Below.refl _ _
            have hy0 : (0 : Int) ≤ (y : Int) := by omega
            have hyb' : (y : Int) < (b : Int) := by omega
            have hyn1 : (y : Int) + 1 < (b : Int) + 1 := by omega
            have ew : IntKind.i64.wrap ((y : Int) + 1) = (y : Int) + 1 := IntWalk.i64_in _ (by omega)
            have ep : (0 : Int) ≤ (y : Int) + 1 := by omega
            have et : ((y : Int) + 1).toNat = y + 1 := by omega
            have HO := Lib.hid hown
            clear hpk hst2 hok hstk hst hhd hrl hri hnw hmj hlj hnj hcj hRt hFR hb8 kp k0 k1 k2 k3 k4 k5 j0 j1 j2 j3 j4 j5 j6 j7 hown hrm
            go_upto_region 13 with fail
            go_cut [16, 45] from 45 to 64 (fun u u45 wx => ∃ q6 : Nat, u = .pointer (some ⟨q6, 0, none⟩) ∧ u45 = .int .i64 (y : Int) ∧ wt.heap.size ≤ q6 ∧ Hid (wx.heap[q6]? = some (.cells (rowA s r) 67 (0, 0))) ∧ Below wt.heap.size wt wx)
            case first =>
              go_region_held3 (fun w' => Below wt.heap.size wt w') (first | (with_reducible assumption) | (with_reducible exact (Below.refl _ _).drew) | (with_reducible exact (be_alloc hS1 _).drew) | ((with_reducible refine be_alloc ?_ _); (with_reducible assumption)))
                (first
                | (go_at_call 25; (go_must (with_reducible refine (HFR.out _ ?_).mono ?_)); (focus assumption); rintro e w5 ⟨r', rfl, hf5, hb5⟩; have hrr := find_same hfr.out hf5; rw [← hrr]; have hbw5 := rows_below hb5 (by assumption); obtain ⟨WA, hrA, gA, sA, cA⟩ := store_row (P := Tryz.prog) (w := w5.alloc (.cells #[.int .i64 0, .int .i64 0, .int .i64 0, .int .i64 0, .int .i64 0, .int .i64 0, .int .i64 0, .int .i64 0, .int .i64 0, .int .i64 0, .int .i64 0, .int .i64 0, .int .i64 0, .int .i64 0, .int .i64 0, .int .i64 0, .int .i64 0, .int .i64 0, .int .i64 0, .int .i64 0, .int .i64 0, .int .i64 0, .int .i64 0, .int .i64 0, .int .i64 0, .int .i64 0] 67)) (rowA s r) (heap_alloc_new _ _) (by rw [hsz26]; rfl) hone26; have hbA : Below wt.heap.size wt WA := (be_alloc hbw5 _).trans (below_of_grown gA hbw5.size (by have := hbw5.size; simp; omega)); have cA' := Lib.hid cA; clear gA sA cA; (first | (refine have_then (P := w5.heap[wt.heap.size]? = some (.cells #[.int .i64 0, .int .i64 0, .int .i64 0, .int .i64 0, .int .i64 0, .int .i64 0, .int .i64 0, .int .i64 0, .int .i64 0, .int .i64 0, .int .i64 0, .int .i64 0, .int .i64 0, .int .i64 0, .int .i64 0, .int .i64 0, .int .i64 0, .int .i64 0, .int .i64 0, .int .i64 0, .int .i64 0, .int .i64 0, .int .i64 0, .int .i64 0, .int .i64 0, .int .i64 0] 67 (0, 0))) ?_ ?_; (focus (refine (hb5.block _ ?_).trans (heap_at _ _ _ ?_) <;> first | rfl | (simp; done))); intro z6; obtain ⟨WB, hrB, gB, sB, cB⟩ := store_row (P := Tryz.prog) (rowA s r) z6 (by rw [hsz26]; rfl) hone26; have hbB : Below wt.heap.size wt WB := hbw5.trans (below_of_grown gB (Nat.le_refl _) hbw5.size); have cB' := Lib.hid cB; clear gB sB cB z6) | skip); clear hrr hf5)
                | fail)
              · go_wp2_with fail
                go_meet
                exact ⟨w5.heap.size, rfl, rfl, hbw5.size, cA', hbA⟩
              · go_wp2_with fail
                go_meet
                exact ⟨wt.heap.size, rfl, rfl, Nat.le_refl _, cB', hbB⟩
            case rest =>
              obtain ⟨q6, rfl, rfl, hq6, hcq, hbx6⟩ := hcut
              have hsx6 := hbx6.size
              have hst6 := hbt.size
              have hownx := own_keep' HO.out hbx6
              have hcl := heap_below hbb.out hbx6 hlt
              have hlt7 : ∀ g, u13.ownBlock = some g → g < wt.heap.size := fun g hg => (HO.out.lt g hg).2
              have hnews := row_news hcq.out hr8
              have hy60 : y ≤ 60 := by omega
              have hya : y * a ≤ 60 * 8 := Nat.mul_le_mul hy60 ha8
              have hya1 : (y + 1) * a = y * a + a := by rw [Nat.add_mul, Nat.one_mul]
              have hvl : (vals (idxI r)).length = a * 1 := by simp [vals, idxI, HRL.out]
              have hn8 : (vals (north s r)).length = 8 := by simp [vals, HNW.out.1]
              have ha0i : (0 : Int) ≤ (a : Int) := by omega
              have ha8i : (a : Int) ≤ 8 := by omega
              have HX := Lib.hid hownx
              have HNS := Lib.hid hnews
              have HCL := Lib.hid hcl
              have HVL := Lib.hid hvl
              have HN8 := Lib.hid hn8
              have HYA := Lib.hid hya1
              have hmx : y * a + a ≤ maxLen := by simp only [maxLen]; omega
              have hmb : (y * a + a) * 8 ≤ 140737488355328 := by omega
              have hbs : w2.heap.size ≤ wc.heap.size := by omega
              clear hownx hcl hnews hvl hn8 hya1
              go_upto_region 15 with (at_builtin; refine wpList_append_own_at _ rfl _ _ 29 rfl w2.heap.size 3 i1 _ 1 8 Tryz.underlying29 gi gz0 gz1 gz2 rfl (by decide) u13 _ _ rfl HX.out ⟨q6, 0, none⟩ a 8 (vals (idxI r)) rfl HVL.out HNS.out (vals_one _) hmx hmb hbs ?_; intro v7 w7 hown7 hgrow7 hnil7 hat7)
              have hne6 : some q6 ≠ u13.ownBlock := fun e => by
                have := hlt7 q6 e.symm
                omega
              have hne3 : some w3.heap.size ≠ u13.ownBlock := fun e => hne e.symm
              have hr7 := row_north (keepZ hgrow7 hcq.out hne6) hr8
              have HR7 := Lib.hid hr7
              have HL7 := Lib.hid (keepZ hgrow7 HCL.out hne3)
              have HONE := Lib.hid (all_oneCell_toArray (vals_one (north s r)))
              clear hr7
              go_wp2_with (first
                | (refine wpList_load_mid rfl _ _ rfl q6 8 rfl (vals (north s r)) _ HR7.out Tryz.underlying65 rfl (by rw [line_size, HN8.out]) ?_)
                | (refine wpList_store_whole rfl _ _ _ rfl w3.heap.size (vals (north s r)).toArray rfl rfl _ _ HL7.out (by simp [vals, HNW.out.1]) (by rw [line_size]; simp [HN8.out]) HONE.out ?_; intro w9 hg9 hs9 hb9))
              have hne7 : v7.ownBlock ≠ some w3.heap.size := fun e => by
                rcases hat7 with h | h
                · exact hne (by rw [← h]; exact e)
                · rw [h] at e
                  have := Option.some.inj e
                  omega
              have hs7 := hgrow7.size
              have hs9' := hg9.size
              have hB7 : Below w2.heap.size wc w7 := ⟨hgrow7.os, hgrow7.tape, hgrow7.output, hgrow7.size, fun k hk => hgrow7.block k (by omega) (fun e => by have := (HO.out.lt k e.symm).1; omega)⟩
              have hB9 : Below w2.heap.size w2 w9 := ((hbt.trans (hbx6.mono hst6)).trans hB7).trans (below_of_grown hg9 hz3 (by omega))
              have ev : vals (idxI (P ++ [r]).flatten) = vals (idxI P.flatten) ++ vals (idxI r) := by simp [vals, idxI]
              have hown9 : w9.ownsRow w2.heap.size 3 1 v7 ((y + 1) * a) (vals (idxI (P ++ [r]).flatten)) := by
                rw [ev, HYA.out]
                exact hown7.kept hg9 (Or.inr hne7)
              have hlt9 : w3.heap.size < w9.heap.size := by omega
              go_roundw
              case rel => exact ⟨y + 1, P ++ [r], north s r, some (north s r), by omega, by go_num, hown9, hne7, HNW, hb9, Or.inr ⟨Nat.succ_pos y, rfl⟩, hst3, hhd2, hB9, hlt9⟩
              case measure => first | (simp [intOf]; done) | (simp [intOf]; omega)
          · have hye : y = b := by omega
            subst hye
            have hstk : Hid ((stksE s a y d).head? = some P) := by
              show _ = _
              rw [hhd.out, Nat.sub_self]
              simp [stk]
            obtain ⟨A13, c13, rfl, -⟩ := own_ints hown
            have hp3 := heap_below (heap_below (heap_below HP1.out hbc hl1) hb2 (Nat.lt_of_lt_of_le hl1 hbc.size)) hbt (Nat.lt_of_lt_of_le (Nat.lt_of_lt_of_le hl1 hbc.size) hb2.size)
            have HP3 := Lib.hid hp3
            obtain ⟨y0, y1, y2, y3⟩ := zcells hp3
            clear hp3
            have hirr : ¬ ((y : Int) < (y : Int)) := by omega
            go_wp2_with fail
            obtain ⟨x0, x1, x2, -⟩ := zcells (three_sets (a := .int .i64 a) (b := .int .i64 y) (c := .slice A13 (y * a) c13) HP3.out)
            refine bodyPost_ret (v := .tuple #[.agg #[.int .i64 a, .int .i64 y, .slice A13 (y * a) c13], .int .i64 0]) (by simp [results, Tryz.results8, go_sem, x0, x1, x2]) rfl ?_
            have hbw : Below w.heap.size w wt := (HCW.out.trans (hb2.mono HCW.out.size)).trans (hbt.mono (HCW.out.trans (hb2.mono HCW.out.size)).size)
            refine HK.out _ _ (three_below hbw (by omega)) ?_
            have hf : firstE s a y d = some P.flatten := by
              unfold firstE
              rw [hstk.out]
              rfl
            have hl2 : w.heap.size + 1 < w2.heap.size := Nat.lt_of_lt_of_le (Nat.lt_of_lt_of_le hl1 hbc.size) hb2.size
            have hlen : y * a = P.flatten.length := by
              have := hown.1
              unfold vals idxI at this
              rw [List.length_map, List.length_map, Nat.mul_one] at this
              exact this.symm
            rw [hf]
            refine ⟨_, rfl, ?_⟩
            rw [← hlen]
            exact own_mono (ownsRow_setCell_below (ownsRow_setCell_below (ownsRow_setCell_below hown hl2 _) hl2 _) hl2 _) (by omega)
  · have HK : Hid (∀ e w', Below w.heap.size w w' → e = .returned (.tuple #[.agg #[.int .i64 0, .int .i64 0, .slice none 0 0], .int .i64 (checkE s wd hg d.n.length d.e.length d.s.length d.w.length)]) → IsFirstRes s wd hg d w e w') := fun e w' hb he => by
      refine ⟨hb, ?_⟩
      rw [if_pos hc0]
      exact he
    obtain ⟨ce, hce⟩ : ∃ ce, ce = checkE s wd hg d.n.length d.e.length d.s.length d.w.length := ⟨_, rfl⟩
    rw [← hce] at hck HK hc0
    have hd0 : (ce != 0) = true := by rw [bne_iff_ne]; exact hc0
    have HCK := Lib.hid hck
    clear hce hck hc0 hm hS hwf hE
    go_enter Tryz.func8, Tryz.ntmps8
    go_wp2_with fail
    refine HCK.out.mono ?_
    rintro e w1 ⟨rfl, hb1⟩
    have hp1 := (hb1.block (w.heap.size + 1) (by simp)).trans (heap_at _ _ _ (by simp))
    obtain ⟨y0, y1, y2, y3⟩ := zcells hp1
    have hl1 : w.heap.size + 1 < w1.heap.size := Nat.lt_of_lt_of_le (by simp) hb1.size
    have HP1 := Lib.hid hp1
    clear hp1
    go_wp2_with fail
    obtain ⟨x0, x1, x2, -⟩ := zcells (three_sets (a := .int .i64 0) (b := .int .i64 0) (c := .slice none 0 0) HP1.out)
    refine bodyPost_ret (v := .tuple #[.agg #[.int .i64 0, .int .i64 0, .slice none 0 0], .int .i64 ce]) (by simp [results, Tryz.results8, go_sem, x0, x1, x2]) rfl ?_
    exact HK.out _ _ (three_below (hbx.trans (hb1.mono hbx.size)) (by omega)) rfl
end Go.Proofs.YtgadfmknjpanpaaGreatDoor

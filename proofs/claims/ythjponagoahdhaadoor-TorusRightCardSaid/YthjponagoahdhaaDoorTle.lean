/-
  torus.Least: sizes in order.
-/
import Derived.Test.YthjponagoahdhaaDoorTl
namespace Go.Proofs.YthjponagoahdhaaDoor
open Go.RowKit Go.Maps Go.BigFrame Go.Sort
set_option linter.unusedVariables false
set_option linter.unusedSimpArgs false
set_option maxRecDepth 100000

/-- the size of c + 1 cells and a width of w + 1, if there is one -/
def szT (m c w : Nat) : Option (Nat × Nat) := if (c + 1) % (w + 1) = 0 ∧ (c + 1) / (w + 1) ≤ m then some (w + 1, (c + 1) / (w + 1)) else none
def lsF (s : List Tl) (p : Nat × Nat) : Option (Nat × Nat × List (List Nat)) := (torsE s p.1 p.2).head?.map fun t => (p.1, p.2, t)
/-- the first torus of less than C + 1 cells -/
def lstK (s : List Tl) (m C : Nat) : Option (Nat × Nat × List (List Nat)) := ((List.range C).flatMap fun c => (List.range m).filterMap (szT m c)).findSome? (lsF s)
/-- the first torus of C + 1 cells and a width of less than j + 1 -/
def lstR (s : List Tl) (m C j : Nat) : Option (Nat × Nat × List (List Nat)) := ((List.range j).filterMap (szT m C)).findSome? (lsF s)
theorem lst_all (s : List Tl) (m : Nat) : lstK s m (m * m) = leastE s m := rfl
theorem lst_end {s : List Tl} {m C : Nat} (h : lstK s m C = none) (h' : lstR s m C m = none) : lstK s m (C + 1) = none := by
  unfold lstK at h ⊢
  unfold lstR at h'
  rw [List.range_succ, List.flatMap_append, List.findSome?_append, h]
  simpa using h'
theorem lst_skip {s : List Tl} {m C j : Nat} (h : lstR s m C j = none) (hs : szT m C j = none) : lstR s m C (j + 1) = none := by
  unfold lstR at h ⊢
  rw [List.range_succ, List.filterMap_append, List.findSome?_append, h]
  simp [hs]
theorem lst_none {s : List Tl} {m C j : Nat} {p : Nat × Nat} (h : lstR s m C j = none) (hs : szT m C j = some p) (hf : lsF s p = none) : lstR s m C (j + 1) = none := by
  unfold lstR at h ⊢
  rw [List.range_succ, List.filterMap_append, List.findSome?_append, h]
  simp [hs, hf]
theorem range_split (n j : Nat) (h : j < n) : List.range n = List.range j ++ j :: (List.range (n - (j + 1))).map (j + 1 + ·) := by
  have h2 : n = j + (1 + (n - (j + 1))) := by omega
  conv => lhs; rw [h2, List.range_add, List.range_add]
  simp [Nat.add_assoc, Nat.add_comm, Nat.add_left_comm]
theorem lst_found {s : List Tl} {m C j : Nat} {p : Nat × Nat} {v : Nat × Nat × List (List Nat)} (hC : C < m * m) (hj : j < m) (h : lstK s m C = none) (h' : lstR s m C j = none) (hs : szT m C j = some p) (hf : lsF s p = some v) : leastE s m = some v := by
  rw [← lst_all]
  unfold lstK at h ⊢
  unfold lstR at h'
  rw [range_split (m * m) C hC, List.flatMap_append, List.findSome?_append, h, List.flatMap_cons, List.findSome?_append]
  rw [range_split m j hj, List.filterMap_append, List.findSome?_append, h']
  simp [hs, hf]
theorem sz_some {m C j ht : Nat} (h1 : ht * (j + 1) = C + 1) (h2 : ht ≤ m) : szT m C j = some (j + 1, ht) := by
  have e : (C + 1) / (j + 1) = ht := by rw [← h1]; exact Nat.mul_div_cancel _ (by omega)
  unfold szT
  rw [e, if_pos ⟨by rw [← h1]; exact Nat.mul_mod_left _ _, h2⟩]
theorem sz_no {m C j : Nat} (h : (C + 1) / (j + 1) * (j + 1) ≠ C + 1 ∨ m < (C + 1) / (j + 1)) : szT m C j = none := by
  unfold szT
  rw [if_neg]
  rintro ⟨h1, h2⟩
  rcases h with h | h
  · exact h (Nat.div_mul_cancel (Nat.dvd_of_mod_eq_zero h1))
  · omega
/-- the band of a width lies in the table of bands -/
def BandAt (s : List Tl) (w : World) (bb v : Nat) : Prop :=
  ∃ R rc O oc, w.cell? ⟨bb, v * 2, none⟩ = some (.slice R (ringsE s v).length rc) ∧ w.cell? ⟨bb, v * 2 + 1, none⟩ = some (.slice (some ⟨O, 0, none⟩) (nlT s v) oc) ∧ BandIn s v w w.heap.size R O ∧ BandLo (bb + 1) w R O (nlT s v)
theorem BandAt.keep {s : List Tl} {w w' : World} {bb v : Nat} (h : BandAt s w bb v) (hbb : bb < w.heap.size) (hb : Below w.heap.size w w') : BandAt s w' bb v := by
  obtain ⟨R, rc, O, oc, h1, h2, h3, h4⟩ := h
  exact ⟨R, rc, O, oc, (hb.cell (p := ⟨bb, v * 2, none⟩) hbb).trans h1, (hb.cell (p := ⟨bb, v * 2 + 1, none⟩) hbb).trans h2, h3.keep hb hb.size, h4.keep h3.lt hb⟩
theorem BandAt.set {s : List Tl} {w : World} {bb v v' : Nat} (h : BandAt s w bb v) (hne : v ≠ v') (a b : Value) : BandAt s ((w.setCell ⟨bb, v' * 2, none⟩ a).setCell ⟨bb, v' * 2 + 1, none⟩ b) bb v := by
  obtain ⟨R, rc, O, oc, h1, h2, h3, h4⟩ := h
  have hg := (grown_one w bb (v' * 2) a).trans (grown_one (w.setCell ⟨bb, v' * 2, none⟩ a) bb (v' * 2 + 1) b)
  refine ⟨R, rc, O, oc, ?_, ?_, h3.grown h4 hg (by omega), h4.grown h3.lt hg (by omega)⟩
  · rw [World.cell?_setCell_other _ _ _ _ (fun e => by injection e with _ e2; omega), World.cell?_setCell_other _ _ _ _ (fun e => by injection e with _ e2; omega)]
    exact h1
  · rw [World.cell?_setCell_other _ _ _ _ (fun e => by injection e with _ e2; omega), World.cell?_setCell_other _ _ _ _ (fun e => by injection e with _ e2; omega)]
    exact h2
theorem BandAt.made {s : List Tl} {w : World} {bb v : Nat} {R : Option Addr} {rc O oc : Nat} (hB : BandIn s v w w.heap.size R O) (hl : BandLo (bb + 1) w R O (nlT s v)) (h1 : ∃ u, w.cell? ⟨bb, v * 2, none⟩ = some u) (h2 : ∃ u, w.cell? ⟨bb, v * 2 + 1, none⟩ = some u) :
    BandAt s ((w.setCell ⟨bb, v * 2, none⟩ (.slice R (ringsE s v).length rc)).setCell ⟨bb, v * 2 + 1, none⟩ (.slice (some ⟨O, 0, none⟩) (nlT s v) oc)) bb v := by
  obtain ⟨u1, h1⟩ := h1
  obtain ⟨u2, h2⟩ := h2
  have hg := (grown_one w bb (v * 2) (.slice R (ringsE s v).length rc)).trans (grown_one (w.setCell ⟨bb, v * 2, none⟩ (.slice R (ringsE s v).length rc)) bb (v * 2 + 1) (.slice (some ⟨O, 0, none⟩) (nlT s v) oc))
  refine ⟨R, rc, O, oc, ?_, ?_, hB.grown hl hg (by omega), hl.grown hB.lt hg (by omega)⟩
  · rw [World.cell?_setCell_other _ _ _ _ (fun e => by injection e with _ e2; omega)]
    exact World.cell?_setCell_same _ _ _ h1
  · exact World.cell?_setCell_same _ _ _ ((World.cell?_setCell_other _ _ _ _ (fun e => by injection e with _ e2; omega)).trans h2)
/-- the table of bands: fourteen cells that may be written -/
def TabOk (w : World) (bb : Nat) : Prop := bb < w.heap.size ∧ (∀ o, o < 14 → ∃ u, w.cell? ⟨bb, o, none⟩ = some u) ∧ ∀ o, w.frozen? ⟨bb, o, none⟩ = false
theorem TabOk.keep {w w' : World} {bb : Nat} (h : TabOk w bb) (hb : Below w.heap.size w w') : TabOk w' bb :=
  ⟨Nat.lt_of_lt_of_le h.1 hb.size, fun o ho => by obtain ⟨u, hu⟩ := h.2.1 o ho; exact ⟨u, (hb.cell (p := ⟨bb, o, none⟩) h.1).trans hu⟩, fun o => (hb.frozen (p := ⟨bb, o, none⟩) h.1).trans (h.2.2 o)⟩
theorem TabOk.set {w : World} {bb : Nat} (h : TabOk w bb) (o : Nat) (v : Value) : TabOk (w.setCell ⟨bb, o, none⟩ v) bb := by
  refine ⟨by rw [setCell_heap_size]; exact h.1, fun o' ho' => ?_, fun o' => by rw [World.frozen?_setCell]; exact h.2.2 o'⟩
  obtain ⟨u, hu⟩ := h.2.1 o' ho'
  by_cases e : o' = o
  · subst e; exact ⟨v, World.cell?_setCell_same _ _ _ hu⟩
  · exact ⟨u, (World.cell?_setCell_other _ _ _ _ (fun e' => by injection e' with _ e2; omega)).trans hu⟩
/-- what Least returns -/
def IsLeastT (s : List Tl) (mo : Int) (W : World) (e : Ending) (w' : World) : Prop :=
  Below W.heap.size W w' ∧ if tcheckE s mo mo ≠ 0 then e = .returned (.tuple #[zPat, .int .i64 (tcheckE s mo mo)]) else match leastE s mo.toNat with
    | none => e = .returned (.tuple #[zPat, .int .i64 6])
    | some (a, b, t) => ∃ A c, e = .returned (.tuple #[.agg #[.int .i64 (a : Nat), .int .i64 (b : Nat), .slice A t.flatten.length c], .int .i64 0]) ∧ IntsIn w' w'.heap.size A (idxI t.flatten)
set_option maxHeartbeats 8000000 in
theorem least_anyT (s : List Tl) (S : Option Addr) (md d : Nat) (mo : Int) (w : World) (hm : md = s.length) (hS : SetIn w w.heap.size S s) (hwf : ∀ t ∈ s, twf t) (hml : md ≤ 9223372036854775807) :
    Calls Tryd.prog 15 #[.slice S md d, .int .i64 mo] w (IsLeastT s mo w) := by
  have hck := fun (W : World) (hb : Below w.heap.size w W) => tcheck_any s S md d mo mo W hm (hS.keep hb hb.size) hwf hml
  have HCK := Lib.hid hck
  have hb1 : Below w.heap.size w (w.alloc (.cells #[.int .i64 0, .int .i64 0, .slice none 0 0] 27)) := (Below.refl _ _).alloc (Nat.le_refl _) _
  have hp1 := heap_at w (.cells #[.int .i64 0, .int .i64 0, .slice none 0 0] 27) _ rfl
  by_cases hc : tcheckE s mo mo = 0
  rotate_left
  · have HK : Hid (∀ e w', e = .returned (.tuple #[zPat, .int .i64 (tcheckE s mo mo)]) → Below w.heap.size w w' → IsLeastT s mo w e w') := fun e w' h1 h2 => ⟨h2, by rw [if_pos hc]; exact h1⟩
    obtain ⟨ce, hce⟩ : ∃ ce, ce = tcheckE s mo mo := ⟨_, rfl⟩
    rw [← hce] at HK hc
    have HCE := Lib.hid hce
    have d0 : (ce != 0) = true := by simpa using hc
    have HP1 := Lib.hid hp1
    clear hce hck hm hS hwf hc hp1
    go_enter Tryd.func15, Tryd.ntmps15
    go_wp2_with (first
      | (go_at_call 25; refine (HCK.out _ hb1).mono ?_; rw [← HCE.out]; rintro e w1 ⟨rfl, hb2⟩; have hpz := (hb2.block w.heap.size (by simp)).trans HP1.out; have HPZ := Lib.hid hpz; obtain ⟨y0, y1, y2, y3⟩ := zcells hpz; clear hpz)
      | fail)
    obtain ⟨x0, x1, x2, -⟩ := zcells (sets3T (a := .int .i64 0) (b := .int .i64 0) (c := .slice none 0 0) HPZ.out)
    refine bodyPost_ret (v := .tuple #[.agg #[.int .i64 0, .int .i64 0, .slice none 0 0], .int .i64 ce]) (by simp [results, Tryd.results15, go_sem, x0, x1, x2]) rfl ?_
    exact HK.out _ _ rfl (below3T (hb1.trans (hb2.mono hb1.size)) (Nat.le_refl _))
  · obtain ⟨hv, hw1, hw6, -, -, htm⟩ := tcheck_ok hc
    obtain ⟨m, rfl⟩ : ∃ m : Nat, mo = (m : Int) := ⟨mo.toNat, by omega⟩
    have hm1 : md ≤ 1000 := by rw [hm]; exact (vld_iff.1 hv).1
    have hN : ∀ y, y ≤ m → (rws s y).length ≤ 100000000 := fun y hy => Nat.le_trans (rws_fewT s m htm y hy) (by omega)
    have hbd := fun (v : Nat) (hvm : v ≤ m) (W : World) (hb : Below w.heap.size w W) => bandOf_any s S md d v W hm (hS.keep hb hb.size) hm1 hwf (by omega) (fun y hy => hN y (by omega))
    have hrn : ∀ v, v ≤ m → (ringsE s v).length ≤ 100000000 := fun v hvm => Nat.le_trans (List.length_filter_le _ _) (hN v hvm)
    obtain ⟨M, hM⟩ : ∃ M, M = m * m := ⟨_, rfl⟩
    have hm6 : m ≤ 6 := by omega
    have hm0 : 1 ≤ m := by omega
    have hM36 : M ≤ 36 := by rw [hM]; exact Nat.mul_le_mul hm6 hm6
    have hmM : m ≤ M := by rw [hM]; exact Nat.le_mul_of_pos_left m hm0
    have mM : IntKind.i64.wrap ((m : Int) * (m : Int)) = (M : Int) := by
      have : (m : Int) * (m : Int) = (M : Int) := by rw [hM, Int.natCast_mul]
      rw [this]
      exact IntWalk.i64_in _ (by omega)
    have HBD := Lib.hid hbd
    have HP1 := Lib.hid hp1
    have HRN := Lib.hid hrn
    have HC := Lib.hid hc
    have HM := Lib.hid hM
    clear hck hm hS hwf hbd hp1 hN hrn hv htm hM
    rw [hc] at HCK
    clear hc hw1 hw6
    go_enter Tryd.func15, Tryd.ntmps15
    go_wp2_with (first
      | (go_at_call 25; refine (HCK.out _ hb1).mono ?_; rintro e w1 ⟨rfl, hb2⟩; have hpz := (hb2.block w.heap.size (by simp)).trans HP1.out; have HPZ := Lib.hid hpz; have hbw1 := hb1.trans (hb2.mono hb1.size); clear hpz)
      | fail)
    obtain ⟨bb, hbb⟩ : ∃ bb, bb = w1.heap.size := ⟨_, rfl⟩
    obtain ⟨W2, hW2⟩ : ∃ W2, W2 = w1.alloc (.cells #[.slice none 0 0, .slice none 0 0, .slice none 0 0, .slice none 0 0, .slice none 0 0, .slice none 0 0, .slice none 0 0, .slice none 0 0, .slice none 0 0, .slice none 0 0, .slice none 0 0, .slice none 0 0, .slice none 0 0, .slice none 0 0] 63) := ⟨_, rfl⟩
    have hblk := heap_at w1 (.cells #[.slice none 0 0, .slice none 0 0, .slice none 0 0, .slice none 0 0, .slice none 0 0, .slice none 0 0, .slice none 0 0, .slice none 0 0, .slice none 0 0, .slice none 0 0, .slice none 0 0, .slice none 0 0, .slice none 0 0, .slice none 0 0] 63) _ rfl
    rw [← hW2, ← hbb] at hblk
    have htab : TabOk W2 bb := by
      refine ⟨(Array.getElem?_eq_some_iff.1 hblk).1, fun o ho => ?_, frozen_b hblk⟩
      rw [cell_of_row _ _ o _ _ _ hblk]
      exact ⟨_, Array.getElem?_eq_getElem (by simpa using ho)⟩
    have hresW : W2.heap[w.heap.size]? = some (.cells #[.int .i64 0, .int .i64 0, .slice none 0 0] 27 (0, 0)) := by rw [hW2]; exact heap_kp HPZ.out _
    have hbW : Below w.heap.size w W2 := by rw [hW2]; exact hbw1.alloc hbw1.size _
    have hbbw : w.heap.size < bb := by rw [hbb]; exact (Array.getElem?_eq_some_iff.1 HPZ.out).1
    rw [← hW2, ← hbb]
    clear hblk hW2 hbb hb2 HPZ hbw1 hb1 HP1
    go_loopw [8] (fun cv wr => ∃ c C : Nat, cv = .int .i64 (c : Int) ∧ Hid (c = C + 1) ∧ C ≤ M ∧ Hid (TabOk wr bb) ∧ Hid (wr.heap[w.heap.size]? = some (.cells #[.int .i64 0, .int .i64 0, .slice none 0 0] 27 (0, 0))) ∧ Below w.heap.size w wr ∧
      Hid (∀ v, 1 ≤ v → v ≤ m → v < c → BandAt s wr bb v) ∧ Hid (lstK s m C = none)) (fun cv _ => M + 1 - (intOf cv).toNat)
    case atStart => exact ⟨1, 0, rfl, rfl, Nat.zero_le _, htab, hresW, hbW, fun v h1 _ h2 => by omega, rfl⟩
    case round =>
      clear htab hresW hbW
      obtain ⟨c, C, rfl, hcC, hCM, htab, hres, hbw, hbands, hK⟩ := hrel
      obtain ⟨wo, rfl⟩ : ∃ wo : World, wo = wr := ⟨_, rfl⟩
      have hc1 : c = C + 1 := hcC
      by_cases hcM : c ≤ M
      · have HC1 := Lib.hid hc1
        have hcM' : (c : Int) ≤ (M : Int) := by omega
        have hCM1 : C < M := by omega
        have hc36 : c ≤ 36 := by omega
        have hc01 : 1 ≤ c := by omega
        clear hc1
        go_wp2_with fail
        go_loopw [9] (fun wv wr => ∃ wd j : Nat, wv = .int .i64 (wd : Int) ∧ Hid (wd = j + 1) ∧ j ≤ m ∧ Hid (TabOk wr bb) ∧ Hid (wr.heap[w.heap.size]? = some (.cells #[.int .i64 0, .int .i64 0, .slice none 0 0] 27 (0, 0))) ∧ Below w.heap.size w wr ∧
          Hid (∀ v, 1 ≤ v → v ≤ m → (v < c ∨ (v = c ∧ v < wd)) → BandAt s wr bb v) ∧ Hid (lstR s m C j = none)) (fun wv _ => m + 1 - (intOf wv).toNat)
        case atStart => exact ⟨1, 0, rfl, rfl, Nat.zero_le _, htab, hres, hbw, fun v h1 h2 h3 => hbands.out v h1 h2 (by omega), rfl⟩
        case round =>
          clear htab hres hbw hbands
          obtain ⟨wd, j, rfl, hwj, hjm, htab, hres, hbw, hbands, hR⟩ := hrel
          obtain ⟨wi, rfl⟩ : ∃ wi : World, wi = wr := ⟨_, rfl⟩
          have hwj1 : wd = j + 1 := hwj
          by_cases hwm : wd ≤ m
          · have hwm' : (wd : Int) ≤ (m : Int) := by omega
            have hjm1 : j < m := by omega
            have hwd1 : 1 ≤ wd := by omega
            have hwd6 : wd ≤ 6 := by omega
            have hwd0 : ¬ ((wd : Int) = 0) := by omega
            have HW1 := Lib.hid hwj1
            clear hwj1
            obtain ⟨ht, hht⟩ : ∃ ht, ht = c / wd := ⟨_, rfl⟩
            have hq : Int.tdiv (c : Int) (wd : Int) = (ht : Int) := by rw [hht]; rfl
            have hht36 : ht ≤ 36 := by rw [hht]; exact Nat.le_trans (Nat.div_le_self _ _) hc36
            obtain ⟨pr, hpr⟩ : ∃ pr, pr = ht * wd := ⟨_, rfl⟩
            have hpr' : pr ≤ 36 := by rw [hpr, hht]; exact Nat.le_trans (Nat.div_mul_le_self _ _) hc36
            have mp : IntKind.i64.wrap ((ht : Int) * (wd : Int)) = (pr : Int) := by
              have : (ht : Int) * (wd : Int) = (pr : Int) := by rw [hpr, Int.natCast_mul]
              rw [this]
              exact IntWalk.i64_in _ (by omega)
            have HHT := Lib.hid hht
            have HPR := Lib.hid hpr
            clear hht hpr
            by_cases e1 : pr = c
            · have d1 : ((pr : Int) != (c : Int)) = false := by simp; omega
              have HE1 := Lib.hid e1
              clear e1
              by_cases e2 : m < ht
              · have d2 : (m : Int) < (ht : Int) := by omega
                have hsk : Hid (szT m C j = none) := sz_no (Or.inr (by rw [← HC1.out, ← HW1.out, ← HHT.out]; exact e2))
                have hbands2 : ∀ v, 1 ≤ v → v ≤ m → (v < c ∨ (v = c ∧ v < wd + 1)) → BandAt s wi bb v := fun v h1 h2 h3 => hbands.out v h1 h2 (by
                  rcases h3 with h3 | ⟨h3, h4⟩
                  · exact Or.inl h3
                  · refine Or.inr ⟨h3, ?_⟩
                    rcases Nat.lt_or_ge v wd with h5 | h5
                    · exact h5
                    · exfalso
                      have e5 : wd = c := by omega
                      have e6 : ht = 1 := by rw [HHT.out, e5]; exact Nat.div_self (by omega)
                      have e7 : pr = c := by rw [HPR.out, e6, e5, Nat.one_mul]
                      omega)
                have HB2 := Lib.hid hbands2
                clear hbands2
                go_wp2_with fail
                go_roundw
                case rel => exact ⟨wd + 1, j + 1, by go_num, by show _ = _; rw [HW1.out], by omega, htab, hres, hbw, HB2.out, lst_skip hR.out hsk.out⟩
                case measure => simp [intOf]; omega
              · have d2 : ¬ ((m : Int) < (ht : Int)) := by omega
                have hsz : Hid (szT m C j = some (wd, ht)) := by
                  show _ = _
                  rw [HW1.out]
                  exact sz_some (by rw [← HW1.out, ← HC1.out, ← HE1.out, HPR.out]) (by omega)
                have hht0 : 1 ≤ ht := by
                  rcases Nat.eq_zero_or_pos ht with e | e
                  · have := HPR.out
                    rw [e, Nat.zero_mul] at this
                    have := HE1.out
                    omega
                  · exact e
                go_upto_if 46 with fail
                go_cut [] from 45 to 62 (fun wx => Hid (TabOk wx bb) ∧ Hid (wx.heap[w.heap.size]? = some (.cells #[.int .i64 0, .int .i64 0, .slice none 0 0] 27 (0, 0))) ∧ Below w.heap.size w wx ∧ Hid (∀ v, 1 ≤ v → v ≤ m → (v < c ∨ (v = c ∧ v < wd + 1)) → BandAt s wx bb v) ∧ Hid (BandAt s wx bb wd))
                case first =>
                  have wd0 : (0 : Int) ≤ (wd : Int) := by omega
                  have wd7 : (wd : Int) < 7 := by omega
                  have hbbi : bb < wi.heap.size := htab.out.1
                  by_cases e3 : ht = 1
                  · have d3 : ((ht : Int) == 1) = true := by rw [beq_iff_eq]; omega
                    clear e3
                    go_wp2_with (first
                      | (go_at_call 26; refine (HBD.out wd hwm wi hbw).mono ?_; rintro e w5 ⟨R, rc, O, oc, rfl, hband, hlo, hb5⟩; have HBAND := Lib.hid hband; have HLO := Lib.hid (hlo.mono (lo' := bb + 1) hbbi); have hT5 := htab.out.keep hb5; obtain ⟨u1, z1⟩ := hT5.2.1 (wd * 2) (by omega); obtain ⟨u2, z2⟩ := hT5.2.1 (wd * 2 + 1) (by omega); have zf1 := hT5.2.2 (wd * 2); have zf2 := hT5.2.2 (wd * 2 + 1); have HT5 := Lib.hid hT5; clear hband hlo hT5)
                      | fail)
                    have hg := (grown_one w5 bb (wd * 2) (.slice R (ringsE s wd).length rc)).trans (grown_one (w5.setCell ⟨bb, wd * 2, none⟩ (.slice R (ringsE s wd).length rc)) bb (wd * 2 + 1) (.slice (some ⟨O, 0, none⟩) (nlT s wd) oc))
                    have hmade := BandAt.made (rc := rc) (oc := oc) HBAND.out HLO.out ⟨_, z1⟩ ⟨_, z2⟩
                    have hothers : ∀ v, 1 ≤ v → v ≤ m → (v < c ∨ (v = c ∧ v < wd + 1)) → BandAt s ((w5.setCell ⟨bb, wd * 2, none⟩ (.slice R (ringsE s wd).length rc)).setCell ⟨bb, wd * 2 + 1, none⟩ (.slice (some ⟨O, 0, none⟩) (nlT s wd) oc)) bb v := fun v h1 h2 h3 => by
                      by_cases ev : v = wd
                      · rw [ev]; exact hmade
                      · exact ((hbands.out v h1 h2 (by omega)).keep hbbi hb5).set ev _ _
                    have hres7 : Hid (((w5.setCell ⟨bb, wd * 2, none⟩ (.slice R (ringsE s wd).length rc)).setCell ⟨bb, wd * 2 + 1, none⟩ (.slice (some ⟨O, 0, none⟩) (nlT s wd) oc)).heap[w.heap.size]? = some (.cells #[.int .i64 0, .int .i64 0, .slice none 0 0] 27 (0, 0))) := (hg.block _ (by have := hb5.size; omega) (by intro e; injection e with e; omega)).trans ((hb5.block _ (by omega)).trans hres.out)
                    have hb7 : Below w.heap.size w ((w5.setCell ⟨bb, wd * 2, none⟩ (.slice R (ringsE s wd).length rc)).setCell ⟨bb, wd * 2 + 1, none⟩ (.slice (some ⟨O, 0, none⟩) (nlT s wd) oc)) := (hbw.trans (hb5.mono hbw.size)).grown hg (by have := hb5.size; omega) (fun j e => by cases e; omega)
                    have HMADE := Lib.hid hmade
                    have HOTH := Lib.hid hothers
                    clear hmade hothers hg z1 z2 zf1 zf2
                    go_meet
                    exact ⟨(HT5.out.set _ _).set _ _, hres7, hb7, HOTH, HMADE⟩
                  · have d3 : ((ht : Int) == 1) = false := by rw [beq_eq_false_iff_ne]; omega
                    have hwc : wd < c := by
                      have h1 : 2 * wd ≤ ht * wd := Nat.mul_le_mul_right wd (by omega)
                      have := HPR.out
                      have := HE1.out
                      omega
                    clear e3
                    go_wp2_with fail
                    go_meet
                    exact ⟨htab, hres, hbw, fun v h1 h2 h3 => hbands.out v h1 h2 (by omega), hbands.out wd hwd1 hwm (Or.inl hwc)⟩
                case rest =>
                  clear htab hres hbw hbands
                  obtain ⟨htab, hres, hbw, hbands, hband⟩ := hcut
                  obtain ⟨R, rc, O, oc, k1, k2, hBI, hBL⟩ := hband.out
                  have wd0 : (0 : Int) ≤ (wd : Int) := by omega
                  have wd7 : (wd : Int) < 7 := by omega
                  have htor := firstT_tors s wd ht hht0
                  have hrw := HRN.out wd hwm
                  have hbbc : bb < wc.heap.size := htab.out.1
                  have HBI := Lib.hid hBI
                  have HTOR := Lib.hid htor
                  clear hBI hBL htor hband
                  cases hf : firstT s wd ht with
                  | none =>
                    have hls : Hid (lsF s (wd, ht) = none) := by
                      show (torsE s wd ht).head?.map _ = none
                      rw [← HTOR.out, hf]
                      rfl
                    have HF := Lib.hid hf
                    clear hf
                    go_wp2_with (first
                      | (go_at_call 27; refine (first_anyT s wd ht rc O oc R _ (by omega) hht0 (by omega) hrw HBI.out).mono ?_; rintro e w6 ⟨hb6, hresf⟩; rw [HF.out] at hresf; subst hresf)
                      | fail)
                    have htab6 : Hid (TabOk w6 bb) := htab.out.keep hb6
                    have hres6 : Hid (w6.heap[w.heap.size]? = some (.cells #[.int .i64 0, .int .i64 0, .slice none 0 0] 27 (0, 0))) := (hb6.block _ (by omega)).trans hres.out
                    have hbw6 := hbw.trans (hb6.mono (by omega))
                    have hbands6 : Hid (∀ v, 1 ≤ v → v ≤ m → (v < c ∨ (v = c ∧ v < wd + 1)) → BandAt s w6 bb v) := fun v h1 h2 h3 => (hbands.out v h1 h2 h3).keep hbbc hb6
                    clear htab hres hbands k1 k2
                    go_roundw
                    case rel => exact ⟨wd + 1, j + 1, by go_num, by show _ = _; rw [HW1.out], by omega, htab6, hres6, hbw6, hbands6, lst_none hR.out hsz.out hls.out⟩
                    case measure => simp [intOf]; omega
                  | some u =>
                    obtain ⟨rs, hrs⟩ : ∃ rs, rs = u.map fun i => (ringsE s wd).getD i [] := ⟨_, rfl⟩
                    have hls : lsF s (wd, ht) = some (wd, ht, rs) := by
                      show (torsE s wd ht).head?.map _ = _
                      rw [← HTOR.out, hf, hrs]
                      rfl
                    have hle : leastE s m = some (wd, ht, rs) := lst_found (by rw [← HM.out]; exact hCM1) hjm1 hK.out hR.out hsz.out hls
                    have HKK : Hid (∀ A cc e w', e = .returned (.tuple #[.agg #[.int .i64 (wd : Int), .int .i64 (ht : Int), .slice A rs.flatten.length cc], .int .i64 0]) → IntsIn w' w'.heap.size A (idxI rs.flatten) → Below w.heap.size w w' → IsLeastT s m w e w') := fun A cc e w' h1 h3 h2 => ⟨h2, by rw [if_neg (by rw [HC.out]; simp)]; simp only [Int.toNat_natCast]; rw [hle]; exact ⟨A, cc, h1, h3⟩⟩
                    obtain ⟨L, hL⟩ : ∃ L, L = rs.flatten.length := ⟨_, rfl⟩
                    have h0 : (0 : Int) < (ht : Int) := by omega
                    have HRS := Lib.hid hrs
                    have HF := Lib.hid hf
                    have HL := Lib.hid hL
                    clear hf hrs hL hle hls
                    go_wp2_with (first
                      | (go_at_call 27; refine (first_anyT s wd ht rc O oc R _ (by omega) hht0 (by omega) hrw HBI.out).mono ?_; rintro e w3 ⟨hb4, hresf⟩; rw [HF.out] at hresf; obtain ⟨g, rfl, hg2, hg3, hul, hui, hrng⟩ := hresf; have hp3 := (hb4.block w.heap.size (by omega)).trans hres.out; have HP3 := Lib.hid hp3; have HUL := Lib.hid hul; have HUI := Lib.hid hui; have HRNG := Lib.hid hrng; clear hp3 hul hui hrng)
                      | (go_at_call 28; refine (pattern_anyT s wd wd ht g rs w3 (by omega) (by omega) (by omega) (by rw [HRS.out, List.length_map]; exact HUL.out.symm) (by rw [HRS.out]; exact tors_len HUI.out) (fun W hb y r hr => rangeAt_keep (HRNG.out y r (by rw [← HRS.out]; exact hr)) hb hg3)).mono ?_; rintro e w4 ⟨A, cc, rfl, hI, hb5, hA⟩; rw [← HL.out]; have hp4 := (hb5.block w.heap.size (Array.getElem?_eq_some_iff.1 HP3.out).1).trans HP3.out; have HP4 := Lib.hid hp4; have HI := Lib.hid hI; obtain ⟨y0, y1, y2, y3⟩ := zcells hp4; clear hp4 hI)
                      | fail)
                    obtain ⟨x0, x1, x2, -⟩ := zcells (sets3T (a := .int .i64 wd) (b := .int .i64 ht) (c := .slice A L cc) HP4.out)
                    refine bodyPost_ret (v := .tuple #[.agg #[.int .i64 wd, .int .i64 ht, .slice A L cc], .int .i64 0]) (by simp [results, Tryd.results15, go_sem, x0, x1, x2]) rfl ?_
                    have hs3 := hb4.size
                    have hlow : w.heap.size < w3.heap.size := (Array.getElem?_eq_some_iff.1 HP3.out).1
                    exact HKK.out A cc _ _ (by rw [← HL.out]) (ints_grownT HI.out (grown3T w4 w.heap.size _ _ _) fun b e => by have := hA b e; omega) (below3T ((hbw.trans (hb4.mono (by omega))).trans (hb5.mono (by omega))) (Nat.le_refl _))
            · have d1 : ((pr : Int) != (c : Int)) = true := by simp; omega
              have hsk : Hid (szT m C j = none) := sz_no (Or.inl (by rw [← HC1.out, ← HW1.out, ← HHT.out, ← HPR.out]; exact e1))
              have hbands2 : ∀ v, 1 ≤ v → v ≤ m → (v < c ∨ (v = c ∧ v < wd + 1)) → BandAt s wi bb v := fun v h1 h2 h3 => hbands.out v h1 h2 (by
                rcases h3 with h3 | ⟨h3, h4⟩
                · exact Or.inl h3
                · refine Or.inr ⟨h3, ?_⟩
                  rcases Nat.lt_or_ge v wd with h5 | h5
                  · exact h5
                  · exfalso
                    have e5 : wd = c := by omega
                    have e6 : ht = 1 := by rw [HHT.out, e5]; exact Nat.div_self (by omega)
                    have e7 : pr = c := by rw [HPR.out, e6, e5, Nat.one_mul]
                    exact e1 e7)
              have HB2 := Lib.hid hbands2
              clear hbands2
              go_wp2_with fail
              go_roundw
              case rel => exact ⟨wd + 1, j + 1, by go_num, by show _ = _; rw [HW1.out], by omega, htab, hres, hbw, HB2.out, lst_skip hR.out hsk.out⟩
              case measure => simp [intOf]; omega
          · have e : j = m := by omega
            have hK2 : Hid (lstK s m (C + 1) = none) := lst_end hK.out (by have := hR.out; rw [e] at this; exact this)
            have hb3 : Hid (∀ v, 1 ≤ v → v ≤ m → v < c + 1 → BandAt s wi bb v) := fun v h1 h2 h3 => hbands.out v h1 h2 (by omega)
            clear hwj1 hK hR
            go_wp2_with fail
            go_roundw
            case rel => exact ⟨c + 1, C + 1, by go_num, by show _ = _; rw [HC1.out], by omega, htab, hres, hbw, hb3, hK2⟩
            case measure => simp [intOf]; omega
      · have hCM2 : C = M := by omega
        have hle : leastE s m = none := by
          have := hK.out
          rw [hCM2, HM.out, lst_all] at this
          exact this
        have HK : Hid (∀ e w', e = .returned (.tuple #[zPat, .int .i64 6]) → Below w.heap.size w w' → IsLeastT s m w e w') := fun e w' h1 h2 => ⟨h2, by rw [if_neg (by rw [HC.out]; simp)]; simp only [Int.toNat_natCast]; rw [hle]; exact h1⟩
        have HRES := Lib.hid hres.out
        obtain ⟨y0, y1, y2, y3⟩ := zcells hres.out
        clear hle hres hc1 hcC hCM2
        go_wp2_with fail
        obtain ⟨x0, x1, x2, -⟩ := zcells (sets3T (a := .int .i64 0) (b := .int .i64 0) (c := .slice none 0 0) HRES.out)
        refine bodyPost_ret (v := .tuple #[.agg #[.int .i64 0, .int .i64 0, .slice none 0 0], .int .i64 6]) (by simp [results, Tryd.results15, go_sem, x0, x1, x2]) rfl ?_
        exact HK.out _ _ rfl (below3T hbw (Nat.le_refl _))
end Go.Proofs.YthjponagoahdhaaDoor

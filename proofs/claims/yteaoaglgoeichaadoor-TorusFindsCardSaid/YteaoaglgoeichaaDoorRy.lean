/-
  groutworkref03.Least: the torus of the first size that has one.
-/
import Derived.Test.YteaoaglgoeichaaDoorRx
namespace Go.Proofs.YteaoaglgoeichaaDoor
open Go.RowKit Go.Maps Go.BigFrame Go.Sort
set_option linter.unusedVariables false
set_option linter.unusedSimpArgs false
set_option maxRecDepth 100000

/-- what Least returns -/
def IsLeastR (s : List Tl) (mo : Nat) (W : World) (e : Ending) (w' : World) : Prop :=
  Below W.heap.size W w' ∧ match leastE s mo with
    | none => e = .returned (.tuple #[.agg #[.int .i64 0, .int .i64 0, .slice none 0 0], .bool false])
    | some (a, b, t) => ∃ A cc, e = .returned (.tuple #[.agg #[.int .i64 (a : Nat), .int .i64 (b : Nat), .slice A t.flatten.length cc], .bool true]) ∧ IntsIn w' w'.heap.size A (idxI t.flatten) ∧ ∀ q, A = some q → W.heap.size ≤ q.block
set_option maxHeartbeats 8000000 in
theorem rleast_any (s : List Tl) (S : Option Addr) (md sc m : Nat) (w : World) (hF : ∀ W a b, Below w.heap.size w W → 1 ≤ a → a ≤ m → 1 ≤ b → b ≤ m → Calls Tryd.prog 11 #[.slice S md sc, .int .i64 (a : Int), .int .i64 (b : Int)] W (IsFindR s a b W)) (hm1 : 1 ≤ m) (hm6 : m ≤ 6) :
    Calls Tryd.prog 14 #[.slice S md sc, .int .i64 (m : Int)] w (IsLeastR s m w) := by
  obtain ⟨M, hM⟩ : ∃ M, M = m * m := ⟨_, rfl⟩
  have hM36 : M ≤ 36 := by rw [hM]; exact Nat.mul_le_mul hm6 hm6
  have mp : IntKind.i64.wrap ((m : Int) * (m : Int)) = (M : Int) := by
    have : (m : Int) * (m : Int) = (M : Int) := by rw [hM, Int.natCast_mul]
    rw [this]
    exact IntWalk.i64_in _ (by omega)
  obtain ⟨W1, hW1⟩ : ∃ W1, W1 = w.alloc (.cells #[.int .i64 0, .int .i64 0, .slice none 0 0] 27) := ⟨_, rfl⟩
  have hres1 : W1.heap[w.heap.size]? = some (.cells #[.int .i64 0, .int .i64 0, .slice none 0 0] 27 (0, 0)) := by rw [hW1]; exact heap_at _ _ _ rfl
  have hb1' : Below w.heap.size w W1 := by rw [hW1]; exact (Below.refl _ _).alloc (Nat.le_refl _) _
  have hzz1 : w.heap.size < W1.heap.size := (Array.getElem?_eq_some_iff.1 hres1).1
  have HW1 := Lib.hid hW1
  have HB1 := Lib.hid hb1'
  have HRS := Lib.hid hres1
  have HM := Lib.hid hM
  have HF := Lib.hid hF
  clear hM hW1 hb1' hres1 hF
  go_enter Tryd.func14, Tryd.ntmps14
  go_wp2_with fail
  rw [← HW1.out]
  go_loopw [6] (fun cv wr => ∃ c C : Nat, cv = .int .i64 (c : Int) ∧ Hid (c = C + 1) ∧ C ≤ M ∧ Hid (Below W1.heap.size W1 wr) ∧ Hid (lstK s m C = none)) (fun cv _ => M + 1 - (intOf cv).toNat)
  case atStart => exact ⟨1, 0, rfl, rfl, Nat.zero_le _, Below.refl _ _, rfl⟩
  case round =>
    obtain ⟨c, C, rfl, hcC, hCM, hbr, hK⟩ := hrel
    obtain ⟨wo, rfl⟩ : ∃ wo : World, wo = wr := ⟨_, rfl⟩
    have hc1 : c = C + 1 := hcC
    by_cases hcM : c ≤ M
    · have HC1 := Lib.hid hc1
      have hcM' : (c : Int) ≤ (M : Int) := by omega
      have hCM1 : C < M := by omega
      have hc36 : c ≤ 36 := by omega
      have hc01 : 1 ≤ c := by omega
      clear hc1
      go_wp2_with fail
      go_loopw [7] (fun wv wr => ∃ wd j : Nat, wv = .int .i64 (wd : Int) ∧ Hid (wd = j + 1) ∧ j ≤ m ∧ Hid (Below W1.heap.size W1 wr) ∧ Hid (lstR s m C j = none)) (fun wv _ => m + 1 - (intOf wv).toNat)
      case atStart => exact ⟨1, 0, rfl, rfl, Nat.zero_le _, hbr, rfl⟩
      case round =>
        clear hbr
        obtain ⟨wd, j, rfl, hwj, hjm, hbr, hR⟩ := hrel
        obtain ⟨wi, rfl⟩ : ∃ wi : World, wi = wr := ⟨_, rfl⟩
        have hwj1 : wd = j + 1 := hwj
        by_cases hwm : wd ≤ m
        · have hwm' : (wd : Int) ≤ (m : Int) := by omega
          have hjm1 : j < m := by omega
          have hwd1 : 1 ≤ wd := by omega
          have hwd6 : wd ≤ 6 := by omega
          have hwd0 : ¬ ((wd : Int) = 0) := by omega
          have HW1' := Lib.hid hwj1
          clear hwj1
          obtain ⟨ht, hht⟩ : ∃ ht, ht = c / wd := ⟨_, rfl⟩
          have hq : Int.tdiv (c : Int) (wd : Int) = (ht : Int) := by rw [hht]; rfl
          have hht36 : ht ≤ 36 := by rw [hht]; exact Nat.le_trans (Nat.div_le_self _ _) hc36
          obtain ⟨rm, hrm⟩ : ∃ rm, rm = c % wd := ⟨_, rfl⟩
          have hrr : Int.tmod (c : Int) (wd : Int) = (rm : Int) := by rw [hrm]; rfl
          have HHT := Lib.hid hht
          have HRM := Lib.hid hrm
          clear hht hrm
          by_cases e1 : rm = 0
          · have d1 : ((rm : Int) != 0) = false := by simp; omega
            have HE1 := Lib.hid e1
            clear e1
            by_cases e2 : m < ht
            · have d2 : (m : Int) < (ht : Int) := by omega
              have hsk : Hid (szT m C j = none) := by
                show _ = _
                unfold szT
                rw [if_neg]
                rintro ⟨_, h2⟩
                rw [← HC1.out, ← HW1'.out, ← HHT.out] at h2
                omega
              go_wp2_with fail
              go_roundw
              case rel => exact ⟨wd + 1, j + 1, by go_num, by show _ = _; rw [HW1'.out], by omega, hbr, lst_skip hR.out hsk.out⟩
              case measure => simp [intOf]; omega
            · have d2 : ¬ ((m : Int) < (ht : Int)) := by omega
              have hsz : Hid (szT m C j = some (wd, ht)) := by
                show _ = _
                unfold szT
                rw [← HC1.out, ← HW1'.out, ← HHT.out, ← HRM.out, if_pos ⟨HE1.out, by omega⟩]
              have hht0 : 1 ≤ ht := by
                rcases Nat.eq_zero_or_pos ht with e | e
                · have h1 := Nat.div_add_mod c wd
                  rw [← HHT.out, ← HRM.out, e, HE1.out] at h1
                  omega
                · exact e
              have hbw : Below w.heap.size w wi := HB1.out.trans (hbr.out.mono HB1.out.size)
              have hfd := HF.out wi wd ht hbw (by omega) hwm hht0 (by omega)
              have hpo := (hbr.out.block w.heap.size hzz1).trans HRS.out
              have hwo : w.heap.size < wi.heap.size := (Array.getElem?_eq_some_iff.1 hpo).1
              have HPO := Lib.hid hpo
              have HBW := Lib.hid hbw
              cases ht1 : (torsE s wd ht).head? with
              | none =>
                have hls : Hid (lsF s (wd, ht) = none) := by
                  show (torsE s wd ht).head?.map _ = none
                  rw [ht1]; rfl
                have HFD : Hid (Calls Tryd.prog 11 #[.slice S md sc, .int .i64 (wd : Int), .int .i64 (ht : Int)] wi fun e w' => e = .returned (.tuple #[.agg #[.int .i64 0, .int .i64 0, .slice none 0 0], .bool false]) ∧ Below wi.heap.size wi w') := hfd.mono fun e w' h => by
                  obtain ⟨h1, h2⟩ := h
                  rw [ht1] at h2
                  exact ⟨h2, h1⟩
                clear hfd ht1 hbw hpo
                go_wp2_with (go_at_call 11; refine HFD.out.mono ?_; rintro e w5 ⟨rfl, hb5⟩)
                go_roundw
                case rel => exact ⟨wd + 1, j + 1, by go_num, by show _ = _; rw [HW1'.out], by omega, hbr.out.trans ((hb5.alloc hb5.size _).mono hbr.out.size), lst_none hR.out hsz.out hls.out⟩
                case measure => simp [intOf]; omega
              | some t =>
                have hle : Hid (leastE s m = some (wd, ht, t)) := by
                  refine lst_found (p := (wd, ht)) (by rw [← HM.out]; exact hCM1) hjm1 hK.out hR.out hsz.out ?_
                  show (torsE s wd ht).head?.map _ = _
                  rw [ht1]; rfl
                obtain ⟨L, hL⟩ : ∃ L, L = t.flatten.length := ⟨_, rfl⟩
                have HFD : Hid (Calls Tryd.prog 11 #[.slice S md sc, .int .i64 (wd : Int), .int .i64 (ht : Int)] wi fun e w' => ∃ A cc, e = .returned (.tuple #[.agg #[.int .i64 (wd : Int), .int .i64 (ht : Int), .slice A L cc], .bool true]) ∧ Hid (IntsIn w' w'.heap.size A (idxI t.flatten)) ∧ Hid (∀ q, A = some q → wi.heap.size ≤ q.block) ∧ Below wi.heap.size wi w') := hfd.mono fun e w' h => by
                  obtain ⟨h1, h2⟩ := h
                  rw [ht1] at h2
                  obtain ⟨A, cc, h3, h4, h5⟩ := h2
                  exact ⟨A, cc, by rw [hL]; exact h3, h4, h5, h1⟩
                have HL := Lib.hid hL
                clear hfd ht1 hbw hpo hL
                go_wp2_with (go_at_call 11; refine HFD.out.mono ?_; rintro e w5 ⟨A, cc, rfl, hI, hA, hb5⟩; have hpz := (hb5.block w.heap.size hwo).trans HPO.out; have hpy := heap_kp hpz (.cells #[.int .i64 (wd : Int), .int .i64 (ht : Int), .slice A L cc] 27); have HPY := Lib.hid hpy; obtain ⟨y0, y1, y2, y3⟩ := zcells hpy; clear hpz hpy)
                obtain ⟨x0, x1, x2, -⟩ := zcells (row_set (a := .int .i64 (wd : Int)) (b := .int .i64 (ht : Int)) (c := .slice A L cc) HPY.out)
                refine bodyPost_ret (v := .tuple #[.agg #[.int .i64 (wd : Int), .int .i64 (ht : Int), .slice A L cc], .bool true]) (by simp [results, Tryd.results14, go_sem, x0, x1, x2]) rfl ?_
                have hb5w : Below w.heap.size w (w5.alloc (.cells #[.int .i64 (wd : Int), .int .i64 (ht : Int), .slice A L cc] 27)) := (HBW.out.trans (hb5.mono HBW.out.size)).alloc (by have := hb5.size; omega) _
                refine ⟨((hb5w.setCell (p := ⟨w.heap.size, 0, none⟩) (by simp) _).setCell (p := ⟨w.heap.size, 1, none⟩) (by simp) _).setCell (p := ⟨w.heap.size, 2, none⟩) (by simp) _, ?_⟩
                rw [hle.out]
                refine ⟨A, cc, by rw [HL.out], ints_grownT (hI.out.keep ((Below.refl w5.heap.size w5).alloc (Nat.le_refl _) _) (by simp)) (grown3T _ w.heap.size _ _ _) (fun q e => by have := hA.out q e; omega), fun q e => by have := hA.out q e; omega⟩
          · have d1 : ((rm : Int) != 0) = true := by simp; omega
            have hsk : Hid (szT m C j = none) := by
              show _ = _
              unfold szT
              rw [if_neg]
              rintro ⟨h2, _⟩
              rw [← HC1.out, ← HW1'.out, ← HRM.out] at h2
              omega
            clear e1
            go_wp2_with fail
            go_roundw
            case rel => exact ⟨wd + 1, j + 1, by go_num, by show _ = _; rw [HW1'.out], by omega, hbr, lst_skip hR.out hsk.out⟩
            case measure => simp [intOf]; omega
        · have hje : j = m := by omega
          have hwm' : ¬ ((wd : Int) ≤ (m : Int)) := by omega
          have hK2 : Hid (lstK s m (C + 1) = none) := lst_end hK.out (by have h := hR.out; rw [hje] at h; exact h)
          clear hje hwj1
          go_wp2_with fail
          go_roundw
          case rel => exact ⟨c + 1, C + 1, by go_num, by show _ = _; rw [HC1.out], by omega, hbr, hK2⟩
          case measure => simp [intOf]; omega
    · have hCe : C = M := by omega
      have hcM' : ¬ ((c : Int) ≤ (M : Int)) := by omega
      have hle : Hid (leastE s m = none) := by
        have := hK.out
        rw [hCe, HM.out, lst_all] at this
        exact this
      have hpo := (hbr.out.block w.heap.size hzz1).trans HRS.out
      obtain ⟨y0, y1, y2, y3⟩ := zcells hpo
      have HPO := Lib.hid hpo
      have HBW := Lib.hid (HB1.out.trans (hbr.out.mono HB1.out.size))
      clear hCe hc1 hpo
      go_wp2_with fail
      obtain ⟨x0, x1, x2, -⟩ := zcells (row_set (a := .int .i64 0) (b := .int .i64 0) (c := .slice none 0 0) HPO.out)
      refine bodyPost_ret (v := .tuple #[.agg #[.int .i64 0, .int .i64 0, .slice none 0 0], .bool false]) (by simp [results, Tryd.results14, go_sem, x0, x1, x2]) rfl ?_
      refine ⟨((HBW.out.setCell (p := ⟨w.heap.size, 0, none⟩) (by simp) _).setCell (p := ⟨w.heap.size, 1, none⟩) (by simp) _).setCell (p := ⟨w.heap.size, 2, none⟩) (by simp) _, ?_⟩
      rw [hle.out]
end Go.Proofs.YteaoaglgoeichaaDoor

/-
  'groutworklaw04.StripCores' is true at every input.
-/
import Derived.Test.YtgadfmknjpanpaaDoorSrg
import Derived.Test.YtgadfmknjpanpaaDoorSab
import Derived.Test.YtgadfmknjpanpaaDoorRa
import Derived.Test.YtgadfmknjpanpaaDoorSm
namespace Go.Proofs.YtgadfmknjpanpaaDoor
open Go.RowKit Go.Maps
set_option linter.unusedVariables false
set_option linter.unusedSimpArgs false
set_option maxRecDepth 100000

set_option maxHeartbeats 2000000 in
theorem stcores_any (s : List Tl) (S : Option Addr) (m cp : Nat) (w : World) (hEnv : Env w) (hm : m = s.length) (hmd : m ≤ cp) (hdl : cp ≤ 9223372036854775807) (hS : SetIn w w.heap.size S s) (hwf : ∀ t ∈ s, twf t) (hml : m ≤ 9223372036854775807) :
    Calls Tryd.prog 3 #[.slice S m cp] w fun e w' => e = .returned (.bool true) ∧ Below w.heap.size w w' := by
  have HAW : Hid (∀ W, Below w.heap.size w W → Calls Tryd.prog 8 #[] W fun e w' => e = .returned (.bool true) ∧ Below w.heap.size w w') := fun W hb => (awake4_any W (hEnv.keep hb)).mono fun e w' ⟨h1, h2⟩ => ⟨h1, hb.trans (h2.mono hb.size)⟩
  have hb0 : Below w.heap.size w w := Below.refl _ _
  by_cases c1 : m ≤ 1100
  rotate_left
  · clear hm hS hwf hEnv
    go_enter Tryd.func3, Tryd.ntmps3
    go_wp2_with (go_at_call 8; refine (HAW.out _ hb0).mono ?_; rintro e wz ⟨rfl, hbz⟩)
    go_ret
    exact ⟨rfl, hbz⟩
  have hva : ∀ W, Below w.heap.size w W → Calls Tryd.prog 7 #[.slice S m cp] W fun e w' => e = .returned (.bool (vld s)) ∧ Below W.heap.size W w' := fun W hb => rvalid_any s S m cp W hm hmd hdl (hS.keep hb hb.size)
  cases hv : vld s
  · have HVA : Hid (∀ W, Below w.heap.size w W → Calls Tryd.prog 7 #[.slice S m cp] W fun e w' => e = .returned (.bool false) ∧ Below w.heap.size w w') := fun W hb => (hva W hb).mono fun e w' ⟨h1, h2⟩ => ⟨by rw [h1, hv], hb.trans (h2.mono hb.size)⟩
    have HCO : Hid (∀ W, Below w.heap.size w W → Calls Tryd.prog 9 #[.slice S m cp] W fun e w' => e = .returned (.tuple #[.slice none 0 0, .int .i64 1]) ∧ Below w.heap.size w w') := fun W hb => (core_any s S m cp W hm (hS.keep hb hb.size) hwf hml).mono fun e w' ⟨h1, h2⟩ => ⟨by rw [if_pos hv] at h2; exact h2, hb.trans (h1.mono hb.size)⟩
    have HRO : Hid (∀ W, Below w.heap.size w W → Calls Tryd.prog 10 #[.slice S m cp] W fun e w' => e = .returned (.tuple #[.int .i64 0, .int .i64 1]) ∧ Below w.heap.size w w') := fun W hb => (rows_anyS s S m cp W hm (hS.keep hb hb.size) hwf hml).mono fun e w' ⟨h1, h2⟩ => ⟨by rw [if_pos hv] at h2; exact h2, hb.trans (h1.mono hb.size)⟩
    clear hm hS hwf hEnv hv hva
    go_enter Tryd.func3, Tryd.ntmps3
    go_wp2_with (first | (go_at_call 7; refine (HVA.out _ (by assumption)).mono ?_; rintro e w1 ⟨rfl, hb1⟩) | (go_at_call 9; refine (HCO.out _ (by assumption)).mono ?_; rintro e w2 ⟨rfl, hb2⟩) | (go_at_call 10; refine (HRO.out _ (by assumption)).mono ?_; rintro e w3 ⟨rfl, hb3⟩) | (go_at_call 8; refine (HAW.out _ (by assumption)).mono ?_; rintro e wz ⟨rfl, hbz⟩))
    go_ret
    exact ⟨rfl, hbz⟩
  have HVA : Hid (∀ W, Below w.heap.size w W → Calls Tryd.prog 7 #[.slice S m cp] W fun e w' => e = .returned (.bool true) ∧ Below w.heap.size w w') := fun W hb => (hva W hb).mono fun e w' ⟨h1, h2⟩ => ⟨by rw [h1, hv], hb.trans (h2.mono hb.size)⟩
  have HVA2 : Hid (∀ W, Below w.heap.size w W → Calls Tryd.prog 7 #[.slice S m cp] W fun e w' => e = .returned (.bool true) ∧ Below W.heap.size W w') := fun W hb => (hva W hb).mono fun e w' ⟨h1, h2⟩ => ⟨by rw [h1, hv], h2⟩
  by_cases c2 : m ≤ 60
  rotate_left
  · clear hm hS hwf hEnv hv hva
    go_enter Tryd.func3, Tryd.ntmps3
    go_wp2_with (first | (go_at_call 7; refine (HVA.out _ (by assumption)).mono ?_; rintro e w1 ⟨rfl, hb1⟩) | (go_at_call 8; refine (HAW.out _ (by assumption)).mono ?_; rintro e wz ⟨rfl, hbz⟩))
    go_ret
    exact ⟨rfl, hbz⟩
  obtain ⟨ln, hln⟩ : ∃ ln, ln = (coreE s).length := ⟨_, rfl⟩
  have hlen : ln = (idxI (coreE s)).length := by rw [hln]; simp [idxI]
  have hl60 : ln ≤ 9223372036854775807 := by rw [hln]; have := coreE_le s; omega
  have HCO : Hid (∀ W, Below w.heap.size w W → Calls Tryd.prog 9 #[.slice S m cp] W fun e w' => ∃ A c, e = .returned (.tuple #[.slice A ln c, .int .i64 0]) ∧ IntsIn w' w'.heap.size A (idxI (coreE s)) ∧ Below w.heap.size w w') := fun W hb => (core_any s S m cp W hm (hS.keep hb hb.size) hwf hml).mono fun e w' ⟨h1, h2⟩ => by
    rw [if_neg (by rw [hv]; decide)] at h2
    obtain ⟨A, c, he, hI⟩ := h2
    exact ⟨A, c, by rw [hln]; exact he, hI, hb.trans (h1.mono hb.size)⟩
  have HRC : Hid (∀ W, Below w.heap.size w W → Calls Tryd.prog 12 #[.slice S m cp] W fun e w' => ∃ A c, e = .returned (.slice A ln c) ∧ IntsIn w' w'.heap.size A (idxI (coreE s)) ∧ Below W.heap.size W w') := fun W hb => (rcore_any s S m cp W hm (by omega) (hS.keep hb hb.size)).mono fun e w' ⟨A, c, he, hI, h1⟩ => ⟨A, c, by rw [hln]; exact he, hI, h1⟩
  have HSA : Hid (∀ W A C c d, Below w.heap.size w W → IntsIn W W.heap.size A (idxI (coreE s)) → IntsIn W W.heap.size C (idxI (coreE s)) → Calls Tryd.prog 11 #[.slice A ln c, .slice C ln d] W fun e w' => e = .returned (.bool true) ∧ Below w.heap.size w w') := fun W A C c d hb h1 h2 => (rsameI_any (idxI (coreE s)) A C ln ln c d W hlen hlen hl60 h1 h2).mono fun e w' ⟨h3, h4⟩ => ⟨h3, hb.trans (h4.mono hb.size)⟩
  have hro := fun W (hb : Below w.heap.size w W) => rows_anyS s S m cp W hm (hS.keep hb hb.size) hwf hml
  have hrr := fun W (hb : Below w.heap.size w W) => rrows_any s S m cp W hm (by omega) (hS.keep hb hb.size)
  cases hrl : rowsL s with
  | none =>
    have HRO : Hid (∀ W, Below w.heap.size w W → Calls Tryd.prog 10 #[.slice S m cp] W fun e w' => e = .returned (.tuple #[.int .i64 0, .int .i64 6]) ∧ Below W.heap.size W w') := fun W hb => (hro W hb).mono fun e w' ⟨h1, h2⟩ => ⟨by rw [if_neg (by rw [hv]; decide), hrl] at h2; exact h2, h1⟩
    have HRR : Hid (∀ W, Below w.heap.size w W → Calls Tryd.prog 13 #[.slice S m cp] W fun e w' => e = .returned (.tuple #[.int .i64 0, .bool false]) ∧ Below w.heap.size w w') := fun W hb => (hrr W hb).mono fun e w' ⟨h1, h2⟩ => ⟨by rw [hrl] at h2; exact h2, hb.trans (h1.mono hb.size)⟩
    clear hm hS hwf hEnv hv hva hro hrr hrl hln hlen
    go_enter Tryd.func3, Tryd.ntmps3
    go_wp2_with (first | (go_at_call 7; refine (HVA2.out _ hb3).mono ?_; rintro e w4 ⟨rfl, hb34⟩; have hb4 := hb3.trans (hb34.mono hb3.size)) | (go_at_call 7; refine (HVA.out _ (by assumption)).mono ?_; rintro e w1 ⟨rfl, hb1⟩) | (go_at_call 9; refine (HCO.out _ (by assumption)).mono ?_; rintro e w2 ⟨A2, c2, rfl, hI2, hb2⟩) | (go_at_call 10; refine (HRO.out _ hb2).mono ?_; rintro e w3 ⟨rfl, hb23⟩; have hI3 := hI2.keep hb23 hb23.size; have hb3 := hb2.trans (hb23.mono hb2.size)) | (go_at_call 12; refine (HRC.out _ hb4).mono ?_; rintro e w5 ⟨A5, c5, rfl, hI5, hb45⟩; have hI35 := (hI3.keep hb34 hb34.size).keep hb45 hb45.size; have hb5 := hb4.trans (hb45.mono hb4.size)) | (go_at_call 11; refine (HSA.out _ _ _ _ _ hb5 hI35 hI5).mono ?_; rintro e w6 ⟨rfl, hb6⟩) | (go_at_call 13; refine (HRR.out _ hb6).mono ?_; rintro e w7 ⟨rfl, hb7⟩) | (go_at_call 8; refine (HAW.out _ (by assumption)).mono ?_; rintro e wz ⟨rfl, hbz⟩))
    go_ret
    exact ⟨rfl, hbz⟩
  | some j =>
    have HRO : Hid (∀ W, Below w.heap.size w W → Calls Tryd.prog 10 #[.slice S m cp] W fun e w' => e = .returned (.tuple #[.int .i64 (j : Int), .int .i64 0]) ∧ Below W.heap.size W w') := fun W hb => (hro W hb).mono fun e w' ⟨h1, h2⟩ => ⟨by rw [if_neg (by rw [hv]; decide), hrl] at h2; exact h2, h1⟩
    have HRR : Hid (∀ W, Below w.heap.size w W → Calls Tryd.prog 13 #[.slice S m cp] W fun e w' => e = .returned (.tuple #[.int .i64 (j : Int), .bool true]) ∧ Below w.heap.size w w') := fun W hb => (hrr W hb).mono fun e w' ⟨h1, h2⟩ => ⟨by rw [hrl] at h2; exact h2, hb.trans (h1.mono hb.size)⟩
    clear hm hS hwf hEnv hv hva hro hrr hrl hln hlen
    go_enter Tryd.func3, Tryd.ntmps3
    go_wp2_with (first | (go_at_call 7; refine (HVA2.out _ hb3).mono ?_; rintro e w4 ⟨rfl, hb34⟩; have hb4 := hb3.trans (hb34.mono hb3.size)) | (go_at_call 7; refine (HVA.out _ (by assumption)).mono ?_; rintro e w1 ⟨rfl, hb1⟩) | (go_at_call 9; refine (HCO.out _ (by assumption)).mono ?_; rintro e w2 ⟨A2, c2, rfl, hI2, hb2⟩) | (go_at_call 10; refine (HRO.out _ hb2).mono ?_; rintro e w3 ⟨rfl, hb23⟩; have hI3 := hI2.keep hb23 hb23.size; have hb3 := hb2.trans (hb23.mono hb2.size)) | (go_at_call 12; refine (HRC.out _ hb4).mono ?_; rintro e w5 ⟨A5, c5, rfl, hI5, hb45⟩; have hI35 := (hI3.keep hb34 hb34.size).keep hb45 hb45.size; have hb5 := hb4.trans (hb45.mono hb4.size)) | (go_at_call 11; refine (HSA.out _ _ _ _ _ hb5 hI35 hI5).mono ?_; rintro e w6 ⟨rfl, hb6⟩) | (go_at_call 13; refine (HRR.out _ hb6).mono ?_; rintro e w7 ⟨rfl, hb7⟩) | (go_at_call 8; refine (HAW.out _ (by assumption)).mono ?_; rintro e wz ⟨rfl, hbz⟩))
    go_ret
    exact ⟨rfl, hbz⟩
end Go.Proofs.YtgadfmknjpanpaaDoor

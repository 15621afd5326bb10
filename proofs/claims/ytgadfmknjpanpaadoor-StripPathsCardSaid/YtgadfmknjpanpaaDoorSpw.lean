/-
  'groutworklaw04.StripPaths' is true at every input.
-/
import Derived.Test.YtgadfmknjpanpaaDoorSrq
import Derived.Test.YtgadfmknjpanpaaDoorSab
import Derived.Test.YtgadfmknjpanpaaDoorRa
import Derived.Test.YtgadfmknjpanpaaDoorSm
namespace Go.Proofs.YtgadfmknjpanpaaDoor
open Go.RowKit Go.Maps
set_option linter.unusedVariables false
set_option linter.unusedSimpArgs false
set_option maxRecDepth 100000

set_option maxHeartbeats 2000000 in
theorem stpaths_any (s : List Tl) (S : Option Addr) (m cp : Nat) (fr to' n : Int) (w : World) (hEnv : Env w) (hm : m = s.length) (hmd : m ≤ cp) (hdl : cp ≤ 9223372036854775807) (hS : SetIn w w.heap.size S s) (hwf : ∀ t ∈ s, twf t) (hml : m ≤ 9223372036854775807) :
    Calls Tryd.prog 5 #[.slice S m cp, .int .i64 fr, .int .i64 to', .int .i64 n] w fun e w' => e = .returned (.bool true) ∧ Below w.heap.size w w' := by
  have HAW : Hid (∀ W, Below w.heap.size w W → Calls Tryd.prog 8 #[] W fun e w' => e = .returned (.bool true) ∧ Below w.heap.size w w') := fun W hb => (awake4_any W (hEnv.keep hb)).mono fun e w' ⟨h1, h2⟩ => ⟨h1, hb.trans (h2.mono hb.size)⟩
  have hb0 : Below w.heap.size w w := Below.refl _ _
  by_cases c1 : m ≤ 1100
  rotate_left
  · clear hm hS hwf hEnv
    go_enter Tryd.func5, Tryd.ntmps5
    go_wp2_with (go_at_call 8; refine (HAW.out _ hb0).mono ?_; rintro e wz ⟨rfl, hbz⟩)
    go_ret
    exact ⟨rfl, hbz⟩
  have hva : ∀ W, Below w.heap.size w W → Calls Tryd.prog 7 #[.slice S m cp] W fun e w' => e = .returned (.bool (vld s)) ∧ Below w.heap.size w w' := fun W hb => (rvalid_any s S m cp W hm hmd hdl (hS.keep hb hb.size)).mono fun e w' ⟨h1, h2⟩ => ⟨h1, hb.trans (h2.mono hb.size)⟩
  have hpa : ∀ W, Below w.heap.size w W → Calls Tryd.prog 18 #[.slice S m cp, .int .i64 fr, .int .i64 to', .int .i64 n] W (IsPathS s fr to' n W) := fun W hb => path_any s S m cp fr to' n W hm (hS.keep hb hb.size) hwf hml
  cases hv : vld s
  · have HVA : Hid (∀ W, Below w.heap.size w W → Calls Tryd.prog 7 #[.slice S m cp] W fun e w' => e = .returned (.bool false) ∧ Below w.heap.size w w') := fun W hb => (hva W hb).mono fun e w' ⟨h1, h2⟩ => ⟨by rw [h1, hv], h2⟩
    have HPA : Hid (∀ W, Below w.heap.size w W → Calls Tryd.prog 18 #[.slice S m cp, .int .i64 fr, .int .i64 to', .int .i64 n] W fun e w' => e = .returned (.tuple #[.slice none 0 0, .int .i64 1]) ∧ Below w.heap.size w w') := fun W hb => (hpa W hb).mono fun e w' ⟨h1, h2⟩ => ⟨by rw [if_pos hv] at h2; exact h2, hb.trans (h1.mono hb.size)⟩
    clear hm hS hwf hEnv hv hva hpa
    go_enter Tryd.func5, Tryd.ntmps5
    go_wp2_with (first | (go_at_call 7; refine (HVA.out _ (by assumption)).mono ?_; rintro e w1 ⟨rfl, hb1⟩) | (go_at_call 18; refine (HPA.out _ (by assumption)).mono ?_; rintro e w2 ⟨rfl, hb2⟩) | (go_at_call 8; refine (HAW.out _ (by assumption)).mono ?_; rintro e wz ⟨rfl, hbz⟩))
    go_ret
    exact ⟨rfl, hbz⟩
  have HVA : Hid (∀ W, Below w.heap.size w W → Calls Tryd.prog 7 #[.slice S m cp] W fun e w' => e = .returned (.bool true) ∧ Below w.heap.size w w') := fun W hb => (hva W hb).mono fun e w' ⟨h1, h2⟩ => ⟨by rw [h1, hv], h2⟩
  have hm1 : m ≤ 1000 := by rw [hm]; exact (vld_iff.1 hv).1
  by_cases hn : n < 1 ∨ 40000 < n
  · have HPA : Hid (∀ W, Below w.heap.size w W → Calls Tryd.prog 18 #[.slice S m cp, .int .i64 fr, .int .i64 to', .int .i64 n] W fun e w' => e = .returned (.tuple #[.slice none 0 0, .int .i64 2]) ∧ Below w.heap.size w w') := fun W hb => (hpa W hb).mono fun e w' ⟨h1, h2⟩ => ⟨by rw [if_neg (by rw [hv]; decide), if_pos hn] at h2; exact h2, hb.trans (h1.mono hb.size)⟩
    clear hm hS hwf hEnv hv hva hpa
    by_cases hn1 : n < 1
    · clear hn
      go_enter Tryd.func5, Tryd.ntmps5
      go_wp2_with (first | (go_at_call 7; refine (HVA.out _ (by assumption)).mono ?_; rintro e w1 ⟨rfl, hb1⟩) | (go_at_call 18; refine (HPA.out _ (by assumption)).mono ?_; rintro e w2 ⟨rfl, hb2⟩) | (go_at_call 8; refine (HAW.out _ (by assumption)).mono ?_; rintro e wz ⟨rfl, hbz⟩))
      go_ret
      exact ⟨rfl, hbz⟩
    · have hn4 : 40000 < n := hn.resolve_left hn1
      clear hn hn1
      go_enter Tryd.func5, Tryd.ntmps5
      go_wp2_with (first | (go_at_call 7; refine (HVA.out _ (by assumption)).mono ?_; rintro e w1 ⟨rfl, hb1⟩) | (go_at_call 18; refine (HPA.out _ (by assumption)).mono ?_; rintro e w2 ⟨rfl, hb2⟩) | (go_at_call 8; refine (HAW.out _ (by assumption)).mono ?_; rintro e wz ⟨rfl, hbz⟩))
      go_ret
      exact ⟨rfl, hbz⟩
  have hn1 : 1 ≤ n := by omega
  have hn4 : n ≤ 40000 := by omega
  obtain ⟨k, rfl⟩ := Int.eq_ofNat_of_zero_le (show 0 ≤ n by omega)
  obtain ⟨mm, hmm⟩ : ∃ mm, mm = m * m := ⟨_, rfl⟩
  have hmmb : mm ≤ 1000000 := by rw [hmm]; exact Nat.mul_le_mul hm1 hm1
  have hmi : (m : Int) * (m : Int) = (mm : Int) := by rw [hmm]; exact (Int.natCast_mul m m).symm
  have hmw : IntKind.i64.wrap ((m : Int) * (m : Int)) = (mm : Int) := by rw [hmi, IntWalk.i64_in _ (by omega)]
  have d1 : decide ((k : Int) < 1) = false := decide_eq_false (by omega)
  have d2 : decide ((40000 : Int) < (k : Int)) = false := decide_eq_false (by omega)
  obtain ⟨mx, hmx⟩ : ∃ mx : Nat, mx = max mm 1 := ⟨_, rfl⟩
  have hmxi : max (mm : Int) 1 = (mx : Int) := by rw [hmx]; omega
  have hmx1 : mx ≤ 1000000 := by rw [hmx]; omega
  obtain ⟨p, hp⟩ : ∃ p, p = k * mx := ⟨_, rfl⟩
  have hpb : p ≤ 40000 * 1000000 := by rw [hp]; exact Nat.mul_le_mul (by omega) hmx1
  have hpi : (k : Int) * (mx : Int) = (p : Int) := by rw [hp]; exact (Int.natCast_mul k mx).symm
  have hpw : IntKind.i64.wrap ((k : Int) * max (mm : Int) 1) = (p : Int) := by rw [hmxi, hpi, IntWalk.i64_in _ (by omega)]
  have hpw2 : IntKind.i64.wrap ((k : Int) * (mx : Int)) = (p : Int) := by rw [hpi, IntWalk.i64_in _ (by omega)]
  by_cases hbig : 300000 < p
  · have hbig' : (300000 : Int) < (p : Int) := by omega
    clear hn hmm hmi hmx hmxi hp hpi hm hS hwf hEnv hv hva hpa hpb
    go_enter Tryd.func5, Tryd.ntmps5
    go_wp2_with (first | (go_at_call 7; refine (HVA.out _ (by assumption)).mono ?_; rintro e w1 ⟨rfl, hb1⟩) | (go_at_call 8; refine (HAW.out _ (by assumption)).mono ?_; rintro e wz ⟨rfl, hbz⟩))
    go_ret
    exact ⟨rfl, hbz⟩
  have hbig' : (p : Int) ≤ 300000 := by omega
  obtain ⟨b, hk⟩ : ∃ b, k = b + 1 := ⟨k - 1, by omega⟩
  have hrp : ∀ W, Below w.heap.size w W → Calls Tryd.prog 19 #[.slice S m cp, .int .i64 fr, .int .i64 to', .int .i64 (k : Int)] W (IsRPath s fr to' k W) := fun W hb => rpath_any s S m cp b k fr to' W hm hm1 (hS.keep hb hb.size) hk (by omega)
  have hgo : rgo s to' k fr = pathE s fr to' k := by rw [hk]; exact rgo_path s hv fr to' b
  cases hpe : pathE s fr to' k with
  | none =>
    rw [hpe] at hgo
    have HPA : Hid (∀ W, Below w.heap.size w W → Calls Tryd.prog 18 #[.slice S m cp, .int .i64 fr, .int .i64 to', .int .i64 (k : Int)] W fun e w' => e = .returned (.tuple #[.slice none 0 0, .int .i64 6]) ∧ Below w.heap.size w w') := fun W hb => (hpa W hb).mono fun e w' ⟨h1, h2⟩ => ⟨by rw [if_neg (by rw [hv]; decide), if_neg hn, Int.toNat_natCast, hpe] at h2; exact h2, hb.trans (h1.mono hb.size)⟩
    have HRP : Hid (∀ W, Below w.heap.size w W → Calls Tryd.prog 19 #[.slice S m cp, .int .i64 fr, .int .i64 to', .int .i64 (k : Int)] W fun e w' => e = .returned (.tuple #[.slice none 0 0, .bool false]) ∧ Below w.heap.size w w') := fun W hb => (hrp W hb).mono fun e w' ⟨h1, h2⟩ => ⟨by rw [hgo] at h2; exact h2, hb.trans (h1.mono hb.size)⟩
    clear hn hmm hmi hmx hmxi hp hpi hm hS hwf hEnv hv hva hpa hpb hrp hgo hpe hk hbig
    go_enter Tryd.func5, Tryd.ntmps5
    go_wp2_with (first | (go_at_call 7; refine (HVA.out _ (by assumption)).mono ?_; rintro e w1 ⟨rfl, hb1⟩) | (go_at_call 18; refine (HPA.out _ (by assumption)).mono ?_; rintro e w2 ⟨rfl, hb2⟩) | (go_at_call 19; refine (HRP.out _ (by assumption)).mono ?_; rintro e w3 ⟨rfl, hb3⟩) | (go_at_call 8; refine (HAW.out _ (by assumption)).mono ?_; rintro e wz ⟨rfl, hbz⟩))
    go_ret
    exact ⟨rfl, hbz⟩
  | some l =>
    rw [hpe] at hgo
    obtain ⟨ln, hln⟩ : ∃ ln, ln = l.length := ⟨_, rfl⟩
    have hlen : ln = (idxI l).length := by rw [hln]; simp [idxI]
    have hlk : ln ≤ 9223372036854775807 := by
      have : ln = k := by
        rw [hln]
        unfold pathE at hpe
        split at hpe
        · split at hpe
          · cases hpe; exact fpP_len _ _ _ _
          · cases hpe
        · cases hpe
      omega
    have HPA : Hid (∀ W, Below w.heap.size w W → Calls Tryd.prog 18 #[.slice S m cp, .int .i64 fr, .int .i64 to', .int .i64 (k : Int)] W fun e w' => ∃ A c, e = .returned (.tuple #[.slice A ln c, .int .i64 0]) ∧ IntsIn w' w'.heap.size A (idxI l) ∧ Below w.heap.size w w') := fun W hb => (hpa W hb).mono fun e w' ⟨h1, h2⟩ => by
      rw [if_neg (by rw [hv]; decide), if_neg hn, Int.toNat_natCast, hpe] at h2
      obtain ⟨A, c, he, hI⟩ := h2
      exact ⟨A, c, by rw [hln]; exact he, hI, hb.trans (h1.mono hb.size)⟩
    have HRP : Hid (∀ W, Below w.heap.size w W → Calls Tryd.prog 19 #[.slice S m cp, .int .i64 fr, .int .i64 to', .int .i64 (k : Int)] W fun e w' => ∃ A c, e = .returned (.tuple #[.slice A ln c, .bool true]) ∧ IntsIn w' w'.heap.size A (idxI l) ∧ Below W.heap.size W w') := fun W hb => (hrp W hb).mono fun e w' ⟨h1, h2⟩ => by
      rw [hgo] at h2
      obtain ⟨A, c, he, hI⟩ := h2
      exact ⟨A, c, by rw [hln]; exact he, hI, h1⟩
    have HLN := Lib.hid hlen
    have HSA : Hid (∀ W A C c d, Below w.heap.size w W → IntsIn W W.heap.size A (idxI l) → IntsIn W W.heap.size C (idxI l) → Calls Tryd.prog 11 #[.slice A ln c, .slice C ln d] W fun e w' => e = .returned (.bool true) ∧ Below w.heap.size w w') := fun W A C c d hb h1 h2 => (rsameI_any (idxI l) A C ln ln c d W hlen hlen hlk h1 h2).mono fun e w' ⟨h3, h4⟩ => ⟨h3, hb.trans (h4.mono hb.size)⟩
    clear hn hmm hmi hmx hmxi hp hpi hm hS hwf hEnv hv hva hpa hpb hrp hgo hpe hk hbig hln hlen
    go_enter Tryd.func5, Tryd.ntmps5
    go_wp2_with (first | (go_at_call 7; refine (HVA.out _ (by assumption)).mono ?_; rintro e w1 ⟨rfl, hb1⟩) | (go_at_call 18; refine (HPA.out _ (by assumption)).mono ?_; rintro e w2 ⟨A2, c2, rfl, hI2, hb2⟩) | (go_at_call 19; refine (HRP.out _ hb2).mono ?_; rintro e w3 ⟨A3, c3, rfl, hI3, hb23⟩; have hI23 := hI2.keep hb23 hb23.size; have hb3 := hb2.trans (hb23.mono hb2.size)) | (go_at_call 11; refine (HSA.out _ _ _ _ _ hb3 hI23 hI3).mono ?_; rintro e w4 ⟨rfl, hb4⟩) | (go_at_call 8; refine (HAW.out _ (by assumption)).mono ?_; rintro e wz ⟨rfl, hbz⟩))
    go_ret
    exact ⟨rfl, hbz⟩
end Go.Proofs.YtgadfmknjpanpaaDoor

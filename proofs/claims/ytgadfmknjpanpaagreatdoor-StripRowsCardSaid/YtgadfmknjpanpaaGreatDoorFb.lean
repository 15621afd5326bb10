/-
  groutworkref02: side, Fault, Power, Great.
-/
import Derived.Test.YtgadfmknjpanpaaGreatDoorFa
import Derived.Test.YtgadfmknjpanpaaGreatDoorRa
namespace Go.Proofs.YtgadfmknjpanpaaGreatDoor
open Go.RowKit Go.Maps Go.BigFrame
set_option linter.unusedVariables false
set_option maxRecDepth 100000

/-- b to the power n, at most 1000000 -/
def pw (b n : Nat) : Nat := min (b ^ n) 1000000
theorem pw_succ (b n : Nat) : pw b (n + 1) = min (pw b n * b) 1000000 := by
  unfold pw
  rw [Nat.pow_succ]
  rcases Nat.eq_zero_or_pos b with e | e
  · subst e
    simp
  · rcases Nat.le_total (b ^ n) 1000000 with h | h
    · rw [Nat.min_eq_left h]
    · have h1 : 1000000 ≤ b ^ n * b := Nat.le_trans h (Nat.le_mul_of_pos_right _ e)
      have h2 : 1000000 ≤ 1000000 * b := Nat.le_mul_of_pos_right _ e
      rw [Nat.min_eq_right h, Nat.min_eq_right h1, Nat.min_eq_right h2]
set_option maxHeartbeats 1000000 in
theorem rpower_any (b n : Nat) (w : World) (hb : b ≤ 1000000) (hn : n ≤ 1000000) :
    Calls Tryz.prog 26 #[.int .i64 (b : Int), .int .i64 (n : Int)] w fun e w' => e = .returned (.int .i64 (pw b n : Int)) ∧ w = w' := by
  go_enter Tryz.func26, Tryz.ntmps26
  go_wp2
  go_loop [5, 6] (fun l i => ∃ (j : Nat) (p : Nat), j ≤ n ∧ i = .int .i64 j ∧ l = .int .i64 (p : Int) ∧ p ≤ 1000000 ∧ Hid (p = pw b j)) (fun _ i => n - (intOf i).toNat)
  case atStart => exact ⟨0, 1, Nat.zero_le _, rfl, rfl, by omega, by show 1 = pw b 0; simp [pw]⟩
  case round =>
    obtain ⟨j, p, hj, rfl, rfl, hp, hpe⟩ := hrel
    by_cases hlt : j < n
    · obtain ⟨q, hq⟩ : ∃ q, q = p * b := ⟨_, rfl⟩
      have hq1 : q ≤ 1000000 * 1000000 := by rw [hq]; exact Nat.mul_le_mul hp hb
      have HQ : Hid (min q 1000000 = pw b (j + 1)) := by show _ = _; rw [pw_succ, hq, hpe.out]
      have e1 : (p : Int) * (b : Int) = (q : Int) := by rw [hq, Int.natCast_mul]
      clear hq
      go_wp2
      go_round
      case rel => exact ⟨j + 1, min q 1000000, by omega, by go_num, by simp; omega, by omega, HQ⟩
      case measure => simp [intOf]; omega
    · have HK : Hid ((p : Int) = (pw b n : Int)) := by
        have e : j = n := by omega
        show _ = _
        rw [hpe.out, e]
      go_wp2
      go_ret
      exact ⟨by rw [← HK.out]; rfl, rfl⟩
theorem tooM_pw (t k : Nat) : tooM t k = decide (5000 < pw t k) := by
  unfold tooM pw
  rw [decide_eq_decide]
  omega
theorem rgreat_any (S : Option Addr) (m d k : Nat) (r : Bool) (w : World) (hr : tooM m k = r) (hm : m ≤ 1000000) (hk : k ≤ 1000000) :
    Calls Tryz.prog 9 #[.slice S m d, .int .i64 (k : Int)] w fun e w' => e = .returned (.bool r) ∧ w = w' := by
  rw [tooM_pw] at hr
  have hp := fun (W : World) => rpower_any m k W hm hk
  obtain ⟨q, hq⟩ : ∃ q, q = pw m k := ⟨_, rfl⟩
  rw [← hq] at hr hp
  clear hq
  have hr2 := ret_bool hr
  cases r
  · have h5 : ¬ 5000 < q := of_decide_eq_false hr
    clear hr hr2
    go_enter Tryz.func9, Tryz.ntmps9
    go_wp2_with fail
    refine (hp _).mono ?_
    rintro e w2 ⟨rfl, rfl⟩
    go_wp2_with fail
    go_ret
    exact ⟨ret_bool (by simp; omega), rfl⟩
  · have h5 : 5000 < q := of_decide_eq_true hr
    clear hr hr2
    go_enter Tryz.func9, Tryz.ntmps9
    go_wp2_with fail
    refine (hp _).mono ?_
    rintro e w2 ⟨rfl, rfl⟩
    go_wp2_with fail
    go_ret
    exact ⟨ret_bool (by simp; omega), rfl⟩
end Go.Proofs.YtgadfmknjpanpaaGreatDoor

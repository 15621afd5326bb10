/-
  groutworkref02: side, Fault, Power, Great.
-/
import Derived.Test.YtgadfmknjpanpaaDoorFa
import Derived.Test.YtgadfmknjpanpaaDoorRa
namespace Go.Proofs.YtgadfmknjpanpaaDoor
open Go.RowKit Go.Maps Go.BigFrame
set_option linter.unusedVariables false
set_option maxRecDepth 100000

/-- b to the power n, at most 1000000 -/
def pw (b n : Nat) : Nat := min (b ^ n) 1000000
theorem pw_succ (b n : Nat) : pw b (n + 1) = min (pw b n * b) 1000000 := by
  unfold pw
  rw [Nat.pow_succ]
  rcases Nat.eq_zero_or_pos b with e | e
  · subst e
    simp
  · rcases Nat.le_total (b ^ n) 1000000 with h | h
    · rw [Nat.min_eq_left h]
    · have h1 : 1000000 ≤ b ^ n * b := Nat.le_trans h (Nat.le_mul_of_pos_right _ e)
      have h2 : 1000000 ≤ 1000000 * b := Nat.le_mul_of_pos_right _ e
      rw [Nat.min_eq_right h, Nat.min_eq_right h1, Nat.min_eq_right h2]
theorem tooM_pw (t k : Nat) : tooM t k = decide (5000 < pw t k) := by
  unfold tooM pw
  rw [decide_eq_decide]
  omega
end Go.Proofs.YtgadfmknjpanpaaDoor

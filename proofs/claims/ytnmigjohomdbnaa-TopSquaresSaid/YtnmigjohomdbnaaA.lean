/-
  The small functions of package tile: their contracts.
-/
import Derived.Test.YtnmigjohomdbnaaProg
import Derived.Test.YtnmigjohomdbnaaPure
import Derived.WalkKit
import Derived.WalkSpells
import Derived.WalkLawsBesides
import Derived.BigQuiet
import Derived.Lib.Hide
namespace Go.Proofs.Ytnmigjohomdbnaa
open Go.RowKit

theorem ret_bool {a b : Bool} (h : a = b) : Ending.returned (.bool a) = .returned (.bool b) := by rw [h]

theorem isColour_any (x : Int) (w : World) :
    Calls Try.prog 35 #[.int .i64 x] w fun e w' => e = .returned (.bool (okc x)) ∧ w = w' := by
  by_cases h0 : 0 ≤ x
  · by_cases h1 : x < 1000
    · go_enter Try.func35, Try.ntmps35
      go_wp2
      go_ret
      exact ⟨ret_bool (by simp [okc, h0, h1]), rfl⟩
    · go_enter Try.func35, Try.ntmps35
      go_wp2
      go_ret
      exact ⟨ret_bool (by simp [okc]; omega), rfl⟩
  · go_enter Try.func35, Try.ntmps35
    go_wp2
    go_ret
    exact ⟨ret_bool (by simp [okc]; omega), rfl⟩

/-- a tile as a value -/
def tv (t : Tl) : Value := .agg #[.int .i64 t.n, .int .i64 t.e, .int .i64 t.s, .int .i64 t.w]

theorem coloured_any (t : Tl) (w : World) :
    Calls Try.prog 32 #[.agg #[.int .i64 t.n, .int .i64 t.e, .int .i64 t.s, .int .i64 t.w]] w fun e w' => e = .returned (.bool (okt t)) ∧ Below w.heap.size w w' := by
  obtain ⟨n, e, s, v⟩ := t
  cases h0 : okc n
  · go_enter Try.func32, Try.ntmps32
    go_wp2_with (go_at_call 35; refine (isColour_any _ _).mono ?_; rintro e w' ⟨rfl, rfl⟩)
    go_ret
    exact ⟨ret_bool (by simp [okt, h0]), (Below.refl _ _).alloc (Nat.le_refl _) _⟩
  cases h1 : okc e
  · go_enter Try.func32, Try.ntmps32
    go_wp2_with (go_at_call 35; refine (isColour_any _ _).mono ?_; rintro e w' ⟨rfl, rfl⟩)
    go_ret
    exact ⟨ret_bool (by simp [okt, h1]), (Below.refl _ _).alloc (Nat.le_refl _) _⟩
  cases h2 : okc s
  · go_enter Try.func32, Try.ntmps32
    go_wp2_with (go_at_call 35; refine (isColour_any _ _).mono ?_; rintro e w' ⟨rfl, rfl⟩)
    go_ret
    exact ⟨ret_bool (by simp [okt, h2]), (Below.refl _ _).alloc (Nat.le_refl _) _⟩
  · go_enter Try.func32, Try.ntmps32
    go_wp2_with (go_at_call 35; refine (isColour_any _ _).mono ?_; rintro e w' ⟨rfl, rfl⟩)
    go_ret
    exact ⟨ret_bool (by simp [okt, h0, h1, h2]), (Below.refl _ _).alloc (Nat.le_refl _) _⟩

def incl (a b : Int) : Bool := decide (1 ≤ a ∧ 1 ≤ b ∧ a * b ≤ 40000)

theorem inCells_any (a b : Int) (w : World) :
    Calls Try.prog 19 #[.int .i64 a, .int .i64 b] w fun e w' => e = .returned (.bool (incl a b)) ∧ w = w' := by
  by_cases h0 : 1 ≤ a
  · by_cases h1 : 1 ≤ b
    · have hq : 0 ≤ 40000 / a := Int.ediv_nonneg (by omega) (by omega)
      have hq2 : 40000 / a ≤ 40000 := Int.ediv_le_self _ (by omega)
      have hd : (b ≤ 40000 / a) ↔ a * b ≤ 40000 := by rw [Int.le_ediv_iff_mul_le (by omega), Int.mul_comm]
      go_enter Try.func19, Try.ntmps19
      go_wp2
      go_ret
      exact ⟨ret_bool (by unfold incl; rw [decide_eq_decide]; omega), rfl⟩
    · go_enter Try.func19, Try.ntmps19
      go_wp2
      go_ret
      exact ⟨ret_bool (decide_eq_false (by omega)).symm, rfl⟩
  · go_enter Try.func19, Try.ntmps19
    go_wp2
    go_ret
    exact ⟨ret_bool (decide_eq_false (by omega)).symm, rfl⟩
end Go.Proofs.Ytnmigjohomdbnaa

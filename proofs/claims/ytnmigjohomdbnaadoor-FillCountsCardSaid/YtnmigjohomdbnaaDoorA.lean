/-
  The small functions of package tile: their contracts.
-/
import Derived.Test.YtnmigjohomdbnaaDoorProg
import Derived.Test.YtnmigjohomdbnaaDoorPure
import Derived.WalkKit
import Derived.WalkSpells
import Derived.WalkLawsBesides
import Derived.BigQuiet
import Derived.Lib.Hide
namespace Go.Proofs.YtnmigjohomdbnaaDoor
open Go.RowKit

theorem ret_bool {a b : Bool} (h : a = b) : Ending.returned (.bool a) = .returned (.bool b) := by rw [h]

theorem isColour_any (x : Int) (w : World) :
    Calls Tryd.prog 59 #[.int .i64 x] w fun e w' => e = .returned (.bool (okc x)) ∧ w = w' := by
  by_cases h0 : 0 ≤ x
  · by_cases h1 : x < 1000
    · go_enter Tryd.func59, Tryd.ntmps59
      go_wp2
      go_ret
      exact ⟨ret_bool (by simp [okc, h0, h1]), rfl⟩
    · go_enter Tryd.func59, Tryd.ntmps59
      go_wp2
      go_ret
      exact ⟨ret_bool (by simp [okc]; omega), rfl⟩
  · go_enter Tryd.func59, Tryd.ntmps59
    go_wp2
    go_ret
    exact ⟨ret_bool (by simp [okc]; omega), rfl⟩

/-- a tile as a value -/
def tv (t : Tl) : Value := .agg #[.int .i64 t.n, .int .i64 t.e, .int .i64 t.s, .int .i64 t.w]

theorem coloured_any (t : Tl) (w : World) :
    Calls Tryd.prog 49 #[.agg #[.int .i64 t.n, .int .i64 t.e, .int .i64 t.s, .int .i64 t.w]] w fun e w' => e = .returned (.bool (okt t)) ∧ Below w.heap.size w w' := by
  obtain ⟨n, e, s, v⟩ := t
  cases h0 : okc n
  · go_enter Tryd.func49, Tryd.ntmps49
    go_wp2_with (go_at_call 59; refine (isColour_any _ _).mono ?_; rintro e w' ⟨rfl, rfl⟩)
    go_ret
    exact ⟨ret_bool (by simp [okt, h0]), (Below.refl _ _).alloc (Nat.le_refl _) _⟩
  cases h1 : okc e
  · go_enter Tryd.func49, Tryd.ntmps49
    go_wp2_with (go_at_call 59; refine (isColour_any _ _).mono ?_; rintro e w' ⟨rfl, rfl⟩)
    go_ret
    exact ⟨ret_bool (by simp [okt, h1]), (Below.refl _ _).alloc (Nat.le_refl _) _⟩
  cases h2 : okc s
  · go_enter Tryd.func49, Tryd.ntmps49
    go_wp2_with (go_at_call 59; refine (isColour_any _ _).mono ?_; rintro e w' ⟨rfl, rfl⟩)
    go_ret
    exact ⟨ret_bool (by simp [okt, h2]), (Below.refl _ _).alloc (Nat.le_refl _) _⟩
  · go_enter Tryd.func49, Tryd.ntmps49
    go_wp2_with (go_at_call 59; refine (isColour_any _ _).mono ?_; rintro e w' ⟨rfl, rfl⟩)
    go_ret
    exact ⟨ret_bool (by simp [okt, h0, h1, h2]), (Below.refl _ _).alloc (Nat.le_refl _) _⟩

def incl (a b : Int) : Bool := decide (1 ≤ a ∧ 1 ≤ b ∧ a * b ≤ 40000)

end Go.Proofs.YtnmigjohomdbnaaDoor

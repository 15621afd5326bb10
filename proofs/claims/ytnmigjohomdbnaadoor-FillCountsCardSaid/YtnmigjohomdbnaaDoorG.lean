/-
  tile.Fits, tile.Repeats: patterns and tori.
-/
import Derived.Test.YtnmigjohomdbnaaDoorF
namespace Go.Proofs.YtnmigjohomdbnaaDoor
open Go.RowKit Go.Maps Go.BigFrame
set_option linter.unusedVariables false

theorem form_is (a b : Int) (cs : List Int) : (incl a b && decide ((cs.length : Int) = a * b)) = form ⟨a, b, cs⟩ := by
  unfold incl form
  rw [← Bool.decide_and, decide_eq_decide]
  simp only [and_assoc]
theorem refers_is (s : List Tl) (a b : Int) (cs : List Int) : cs.all (isIdx s.length) = refers s ⟨a, b, cs⟩ := rfl
theorem valid_pat (s : List Tl) (f : Bool) (S : Option Addr) (m d : Nat) (w : World) (hm : m = s.length) (hf : vld s = f) (hs : SetIn w w.heap.size S s) (hwf : ∀ t ∈ s, twf t) (hl : m ≤ 9223372036854775807) :
    Calls Tryd.prog 36 #[.slice S m d] w fun e w' => e = .returned (.bool f) ∧ Below w.heap.size w w' := by
  subst hm
  rw [← hf]
  exact valid_any s S d w hs hwf hl
end Go.Proofs.YtnmigjohomdbnaaDoor

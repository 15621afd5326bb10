/-
  tile.agrees: neighbours fit.
-/
import Derived.Test.YtgadfmknjpanpaaGreatDoorAE
namespace Go.Proofs.YtgadfmknjpanpaaGreatDoor
open Go.RowKit Go.Maps Go.BigFrame
set_option linter.unusedVariables false

def rowsOk (s : List Tl) (p : Pt) (cols rows : Int) (y : Nat) : Prop := ∀ y', y' < y → ∀ x, x < p.w.toNat → agrAt s p cols rows x y'
def rowOk (s : List Tl) (p : Pt) (cols rows : Int) (y x : Nat) : Prop := ∀ x', x' < x → agrAt s p cols rows x' y
theorem rowsOk_succ {s : List Tl} {p : Pt} {cols rows : Int} {y : Nat} (h : rowsOk s p cols rows y) (hr : rowOk s p cols rows y p.w.toNat) : rowsOk s p cols rows (y + 1) := fun y' hy x hx => by
  by_cases e : y' = y
  · subst e; exact hr x hx
  · exact h y' (by omega) x hx
theorem rowOk_succ {s : List Tl} {p : Pt} {cols rows : Int} {y x : Nat} (h : rowOk s p cols rows y x) (hr : agrAt s p cols rows x y) : rowOk s p cols rows y (x + 1) := fun x' hx => by
  by_cases e : x' = x
  · subst e; exact hr
  · exact h x' (by omega)
theorem agrs_bad {s : List Tl} {p : Pt} {cols rows : Int} (x y : Nat) (hx : x < p.w.toNat) (hy : y < p.h.toNat) (h : ¬ agrAt s p cols rows x y) : agrs s p cols rows = false := by
  rw [Bool.eq_false_iff]; intro ha; exact h (agrs_iff.1 ha y hy x hx)

end Go.Proofs.YtgadfmknjpanpaaGreatDoor

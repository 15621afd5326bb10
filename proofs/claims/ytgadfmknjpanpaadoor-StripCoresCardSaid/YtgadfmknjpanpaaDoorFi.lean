/-
  ref02: Colours, Light.
-/
import Derived.Test.YtgadfmknjpanpaaDoorFh
import Derived.Test.YtgadfmknjpanpaaDoorFb
import Derived.Test.YtgadfmknjpanpaaDoorFp
namespace Go.Proofs.YtgadfmknjpanpaaDoor
open Go.RowKit Go.Maps Go.BigFrame Go.Sort
set_option linter.unusedVariables false
set_option maxRecDepth 100000

def colsTake (s : List Tl) (k : Nat) : List Int := colsOf (s.take k)
theorem colsTake_succ (s : List Tl) (k : Nat) (h : k < s.length) : colsTake s (k + 1) = addIf (addIf (colsTake s k) (ti s k).n) (ti s k).s := by
  unfold colsTake colsOf
  rw [List.take_succ_eq_append_getElem h, List.foldl_append]
  unfold ti
  rw [getD_of_lt s k _ h]
  rfl
def lightB (s : List Tl) (k : Nat) : Bool := decide (pw (colsOf s).length k ≤ 1500) && decide (pw s.length k ≤ 40000)
end Go.Proofs.YtgadfmknjpanpaaDoor

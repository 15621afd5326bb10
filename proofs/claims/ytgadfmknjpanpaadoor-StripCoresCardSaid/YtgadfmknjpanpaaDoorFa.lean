/-
  fill: along, tooMany, plus, check.
-/
import Derived.Test.YtgadfmknjpanpaaDoorTw
import Derived.Test.YtgadfmknjpanpaaDoorFp
namespace Go.Proofs.YtgadfmknjpanpaaDoor
open Go.RowKit Go.Maps Go.BigFrame
set_option linter.unusedVariables false
set_option maxRecDepth 100000

/-- an edge of n colours may be that of a side with k cells -/
def sideOk (n : Nat) (k : Int) : Bool := decide (n = 0 ∨ (n : Int) = k)
def many : Int := 1152921504606846977
def tooM (t k : Nat) : Bool := decide (5000 < t ^ k)
theorem pow_more {t j k : Nat} (ht : 1 ≤ t) (hjk : j ≤ k) (h : 5000 < t ^ j) : 5000 < t ^ k := Nat.lt_of_lt_of_le h (Nat.pow_le_pow_right ht hjk)
/-- the error that is due for a set, a size and edges, whatever patterns there are: 0 where there is none -/
def faultE (s : List Tl) (wd hg : Int) (n e u v : Nat) : Int :=
  if vld s = false then 1 else if wd < 1 ∨ 8 < wd ∨ hg < 1 ∨ 60 < hg then 2 else if (sideOk n wd && (sideOk u wd && (sideOk v hg && sideOk e hg))) = true then 0 else 2
def checkE (s : List Tl) (wd hg : Int) (n e u v : Nat) : Int :=
  if faultE s wd hg n e u v ≠ 0 then faultE s wd hg n e u v else if tooM s.length wd.toNat = true then 4 else 0

end Go.Proofs.YtgadfmknjpanpaaDoor

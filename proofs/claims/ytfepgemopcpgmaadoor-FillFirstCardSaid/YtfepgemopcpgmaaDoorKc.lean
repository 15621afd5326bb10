/-
  groutworklaw02.FillCounts, given what the reference's Rows returns.
-/
import Derived.Test.YtfepgemopcpgmaaDoorRk
import Derived.Test.YtfepgemopcpgmaaDoorSl
import Derived.Test.YtfepgemopcpgmaaDoorAx
namespace Go.Proofs.YtfepgemopcpgmaaDoor
open Go.RowKit Go.Maps Go.BigFrame
set_option linter.unusedVariables false
set_option linter.unusedSimpArgs false
set_option maxRecDepth 100000

/-- what is to be shown of Rows -/
def RowsOk : Prop := ∀ (s : List Tl) (S : Option Addr) (m sc a : Nat) (W : World), m = s.length → m ≤ 1000 → SetIn W W.heap.size S s → 1 ≤ a → a ≤ 8 → pw (colsOf s).length a ≤ 1500 → pw s.length a ≤ 40000 →
  Calls Tryd.prog 28 #[.slice S m sc, .int .i64 (a : Int)] W (IsRowsR s a W)
theorem faultE_pos (s : List Tl) (wd hg : Int) (n e u v : Nat) : faultE s wd hg n e u v = 0 ∨ faultE s wd hg n e u v = 1 ∨ faultE s wd hg n e u v = 2 := by
  unfold faultE
  split
  · exact Or.inr (Or.inl rfl)
  · split
    · exact Or.inr (Or.inr rfl)
    · split
      · exact Or.inl rfl
      · exact Or.inr (Or.inr rfl)
end Go.Proofs.YtfepgemopcpgmaaDoor

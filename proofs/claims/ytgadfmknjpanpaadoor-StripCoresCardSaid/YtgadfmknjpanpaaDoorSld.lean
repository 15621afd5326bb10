/-
  groutworkref04.Leads.
-/
import Derived.Test.YtgadfmknjpanpaaDoorSd
import Derived.Test.YtgadfmknjpanpaaDoorSp
namespace Go.Proofs.YtgadfmknjpanpaaDoor
open Go.RowKit Go.Maps
set_option linter.unusedVariables false
set_option linter.unusedSimpArgs false
set_option maxRecDepth 100000

/-- may a tile stand behind another one? -/
def leadsB (t u : Tl) (north : Bool) : Bool := if north then t.n == u.s else t.e == u.w
theorem leads_any (t u : Tl) (r : Bool) (w : World) :
    Calls Tryd.prog 21 #[.agg #[.int .i64 t.n, .int .i64 t.e, .int .i64 t.s, .int .i64 t.w], .agg #[.int .i64 u.n, .int .i64 u.e, .int .i64 u.s, .int .i64 u.w], .bool r] w fun e w' => e = .returned (.bool (leadsB t u r)) ∧ Below w.heap.size w w' := by
  unfold leadsB
  have hb : Below w.heap.size w ((w.alloc (.cells #[.int .i64 t.n, .int .i64 t.e, .int .i64 t.s, .int .i64 t.w] 53)).alloc (.cells #[.int .i64 u.n, .int .i64 u.e, .int .i64 u.s, .int .i64 u.w] 53)) := below_two w _ _
  cases r
  · go_enter Tryd.func21, Tryd.ntmps21
    go_wp2_with fail
    go_ret
    exact ⟨rfl, hb⟩
  · go_enter Tryd.func21, Tryd.ntmps21
    go_wp2_with fail
    go_ret
    exact ⟨rfl, hb⟩
end Go.Proofs.YtgadfmknjpanpaaDoor

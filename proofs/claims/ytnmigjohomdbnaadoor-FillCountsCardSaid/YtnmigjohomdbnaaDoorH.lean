/-
  Two tiles are equal as structs.
-/
import Derived.Test.YtnmigjohomdbnaaDoorG
import Derived.Laws.StructEq
namespace Go.Proofs.YtnmigjohomdbnaaDoor
open Go.RowKit Go.Maps Go.BigFrame
set_option linter.unusedVariables false

theorem tile_fields : Tryd.prog.underlying 65 = some (.struct (Tryd.prog.fieldsOf 65)) := by simp [Program.fieldsOf, Tryd.underlying65]
theorem tile_stood : Tryd.prog.stoodInHeld 65 = false := by kernel_rfl
theorem tile_eqlb (t u : Tl) (w : World) : (binOp .eql 65 (.agg #[.int .i64 t.n, .int .i64 t.e, .int .i64 t.s, .int .i64 t.w]) (.agg #[.int .i64 u.n, .int .i64 u.e, .int .i64 u.s, .int .i64 u.w])).run Tryd.prog w = .ok (.bool (t.n == u.n && (t.e == u.e && (t.s == u.s && t.w == u.w)))) w := by
  simp only [binOp]
  simp only [Op.equal, Op.maxDepth]
  have h := fun d => run_equalIn_struct (P := Tryd.prog) w d 65 #[.int .i64 t.n, .int .i64 t.e, .int .i64 t.s, .int .i64 t.w] #[.int .i64 u.n, .int .i64 u.e, .int .i64 u.s, .int .i64 u.w] tile_fields tile_stood
  cases h0 : (t.n == u.n) <;> cases h1 : (t.e == u.e) <;> cases h2 : (t.s == u.s) <;> cases h3 : (t.w == u.w) <;>
    simp [h 9999, go_sem, Program.fieldsOf, Tryd.underlying65, Tryd.underlying3, h0, h1, h2, h3]
end Go.Proofs.YtnmigjohomdbnaaDoor

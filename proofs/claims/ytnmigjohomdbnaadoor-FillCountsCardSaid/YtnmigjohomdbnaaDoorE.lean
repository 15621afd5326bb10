/-
  A region that draws its order, whose operations read and whose callees make memory: one walk, over every later world. tile.cell of a pattern; tile.agrees.
-/
import Derived.Test.YtnmigjohomdbnaaDoorD
namespace Go.Proofs.YtnmigjohomdbnaaDoor
open Go.RowKit Go.Maps Go.BigFrame
set_option linter.unusedVariables false

/-- a later world: what was there is as it was -/
structure Ext (w : World) where
  w' : World
  h : Below w.heap.size w w'
instance (w : World) : Nonempty (Ext w) := ⟨⟨w, Below.refl _ _⟩⟩
def ext (w : World) (x : Ext w) : World := x.w'
theorem ext_below {w : World} (x : Ext w) : Below w.heap.size w (ext w x) := x.h
theorem ext_cell {w : World} {a : Addr} {v : Value} (h : w.cell? a = some v) : ∀ x, (ext w x).cell? a = some v := fun x => (x.h.cell (World.block_lt_of_cell? w a h)).trans h
theorem ext_call {P : Program} {f : FuncId} {args : Array Value} {w : World} {x : Ext w} {v : Value}
    (h : Calls P f args (ext w x) fun e w' => e = .returned v ∧ Below (ext w x).heap.size (ext w x) w') : Calls P f args (ext w x) fun e w'' => e = .returned v ∧ ∃ y, w'' = ext w y :=
  h.mono fun _ w2 ⟨he, hb⟩ => ⟨he, ⟨w2, x.h.trans (hb.mono x.h.size)⟩, rfl⟩
theorem wp_region_ext {P : Program} {id : Nat} {Q : Exit → Act → World → Prop} {a : Act} {w : World} {l : List Oper} (hm : P.follows .mixedOrders = true) (hB : Region.lexB .any l.toArray = true)
    (h : wpQuiet P l.toArray (fun w' => ∃ x, w' = ext w x) (fun a' => ∀ w', (∃ x, w' = ext w x) → Q .normal a' w') l a) : (Code.region id l.toArray true).wp P Q a w :=
  wp_region_quiet (C := fun w' => ∃ x, w' = ext w x) hm hB ⟨⟨w.drew, (Below.refl _ _).drew⟩, rfl⟩ (by simpa using h)

theorem tl_cell {w : World} {B : Nat} {S : Option Addr} {s : List Tl} (h : SetIn w B S s) {v : Int} (h0 : 0 ≤ v) (h1 : v < (s.length : Int)) : ∃ sb so, S = some ⟨sb, so, none⟩ ∧ sb < B ∧ ∀ u : Int, 0 ≤ u → u < (s.length : Int) →
    w.cell? ⟨sb, so + u.toNat * 4, none⟩ = some (.int .i64 (tl s u).n) ∧ w.cell? ⟨sb, so + u.toNat * 4 + 1, none⟩ = some (.int .i64 (tl s u).e) ∧
    w.cell? ⟨sb, so + u.toNat * 4 + 2, none⟩ = some (.int .i64 (tl s u).s) ∧ w.cell? ⟨sb, so + u.toNat * 4 + 3, none⟩ = some (.int .i64 (tl s u).w) := by
  obtain ⟨sb, so, hS, hlt, hc⟩ := h (ne_nil_of_lt (k := 0) (by omega))
  exact ⟨sb, so, hS, hlt, fun u h0 h1 => hc u.toNat (by omega)⟩
end Go.Proofs.YtnmigjohomdbnaaDoor

/-
  fill.rectangle.admits: the edges allow a row.
-/
import Derived.Test.YtgadfmknjpanpaaDoorFk
import Derived.Test.YtgadfmknjpanpaaDoorFa
import Derived.Deep.Cut
import Derived.Deep.CutRange
namespace Go.Proofs.YtgadfmknjpanpaaDoor
open Go.RowKit Go.Maps Go.BigFrame Go.Sort
set_option linter.unusedVariables false
set_option linter.unusedSimpArgs false
set_option maxRecDepth 100000

/-- the four edges lie below block B -/
structure EdIn (w : World) (B : Nat) (N E S W : Option Addr) (d : Ed) : Prop where
  n : IntsIn w B N d.n
  e : IntsIn w B E d.e
  s : IntsIn w B S d.s
  w : IntsIn w B W d.w
theorem EdIn.keep {w w' : World} {B B' : Nat} {N E S W : Option Addr} {d : Ed} (h : EdIn w B N E S W d) (hb : Below B w w') (hB : B ≤ B') : EdIn w' B' N E S W d := ⟨h.n.keep hb hB, h.e.keep hb hB, h.s.keep hb hB, h.w.keep hb hB⟩
theorem len8 (l : List Int) (h : l.length = 8) : ∃ a b c d e f g i, l = [a, b, c, d, e, f, g, i] := by
  match l, h with
  | [a, b, c, d, e, f, g, i], _ => exact ⟨a, b, c, d, e, f, g, i, rfl⟩
theorem row_lines (s : List Tl) (r : List Nat) (h : r.length ≤ 8) (i : Nat) (hi : i < 8) : (rowA s r)[8 + i]? = some (.int .i64 ((north s r).getD i 0)) ∧ (rowA s r)[16 + i]? = some (.int .i64 ((south s r).getD i 0)) ∧ (rowA s r)[i]? = some (.int .i64 ((pad8 (r.map fun i : Nat => (i : Int))).getD i 0)) := by
  have h1 := pad8_len (r.map fun i : Nat => (i : Int)) (by rw [List.length_map]; exact h)
  have h2 := north_len s r h
  have h3 := south_len s r h
  have e : ∀ j : Nat, (rowA s r)[j]? = (rowInts s r)[j]?.map (Value.int .i64) := fun j => by
    show ((rowInts s r).map (Value.int .i64)).toArray[j]? = _
    rw [List.getElem?_toArray, List.getElem?_map]
  refine ⟨?_, ?_, ?_⟩
  · rw [e, rowInts, List.getElem?_append_right (by omega), h1, List.getElem?_append_left (by omega), show 8 + i - 8 = i by omega, getD_of_lt _ i 0 (by omega), List.getElem?_eq_getElem (by omega)]
    rfl
  · rw [e, rowInts, List.getElem?_append_right (by omega), h1, List.getElem?_append_right (by omega), h2, List.getElem?_append_left (by omega), show 16 + i - 8 - 8 = i by omega, getD_of_lt _ i 0 (by omega), List.getElem?_eq_getElem (by omega)]
    rfl
  · rw [e, rowInts, List.getElem?_append_left (by omega), getD_of_lt _ i 0 (by omega), List.getElem?_eq_getElem (by omega)]
    rfl
/-- the lines of a row that lies in a block of its own -/
theorem row_cells {w : World} {g : Nat} {s : List Tl} {r : List Nat} {t : TypeId} {a0 a1 a2 a3 a4 a5 a6 a7 b0 b1 b2 b3 b4 b5 b6 b7 : Int} (h : w.heap[g]? = some (.cells (rowA s r) t (0, 0))) (h8 : r.length ≤ 8) (ha : north s r = [a0, a1, a2, a3, a4, a5, a6, a7]) (hb : south s r = [b0, b1, b2, b3, b4, b5, b6, b7]) :
    w.cell? ⟨g, 8, none⟩ = some (.int .i64 a0) ∧ w.cell? ⟨g, 9, none⟩ = some (.int .i64 a1) ∧ w.cell? ⟨g, 10, none⟩ = some (.int .i64 a2) ∧ w.cell? ⟨g, 11, none⟩ = some (.int .i64 a3) ∧ w.cell? ⟨g, 12, none⟩ = some (.int .i64 a4) ∧ w.cell? ⟨g, 13, none⟩ = some (.int .i64 a5) ∧ w.cell? ⟨g, 14, none⟩ = some (.int .i64 a6) ∧ w.cell? ⟨g, 15, none⟩ = some (.int .i64 a7) ∧ w.cell? ⟨g, 16, none⟩ = some (.int .i64 b0) ∧ w.cell? ⟨g, 17, none⟩ = some (.int .i64 b1) ∧ w.cell? ⟨g, 18, none⟩ = some (.int .i64 b2) ∧ w.cell? ⟨g, 19, none⟩ = some (.int .i64 b3) ∧ w.cell? ⟨g, 20, none⟩ = some (.int .i64 b4) ∧ w.cell? ⟨g, 21, none⟩ = some (.int .i64 b5) ∧ w.cell? ⟨g, 22, none⟩ = some (.int .i64 b6) ∧ w.cell? ⟨g, 23, none⟩ = some (.int .i64 b7) := by
  have g0 := row_lines s r h8
  have p0 := (cell_of_row _ _ 8 _ _ _ h).trans (g0 0 (by omega)).1
  have p1 := (cell_of_row _ _ 9 _ _ _ h).trans (g0 1 (by omega)).1
  have p2 := (cell_of_row _ _ 10 _ _ _ h).trans (g0 2 (by omega)).1
  have p3 := (cell_of_row _ _ 11 _ _ _ h).trans (g0 3 (by omega)).1
  have p4 := (cell_of_row _ _ 12 _ _ _ h).trans (g0 4 (by omega)).1
  have p5 := (cell_of_row _ _ 13 _ _ _ h).trans (g0 5 (by omega)).1
  have p6 := (cell_of_row _ _ 14 _ _ _ h).trans (g0 6 (by omega)).1
  have p7 := (cell_of_row _ _ 15 _ _ _ h).trans (g0 7 (by omega)).1
  have q0 := (cell_of_row _ _ 16 _ _ _ h).trans (g0 0 (by omega)).2.1
  have q1 := (cell_of_row _ _ 17 _ _ _ h).trans (g0 1 (by omega)).2.1
  have q2 := (cell_of_row _ _ 18 _ _ _ h).trans (g0 2 (by omega)).2.1
  have q3 := (cell_of_row _ _ 19 _ _ _ h).trans (g0 3 (by omega)).2.1
  have q4 := (cell_of_row _ _ 20 _ _ _ h).trans (g0 4 (by omega)).2.1
  have q5 := (cell_of_row _ _ 21 _ _ _ h).trans (g0 5 (by omega)).2.1
  have q6 := (cell_of_row _ _ 22 _ _ _ h).trans (g0 6 (by omega)).2.1
  have q7 := (cell_of_row _ _ 23 _ _ _ h).trans (g0 7 (by omega)).2.1
  simp only [ha, hb, List.getD_cons_zero, List.getD_cons_succ] at p0 p1 p2 p3 p4 p5 p6 p7 q0 q1 q2 q3 q4 q5 q6 q7
  exact ⟨p0, p1, p2, p3, p4, p5, p6, p7, q0, q1, q2, q3, q4, q5, q6, q7⟩
theorem sideE_nil {l : List Int} {y : Nat} {c : Int} (h : l = []) : sideE l y c = true := by unfold sideE; simp [h]
theorem sideE_eq {l : List Int} {y : Nat} {c : Int} (h : l ≠ []) : sideE l y c = decide (l.getD y 0 = c) := by unfold sideE; simp [h]

end Go.Proofs.YtgadfmknjpanpaaDoor

/-
  fill.row.extended: a row that is longer by one tile.
-/
import Derived.Test.YtgadfmknjpanpaaDoorFp
import Derived.Test.YtgadfmknjpanpaaDoorSw
namespace Go.Proofs.YtgadfmknjpanpaaDoor
open Go.RowKit Go.Maps Go.BigFrame
set_option linter.unusedVariables false
set_option maxRecDepth 100000

/-- a row's struct with a tile in column x -/
def upd (V : Array Value) (x : Nat) (i : Int) (t : Tl) : Array Value :=
  let U := (((V.setIfInBounds x (.int .i64 i)).setIfInBounds (8 + x) (.int .i64 t.n)).setIfInBounds (16 + x) (.int .i64 t.s)).setIfInBounds 24 (.int .i64 t.e)
  if x = 0 then U.setIfInBounds 25 (.int .i64 t.w) else U
theorem one_set {V : Array Value} (h : V.all (·.oneCell') = true) (j : Nat) (i : Int) : (V.setIfInBounds j (.int .i64 i)).all (·.oneCell') = true := by
  rw [Array.all_eq_true_iff_forall_mem] at h ⊢
  intro v hv
  rcases Array.mem_or_eq_of_mem_setIfInBounds hv with h1 | h1
  · exact h v h1
  · rw [h1]; rfl
theorem heap3a (w : World) (A B C : Obj) : (((w.alloc A).alloc B).alloc C).heap[w.heap.size]? = some A := by
  show (((w.heap.push A).push B).push C)[w.heap.size]? = some A
  simp [Array.getElem?_push]
  intro h
  omega
theorem heap3c (w : World) (A B C : Obj) : (((w.alloc A).alloc B).alloc C).heap[w.heap.size + 1 + 1]? = some C := by
  have := heap_alloc_new ((w.alloc A).alloc B) C
  simpa using this
theorem below3 (w : World) (A B C : Obj) : Below w.heap.size w (((w.alloc A).alloc B).alloc C).drew :=
  ((((Below.refl w.heap.size w).alloc (Nat.le_refl _) _).alloc (by simp) _).alloc (by simp; omega) _).drew
def vals (l : List Int) : List Value := l.map (Value.int .i64)
def idxI (r : List Nat) : List Int := r.map fun i : Nat => (i : Int)
/-- the cells of a row's struct -/
def rowV (s : List Tl) (r : List Nat) : List Value := vals (rowInts s r)
def rowA (s : List Tl) (r : List Nat) : Array Value := (rowV s r).toArray
theorem rowV_len (s : List Tl) (r : List Nat) (h : r.length ≤ 8) : (rowV s r).length = 26 := by simp [rowV, vals, rowInts_len s r h]
theorem rowA_size (s : List Tl) (r : List Nat) (h : r.length ≤ 8) : (rowA s r).size = 26 := by simp [rowA, rowV_len s r h]
theorem vals_one (l : List Int) : ∀ v ∈ vals l, v.oneCell' = true := fun v hv => by
  obtain ⟨i, _, rfl⟩ := List.mem_map.1 hv
  rfl
theorem rowA_one (s : List Tl) (r : List Nat) : (rowA s r).all (·.oneCell') = true := by
  rw [Array.all_eq_true_iff_forall_mem]
  exact fun v hv => vals_one (rowInts s r) v (by simpa [rowA, rowV] using hv)
theorem vals_set (l : List Int) (j : Nat) (v : Int) : (vals l).toArray.setIfInBounds j (.int .i64 v) = (vals (l.set j v)).toArray := by simp [vals, List.map_set]
theorem rowInts_last (s : List Tl) (r : List Nat) (h : r.length ≤ 8) : (rowInts s r).getD 25 0 = west s r ∧ (rowInts s r).getD 24 0 = east s r := by
  have h1 := pad8_len (r.map fun i : Nat => (i : Int)) (by rw [List.length_map]; exact h)
  have h2 := north_len s r h
  have h3 := south_len s r h
  unfold rowInts
  constructor <;>
  · rw [List.getD_eq_getElem?_getD, List.getElem?_append_right (by omega), List.getElem?_append_right (by omega), List.getElem?_append_right (by omega), h1, h2, h3]
    rfl
theorem upd_row (s : List Tl) (r : List Nat) (i : Nat) (h : r.length < 8) : upd (rowA s r) r.length (i : Int) (ti s i) = rowA s (r ++ [i]) := by
  unfold upd rowA rowV
  rw [rowInts_snoc s r i h]
  simp only [vals_set]
  by_cases e : r = []
  · rw [if_pos (by rw [e]; rfl), if_pos e]
  · rw [if_neg (fun h0 => e (List.length_eq_zero_iff.1 h0)), if_neg e]
    congr 2
    have h1 := (rowInts_last s r (by omega)).1
    have h2 := rowInts_len s r (by omega)
    refine List.ext_getElem (by simp) fun j h3 h4 => ?_
    by_cases hj : 25 = j
    · subst hj
      rw [List.getElem_set_self]
      rw [List.getElem_set_ne (by omega), List.getElem_set_ne (by omega), List.getElem_set_ne (by omega), List.getElem_set_ne (by omega)]
      rw [← h1, getD_of_lt _ 25 0 (by omega)]
    · rw [List.getElem_set_ne hj]
end Go.Proofs.YtgadfmknjpanpaaDoor

/-
  fill.rowsOf: all rows of a width.
-/
import Derived.Test.YtgadfmknjpanpaaDoorFe
import Derived.Test.YtgadfmknjpanpaaDoorTw
import Derived.Test.YtgadfmknjpanpaaDoorSw
import Derived.Maps.AppendAt
namespace Go.Proofs.YtgadfmknjpanpaaDoor
open Go.RowKit Go.Maps Go.BigFrame Go.Sort
set_option linter.unusedVariables false
set_option maxRecDepth 100000

theorem range_filter (p : Nat → Bool) (j : Nat) : (List.range (j + 1)).filter p = (List.range j).filter p ++ if p j = true then [j] else [] := by
  rw [List.range_succ, List.filter_append]
  cases h : p j <;> simp [h]
/-- the longer rows of the first k rows, and of the next one by the first j tiles -/
def part (s : List Tl) (L : List (List Nat)) (k : Nat) (r : List Nat) (j : Nat) : List (List Nat) := (L.take k).flatMap (longer s) ++ ((List.range j).filter (mayJoin s r)).map fun i => r ++ [i]
theorem part_zero (s : List Tl) (L : List (List Nat)) (k : Nat) (r : List Nat) : part s L k r 0 = (L.take k).flatMap (longer s) := by simp [part]
theorem part_yes (s : List Tl) (L : List (List Nat)) (k : Nat) (r : List Nat) (j : Nat) (h : mayJoin s r j = true) : part s L k r (j + 1) = part s L k r j ++ [r ++ [j]] := by
  unfold part
  rw [range_filter, if_pos h, List.map_append, List.append_assoc]
  rfl
theorem part_no (s : List Tl) (L : List (List Nat)) (k : Nat) (r : List Nat) (j : Nat) (h : mayJoin s r j = false) : part s L k r (j + 1) = part s L k r j := by
  unfold part
  rw [range_filter, if_neg (by rw [h]; simp), List.append_nil]
theorem part_end (s : List Tl) (L : List (List Nat)) (k : Nat) (r : List Nat) (hr : L[k]? = some r) : part s L k r s.length = (L.take (k + 1)).flatMap (longer s) := by
  have hk : k < L.length := (List.getElem?_eq_some_iff.1 hr).1
  have e : L[k] = r := (List.getElem?_eq_some_iff.1 hr).2
  rw [List.take_succ_eq_append_getElem hk, List.flatMap_append, e]
  simp [part, longer]
theorem flatMap_take_le {α β : Type} (f : α → List β) : ∀ (l : List α) (k : Nat) (a : α), l[k]? = some a → ((l.take k).flatMap f).length + (f a).length ≤ (l.flatMap f).length
  | [], k, a, h => by simp at h
  | b :: l, 0, a, h => by
    have e : b = a := by simpa using h
    subst e
    simp
  | b :: l, k + 1, a, h => by
    have := flatMap_take_le f l k a (by simpa using h)
    rw [List.take_succ_cons, List.flatMap_cons, List.flatMap_cons, List.length_append, List.length_append]
    omega
theorem part_le (s : List Tl) (L : List (List Nat)) (k : Nat) (r : List Nat) (hr : L[k]? = some r) (j : Nat) (hj : j ≤ s.length) : (part s L k r j).length ≤ (L.flatMap (longer s)).length := by
  have h1 := flatMap_take_le (longer s) L k r hr
  have h2 : ((List.range j).filter (mayJoin s r)).length ≤ ((List.range s.length).filter (mayJoin s r)).length := by
    have : List.Sublist (List.range j) (List.range s.length) := by
      have e := List.take_append_drop j (List.range s.length)
      rw [List.take_range, Nat.min_eq_left hj] at e
      rw [← e]
      exact List.sublist_append_left _ _
    exact (this.filter _).length_le
  have h3 : (longer s r).length = ((List.range s.length).filter (mayJoin s r)).length := by simp [longer]
  unfold part
  rw [List.length_append, List.length_map]
  omega
theorem heap_keep {w : World} {g : Nat} {o : Obj} (h : w.heap[g]? = some o) (ob : Obj) : (w.alloc ob).heap[g]? = some o := by
  have hg := (Array.getElem?_eq_some_iff.1 h).1
  show (w.heap.push ob)[g]? = some o
  rw [Array.getElem?_push, if_neg (by omega)]
  exact h
theorem heap_alloc_old' (w : World) (ob : Obj) (j : Nat) (h : j < w.heap.size) : (w.alloc ob).heap[j]? = w.heap[j]? := by
  show (w.heap.push ob)[j]? = _
  rw [Array.getElem?_push, if_neg (by omega)]
theorem heap_below {w w' : World} {B g : Nat} {o : Obj} (h : w.heap[g]? = some o) (hb : Below B w w') (hg : g < B) : w'.heap[g]? = some o := (hb.block g hg).trans h
theorem rowA_at (s : List Tl) (r : List Nat) (h : r.length ≤ 8) : (rowA s r)[24]? = some (.int .i64 (east s r)) ∧ (rowA s r)[25]? = some (.int .i64 (west s r)) := by
  have h1 := rowInts_last s r h
  have h2 := rowInts_len s r h
  constructor
  · rw [← h1.2, getD_of_lt _ 24 0 (by omega)]
    simp [rowA, rowV, vals]
  · rw [← h1.1, getD_of_lt _ 25 0 (by omega)]
    simp [rowA, rowV, vals]
theorem own_mono {w : World} {base base' e size n : Nat} {v : Value} {xs : List Value} (h : w.ownsRow base e size v n xs) (hb : base' ≤ base) : w.ownsRow base' e size v n xs :=
  ⟨h.1, h.2.imp id fun ⟨g, cap, cur, hv, hg, r⟩ => ⟨g, cap, cur, hv, Nat.le_trans hb hg, r⟩⟩
end Go.Proofs.YtgadfmknjpanpaaDoor

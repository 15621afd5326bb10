/-
  slices.Equal of two rows of integers; fill.has.
-/
import Derived.Test.YtgadfmknjpanpaaDoorFg
import Derived.Test.YtgadfmknjpanpaaDoorSo
namespace Go.Proofs.YtgadfmknjpanpaaDoor
open Go.RowKit Go.Maps Go.BigFrame Go.Sort
set_option linter.unusedVariables false
set_option linter.unusedSimpArgs false
set_option maxRecDepth 100000

theorem IntsIn.at {w : World} {B : Nat} {A : Option Addr} {cs : List Int} (h : IntsIn w B A cs) {w' : World} (hb : Below B w w') {k : Nat} (hk : k < cs.length) : ∃ bk off, A = some ⟨bk, off, none⟩ ∧ bk < B ∧ w'.cell? ⟨bk, off + k, none⟩ = some (.int .i64 (cs.getD k 0)) := by
  obtain ⟨bk, off, hA, hlt, hc⟩ := h (ne_nil_of_lt hk)
  exact ⟨bk, off, hA, hlt, (hb.cell (p := ⟨bk, _, none⟩) hlt).trans (hc k hk)⟩
theorem take_eq_succ {a b : List Int} {k : Nat} (ha : k < a.length) (hb : k < b.length) (h : a.take k = b.take k) (e : a.getD k 0 = b.getD k 0) : a.take (k + 1) = b.take (k + 1) := by
  rw [List.take_succ_eq_append_getElem ha, List.take_succ_eq_append_getElem hb, h]
  rw [getD_of_lt a k 0 ha, getD_of_lt b k 0 hb] at e
  rw [e]
/-- a row of integers that lies in a block known whole -/
theorem ints_block {w : World} {b : Nat} {l : List Int} {t : TypeId} {m : Nat} (h : w.heap[b]? = some (.cells (vals l).toArray t (0, 0))) (hm : m ≤ l.length) : IntsIn w (b + 1) (some ⟨b, 0, none⟩) (l.take m) := fun hn => by
  refine ⟨b, 0, rfl, by omega, fun i hi => ?_⟩
  have hi' : i < l.length := by rw [List.length_take] at hi; omega
  rw [Nat.zero_add, cell_of_row _ _ _ _ _ _ h, getD_of_lt _ i 0 hi, List.getElem_take]
  simp [vals, List.getElem?_eq_getElem hi']
theorem pad8_take (l : List Int) (n : Nat) (h : l.length = n) : (pad8 l).take n = l := by
  unfold pad8
  exact List.take_left' h
end Go.Proofs.YtgadfmknjpanpaaDoor

/-
  ref02: at, with, Colours.
-/
import Derived.Test.YtgadfmknjpanpaaDoorFp
import Derived.Test.YtgadfmknjpanpaaDoorSw
import Derived.Test.YtgadfmknjpanpaaDoorTw
import Derived.Maps.AppendAt
namespace Go.Proofs.YtgadfmknjpanpaaDoor
open Go.RowKit Go.Maps Go.BigFrame Go.Sort
set_option linter.unusedVariables false
set_option maxRecDepth 100000

theorem getD_take_mem {l : List Int} {v : Int} {k : Nat} (hk : k < l.length) (h : v ∉ l.take k) (e : l.getD k 0 = v) : atL l v = k := by
  have hv : v ∈ l := by
    rw [List.getD_eq_getElem?_getD, List.getElem?_eq_getElem hk] at e
    have e' : l[k] = v := by simpa using e
    rw [← e']
    exact List.getElem_mem hk
  unfold atL
  rw [if_pos hv]
  have e1 : l = l.take k ++ v :: l.drop (k + 1) := by
    rw [List.getD_eq_getElem?_getD, List.getElem?_eq_getElem hk] at e
    have e' : l[k] = v := by simpa using e
    rw [← e', ← List.drop_eq_getElem_cons hk, List.take_append_drop]
  have : l.idxOf v = k := by
    conv => lhs; rw [e1]
    rw [List.idxOf_append, if_neg h, List.idxOf_cons_self, List.length_take]
    omega
  rw [this]
/-- a row of integers of the call's own -/
theorem own_ints {w : World} {base n : Nat} {e : TypeId} {v : Value} {l : List Int} (h : w.ownsRow base e 1 v n (l.map (Value.int .i64))) : ∃ A c, v = .slice A n c ∧ n = l.length ∧ n ≤ c ∧ n ≤ maxLen ∧ IntsIn w w.heap.size A l ∧ ∀ b, A = some b → base ≤ b.block := by
  have hl : l.length = n := by have := h.1; simp at this; omega
  rcases h.2 with ⟨rfl, h0⟩ | ⟨g, cap, cur, rfl, hb, hh, hnc, hm, hs, hx⟩
  · subst h0
    have : l = [] := List.eq_nil_of_length_eq_zero hl
    subst this
    exact ⟨none, 0, rfl, rfl, Nat.le_refl _, by simp [maxLen], fun hne => absurd rfl hne, fun b hb => by cases hb⟩
  · refine ⟨_, cap, rfl, hl.symm, hnc, Nat.le_trans hnc hm, fun _ => ⟨g, 0, rfl, (Array.getElem?_eq_some_iff.1 hh).1, fun i hi => ?_⟩, fun b hb' => by cases hb'; exact hb⟩
    rw [Nat.zero_add, h.cellAt i (by omega), List.getElem?_map, List.getElem?_eq_getElem hi, List.getD_eq_getElem?_getD, List.getElem?_eq_getElem hi]
    rfl
theorem int_info : (Tryd.prog.info? 3).map (fun i => (i.zero, i.size, i.bytes)) = some (some (.int .i64 0), 1, 8) := by kernel_rfl
end Go.Proofs.YtgadfmknjpanpaaDoor

/-
  ref02: extend, Rows: all rows of a width, with their numbers.
-/
import Derived.Test.YthjponagoahdhaaGreatDoorFi
import Derived.Test.YthjponagoahdhaaGreatDoorSo
import Derived.Test.YthjponagoahdhaaGreatDoorFg
import Derived.Deep.Cut
import Derived.Deep.CutRange
import Derived.Deep.RegionHeld3
import Derived.Deep.DrawnRows
namespace Go.Proofs.YthjponagoahdhaaGreatDoor
open Go.RowKit Go.Maps Go.BigFrame Go.Sort
set_option linter.unusedVariables false
set_option linter.unusedSimpArgs false
set_option maxRecDepth 100000

/-- all rows that begin with a row and are longer by k tiles -/
def exts (s : List Tl) : Nat → List Nat → List (List Nat)
  | 0, r => [r]
  | k + 1, r => (longer s r).flatMap (exts s k)
theorem exts_rws (s : List Tl) : ∀ k x, (rws s x).flatMap (exts s k) = rws s (x + k)
  | 0, x => by simp [exts]
  | k + 1, x => by
    have := exts_rws s k (x + 1)
    rw [show x + (k + 1) = x + 1 + k by omega, ← this]
    simp only [rws, exts, List.flatMap_assoc]
theorem exts_nil (s : List Tl) (k : Nat) : exts s k [] = rws s k := by
  have := exts_rws s k 0
  rw [Nat.zero_add] at this
  rw [← this]
  simp [rws]
theorem longer_mem {s : List Tl} {x : Nat} {r q : List Nat} (hr : r ∈ rws s x) (hq : q ∈ longer s r) : q ∈ rws s (x + 1) := by
  simp only [rws, List.mem_flatMap]
  exact ⟨r, hr, hq⟩
/-- the cells of a row's struct: its tiles' place, the numbers of its lines -/
def rz (s : List Tl) (z : Nat × Nat × List Nat) : List Value := [.slice (some ⟨z.1, 0, none⟩) z.2.2.length z.2.1, .int .i64 (numS s z.2.2), .int .i64 (numN s z.2.2)]
/-- each row's tiles lie in a block of their own, from base on, which is not g -/
def ZOk (w : World) (base : Nat) (g : Option Nat) (Z : List (Nat × Nat × List Nat)) : Prop := ∀ z ∈ Z, base ≤ z.1 ∧ z.1 < w.heap.size ∧ some z.1 ≠ g ∧ w.rangeAt z.1 0 (vals (idxI z.2.2))
theorem ZOk.grown {w w' : World} {base : Nat} {g g' : Option Nat} {Z : List (Nat × Nat × List Nat)} (h : ZOk w base g Z) (hg : w.grownBy w' g) (hne : g' = g ∨ ∃ b, g' = some b ∧ w.heap.size ≤ b) : ZOk w' base g' Z := fun z hz => by
  obtain ⟨h1, h2, h3, h4⟩ := h z hz
  refine ⟨h1, Nat.lt_of_lt_of_le h2 hg.size, ?_, fun j v hv => ?_⟩
  · rcases hne with e | ⟨b, e, hb⟩
    · rw [e]; exact h3
    · rw [e]
      intro e'
      have : z.1 = b := by simpa using e'
      omega
  · exact (World.cell?_of_block (hg.block z.1 h2 h3)).trans (h4 j v hv)
theorem rz_len (s : List Tl) (z : Nat × Nat × List Nat) : (rz s z).length = 3 := rfl
theorem rz_one (s : List Tl) (z : Nat × Nat × List Nat) : ∀ u ∈ rz s z, u.oneCell' = true := by
  intro u hu
  simp only [rz, List.mem_cons, List.not_mem_nil, or_false] at hu
  rcases hu with rfl | rfl | rfl <;> rfl
/-- where a row's tiles lie: nowhere, if it is empty -/
def RCell (w : World) (base : Nat) (g : Option Nat) (r : List Nat) (A : Option Addr) (c : Nat) : Prop :=
  (r = [] ∧ A = none ∧ c = 0) ∨ ∃ b, A = some ⟨b, 0, none⟩ ∧ base ≤ b ∧ b < w.heap.size ∧ some b ≠ g ∧ w.rangeAt b 0 (vals (idxI r))
/-- the rows that go on with one of the first j tiles -/
def extTo (s : List Tl) (k : Nat) (r : List Nat) (j : Nat) : List (List Nat) := ((List.range j).filter (mayJoin s r)).flatMap fun i => exts s k (r ++ [i])
theorem extTo_yes (s : List Tl) (k : Nat) (r : List Nat) (j : Nat) (h : mayJoin s r j = true) : extTo s k r (j + 1) = extTo s k r j ++ exts s k (r ++ [j]) := by
  unfold extTo
  rw [range_filter, if_pos h, List.flatMap_append]
  simp
theorem extTo_no (s : List Tl) (k : Nat) (r : List Nat) (j : Nat) (h : mayJoin s r j = false) : extTo s k r (j + 1) = extTo s k r j := by
  unfold extTo
  rw [range_filter, if_neg (by rw [h]; simp), List.append_nil]
theorem extTo_end (s : List Tl) (k : Nat) (r : List Nat) : extTo s k r s.length = exts s (k + 1) r := by
  unfold extTo
  simp only [exts, longer, List.flatMap_map]
theorem extTo_le (s : List Tl) (k : Nat) (r : List Nat) (j : Nat) (hj : j ≤ s.length) : (extTo s k r j).length ≤ (exts s (k + 1) r).length := by
  rw [← extTo_end]
  unfold extTo
  have e := List.take_append_drop j (List.range s.length)
  rw [List.take_range, Nat.min_eq_left hj] at e
  rw [← e, List.filter_append, List.flatMap_append, List.length_append]
  omega
end Go.Proofs.YthjponagoahdhaaGreatDoor

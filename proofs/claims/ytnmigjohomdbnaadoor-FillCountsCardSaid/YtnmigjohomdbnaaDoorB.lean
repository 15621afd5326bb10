/-
  Words for what a set and a pattern are in memory; hasForm, cell, refers.
-/
import Derived.Test.YtnmigjohomdbnaaDoorA
import Derived.Deep.Draws
namespace Go.Proofs.YtnmigjohomdbnaaDoor
open Go.RowKit
set_option linter.unusedVariables false

/-- A row of integers below block B. -/
def IntsIn (w : World) (B : Nat) (A : Option Addr) (cs : List Int) : Prop :=
  cs ≠ [] → ∃ b off, A = some ⟨b, off, none⟩ ∧ b < B ∧ ∀ i, i < cs.length → w.cell? ⟨b, off + i, none⟩ = some (.int .i64 (cs.getD i 0))
/-- A row of tiles below block B, each colour an int's number. -/
def SetIn (w : World) (B : Nat) (A : Option Addr) (s : List Tl) : Prop :=
  s ≠ [] → ∃ b off, A = some ⟨b, off, none⟩ ∧ b < B ∧ ∀ i, i < s.length →
    w.cell? ⟨b, off + i * 4, none⟩ = some (.int .i64 (s.getD i ⟨0, 0, 0, 0⟩).n) ∧ w.cell? ⟨b, off + i * 4 + 1, none⟩ = some (.int .i64 (s.getD i ⟨0, 0, 0, 0⟩).e) ∧
    w.cell? ⟨b, off + i * 4 + 2, none⟩ = some (.int .i64 (s.getD i ⟨0, 0, 0, 0⟩).s) ∧ w.cell? ⟨b, off + i * 4 + 3, none⟩ = some (.int .i64 (s.getD i ⟨0, 0, 0, 0⟩).w)

theorem IntsIn.keep {w w' : World} {B B' : Nat} {A : Option Addr} {cs : List Int} (h : IntsIn w B A cs) (hb : Below B w w') (hB : B ≤ B') : IntsIn w' B' A cs := fun hn => by
  obtain ⟨b, off, hA, hlt, hc⟩ := h hn
  exact ⟨b, off, hA, by omega, fun i hi => (hb.cell (p := ⟨b, off + i, none⟩) hlt).trans (hc i hi)⟩
theorem SetIn.keep {w w' : World} {B B' : Nat} {A : Option Addr} {s : List Tl} (h : SetIn w B A s) (hb : Below B w w') (hB : B ≤ B') : SetIn w' B' A s := fun hn => by
  obtain ⟨b, off, hA, hlt, hc⟩ := h hn
  refine ⟨b, off, hA, by omega, fun i hi => ?_⟩
  obtain ⟨h0, h1, h2, h3⟩ := hc i hi
  exact ⟨(hb.cell (p := ⟨b, _, none⟩) hlt).trans h0, (hb.cell (p := ⟨b, _, none⟩) hlt).trans h1, (hb.cell (p := ⟨b, _, none⟩) hlt).trans h2, (hb.cell (p := ⟨b, _, none⟩) hlt).trans h3⟩

theorem all_take {α : Type} (f : α → Bool) (l : List α) (k : Nat) (hk : k < l.length) (d : α) (h : (l.take k).all f = true) (hv : f (l.getD k d) = true) : (l.take (k + 1)).all f = true := by
  rw [List.take_succ_eq_append_getElem hk, List.all_append, h]
  rw [List.getD_eq_getElem?_getD, List.getElem?_eq_getElem hk] at hv
  simpa using hv
theorem all_bad {α : Type} (f : α → Bool) (l : List α) (k : Nat) (hk : k < l.length) (d : α) (hv : f (l.getD k d) = false) : l.all f = false := by
  rw [List.getD_eq_getElem?_getD, List.getElem?_eq_getElem hk] at hv
  rw [List.all_eq_false]
  exact ⟨_, List.getElem_mem hk, by simpa using hv⟩
theorem ne_nil_of_lt {α : Type} {l : List α} {k : Nat} (h : k < l.length) : l ≠ [] := by intro e; rw [e] at h; simp at h

/-- an index of a set of m tiles -/
def isIdx (m : Nat) (i : Int) : Bool := decide (0 ≤ i ∧ i < (m : Int))

end Go.Proofs.YtnmigjohomdbnaaDoor

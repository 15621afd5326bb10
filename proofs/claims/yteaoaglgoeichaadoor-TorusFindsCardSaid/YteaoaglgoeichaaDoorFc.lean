/-
  groutworkref02: has, fits: may a row be row y of a rectangle with these edges?
-/
import Derived.Test.YteaoaglgoeichaaDoorFl
import Derived.Test.YteaoaglgoeichaaDoorFi
import Derived.Test.YteaoaglgoeichaaDoorAE
import Derived.Test.YteaoaglgoeichaaDoorSo
namespace Go.Proofs.YteaoaglgoeichaaDoor
open Go.RowKit Go.Maps Go.BigFrame
set_option linter.unusedVariables false
set_option linter.unusedSimpArgs false
set_option maxRecDepth 100000

/-- a colour that an edge asks for -/
def cond1 (l : List Int) (x : Nat) (v : Int) : Bool := decide (l = [] ∨ l.getD x 0 = v)
theorem hasE_iff {s : List Tl} {r : List Nat} {wd : Nat} (f : Tl → Int) {l : List Int} (hr : r.length = wd) (hl : l = [] ∨ l.length = wd) : hasE l (r.map fun i => f (ti s i)) = true ↔ ∀ x, x < wd → cond1 l x (f (ti s (r.getD x 0))) = true := by
  unfold hasE cond1
  simp only [decide_eq_true_eq]
  rcases hl with e | e
  · simp [e]
  · by_cases h0 : l = []
    · simp [h0]
    · rw [line_edge f l hr e]
      constructor
      · rintro (h | h)
        · exact absurd h h0
        · exact fun x hx => Or.inr (h x hx).symm
      · exact fun h => Or.inr fun x hx => ((h x hx).resolve_left h0).symm
theorem zc4c {w : World} {q : Nat} {a b c d : Value} {t : TypeId} (h : w.heap[q]? = some (.cells #[a, b, c, d] t (0, 0))) : w.cell? ⟨q, 0, none⟩ = some a ∧ w.cell? ⟨q, 1, none⟩ = some b ∧ w.cell? ⟨q, 2, none⟩ = some c ∧ w.cell? ⟨q, 3, none⟩ = some d := by
  refine ⟨?_, ?_, ?_, ?_⟩ <;> simp [World.cell?, h]
/-- row y's cell x meets the lower and the upper edge -/
def okx (s : List Tl) (d : Ed) (h y : Nat) (r : List Nat) (x : Nat) : Prop := (y = 0 → cond1 d.s x (ti s (r.getD x 0)).s = true) ∧ (y + 1 = h → cond1 d.n x (ti s (r.getD x 0)).n = true)
theorem admE_iff {s : List Tl} {d : Ed} {wd h y : Nat} {r : List Nat} (hr : r.length = wd) (hd : EdOk wd h d) (hy : y < h) : admE s d h y r = true ↔ (cond1 d.w y (west s r) = true ∧ cond1 d.e y (east s r) = true) ∧ ∀ x, x < wd → okx s d h y r x := by
  unfold admE lineS lineN
  simp only [Bool.and_eq_true, Bool.or_eq_true, decide_eq_true_eq]
  rw [hasE_iff (fun t => t.s) hr hd.2.2.1, hasE_iff (fun t => t.n) hr hd.1]
  unfold sideE cond1 okx
  constructor
  · rintro ⟨⟨h1, h2⟩, h3, h4⟩
    exact ⟨⟨h1, h2⟩, fun x hx => ⟨fun e => (h3.resolve_left (by omega)) x hx, fun e => (h4.resolve_left (by omega)) x hx⟩⟩
  · rintro ⟨⟨h1, h2⟩, h3⟩
    refine ⟨⟨h1, h2⟩, ?_, ?_⟩
    · by_cases e : 0 < y
      · exact Or.inl e
      · exact Or.inr fun x hx => (h3 x hx).1 (by omega)
    · by_cases e : y + 1 < h
      · exact Or.inl e
      · exact Or.inr fun x hx => (h3 x hx).2 (by omega)
end Go.Proofs.YteaoaglgoeichaaDoor

/-
  groutworkref03.from: the first torus whose lowest row is one of the rings. No program in this first part: what is kept and what is found.
-/
import Derived.Test.YteaoaglgoeichaaDoorRg
import Derived.Test.YteaoaglgoeichaaDoorRo
import Derived.Test.YteaoaglgoeichaaDoorTp
import Derived.Test.YteaoaglgoeichaaDoorSo
import Derived.Test.YteaoaglgoeichaaDoorAE
import Derived.Deep.RegionHeld3
namespace Go.Proofs.YteaoaglgoeichaaDoor
open Go.RowKit Go.Maps Go.BigFrame Go.Sort
set_option linter.unusedVariables false
set_option linter.unusedSimpArgs false
set_option maxRecDepth 100000

section
variable (R : List (List Nat)) (fS fN : List Nat → Int) (h : Nat) (t0 : Int)
/-- what may be row y of a torus: the uppermost row leads to the line t0 -/
def admN (y : Nat) (r : List Nat) : Bool := decide (y + 1 < h) || decide (fN r = t0)
/-- the reference's table -/
def mayR (y : Nat) (l : Int) : Bool := if y = h then decide (l = t0) else mayF R (admN fN h t0) fS fN h y l
theorem mayR_top (l : Int) : mayR R fS fN h t0 h l = decide (l = t0) := if_pos rfl
theorem mayR_lt (y : Nat) (hy : y < h) (l : Int) : mayR R fS fN h t0 y l = mayF R (admN fN h t0) fS fN h y l := if_neg (by omega)
theorem mayR_and (y : Nat) (hy : y < h) (r : List Nat) : (mayF R (admN fN h t0) fS fN h (y + 1) (fN r) && admN fN h t0 y r) = mayR R fS fN h t0 (y + 1) (fN r) := by
  by_cases e : y + 1 = h
  · have h1 : mayF R (admN fN h t0) fS fN h (y + 1) (fN r) = true := by rw [e]; exact mayF_top _ _ _ _ _ _
    have h2 : admN fN h t0 y r = decide (fN r = t0) := by unfold admN; rw [decide_eq_false (by omega), Bool.false_or]
    rw [h1, h2, Bool.true_and, e, mayR_top]
  · have h2 : admN fN h t0 y r = true := by unfold admN; rw [decide_eq_true (by omega), Bool.true_or]
    rw [h2, Bool.and_true, mayR_lt _ _ _ _ _ _ (by omega)]
/-- the rows over the lowest one -/
def fromN (r0 : List Nat) : Option (List (List Nat)) := if admN fN h (fS r0) 0 r0 = true then (stk R (admN fN h (fS r0)) fS fN (h - 1) 1 (some (fN r0))).head?.map (r0 :: ·) else none
theorem from_no (hh : 1 ≤ h) (r0 : List Nat) (hm : mayR R fS fN h (fS r0) 1 (fN r0) = false) : fromN R fS fN h r0 = none := by
  rw [← mayR_and R fS fN h _ 0 (by omega)] at hm
  unfold fromN
  cases ha : admN fN h (fS r0) 0 r0
  · rw [if_neg (by simp)]
  · rw [if_pos rfl]
    rw [ha, Bool.and_true] at hm
    unfold mayF at hm
    rw [decide_eq_false_iff_not, ways_stk] at hm
    have : stk R (admN fN h (fS r0)) fS fN (h - 1) 1 (some (fN r0)) = [] := List.eq_nil_of_length_eq_zero (by simpa using hm)
    rw [this]; rfl
theorem from_yes (hh : 1 ≤ h) (r0 : List Nat) (hm : mayR R fS fN h (fS r0) 1 (fN r0) = true) :
    fromN R fS fN h r0 = (stk R (admN fN h (fS r0)) fS fN (h - 1) 1 (some (fN r0))).head?.map ([r0] ++ ·) ∧ fromN R fS fN h r0 ≠ none := by
  rw [← mayR_and R fS fN h _ 0 (by omega), Bool.and_eq_true] at hm
  unfold fromN
  rw [if_pos hm.2]
  refine ⟨rfl, ?_⟩
  have h1 := hm.1
  unfold mayF at h1
  rw [decide_eq_true_eq, ways_stk] at h1
  intro e
  rw [Option.map_eq_none_iff, List.head?_eq_none_iff] at e
  simp only [Nat.zero_add] at h1
  rw [e] at h1
  simp at h1
end
theorem stk_adm {α κ : Type} [DecidableEq κ] (R : List α) (adm adm' : Nat → α → Bool) (S N : α → κ) (h : ∀ y, ∀ r ∈ R, adm y r = adm' y r) : ∀ k y b, stk R adm S N k y b = stk R adm' S N k y b
  | 0, _, _ => rfl
  | k + 1, y, b => by
    simp only [stk]
    have e : cand R adm S y b = cand R adm' S y b := by
      unfold cand
      exact List.filter_congr fun r hr => by rw [h y r hr]
    rw [e]
    congr 1
    funext r
    rw [stk_adm R adm adm' S N h k (y + 1) (some (N r))]
theorem rings_rws {s : List Tl} {a : Nat} {r : List Nat} (hr : r ∈ ringsE s a) : r ∈ rws s a := (List.mem_filter.1 hr).1
theorem torsFrom_num (s : List Tl) (a h : Nat) (hh : 1 ≤ h) (r0 : List Nat) (hr : r0 ∈ ringsE s a) : (torsFrom s a h r0).head? = fromN (ringsE s a) (numS s) (numN s) h r0 := by
  have hadm : ∀ y, ∀ r ∈ ringsE s a, admT s h r0 y r = admN (numN s) h (numS s r0) y r := fun y r hr1 => by
    unfold admT admN
    congr 1
    rw [decide_eq_decide]
    have := line_num s a r0 (rings_rws hr) r (rings_rws hr1)
    constructor
    · intro e; exact (this.1 e.symm).symm
    · intro e; exact (this.2 e.symm).symm
  have hstk := (stk_congr (ringsE s a) (admT s h r0) (lineS s) (lineN s) (numS s) (numN s) (fun r hr q hq => line_num s a r (rings_rws hr) q (rings_rws hq)) (h - 1) 1).1 r0 hr
  unfold torsFrom fromN
  rw [hstk, stk_adm _ _ _ _ _ hadm, hadm 0 r0 hr]
  split
  · rw [List.head?_map]
  · rfl
/-- the first torus is that of the first ring that has one -/
theorem tors_findSome (s : List Tl) (a h : Nat) (hh : 1 ≤ h) : (torsE s a h).head? = (ringsE s a).findSome? (fromN (ringsE s a) (numS s) (numN s) h) := by
  unfold torsE
  rw [List.head?_flatMap]
  exact findSome_congr' _ _ _ fun r hr => torsFrom_num s a h hh r hr
end Go.Proofs.YteaoaglgoeichaaDoor

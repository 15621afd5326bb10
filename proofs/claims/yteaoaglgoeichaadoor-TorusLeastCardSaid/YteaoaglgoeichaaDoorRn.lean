/-
  ref02.Count's numbers: capped ways over the numbers of lines. No program, no memory.
-/
import Derived.Test.YteaoaglgoeichaaDoorFp
namespace Go.Proofs.YteaoaglgoeichaaDoor
set_option linter.unusedVariables false

section
variable (R : List (List Nat)) (adm : Nat → List Nat → Bool) (S N : List Nat → Int) (h : Nat)
/-- what a row of height y counts for -/
def vOf (y : Nat) (r : List Nat) : Nat := ways R adm S N (h - (y + 1)) (y + 1) (N r)
/-- the ways over line l by the first i rows -/
def pOf (y i : Nat) (l : Int) : Nat := (((R.take i).filter fun r => adm y r && decide (S r = l)).map (vOf R adm S N h y)).sum
theorem vOf_top (y : Nat) (hy : y + 1 = h) (r : List Nat) : vOf R adm S N h y r = 1 := by
  unfold vOf
  rw [hy, Nat.sub_self]
  rfl
theorem pOf_zero (y : Nat) (l : Int) : pOf R adm S N h y 0 l = 0 := by simp [pOf]
theorem pOf_all (y : Nat) (hy : y < h) (l : Int) : pOf R adm S N h y R.length l = ways R adm S N (h - y) y l := by
  unfold pOf
  rw [List.take_length]
  obtain ⟨k, hk⟩ : ∃ k, h - y = k + 1 := ⟨h - y - 1, by omega⟩
  rw [hk]
  simp only [ways, cand, stands]
  congr 1
  refine List.map_congr_left fun r _ => ?_
  unfold vOf
  rw [show h - (y + 1) = k by omega]
theorem pOf_yes (y i : Nat) (r : List Nat) (hr : R[i]? = some r) (ha : adm y r = true) (l : Int) : pOf R adm S N h y (i + 1) l = pOf R adm S N h y i l + if S r = l then vOf R adm S N h y r else 0 := by
  obtain ⟨hi, e⟩ := List.getElem?_eq_some_iff.1 hr
  unfold pOf
  rw [List.take_succ_eq_append_getElem hi, e, List.filter_append, List.map_append, List.sum_append]
  by_cases hl : S r = l
  · simp [ha, hl]
  · simp [ha, hl]
theorem pOf_no (y i : Nat) (r : List Nat) (hr : R[i]? = some r) (ha : adm y r = false) (l : Int) : pOf R adm S N h y (i + 1) l = pOf R adm S N h y i l := by
  obtain ⟨hi, e⟩ := List.getElem?_eq_some_iff.1 hr
  unfold pOf
  rw [List.take_succ_eq_append_getElem hi, e, List.filter_append, List.map_append, List.sum_append]
  simp [ha]
theorem total_pOf (hh : 1 ≤ h) (m : Nat) (hS : ∀ r ∈ R, 0 ≤ S r ∧ S r < (m : Int)) : total R adm S N h = ((List.range m).map fun l : Nat => ways R adm S N h 0 (l : Int)).sum := by
  have hk := sum_keys (cand R adm S 0 (none : Option Int)) S (vOf R adm S N h 0) ((List.range m).map fun l : Nat => (l : Int)) (by
    unfold List.Nodup
    rw [List.pairwise_map]
    exact List.nodup_range.imp fun hne e => hne (by exact_mod_cast e)) fun r hr => by
      obtain ⟨h0, h1⟩ := hS r (List.mem_filter.1 hr).1
      exact List.mem_map.2 ⟨(S r).toNat, List.mem_range.2 (by omega), by omega⟩
  have e1 : total R adm S N h = ((cand R adm S 0 (none : Option Int)).map (vOf R adm S N h 0)).sum := rfl
  rw [e1, ← hk, List.map_map]
  congr 1
  refine List.map_congr_left fun l _ => ?_
  show (List.map (vOf R adm S N h 0) (List.filter (fun a => decide (S a = (l : Int))) (cand R adm S 0 (none : Option Int)))).sum = ways R adm S N h 0 (l : Int)
  have hp := pOf_all R adm S N h 0 (by omega) (l : Int)
  rw [Nat.sub_zero] at hp
  rw [← hp]
  unfold pOf cand stands
  rw [List.take_length, List.filter_filter]
  congr 2
  refine List.filter_congr fun r _ => ?_
  cases adm 0 r <;> simp
end
end Go.Proofs.YteaoaglgoeichaaDoor

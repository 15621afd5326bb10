/-
  Rows of tiles as paths, and how long they are: the plain mathematics of P4.2.
-/
import Derived.Test.YtgadfmknjpanpaaDoorSd
import Derived.Test.YtgadfmknjpanpaaDoorSz
namespace Go.Proofs.YtgadfmknjpanpaaDoor
set_option linter.unusedVariables false

/-- some row of n tiles leads from a colour to a colour -/
def someE (s : List Tl) (n : Nat) : Bool := (List.range s.length).any fun i => (List.range s.length).any fun k => (pathE s (ti s i).w (ti s k).e n).isSome
theorem begins_path (s : List Tl) (hc : ∀ i, i < s.length → 0 ≤ (ti s i).e ∧ 0 ≤ (ti s i).w) : ∀ n i, begins s (n + 1) i → ∃ k, k < s.length ∧ stP s (ti s k).e.toNat (n + 1) (ti s i).w.toNat = true
  | 0, i, h => by
    have hi := h.1
    refine ⟨i, hi, ?_⟩
    unfold stP
    refine List.any_eq_true.2 ⟨ti s i, ti_mem hi, ?_⟩
    have := hc i hi
    simp only [stP, Bool.and_eq_true, decide_eq_true_eq, true_and]
    omega
  | n + 1, i, h => by
    obtain ⟨j, hj, hb⟩ := h.2.resolve_left (by omega)
    obtain ⟨k, hk, hp⟩ := begins_path s hc n j hb
    refine ⟨k, hk, ?_⟩
    rw [stP]
    refine List.any_eq_true.2 ⟨ti s i, ti_mem h.1, ?_⟩
    have := hc i h.1
    rw [Bool.and_eq_true, decide_eq_true_eq]
    refine ⟨by rw [← hj]; exact hp, by omega⟩
theorem path_begins (s : List Tl) (hc : ∀ i, i < s.length → 0 ≤ (ti s i).e ∧ 0 ≤ (ti s i).w) (to' : Nat) : ∀ n c, stP s to' (n + 1) c = true → ∃ i, (ti s i).w = (c : Int) ∧ begins s (n + 1) i
  | 0, c, h => by
    unfold stP at h
    obtain ⟨t, ht, hp⟩ := List.any_eq_true.1 h
    obtain ⟨i, hi, e⟩ := List.mem_iff_getElem.1 ht
    have hti : ti s i = t := by unfold ti; simp [hi, e]
    rw [Bool.and_eq_true, decide_eq_true_eq] at hp
    exact ⟨i, by rw [hti]; exact hp.2, hi, Or.inl rfl⟩
  | n + 1, c, h => by
    rw [stP] at h
    obtain ⟨t, ht, hp⟩ := List.any_eq_true.1 h
    obtain ⟨i, hi, e⟩ := List.mem_iff_getElem.1 ht
    have hti : ti s i = t := by unfold ti; simp [hi, e]
    rw [Bool.and_eq_true, decide_eq_true_eq] at hp
    obtain ⟨j, hj, hb⟩ := path_begins s hc to' n t.e.toNat hp.1
    have := (hc i hi).1
    refine ⟨i, by rw [hti]; exact hp.2, hi, Or.inr ⟨j, ?_, hb⟩⟩
    rw [hj, hti]
    rw [hti] at this
    omega
theorem some_iff (s : List Tl) (hv : vld s = true) (n : Nat) : someE s (n + 1) = true ↔ ∃ i, begins s (n + 1) i := by
  have hc : ∀ i, i < s.length → 0 ≤ (ti s i).e ∧ 0 ≤ (ti s i).w := fun i hi => by
    have := okt_bounds hv hi
    exact ⟨this.2.1.1, this.2.2.2.1⟩
  have hcol : ∀ i, i < s.length → colB (ti s i).w = true ∧ colB (ti s i).e = true := fun i hi => by
    obtain ⟨-, h1, -, h3⟩ := okt_bounds hv hi
    unfold colB
    rw [decide_eq_true h1.1, decide_eq_true h1.2, decide_eq_true h3.1, decide_eq_true h3.2]
    exact ⟨rfl, rfl⟩
  unfold someE
  constructor
  · intro h
    obtain ⟨i, hi, h2⟩ := List.any_eq_true.1 h
    obtain ⟨k, hk, h3⟩ := List.any_eq_true.1 h2
    have hi' := List.mem_range.1 hi
    have hk' := List.mem_range.1 hk
    unfold pathE at h3
    rw [(hcol i hi').1, (hcol k hk').2] at h3
    simp only [Bool.and_self, if_true] at h3
    split at h3
    · rename_i hst
      obtain ⟨j, -, hb⟩ := path_begins s hc _ n _ hst
      exact ⟨j, hb⟩
    · cases h3
  · rintro ⟨i, hb⟩
    obtain ⟨k, hk, hst⟩ := begins_path s hc n i hb
    refine List.any_eq_true.2 ⟨i, List.mem_range.2 hb.1, List.any_eq_true.2 ⟨k, List.mem_range.2 hk, ?_⟩⟩
    unfold pathE
    rw [(hcol i hb.1).1, (hcol k hk).2]
    simp only [Bool.and_self, if_true]
    rw [if_pos hst]
    rfl
theorem some_rounds (s : List Tl) (hv : vld s = true) (n : Nat) : someE s (n + 1) = !(rounds (leadP s) n (List.range s.length)).isEmpty := by
  rw [Bool.eq_iff_iff, some_iff s hv n]
  constructor
  · rintro ⟨i, hb⟩
    have := (mem_lead s n i).2 hb
    cases h : rounds (leadP s) n (List.range s.length) with
    | nil => rw [h] at this; cases this
    | cons a l => rfl
  · intro h
    cases hr : rounds (leadP s) n (List.range s.length) with
    | nil => rw [hr] at h; cases h
    | cons a l => exact ⟨a, (mem_lead s n a).1 (by rw [hr]; simp)⟩
theorem rowsL_some {s : List Tl} {j : Nat} (h : rowsL s = some j) : j ≤ s.length ∧ rounds (leadP s) j (List.range s.length) = [] ∧ ∀ i, i < j → rounds (leadP s) i (List.range s.length) ≠ [] := by
  obtain ⟨h1, i, hi, he, hno⟩ := List.find?_eq_some_iff_getElem.1 h
  rw [List.getElem_range] at he
  subst he
  rw [List.length_range] at hi
  refine ⟨by omega, List.isEmpty_iff.1 h1, fun k hk e => ?_⟩
  have := hno k hk
  rw [List.getElem_range, e] at this
  simp at this
theorem rowsL_none {s : List Tl} (h : rowsL s = none) {n : Nat} (hn : s.length ≤ n) : rounds (leadP s) n (List.range s.length) ≠ [] := by
  obtain ⟨k, hk, he⟩ := rounds_stop (leadP s) (List.range s.length)
  rw [List.length_range] at hk
  have h1 := rounds_stay (leadP s) (List.range s.length) k he (n - k)
  rw [show k + (n - k) = n by omega] at h1
  rw [h1]
  intro e
  unfold rowsL at h
  rw [List.find?_eq_none] at h
  have := h k (List.mem_range.2 (by omega))
  rw [e] at this
  simp at this
/-- a row of cells begins a row -/
theorem row_begins (s : List Tl) : ∀ (n : Nat) (f : Nat → Nat), (∀ x, x < n + 1 → f x < s.length) → (∀ x, x + 1 < n + 1 → (ti s (f x)).e = (ti s (f (x + 1))).w) → begins s (n + 1) (f 0)
  | 0, f, h1, h2 => ⟨h1 0 (by omega), Or.inl rfl⟩
  | n + 1, f, h1, h2 => ⟨h1 0 (by omega), Or.inr ⟨f 1, (h2 0 (by omega)).symm, row_begins s n (fun x => f (x + 1)) (fun x hx => h1 (x + 1) (by omega)) (fun x hx => h2 (x + 1) (by omega))⟩⟩
theorem rws_none (s : List Tl) (n : Nat) (h : rounds (leadP s) n (List.range s.length) = []) : rws s (n + 1) = [] := by
  cases hr : rws s (n + 1) with
  | nil => rfl
  | cons r l =>
    have hm := (mem_rws s (n + 1) r).1 (by rw [hr]; simp)
    have hb := row_begins s n (fun x => r.getD x 0) hm.2.1 hm.2.2
    have := (mem_lead s n _).2 hb
    rw [h] at this
    cases this
theorem first_none1 (s : List Tl) (n : Nat) (d : Ed) (h : rws s n = []) : firstE s n 1 d = none := by
  unfold firstE stksE
  rw [h]
  rfl
end Go.Proofs.YtgadfmknjpanpaaDoor

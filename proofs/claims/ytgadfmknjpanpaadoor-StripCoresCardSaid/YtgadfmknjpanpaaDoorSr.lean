/-
  What is left of a list when members are taken from it round by round; rows as paths; the core. The plain mathematics of package strip. No program, no memory.
-/
import Derived.Test.YtgadfmknjpanpaaDoorFp
namespace Go.Proofs.YtgadfmknjpanpaaDoor
set_option linter.unusedVariables false

section
variable {α : Type} (P : List α → α → Bool)
/-- what one round leaves -/
def keep1 (l : List α) : List α := l.filter (P l)
/-- what n rounds leave -/
def rounds : Nat → List α → List α
  | 0, l => l
  | n + 1, l => rounds n (keep1 P l)
theorem rounds_succ (n : Nat) (l : List α) : rounds P (n + 1) l = keep1 P (rounds P n l) := by
  induction n generalizing l with
  | zero => rfl
  | succ n ih =>
    show rounds P (n + 1) (keep1 P l) = _
    rw [ih]
    rfl
theorem keep1_sub (l : List α) : ∀ a ∈ keep1 P l, a ∈ l := fun a h => (List.mem_filter.1 h).1
theorem rounds_sub (n : Nat) (l : List α) : ∀ a ∈ rounds P n l, a ∈ l := by
  induction n generalizing l with
  | zero => exact fun a h => h
  | succ n ih => exact fun a h => keep1_sub P l a (ih _ a h)
theorem keep1_same (l : List α) (h : (keep1 P l).length = l.length) : keep1 P l = l := by
  unfold keep1 at h ⊢
  exact List.filter_eq_self.2 fun a ha => by
    have := List.length_filter_eq_length_iff.1 h
    exact this a ha
theorem keep1_le (l : List α) : (keep1 P l).length ≤ l.length := List.length_filter_le _ _
/-- after as many rounds as there are members nothing is taken any more -/
theorem rounds_stop (l : List α) : ∃ n, n ≤ l.length ∧ keep1 P (rounds P n l) = rounds P n l := by
  obtain ⟨k, hk⟩ : ∃ k, k = l.length := ⟨_, rfl⟩
  rw [← hk]
  induction k using Nat.strongRecOn generalizing l with
  | ind k ih =>
    by_cases h : (keep1 P l).length = l.length
    · exact ⟨0, Nat.zero_le _, keep1_same P l h⟩
    · have hl := keep1_le P l
      obtain ⟨n, hn, he⟩ := ih (keep1 P l).length (by omega) (keep1 P l) rfl
      exact ⟨n + 1, by omega, he⟩
/-- once nothing is taken, nothing is taken later -/
theorem rounds_stay (l : List α) (n : Nat) (h : keep1 P (rounds P n l) = rounds P n l) : ∀ k, rounds P (n + k) l = rounds P n l
  | 0 => rfl
  | k + 1 => by
    rw [← Nat.add_assoc, rounds_succ, rounds_stay l n h k, h]
/-- what stays by itself is never taken -/
theorem rounds_closed (mono : ∀ A B : List α, (∀ a ∈ A, a ∈ B) → ∀ a, P A a = true → P B a = true) (T : List α) (hT : ∀ a ∈ T, P T a = true) : ∀ (n : Nat) (l : List α), (∀ a ∈ T, a ∈ l) → ∀ a ∈ T, a ∈ rounds P n l
  | 0, l, h => h
  | n + 1, l, h => rounds_closed mono T hT n (keep1 P l) fun a ha => List.mem_filter.2 ⟨h a ha, mono T l h a (hT a ha)⟩
end
/-- a neighbour to the east among some tiles -/
def leadP (s : List Tl) (l : List Nat) (i : Nat) : Bool := l.any fun j => decide ((ti s j).w = (ti s i).e)
/-- a neighbour at each side among some tiles -/
def enclP (s : List Tl) (l : List Nat) (i : Nat) : Bool :=
  (l.any fun j => decide ((ti s j).s = (ti s i).n)) && ((l.any fun j => decide ((ti s j).w = (ti s i).e)) && ((l.any fun j => decide ((ti s j).n = (ti s i).s)) && (l.any fun j => decide ((ti s j).e = (ti s i).w))))
theorem any_mono {A B : List Nat} (h : ∀ a ∈ A, a ∈ B) (p : Nat → Bool) : A.any p = true → B.any p = true := fun ha => by
  obtain ⟨a, h1, h2⟩ := List.any_eq_true.1 ha
  exact List.any_eq_true.2 ⟨a, h a h1, h2⟩
theorem leadP_mono (s : List Tl) (A B : List Nat) (h : ∀ a ∈ A, a ∈ B) (i : Nat) : leadP s A i = true → leadP s B i = true := any_mono h _
theorem enclP_mono (s : List Tl) (A B : List Nat) (h : ∀ a ∈ A, a ∈ B) (i : Nat) : enclP s A i = true → enclP s B i = true := by
  unfold enclP
  simp only [Bool.and_eq_true]
  rintro ⟨h1, h2, h3, h4⟩
  exact ⟨any_mono h _ h1, any_mono h _ h2, any_mono h _ h3, any_mono h _ h4⟩
/-- a row of n tiles begins with tile i -/
def begins (s : List Tl) : Nat → Nat → Prop
  | 0, _ => True
  | n + 1, i => i < s.length ∧ (n = 0 ∨ ∃ j, (ti s j).w = (ti s i).e ∧ begins s n j)
theorem begins_lt {s : List Tl} {n i : Nat} (h : begins s (n + 1) i) : i < s.length := h.1
/-- ROUND n TAKES THE TILES WITH WHICH ROWS OF n TILES BEGIN, BUT NO LONGER ONES. -/
theorem mem_lead (s : List Tl) : ∀ n i, i ∈ rounds (leadP s) n (List.range s.length) ↔ begins s (n + 1) i
  | 0, i => by
    show i ∈ List.range s.length ↔ _
    rw [List.mem_range]
    exact ⟨fun h => ⟨h, Or.inl rfl⟩, fun h => h.1⟩
  | n + 1, i => by
    rw [rounds_succ]
    unfold keep1
    rw [List.mem_filter]
    constructor
    · rintro ⟨h1, h2⟩
      obtain ⟨j, hj, he⟩ := List.any_eq_true.1 h2
      exact ⟨begins_lt ((mem_lead s n i).1 h1), Or.inr ⟨j, by simpa using he, (mem_lead s n j).1 hj⟩⟩
    · rintro ⟨h1, h2⟩
      obtain ⟨j, he, hj⟩ := h2.resolve_left (by omega)
      have hjm := (mem_lead s n j).2 hj
      refine ⟨(mem_lead s n i).2 ?_, List.any_eq_true.2 ⟨j, hjm, by simpa using he⟩⟩
      cases n with
      | zero => exact ⟨h1, Or.inl rfl⟩
      | succ n =>
        obtain ⟨hj1, hj2⟩ := hj
        refine ⟨h1, Or.inr ⟨j, he, ?_⟩⟩
        have := (mem_lead s n j).1 (keep1_sub (leadP s) _ _ (by rw [← rounds_succ]; exact hjm))
        exact this
/-- all tiles of a torus belong to the core -/
theorem core_torus (s : List Tl) (T : List Nat) (hs : ∀ i ∈ T, i < s.length) (hT : ∀ i ∈ T, enclP s T i = true) (n : Nat) : ∀ i ∈ T, i ∈ rounds (enclP s) n (List.range s.length) :=
  rounds_closed (enclP s) (enclP_mono s) T hT n _ fun i hi => List.mem_range.2 (hs i hi)
end Go.Proofs.YtgadfmknjpanpaaDoor

/-
  Squares that can be filled: the plain mathematics of package square. No program, no memory.
-/
import Derived.Test.YthjponagoahdhaaGreatDoorFp
namespace Go.Proofs.YthjponagoahdhaaGreatDoor
section
set_option linter.unusedVariables false
def noE : Ed := ⟨[], [], [], []⟩
theorem noE_ok (w h : Nat) : EdOk w h noE := ⟨Or.inl rfl, Or.inl rfl, Or.inl rfl, Or.inl rfl⟩
/-- there is a square of a side -/
def sqB (s : List Tl) (n : Nat) : Bool := (firstE s n n noE).isSome
theorem sqB_iff {s : List Tl} {n : Nat} (hn : 1 ≤ n) : sqB s n = true ↔ ∃ c, Good s n n noE c := by
  unfold sqB
  constructor
  · intro h
    obtain ⟨c, hc⟩ := Option.isSome_iff_exists.1 h
    obtain ⟨t, ht, _⟩ := first_mem hc
    exact ⟨_, ((mem_stksE s n n noE hn hn (noE_ok n n) t).1 ht).2⟩
  · rintro ⟨c, g⟩
    have ht : mk n n c ∈ stksE s n n noE := (mem_stksE s n n noE hn hn (noE_ok n n) _).2 ⟨mk_shaped n n c, g.congr hn hn fun x y hx hy => (cl_mk n n c hx hy).symm⟩
    unfold firstE
    cases e : stksE s n n noE with
    | nil => rw [e] at ht; cases ht
    | cons a l => simp
theorem sqB_none {s : List Tl} {n : Nat} : sqB s n = false ↔ firstE s n n noE = none := by
  unfold sqB
  cases firstE s n n noE <;> simp
theorem Good.sub {s : List Tl} {n k : Nat} {c : Nat → Nat → Nat} (g : Good s n n noE c) (h : k ≤ n) : Good s k k noE c where
  idx x y hx hy := g.idx x y (by omega) (by omega)
  hor x y hx hy := g.hor x y (by omega) (by omega)
  ver x y hx hy := g.ver x y (by omega) (by omega)
  no := Or.inl rfl
  ea := Or.inl rfl
  so := Or.inl rfl
  we := Or.inl rfl
/-- falling: a square has smaller ones -/
theorem sqB_less {s : List Tl} {n k : Nat} (hk : 1 ≤ k) (h : k ≤ n) (hs : sqB s n = true) : sqB s k = true := by
  obtain ⟨c, g⟩ := (sqB_iff (by omega)).1 hs
  exact (sqB_iff hk).2 ⟨c, g.sub h⟩
/-- no more: a pattern that is as wide and as high has a square -/
theorem sqB_fits {s : List Tl} {p : Pt} {n : Nat} (hn : 1 ≤ n) (hw : (n : Int) ≤ p.w) (hh : (n : Int) ≤ p.h) (hp : fits s p = true) : sqB s n = true := by
  simp only [fits, Bool.and_eq_true] at hp
  obtain ⟨hv, hf, hr, hg⟩ := hp
  obtain ⟨a, b, ha, hb, ha1, hb1, _, hl⟩ := form_nat hf
  rw [agrs_iff, ha, hb, Int.toNat_natCast, Int.toNat_natCast] at hg
  have hc : ∀ x y, x < a → y < b → ∃ i : Nat, cel p x y = (i : Int) ∧ i < s.length := fun x y hx hy => by
    have h := refers_cel hf hr x y (by rw [ha]; exact hx) (by rw [hb]; exact hy)
    exact ⟨(cel p x y).toNat, by omega, by omega⟩
  refine (sqB_iff hn).2 ⟨fun x y => (cel p x y).toNat, ?_, ?_, ?_, Or.inl rfl, Or.inl rfl, Or.inl rfl, Or.inl rfl⟩
  · intro x y hx hy
    obtain ⟨i, h1, h2⟩ := hc x y (by omega) (by omega)
    simp only [h1, Int.toNat_natCast]
    exact h2
  · intro x y hx hy
    have h := (hg y (by omega) x (by omega)).1 (by omega)
    rw [ha, Int.toNat_natCast, Nat.mod_eq_of_lt (by omega)] at h
    obtain ⟨i, h1, h2⟩ := hc x y (by omega) (by omega)
    obtain ⟨j, h3, h4⟩ := hc (x + 1) y (by omega) (by omega)
    simp only [h1, h3, Int.toNat_natCast] at h ⊢
    rw [ti_tl, ti_tl] at h
    exact h
  · intro x y hx hy
    have h := (hg y (by omega) x (by omega)).2 (by omega)
    rw [hb, Int.toNat_natCast, Nat.mod_eq_of_lt (by omega)] at h
    obtain ⟨i, h1, h2⟩ := hc x y (by omega) (by omega)
    obtain ⟨j, h3, h4⟩ := hc x (y + 1) (by omega) (by omega)
    simp only [h1, h3, Int.toNat_natCast] at h ⊢
    rw [ti_tl, ti_tl] at h
    exact h
/-- what First finds fits -/
theorem sq_there {s : List Tl} {n : Nat} {c : List Nat} (hv : vld s = true) (hn : 1 ≤ n) (h8 : n ≤ 8) (h : firstE s n n noE = some c) : fits s (ptI n n c) = true ∧ c.length = n * n := by
  obtain ⟨t, ht, rfl⟩ := first_mem h
  refine ⟨there_fits hv hn h8 hn (by omega) (noE_ok n n) ht, ?_⟩
  have hs := ((mem_stksE s n n noE hn hn (noE_ok n n) t).1 ht).1
  rw [flatR_len t hs.2, hs.1]
theorem ti_erase (s : List Tl) (k i : Nat) : ti (s.take k ++ s.drop (k + 1)) i = if k ≤ s.length then ti s (if i < k then i else i + 1) else ti s i := by
  by_cases hk : k ≤ s.length
  · rw [if_pos hk]
    unfold ti
    rw [List.getD_eq_getElem?_getD, List.getD_eq_getElem?_getD]
    by_cases hi : i < k
    · rw [if_pos hi, List.getElem?_append_left (by simp; omega), List.getElem?_take, if_pos hi]
    · rw [if_neg hi, List.getElem?_append_right (by simp; omega), List.getElem?_drop, List.length_take, Nat.min_eq_left hk]
      congr 2
      omega
  · rw [if_neg hk, List.take_of_length_le (by omega), List.drop_eq_nil_of_le (by omega), List.append_nil]
/-- a part of a set has no more squares -/
theorem sqB_part {s : List Tl} {n k : Nat} (hn : 1 ≤ n) (hk : k < s.length) (h : sqB (s.take k ++ s.drop (k + 1)) n = true) : sqB s n = true := by
  obtain ⟨c, g⟩ := (sqB_iff hn).1 h
  have e : ∀ i, ti (s.take k ++ s.drop (k + 1)) i = ti s (if i < k then i else i + 1) := fun i => by rw [ti_erase, if_pos (by omega)]
  refine (sqB_iff hn).2 ⟨fun x y => if c x y < k then c x y else c x y + 1, ?_, ?_, ?_, Or.inl rfl, Or.inl rfl, Or.inl rfl, Or.inl rfl⟩
  · intro x y hx hy
    have := g.idx x y hx hy
    simp only [List.length_append, List.length_take, List.length_drop] at this
    show (if c x y < k then c x y else c x y + 1) < s.length
    split <;> omega
  · intro x y hx hy
    have := g.hor x y hx hy
    rw [e, e] at this
    exact this
  · intro x y hx hy
    have := g.ver x y hx hy
    rw [e, e] at this
    exact this
/-- the last side up to a number of which there is a square -/
def lastS (s : List Tl) : Nat → Nat
  | 0 => 0
  | k + 1 => if sqB s (k + 1) = true then k + 1 else lastS s k
theorem lastS_le (s : List Tl) : ∀ n, lastS s n ≤ n
  | 0 => Nat.le_refl _
  | k + 1 => by
    have := lastS_le s k
    unfold lastS
    split <;> omega
theorem lastS_top {s : List Tl} {k : Nat} (hk : 1 ≤ k) (h : sqB s k = true) : lastS s k = k := by
  obtain ⟨j, rfl⟩ : ∃ j, k = j + 1 := ⟨k - 1, by omega⟩
  unfold lastS
  rw [if_pos h]
theorem lastS_before {s : List Tl} {k : Nat} (h : sqB s (k + 1) = true) : lastS s k = k := by
  rcases Nat.eq_zero_or_pos k with e | e
  · subst e; rfl
  · exact lastS_top e (sqB_less e (by omega) h)
theorem lastS_char {s : List Tl} {k : Nat} : ∀ n, k ≤ n → (∀ j, 1 ≤ j → j ≤ k → sqB s j = true) → (∀ j, k < j → j ≤ n → sqB s j = false) → lastS s n = k
  | 0, hk, _, _ => by have : k = 0 := by omega
                      subst this; rfl
  | n + 1, hk, h1, h2 => by
    by_cases e : k = n + 1
    · rw [e]
      exact lastS_top (by omega) (h1 _ (by omega) (by omega))
    · unfold lastS
      rw [if_neg (by rw [h2 (n + 1) (by omega) (Nat.le_refl _)]; simp)]
      exact lastS_char n (by omega) h1 fun j hj hn => h2 j hj (by omega)
theorem lastS_sq {s : List Tl} : ∀ n, 1 ≤ lastS s n → sqB s (lastS s n) = true
  | 0, h => by simp [lastS] at h
  | n + 1, h => by
    unfold lastS at h ⊢
    by_cases e : sqB s (n + 1) = true
    · rw [if_pos e]; exact e
    · rw [if_neg e] at h ⊢; exact lastS_sq n h
theorem lastS_not {s : List Tl} : ∀ n j, lastS s n < j → j ≤ n → sqB s j = false
  | 0, j, h, hj => by omega
  | n + 1, j, h, hj => by
    unfold lastS at h
    by_cases e : sqB s (n + 1) = true
    · rw [if_pos e] at h; omega
    · rw [if_neg e] at h
      by_cases ej : j = n + 1
      · rw [ej]; simpa using e
      · exact lastS_not n j h (by omega)
end
end Go.Proofs.YthjponagoahdhaaGreatDoor

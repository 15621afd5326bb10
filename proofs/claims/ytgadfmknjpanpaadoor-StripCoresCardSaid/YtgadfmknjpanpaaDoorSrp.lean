/-
  ref04.Path, the plain mathematics.
-/
import Derived.Test.YtgadfmknjpanpaaDoorSrw
namespace Go.Proofs.YtgadfmknjpanpaaDoor
set_option linter.unusedVariables false

/-- a row of r + 1 tiles that ends with a colour begins with tile i -/
def mpB (s : List Tl) (z : Int) : Nat → Nat → Bool
  | 0, i => decide ((ti s i).e = z)
  | r + 1, i => (List.range s.length).any fun j => mpB s z r j && decide ((ti s i).e = (ti s j).w)
/-- the same, by the first k tiles -/
def mpG (s : List Tl) (z : Int) (r i k : Nat) : Bool := (List.range k).any fun j => mpB s z r j && decide ((ti s i).e = (ti s j).w)
theorem mpG_zero (s : List Tl) (z : Int) (r i : Nat) : mpG s z r i 0 = false := rfl
theorem mpG_all (s : List Tl) (z : Int) (r i : Nat) : mpG s z r i s.length = mpB s z (r + 1) i := rfl
theorem mpG_succ (s : List Tl) (z : Int) (r i k : Nat) : mpG s z r i (k + 1) = (mpG s z r i k || (mpB s z r k && decide ((ti s i).e = (ti s k).w))) := by
  unfold mpG
  rw [List.range_succ, List.any_append]
  simp
theorem mpG_true (s : List Tl) (z : Int) (r i k : Nat) (hk : k ≤ s.length) (h : mpG s z r i k = true) : mpB s z (r + 1) i = true := by
  unfold mpG at h
  obtain ⟨j, hj, hp⟩ := List.any_eq_true.1 h
  rw [mpB]
  exact List.any_eq_true.2 ⟨j, List.mem_range.2 (by have := List.mem_range.1 hj; omega), hp⟩
/-- the first row, tile by tile -/
def rgo (s : List Tl) (z : Int) : Nat → Int → Option (List Nat)
  | 0, _ => some []
  | r + 1, f => match (List.range s.length).find? (fun i => mpB s z r i && decide ((ti s i).w = f)) with
    | none => none
    | some i => (rgo s z r (ti s i).e).map (i :: ·)
theorem rgo_some (s : List Tl) (z : Int) (r : Nat) (f : Int) {i : Nat} (hi : i < s.length) (h : (mpB s z r i && decide ((ti s i).w = f)) = true) (hno : ∀ j, j < i → (mpB s z r j && decide ((ti s j).w = f)) = false) : rgo s z (r + 1) f = (rgo s z r (ti s i).e).map (i :: ·) := by
  have : (List.range s.length).find? (fun i => mpB s z r i && decide ((ti s i).w = f)) = some i := by
    rw [List.find?_eq_some_iff_getElem]
    refine ⟨h, i, by simpa using hi, by simp, fun j hj => ?_⟩
    simp only [List.getElem_range]
    rw [hno j hj]
    rfl
  rw [rgo, this]
theorem rgo_none (s : List Tl) (z : Int) (r : Nat) (f : Int) (hno : ∀ j, j < s.length → (mpB s z r j && decide ((ti s j).w = f)) = false) : rgo s z (r + 1) f = none := by
  have : (List.range s.length).find? (fun i => mpB s z r i && decide ((ti s i).w = f)) = none := by
    rw [List.find?_eq_none]
    intro j hj
    rw [hno j (List.mem_range.1 hj)]
    exact Bool.false_ne_true
  rw [rgo, this]
theorem any_ti (s : List Tl) (p : Tl → Bool) : s.any p = (List.range s.length).any fun j => p (ti s j) := by
  rw [Bool.eq_iff_iff, List.any_eq_true, List.any_eq_true]
  constructor
  · rintro ⟨t, ht, hp⟩
    obtain ⟨i, hi, e⟩ := List.mem_iff_getElem.1 ht
    have hti : ti s i = t := by unfold ti; simp [hi, e]
    exact ⟨i, List.mem_range.2 hi, by rw [hti]; exact hp⟩
  · rintro ⟨j, hj, hp⟩
    exact ⟨ti s j, ti_mem (List.mem_range.1 hj), hp⟩
theorem mp_st (s : List Tl) (hc : ∀ i, i < s.length → 0 ≤ (ti s i).e) (c : Nat) : ∀ r i, i < s.length → mpB s (c : Int) r i = stP s c r (ti s i).e.toNat
  | 0, i, hi => by
    rw [mpB, stP, decide_eq_decide]
    have := hc i hi
    omega
  | r + 1, i, hi => by
    rw [mpB, stP, any_ti s, Bool.eq_iff_iff, List.any_eq_true, List.any_eq_true]
    have h0 := hc i hi
    have e : ((ti s i).e.toNat : Int) = (ti s i).e := by omega
    constructor
    · rintro ⟨j, hj, hp⟩
      refine ⟨j, hj, ?_⟩
      rw [mp_st s hc c r j (List.mem_range.1 hj)] at hp
      rw [Bool.and_eq_true, decide_eq_true_eq] at hp ⊢
      exact ⟨hp.1, by rw [e]; exact hp.2.symm⟩
    · rintro ⟨j, hj, hp⟩
      refine ⟨j, hj, ?_⟩
      rw [mp_st s hc c r j (List.mem_range.1 hj)]
      rw [Bool.and_eq_true, decide_eq_true_eq] at hp ⊢
      exact ⟨hp.1, by rw [e] at hp; exact hp.2.symm⟩
theorem mp_out (s : List Tl) (z : Int) (hz : ∀ i, i < s.length → (ti s i).e ≠ z) : ∀ r i, i < s.length → mpB s z r i = false
  | 0, i, hi => decide_eq_false (hz i hi)
  | r + 1, i, hi => by
    rw [mpB, List.any_eq_false]
    intro j hj
    rw [mp_out s z hz r j (List.mem_range.1 hj)]
    simp
theorem rgo_st (s : List Tl) (hc : ∀ i, i < s.length → 0 ≤ (ti s i).e) (z : Nat) : ∀ n c, stP s z n c = true → rgo s (z : Int) n (c : Int) = some (fpP s z n c)
  | 0, c, h => rfl
  | n + 1, c, h => by
    obtain ⟨i0, hi0, hp0⟩ := stP_there s z n c h
    obtain ⟨i, hi, hp, hno⟩ : ∃ i, i < s.length ∧ (decide ((ti s i).w = (c : Int)) && stP s z n (ti s i).e.toNat) = true ∧ ∀ j, j < i → (decide ((ti s j).w = (c : Int)) && stP s z n (ti s j).e.toNat) = false := by
      cases hf : (List.range s.length).find? (fun i => decide ((ti s i).w = (c : Int)) && stP s z n (ti s i).e.toNat) with
      | none =>
        rw [List.find?_eq_none] at hf
        exact absurd hp0 (hf i0 (List.mem_range.2 hi0))
      | some i =>
        obtain ⟨h1, k, hk, he, hno⟩ := List.find?_eq_some_iff_getElem.1 hf
        rw [List.getElem_range] at he
        subst he
        rw [List.length_range] at hk
        refine ⟨k, hk, h1, fun j hj => ?_⟩
        have := hno j hj
        rw [List.getElem_range] at this
        cases hx : (decide ((ti s j).w = (c : Int)) && stP s z n (ti s j).e.toNat) with
        | false => rfl
        | true => rw [hx] at this; cases this
    have e1 : ∀ j, j < s.length → (mpB s (z : Int) n j && decide ((ti s j).w = (c : Int))) = (decide ((ti s j).w = (c : Int)) && stP s z n (ti s j).e.toNat) := fun j hj => by rw [mp_st s hc z n j hj, Bool.and_comm]
    rw [rgo_some s (z : Int) n (c : Int) hi (by rw [e1 i hi]; exact hp) (fun j hj => by rw [e1 j (by omega)]; exact hno j hj)]
    show _ = some (ixP s z n c :: fpP s z n (ti s (ixP s z n c)).e.toNat)
    rw [ixP_is s z n c i hi hp hno]
    have h0 := hc i hi
    obtain ⟨ce, hce⟩ := Int.eq_ofNat_of_zero_le h0
    rw [Bool.and_eq_true] at hp
    rw [hce] at hp ⊢
    rw [Int.toNat_natCast] at hp ⊢
    rw [rgo_st s hc z n ce hp.2]
    rfl
theorem rgo_path (s : List Tl) (hv : vld s = true) (f z : Int) (n : Nat) : rgo s z (n + 1) f = pathE s f z (n + 1) := by
  have hb : ∀ i, i < s.length → (0 ≤ (ti s i).e ∧ (ti s i).e < 1000) ∧ 0 ≤ (ti s i).w ∧ (ti s i).w < 1000 := fun i hi => by
    obtain ⟨-, h1, -, h3⟩ := okt_bounds hv hi
    exact ⟨h1, h3⟩
  have hc : ∀ i, i < s.length → 0 ≤ (ti s i).e := fun i hi => (hb i hi).1.1
  unfold pathE colB
  by_cases hf : 0 ≤ f ∧ f < 1000
  rotate_left
  · rw [rgo_none s z n f (fun j hj => by
      have := (hb j hj).2
      rw [decide_eq_false (by omega), Bool.and_false]), if_neg]
    intro h
    simp only [Bool.and_eq_true, decide_eq_true_eq] at h
    exact hf h.1
  by_cases hz : 0 ≤ z ∧ z < 1000
  rotate_left
  · rw [rgo_none s z n f (fun j hj => by
      rw [mp_out s z (fun i hi e => hz (by rw [← e]; exact (hb i hi).1)) n j hj, Bool.false_and]), if_neg]
    intro h
    simp only [Bool.and_eq_true, decide_eq_true_eq] at h
    exact hz h.2
  obtain ⟨c, rfl⟩ := Int.eq_ofNat_of_zero_le hf.1
  obtain ⟨y, rfl⟩ := Int.eq_ofNat_of_zero_le hz.1
  rw [if_pos (by simp only [Bool.and_eq_true, decide_eq_true_eq]; exact ⟨hf, hz⟩), Int.toNat_natCast, Int.toNat_natCast]
  by_cases hs : stP s y (n + 1) c = true
  · rw [if_pos hs, rgo_st s hc y (n + 1) c hs]
  · rw [if_neg hs]
    refine rgo_none s _ n _ fun j hj => ?_
    rw [mp_st s hc y n j hj, ← Bool.not_eq_true]
    intro h
    rw [Bool.and_eq_true] at h
    refine hs ?_
    rw [stP, any_ti s]
    exact List.any_eq_true.2 ⟨j, List.mem_range.2 hj, by rw [h.1, h.2]; rfl⟩
end Go.Proofs.YtgadfmknjpanpaaDoor

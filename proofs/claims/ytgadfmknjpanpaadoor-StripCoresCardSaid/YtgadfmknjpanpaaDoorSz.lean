/-
  strip.Path: the first row of a length between two colours.
-/
import Derived.Test.YtgadfmknjpanpaaDoorSv
namespace Go.Proofs.YtgadfmknjpanpaaDoor
open Go.RowKit Go.Maps Go.BigFrame Go.Sort
set_option linter.unusedVariables false
set_option linter.unusedSimpArgs false
set_option maxRecDepth 100000

def colB (z : Int) : Bool := decide (0 ≤ z) && decide (z < 1000)
theorem sisColour_any (z : Int) (w : World) : Calls Tryd.prog 36 #[.int .i64 z] w fun e w' => e = .returned (.bool (colB z)) ∧ w = w' := by
  unfold colB
  by_cases h0 : 0 ≤ z
  · have d0 : decide ((0 : Int) ≤ z) = true := decide_eq_true h0
    go_enter Tryd.func36, Tryd.ntmps36
    go_wp2_with fail
    go_ret
    exact ⟨by rw [d0, Bool.true_and]; rfl, rfl⟩
  · have d0 : decide ((0 : Int) ≤ z) = false := decide_eq_false h0
    go_enter Tryd.func36, Tryd.ntmps36
    go_wp2_with fail
    go_ret
    exact ⟨by simp only [d0, Bool.false_and]; rfl, rfl⟩
/-- the first row of n tiles from a colour to another one, if there is one -/
def pathE (s : List Tl) (fr to' : Int) (n : Nat) : Option (List Nat) := if (colB fr && colB to') = true then if stP s to'.toNat n fr.toNat = true then some (fpP s to'.toNat n fr.toNat) else none else none
/-- what Path returns -/
def IsPathS (s : List Tl) (fr to' n : Int) (W : World) (e : Ending) (w' : World) : Prop :=
  Below W.heap.size W w' ∧ if vld s = false then e = .returned (.tuple #[.slice none 0 0, .int .i64 1]) else if n < 1 ∨ 40000 < n then e = .returned (.tuple #[.slice none 0 0, .int .i64 2]) else match pathE s fr to' n.toNat with
    | none => e = .returned (.tuple #[.slice none 0 0, .int .i64 6])
    | some l => ∃ A c, e = .returned (.tuple #[.slice A l.length c, .int .i64 0]) ∧ IntsIn w' w'.heap.size A (idxI l)
set_option maxHeartbeats 4000000 in
theorem path_any (s : List Tl) (S : Option Addr) (m d : Nat) (fr to' n : Int) (w : World) (hm : m = s.length) (hS : SetIn w w.heap.size S s) (hwf : ∀ t ∈ s, twf t) (hml : m ≤ 9223372036854775807) :
    Calls Tryd.prog 18 #[.slice S m d, .int .i64 fr, .int .i64 to', .int .i64 n] w (IsPathS s fr to' n w) := by
  cases hv : vld s
  · have HVA := Lib.hid (valid_pat s false S m d w hm hv hS hwf hml)
    have HK : Hid (∀ e w', e = .returned (.tuple #[.slice none 0 0, .int .i64 1]) → Below w.heap.size w w' → IsPathS s fr to' n w e w') := fun e w' h1 h2 => ⟨h2, by rw [if_pos hv]; exact h1⟩
    clear hm hS hwf hv
    go_enter Tryd.func18, Tryd.ntmps18
    go_wp2_with (go_at_call 27; refine HVA.out.mono ?_; rintro e w2 ⟨rfl, hb2⟩)
    go_ret2
    exact HK.out _ _ rfl hb2
  have HVA := Lib.hid (valid_pat s true S m d w hm hv hS hwf hml)
  by_cases hn0 : n < 1
  · have HK : Hid (∀ e w', e = .returned (.tuple #[.slice none 0 0, .int .i64 2]) → Below w.heap.size w w' → IsPathS s fr to' n w e w') := fun e w' h1 h2 => ⟨h2, by rw [if_neg (by rw [hv]; decide), if_pos (Or.inl hn0)]; exact h1⟩
    clear hm hS hwf hv
    go_enter Tryd.func18, Tryd.ntmps18
    go_wp2_with (go_at_call 27; refine HVA.out.mono ?_; rintro e w2 ⟨rfl, hb2⟩)
    go_ret2
    exact HK.out _ _ rfl hb2
  by_cases hn4 : 40000 < n
  · have HK : Hid (∀ e w', e = .returned (.tuple #[.slice none 0 0, .int .i64 2]) → Below w.heap.size w w' → IsPathS s fr to' n w e w') := fun e w' h1 h2 => ⟨h2, by rw [if_neg (by rw [hv]; decide), if_pos (Or.inr hn4)]; exact h1⟩
    clear hm hS hwf hv
    go_enter Tryd.func18, Tryd.ntmps18
    go_wp2_with (go_at_call 27; refine HVA.out.mono ?_; rintro e w2 ⟨rfl, hb2⟩)
    go_ret2
    exact HK.out _ _ rfl hb2
  obtain ⟨k, rfl⟩ := Int.eq_ofNat_of_zero_le (show 0 ≤ n by omega)
  have HK : Hid (∀ e w', (match pathE s fr to' k with | none => e = .returned (.tuple #[.slice none 0 0, .int .i64 6]) | some l => ∃ A c, e = .returned (.tuple #[.slice A l.length c, .int .i64 0]) ∧ IntsIn w' w'.heap.size A (idxI l)) → Below w.heap.size w w' → IsPathS s fr to' (k : Int) w e w') := fun e w' h1 h2 => ⟨h2, by rw [if_neg (by rw [hv]; decide), if_neg (by omega), Int.toNat_natCast]; exact h1⟩
  obtain ⟨c1, hc1⟩ : ∃ c, c = colB fr := ⟨_, rfl⟩
  obtain ⟨c2, hc2⟩ : ∃ c, c = colB to' := ⟨_, rfl⟩
  have hi1 := fun (W : World) => sisColour_any fr W
  have hi2 := fun (W : World) => sisColour_any to' W
  rw [← hc1] at hi1
  rw [← hc2] at hi2
  have HI1 := Lib.hid hi1
  have HI2 := Lib.hid hi2
  clear hi1 hi2
  cases c1
  · have hone : Hid (pathE s fr to' k = none) := by show _ = _; unfold pathE; rw [← hc1, Bool.false_and]; rfl
    clear hm hS hwf hv hc1 hc2
    go_enter Tryd.func18, Tryd.ntmps18
    go_wp2_with (first
      | (go_at_call 27; refine HVA.out.mono ?_; rintro e w2 ⟨rfl, hb2⟩)
      | (go_at_call 36; (with_reducible refine (HI1.out _).mono ?_); rintro e w3 ⟨rfl, rfl⟩)
      | fail)
    go_ret2
    exact HK.out _ _ (by rw [hone.out]; rfl) hb2
  cases c2
  · have hone : Hid (pathE s fr to' k = none) := by show _ = _; unfold pathE; rw [← hc2, Bool.and_false]; rfl
    clear hm hS hwf hv hc1 hc2
    go_enter Tryd.func18, Tryd.ntmps18
    go_wp2_with (first
      | (go_at_call 27; refine HVA.out.mono ?_; rintro e w2 ⟨rfl, hb2⟩)
      | (go_at_call 36; (with_reducible refine (HI1.out _).mono ?_); rintro e w3 ⟨rfl, rfl⟩)
      | (go_at_call 36; (with_reducible refine (HI2.out _).mono ?_); rintro e w3 ⟨rfl, rfl⟩)
      | fail)
    go_ret2
    exact HK.out _ _ (by rw [hone.out]; rfl) hb2
  have hb1 : 0 ≤ fr ∧ fr < 1000 := by have h := hc1; unfold colB at h; rw [eq_comm, Bool.and_eq_true, decide_eq_true_eq, decide_eq_true_eq] at h; exact h
  have hb2 : 0 ≤ to' ∧ to' < 1000 := by have h := hc2; unfold colB at h; rw [eq_comm, Bool.and_eq_true, decide_eq_true_eq, decide_eq_true_eq] at h; exact h
  obtain ⟨f, rfl⟩ := Int.eq_ofNat_of_zero_le hb1.1
  obtain ⟨u, rfl⟩ := Int.eq_ofNat_of_zero_le hb2.1
  have hf1 : f < 1000 := by omega
  have hu1 : u < 1000 := by omega
  have hst := fun (W : World) (hb : Below w.heap.size w W) => startsTo_any s S m d u k W hm hv (hS.keep hb hb.size) hu1 (by omega)
  have hfp := fun (W : World) (hb : Below w.heap.size w W) (g cp n1 : Nat) (h1 : n1 = k + 1) (hg : ∀ j, j ≤ k → ColW W g (j * 16) (stP s u j)) (h2 : stP s u k f = true) => fpath_any s S m d u k f g cp n1 W hm hv (hS.keep hb hb.size) h1 (by omega) (by omega) hg h2 hf1
  have HSTR := Lib.hid hst
  have HFP := Lib.hid hfp
  have hk1 : 1 ≤ k := by omega
  have hk4 : k ≤ 40000 := by omega
  obtain ⟨r, hr⟩ : ∃ r, r = stP s u k f := ⟨_, rfl⟩
  have hpe : pathE s (f : Int) (u : Int) k = if r = true then some (fpP s u k f) else none := by unfold pathE; rw [← hc1, ← hc2, Int.toNat_natCast, Int.toNat_natCast, hr]; rfl
  have HPE := Lib.hid hpe
  have HR := Lib.hid hr
  obtain ⟨k1, hk1e⟩ : ∃ k1, k1 = k + 1 := ⟨_, rfl⟩
  have HK1 := Lib.hid hk1e
  have hkk1 : (k : Int) < (k1 : Int) := by omega
  have hkk0 : (0 : Int) ≤ (k : Int) := by omega
  clear hm hS hwf hv hc1 hc2 hst hfp hr hpe hn0 hn4 hb1 hb2 hk1e
  go_enter Tryd.func18, Tryd.ntmps18
  go_upto_region 8 with (first
    | (go_at_call 27; refine HVA.out.mono ?_; rintro e w2 ⟨rfl, hb2⟩)
    | (go_at_call 36; (with_reducible refine (HI1.out _).mono ?_); rintro e w3 ⟨rfl, rfl⟩)
    | (go_at_call 36; (with_reducible refine (HI2.out _).mono ?_); rintro e w3 ⟨rfl, rfl⟩)
    | (go_at_call 37; refine (HSTR.out _ hb2).mono ?_; rintro e w4 ⟨g, rfl, hcol, hb4, hgl⟩; rw [← HK1.out]; have HCOL := Lib.hid hcol; clear hcol hgl)
    | fail)
  have hb04 := hb2.trans (hb4.mono hb2.size)
  have hhas := chas_any g (k * 16) f _ w4 hf1 (HCOL.out k (Nat.le_refl _))
  rw [← HR.out] at hhas
  have HHAS := Lib.hid hhas
  clear hhas
  cases r
  · go_wp2_with (go_at_call 38; refine HHAS.out.mono ?_; rintro e w5 ⟨rfl, rfl⟩)
    go_ret2
    exact HK.out _ _ (by rw [HPE.out]; rfl) hb04
  · go_wp2_with (first
      | (go_at_call 38; refine HHAS.out.mono ?_; rintro e w5 ⟨rfl, rfl⟩)
      | (go_at_call 39; refine (HFP.out w4 hb04 g k1 k1 HK1.out HCOL.out HR.out.symm).mono ?_; rintro e w6 ⟨A6, c6, rfl, hI6, hb6⟩; have HI6 := Lib.hid hI6; clear hI6)
      | fail)
    go_ret2
    refine HK.out _ _ ?_ (hb04.trans (hb6.mono hb04.size))
    rw [HPE.out]
    simp only [if_true]
    exact ⟨A6, c6, by rw [fpP_len]; rfl, HI6.out⟩
end Go.Proofs.YtgadfmknjpanpaaDoor

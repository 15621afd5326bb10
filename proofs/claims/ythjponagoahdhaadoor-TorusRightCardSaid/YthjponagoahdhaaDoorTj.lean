/-
  torus.isPeriod, torus.tooMany, torus.check.
-/
import Derived.Test.YthjponagoahdhaaDoorFa
import Derived.Test.YthjponagoahdhaaDoorSw
namespace Go.Proofs.YthjponagoahdhaaDoor
open Go.RowKit Go.Maps Go.BigFrame
set_option linter.unusedVariables false
set_option linter.unusedSimpArgs false
set_option maxRecDepth 100000

def perB (n : Int) : Bool := decide (1 ≤ n) && decide (n ≤ 6)
theorem per_any (n : Int) (w : World) : Calls Tryd.prog 42 #[.int .i64 n] w fun e w' => e = .returned (.bool (perB n)) ∧ w = w' := by
  by_cases h1 : 1 ≤ n
  · by_cases h2 : n ≤ 6
    · have HK : Hid (perB n = true) := by unfold Hid perB; simp [h1, h2]
      have d1 : decide (1 ≤ n) = true := decide_eq_true h1
      have d2 : decide (n ≤ 6) = true := decide_eq_true h2
      go_enter Tryd.func42, Tryd.ntmps42
      go_wp2_with fail
      go_ret
      exact ⟨by rw [HK.out]; rfl, rfl⟩
    · have HK : Hid (perB n = false) := by unfold Hid perB; simp [h1, h2]
      have d1 : decide (1 ≤ n) = true := decide_eq_true h1
      have d2 : decide (n ≤ 6) = false := decide_eq_false h2
      go_enter Tryd.func42, Tryd.ntmps42
      go_wp2_with fail
      go_ret
      exact ⟨by rw [HK.out]; rfl, rfl⟩
  · have HK : Hid (perB n = false) := by unfold Hid perB; simp [h1]
    have d1 : decide (1 ≤ n) = false := decide_eq_false h1
    go_enter Tryd.func42, Tryd.ntmps42
    go_wp2_with fail
    go_ret
    exact ⟨by rw [HK.out]; rfl, rfl⟩
set_option maxHeartbeats 1000000 in
theorem ttooMany_any (t k : Nat) (r : Bool) (w : World) (hr : tooM t k = r) (ht : t ≤ 1000) (hk : k ≤ 8) :
    Calls Tryd.prog 43 #[.int .i64 (t : Int), .int .i64 (k : Int)] w fun e w' => e = .returned (.bool r) ∧ w = w' := by
  have HR := Lib.hid hr
  clear hr
  go_enter Tryd.func43, Tryd.ntmps43
  go_wp2
  go_loop [5, 7] (fun l i => ∃ (j : Nat) (p : Nat), j ≤ k ∧ i = .int .i64 j ∧ l = .int .i64 (p : Int) ∧ p ≤ 5000 ∧ Hid (p = t ^ j)) (fun _ i => k - (intOf i).toNat)
  case atStart => exact ⟨0, 1, Nat.zero_le _, rfl, rfl, by omega, by show 1 = t ^ 0; simp⟩
  case round =>
    obtain ⟨j, p, hj, rfl, rfl, hp, hpe⟩ := hrel
    by_cases hlt : j < k
    · obtain ⟨q, hq⟩ : ∃ q, q = p * t := ⟨_, rfl⟩
      have hq1 : q ≤ 5000 * 1000 := by rw [hq]; exact Nat.mul_le_mul hp ht
      have HQ : Hid (q = t ^ (j + 1)) := by show _ = _; rw [hq, hpe.out, Nat.pow_succ]
      have e1 : (p : Int) * (t : Int) = (q : Int) := by rw [hq, Int.natCast_mul]
      clear hq
      by_cases h5 : 5000 < q
      · have hr2 : r = true := by
          rw [← HR.out]
          refine decide_eq_true (pow_more ?_ (show j + 1 ≤ k by omega) (by rw [← HQ.out]; exact h5))
          rcases Nat.eq_zero_or_pos t with e | e
          · have := HQ.out
            rw [e, Nat.pow_succ, Nat.mul_zero] at this
            omega
          · exact e
        clear HR
        subst hr2
        go_wp2
        go_ret
        exact ⟨rfl, rfl⟩
      · go_wp2
        go_round
        case rel => exact ⟨j + 1, q, by omega, by go_num, rfl, by omega, HQ⟩
        case measure => simp [intOf]; omega
    · have hr2 : r = false := by
        rw [← HR.out]
        have e : j = k := by omega
        exact decide_eq_false (by rw [← e, ← hpe.out]; omega)
      clear HR
      subst hr2
      go_wp2
      go_ret
      exact ⟨rfl, rfl⟩
/-- the error that is due for a set and a size, whatever tori there are: 0 where there is none -/
def tcheckE (s : List Tl) (wd hg : Int) : Int :=
  if vld s = false then 1 else if perB wd = false ∨ perB hg = false then 2 else if tooM s.length wd.toNat = true then 4 else 0
theorem tcheck_ok {s : List Tl} {wd hg : Int} (h : tcheckE s wd hg = 0) : vld s = true ∧ 1 ≤ wd ∧ wd ≤ 6 ∧ 1 ≤ hg ∧ hg ≤ 6 ∧ tooM s.length wd.toNat = false := by
  unfold tcheckE at h
  cases hv : vld s
  · simp [hv] at h
  · simp only [hv, Bool.true_eq_false, if_false] at h
    by_cases hp : perB wd = false ∨ perB hg = false
    · rw [if_pos hp] at h; simp at h
    · rw [if_neg hp] at h
      have h1 : perB wd = true := by cases e : perB wd; exact absurd (Or.inl e) hp; rfl
      have h2 : perB hg = true := by cases e : perB hg; exact absurd (Or.inr e) hp; rfl
      unfold perB at h1 h2
      simp only [Bool.and_eq_true, decide_eq_true_eq] at h1 h2
      refine ⟨rfl, h1.1, h1.2, h2.1, h2.2, ?_⟩
      cases ht : tooM s.length wd.toNat
      · rfl
      · rw [ht] at h; simp at h
set_option maxHeartbeats 4000000 in
theorem tcheck_any (s : List Tl) (S : Option Addr) (m d : Nat) (wd hg : Int) (w : World) (hm : m = s.length) (hS : SetIn w w.heap.size S s) (hwf : ∀ t ∈ s, twf t) (hml : m ≤ 9223372036854775807) :
    Calls Tryd.prog 25 #[.slice S m d, .int .i64 wd, .int .i64 hg] w fun e' w' => e' = .returned (.int .i64 (tcheckE s wd hg)) ∧ Below w.heap.size w w' := by
  have hval := valid_any s S d w hS hwf (by omega)
  rw [← hm] at hval
  have HM := Lib.hid hm
  cases hV : vld s
  · have HK : Hid (tcheckE s wd hg = 1) := by unfold Hid tcheckE; rw [hV]; simp
    rw [hV] at hval
    clear hm hV hS hwf
    go_enter Tryd.func25, Tryd.ntmps25
    go_wp2_with fail
    refine hval.mono ?_
    rintro e' w1 ⟨rfl, hb1⟩
    go_wp2_with fail
    go_ret
    exact ⟨by rw [HK.out]; rfl, hb1⟩
  have hm1 : m ≤ 1000 := by rw [hm]; exact (vld_iff.1 hV).1
  rw [hV] at hval
  have HK0 : Hid (tcheckE s wd hg = if perB wd = false ∨ perB hg = false then 2 else if tooM s.length wd.toNat = true then 4 else 0) := by unfold Hid tcheckE; rw [hV]; simp
  have HP := fun (n : Int) (W : World) => per_any n W
  clear hm hV hS hwf
  cases hp1 : perB wd
  · have HK : Hid (tcheckE s wd hg = 2) := by show _ = _; rw [HK0.out, if_pos (Or.inl hp1)]
    clear HK0
    go_enter Tryd.func25, Tryd.ntmps25
    go_wp2_with fail
    refine hval.mono ?_
    rintro e' w1 ⟨rfl, hb1⟩
    go_wp2_with fail
    refine (per_any wd w1).mono ?_
    rintro e' w2 ⟨rfl, rfl⟩
    go_wp2_with fail
    go_ret
    exact ⟨by rw [HK.out]; rfl, hb1⟩
  cases hp2 : perB hg
  · have HK : Hid (tcheckE s wd hg = 2) := by show _ = _; rw [HK0.out, if_pos (Or.inr hp2)]
    clear HK0
    go_enter Tryd.func25, Tryd.ntmps25
    go_wp2_with fail
    refine hval.mono ?_
    rintro e' w1 ⟨rfl, hb1⟩
    go_wp2_with fail
    refine (per_any wd w1).mono ?_
    rintro e' w2 ⟨rfl, rfl⟩
    go_wp2_with fail
    refine (per_any hg w1).mono ?_
    rintro e' w2 ⟨rfl, rfl⟩
    go_wp2_with fail
    go_ret
    exact ⟨by rw [HK.out]; rfl, hb1⟩
  have hw16 : 1 ≤ wd ∧ wd ≤ 6 := by
    unfold perB at hp1
    simpa only [Bool.and_eq_true, decide_eq_true_eq] using hp1
  obtain ⟨k, rfl⟩ : ∃ k : Nat, wd = (k : Int) := ⟨wd.toNat, by omega⟩
  have ht := fun (W : World) => ttooMany_any m k _ W rfl hm1 (by omega)
  cases htm : tooM m k
  · have HK : Hid (tcheckE s k hg = 0) := by
      show _ = _
      rw [HK0.out, if_neg (by rw [hp1, hp2]; simp), ← HM.out, show ((k : Int)).toNat = k from rfl, htm]
      rfl
    rw [htm] at ht
    clear HK0 htm HP hw16
    go_enter Tryd.func25, Tryd.ntmps25
    go_wp2_with fail
    refine hval.mono ?_
    rintro e' w1 ⟨rfl, hb1⟩
    go_wp2_with fail
    refine (per_any k w1).mono ?_
    rintro e' w2 ⟨rfl, rfl⟩
    go_wp2_with fail
    refine (per_any hg w1).mono ?_
    rintro e' w2 ⟨rfl, rfl⟩
    go_wp2_with fail
    refine (ht _).mono ?_
    rintro e' w2 ⟨rfl, rfl⟩
    go_wp2_with fail
    go_ret
    exact ⟨by rw [HK.out]; rfl, hb1⟩
  · have HK : Hid (tcheckE s k hg = 4) := by
      show _ = _
      rw [HK0.out, if_neg (by rw [hp1, hp2]; simp), ← HM.out, show ((k : Int)).toNat = k from rfl, htm]
      rfl
    rw [htm] at ht
    clear HK0 htm HP hw16
    go_enter Tryd.func25, Tryd.ntmps25
    go_wp2_with fail
    refine hval.mono ?_
    rintro e' w1 ⟨rfl, hb1⟩
    go_wp2_with fail
    refine (per_any k w1).mono ?_
    rintro e' w2 ⟨rfl, rfl⟩
    go_wp2_with fail
    refine (per_any hg w1).mono ?_
    rintro e' w2 ⟨rfl, rfl⟩
    go_wp2_with fail
    refine (ht _).mono ?_
    rintro e' w2 ⟨rfl, rfl⟩
    go_wp2_with fail
    go_ret
    exact ⟨by rw [HK.out]; rfl, hb1⟩
end Go.Proofs.YthjponagoahdhaaDoor

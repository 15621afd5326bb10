/-
  square.check, square.Exists.
-/
import Derived.Test.YthjponagoahdhaaGreatDoorFz
import Derived.Test.YthjponagoahdhaaGreatDoorSq
namespace Go.Proofs.YthjponagoahdhaaGreatDoor
open Go.RowKit Go.Maps Go.BigFrame
set_option linter.unusedVariables false
set_option linter.unusedSimpArgs false
set_option maxRecDepth 100000

/-- the error that is due for a set and a side, whatever squares there are -/
def sideE5 (s : List Tl) (n : Int) : Int := if vld s = false then 1 else if n < 1 ∨ 8 < n then 2 else 0
set_option maxHeartbeats 2000000 in
theorem scheck_any (s : List Tl) (S : Option Addr) (m d : Nat) (n : Int) (w : World) (hm : m = s.length) (hS : SetIn w w.heap.size S s) (hwf : ∀ t ∈ s, twf t) (hml : m ≤ 9223372036854775807) :
    Calls Tryz.prog 18 #[.slice S m d, .int .i64 n] w fun e w' => e = .returned (.int .i64 (sideE5 s n)) ∧ Below w.heap.size w w' := by
  have hval := valid_any s S d w hS hwf (by omega)
  rw [← hm] at hval
  cases hV : vld s
  · have HK : Hid (sideE5 s n = 1) := by unfold Hid sideE5; rw [hV]; simp
    rw [hV] at hval
    clear hm hV hS hwf
    go_enter Tryz.func18, Tryz.ntmps18
    go_wp2_with fail
    refine hval.mono ?_
    rintro e' w1 ⟨rfl, hb1⟩
    go_wp2_with fail
    go_ret
    exact ⟨by rw [HK.out]; rfl, hb1⟩
  rw [hV] at hval
  have HK0 : Hid (sideE5 s n = if n < 1 ∨ 8 < n then 2 else 0) := by unfold Hid sideE5; rw [hV]; simp
  clear hm hV hS hwf
  by_cases c1 : n < 1
  · have HK : Hid (sideE5 s n = 2) := by show _ = _; rw [HK0.out, if_pos (Or.inl c1)]
    clear HK0
    go_enter Tryz.func18, Tryz.ntmps18
    go_wp2_with fail
    refine hval.mono ?_
    rintro e' w1 ⟨rfl, hb1⟩
    go_wp2_with fail
    go_ret
    exact ⟨by rw [HK.out]; rfl, hb1⟩
  by_cases c2 : 8 < n
  · have HK : Hid (sideE5 s n = 2) := by show _ = _; rw [HK0.out, if_pos (Or.inr c2)]
    clear HK0
    go_enter Tryz.func18, Tryz.ntmps18
    go_wp2_with fail
    refine hval.mono ?_
    rintro e' w1 ⟨rfl, hb1⟩
    go_wp2_with fail
    go_ret
    exact ⟨by rw [HK.out]; rfl, hb1⟩
  · have HK : Hid (sideE5 s n = 0) := by show _ = _; rw [HK0.out, if_neg (by omega)]
    clear HK0
    go_enter Tryz.func18, Tryz.ntmps18
    go_wp2_with fail
    refine hval.mono ?_
    rintro e' w1 ⟨rfl, hb1⟩
    go_wp2_with fail
    go_ret
    exact ⟨by rw [HK.out]; rfl, hb1⟩

/-- what Exists returns -/
def exE (s : List Tl) (n : Int) : Bool × Int := if checkE s n n 0 0 0 0 ≠ 0 then (false, checkE s n n 0 0 0 0) else (sqB s n.toNat, 0)
theorem exE_side {s : List Tl} {n : Int} (h : sideE5 s n ≠ 0) : exE s n = (false, sideE5 s n) := by
  unfold sideE5 at h ⊢
  unfold exE checkE faultE
  cases hv : vld s
  · simp [hv]
  · simp only [hv, Bool.true_eq_false, if_false] at h ⊢
    by_cases hn : n < 1 ∨ 8 < n
    · rw [if_pos hn] at h ⊢
      rw [if_pos (show n < 1 ∨ 8 < n ∨ n < 1 ∨ 60 < n by omega)]
      simp
    · rw [if_neg hn] at h
      exact absurd rfl h
theorem side_ok {s : List Tl} {n : Int} (h : sideE5 s n = 0) : vld s = true ∧ 1 ≤ n ∧ n ≤ 8 := by
  unfold sideE5 at h
  cases hv : vld s
  · simp [hv] at h
  · simp only [hv, Bool.true_eq_false, if_false] at h
    by_cases hn : n < 1 ∨ 8 < n
    · rw [if_pos hn] at h; simp at h
    · exact ⟨rfl, by omega, by omega⟩
/-- what First says, its pattern aside -/
theorem first_code {s : List Tl} {n c : Int} {W : World} {e : Ending} {w' : World} (h : IsFirstRes s n n noE W e w') (hc : c = if checkE s n n 0 0 0 0 ≠ 0 then checkE s n n 0 0 0 0 else if sqB s n.toNat = true then 0 else 6) :
    ∃ (x y : Int) (A : Option Addr) (k cc : Nat), e = .returned (.tuple #[.agg #[.int .i64 x, .int .i64 y, .slice A k cc], .int .i64 c]) ∧ Below W.heap.size W w' := by
  obtain ⟨hb, h⟩ := h
  have e0 : checkE s n n noE.n.length noE.e.length noE.s.length noE.w.length = checkE s n n 0 0 0 0 := rfl
  rw [e0] at h
  by_cases h0 : checkE s n n 0 0 0 0 ≠ 0
  · rw [if_pos h0] at h hc
    exact ⟨0, 0, none, 0, 0, by rw [h, hc], hb⟩
  · rw [if_neg h0] at h hc
    unfold sqB at hc
    cases hf : firstE s n.toNat n.toNat noE with
    | none =>
      rw [hf] at h hc
      exact ⟨0, 0, none, 0, 0, by rw [h, hc]; simp, hb⟩
    | some l =>
      rw [hf] at h hc
      obtain ⟨v, he, hown⟩ := h
      obtain ⟨A, cc, rfl, -⟩ := own_ints hown
      exact ⟨n, n, A, l.length, cc, by rw [he, hc]; simp, hb⟩
set_option maxHeartbeats 4000000 in
theorem exists_any (s : List Tl) (S : Option Addr) (m d : Nat) (n : Int) (w : World) (hm : m = s.length) (hS : SetIn w w.heap.size S s) (hwf : ∀ t ∈ s, twf t) (hml : m ≤ 9223372036854775807) :
    Calls Tryz.prog 8 #[.slice S m d, .int .i64 n] w fun e w' => e = .returned (.tuple #[.bool (exE s n).1, .int .i64 (exE s n).2]) ∧ Below w.heap.size w w' := by
  have hck := scheck_any s S m d n w hm hS hwf hml
  have hE0 : ∀ (W : World), EdIn W W.heap.size none none none none noE := fun W => ⟨fun h => absurd rfl h, fun h => absurd rfl h, fun h => absurd rfl h, fun h => absurd rfl h⟩
  have hfi := fun (W : World) (hb : Below w.heap.size w W) => first_any s noE S m d n n none none none none 0 0 0 0 W hm (hS.keep hb hb.size) hwf hml (by decide) (by decide) (by decide) (by decide) (hE0 W)
  obtain ⟨c, hc⟩ : ∃ c, c = sideE5 s n := ⟨_, rfl⟩
  rw [← hc] at hck
  by_cases h0 : c = 0
  · subst h0
    obtain ⟨hv, hn1, hn8⟩ := side_ok hc.symm
    obtain ⟨f, hf⟩ : ∃ f, f = if checkE s n n 0 0 0 0 ≠ 0 then checkE s n n 0 0 0 0 else if sqB s n.toNat = true then 0 else 6 := ⟨_, rfl⟩
    have hFI : Hid (∀ W, Below w.heap.size w W → Calls Tryz.prog 19 #[.slice S m d, .int .i64 n, .int .i64 n, .agg #[.slice none 0 0, .slice none 0 0, .slice none 0 0, .slice none 0 0]] W fun e w' => ∃ (x y : Int) (A : Option Addr) (k cc : Nat), e = .returned (.tuple #[.agg #[.int .i64 x, .int .i64 y, .slice A k cc], .int .i64 f]) ∧ Below W.heap.size W w') := fun W hb => (hfi W hb).mono fun e w' h => first_code h hf
    have HK : Hid (exE s n = (decide (f = 0), if f = 6 then 0 else f)) := by
      show _ = _
      unfold exE
      by_cases h1 : checkE s n n 0 0 0 0 ≠ 0
      · rw [if_pos h1] at hf ⊢
        have h4 : checkE s n n 0 0 0 0 = 4 := by
          unfold checkE faultE at h1 ⊢
          simp only [hv, Bool.true_eq_false, if_false] at h1 ⊢
          rw [if_neg (show ¬ (n < 1 ∨ 8 < n ∨ n < 1 ∨ 60 < n) by omega)] at h1 ⊢
          have e1 : (if (sideOk 0 n && (sideOk 0 n && (sideOk 0 n && sideOk 0 n))) = true then (0 : Int) else 2) = 0 := by simp [sideOk]
          rw [e1] at h1 ⊢
          simp only [ne_eq, not_true_eq_false, if_false] at h1 ⊢
          by_cases h5 : tooM s.length n.toNat = true
          · rw [if_pos h5]
          · rw [if_neg h5] at h1; exact absurd rfl h1
        rw [hf, h4]
        rfl
      · rw [if_neg h1] at hf ⊢
        cases hq : sqB s n.toNat <;> rw [hq] at hf <;> rw [hf] <;> simp
    clear hm hS hwf hfi hE0 hc hf hv hn1 hn8
    by_cases f6 : f = 6
    · subst f6
      go_enter Tryz.func8, Tryz.ntmps8
      go_wp2_with fail
      refine hck.mono ?_
      rintro e' w1 ⟨rfl, hb1⟩
      have hS1 : Below w1.heap.size w1 w1 := Below.refl _ _
      have HF1 : Hid (∀ W, Below w1.heap.size w1 W → Calls Tryz.prog 19 #[.slice S m d, .int .i64 n, .int .i64 n, .agg #[.slice none 0 0, .slice none 0 0, .slice none 0 0, .slice none 0 0]] W fun e w' => ∃ (x y : Int) (A : Option Addr) (k cc : Nat), e = .returned (.tuple #[.agg #[.int .i64 x, .int .i64 y, .slice A k cc], .int .i64 6]) ∧ Below W.heap.size W w') := fun W hb => hFI.out W (hb1.trans (hb.mono hb1.size))
      go_wp2_with fail
      refine (HF1.out _ hS1).mono ?_
      rintro e w2 ⟨x, y, A, k, cc, rfl, hb2⟩
      go_wp2_with fail
      refine bodyPost_ret (v := .tuple #[.bool false, .int .i64 0]) (by simp [results, Tryz.results8, go_sem]) rfl ?_
      refine ⟨by rw [HK.out]; rfl, hb1.trans (Below.mono ?_ hb1.size)⟩
      exact be_alloc hb2 _
    · have hd6 : (f == 6) = false := by rw [beq_eq_false_iff_ne]; exact f6
      have HK2 : Hid (exE s n = (f == 0, f)) := by show _ = _; rw [HK.out, if_neg f6]; rfl
      clear HK
      go_enter Tryz.func8, Tryz.ntmps8
      go_wp2_with fail
      refine hck.mono ?_
      rintro e' w1 ⟨rfl, hb1⟩
      have hS1 : Below w1.heap.size w1 w1 := Below.refl _ _
      have HF1 : Hid (∀ W, Below w1.heap.size w1 W → Calls Tryz.prog 19 #[.slice S m d, .int .i64 n, .int .i64 n, .agg #[.slice none 0 0, .slice none 0 0, .slice none 0 0, .slice none 0 0]] W fun e w' => ∃ (x y : Int) (A : Option Addr) (k cc : Nat), e = .returned (.tuple #[.agg #[.int .i64 x, .int .i64 y, .slice A k cc], .int .i64 f]) ∧ Below W.heap.size W w') := fun W hb => hFI.out W (hb1.trans (hb.mono hb1.size))
      go_wp2_with fail
      refine (HF1.out _ hS1).mono ?_
      rintro e w2 ⟨x, y, A, k, cc, rfl, hb2⟩
      go_wp2_with fail
      refine bodyPost_ret (v := .tuple #[.bool (f == 0), .int .i64 f]) (by simp [results, Tryz.results8, go_sem]) rfl ?_
      refine ⟨by rw [HK2.out], hb1.trans (Below.mono ?_ hb1.size)⟩
      exact be_alloc hb2 _
  · have HK : Hid (exE s n = (false, c)) := by show _ = _; rw [hc]; exact exE_side (by rw [← hc]; exact h0)
    have hd0 : (c != 0) = true := by rw [bne_iff_ne]; exact h0
    clear hm hS hwf hfi hE0 hc h0
    go_enter Tryz.func8, Tryz.ntmps8
    go_wp2_with fail
    refine hck.mono ?_
    rintro e' w1 ⟨rfl, hb1⟩
    go_wp2_with fail
    refine bodyPost_ret (v := .tuple #[.bool false, .int .i64 c]) (by simp [results, Tryz.results8, go_sem]) rfl ?_
    exact ⟨by rw [HK.out], hb1⟩
end Go.Proofs.YthjponagoahdhaaGreatDoor

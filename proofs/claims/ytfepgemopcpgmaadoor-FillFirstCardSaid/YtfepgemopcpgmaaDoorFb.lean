/-
  groutworkref02: side, Fault, Power, Great.
-/
import Derived.Test.YtfepgemopcpgmaaDoorFa
import Derived.Test.YtfepgemopcpgmaaDoorRa
namespace Go.Proofs.YtfepgemopcpgmaaDoor
open Go.RowKit Go.Maps Go.BigFrame
set_option linter.unusedVariables false
set_option maxRecDepth 100000

theorem rside_any (S : Option Addr) (n c : Nat) (k : Int) (r : Bool) (w : World) (hr : sideOk n k = r) (hn : n ≤ 9223372036854775807) :
    Calls Tryd.prog 20 #[.slice S n c, .int .i64 k] w fun e w' => e = .returned (.bool r) ∧ w = w' := by
  by_cases h0 : n = 0
  · have hr' : r = true := by rw [← hr]; exact decide_eq_true (Or.inl h0)
    subst hr'
    subst h0
    clear hr
    go_enter Tryd.func20, Tryd.ntmps20
    go_wp2
    go_ret
    exact ⟨rfl, rfl⟩
  · by_cases h1 : (n : Int) = k
    · have hr' : r = true := by rw [← hr]; exact decide_eq_true (Or.inr h1)
      subst hr'
      subst h1
      clear hr
      go_enter Tryd.func20, Tryd.ntmps20
      go_wp2
      go_ret
      exact ⟨rfl, rfl⟩
    · have hr' : r = false := by rw [← hr]; exact decide_eq_false (by omega)
      subst hr'
      have h2 : (((n : Int)) == k) = false := by rw [beq_eq_false_iff_ne]; exact h1
      clear hr
      go_enter Tryd.func20, Tryd.ntmps20
      go_wp2
      go_ret
      exact ⟨ret_bool (by simp [h0]), rfl⟩
set_option maxHeartbeats 4000000 in
theorem rfault_any (s : List Tl) (S : Option Addr) (m d : Nat) (wd hg : Int) (N E U V : Option Addr) (n e u v nc ec uc vc : Nat) (w : World) (hm : m = s.length) (hmd : m ≤ d) (hdl : d ≤ 9223372036854775807) (hS : SetIn w w.heap.size S s) (hwf : ∀ t ∈ s, twf t) (hml : m ≤ 9223372036854775807)
    (hn : n ≤ 9223372036854775807) (he : e ≤ 9223372036854775807) (hu : u ≤ 9223372036854775807) (hv : v ≤ 9223372036854775807) :
    Calls Tryd.prog 7 #[.slice S m d, .int .i64 wd, .int .i64 hg, .agg #[.slice N n nc, .slice E e ec, .slice U u uc, .slice V v vc]] w fun e' w' => e' = .returned (.int .i64 (faultE s wd hg n e u v)) ∧ Below w.heap.size w w' := by
  have hb0 : Below w.heap.size w (w.alloc (.cells #[.slice N n nc, .slice E e ec, .slice U u uc, .slice V v vc] 25)) := (Below.refl _ _).alloc (Nat.le_refl _) _
  have hval := rvalid_any s S m d _ hm hmd hdl (hS.keep hb0 hb0.size)
  have HM := Lib.hid hm
  cases hV : vld s
  · have HK : Hid (faultE s wd hg n e u v = 1) := by unfold Hid faultE; rw [hV]; simp
    rw [hV] at hval
    clear hm hV hS hwf
    go_enter Tryd.func7, Tryd.ntmps7
    go_wp2_with fail
    refine hval.mono ?_
    rintro e' w1 ⟨rfl, hb1⟩
    go_wp2_with fail
    go_ret
    exact ⟨by rw [HK.out]; rfl, hb0.trans (hb1.mono hb0.size)⟩
  have hm1 : m ≤ 1000 := by rw [hm]; exact (vld_iff.1 hV).1
  rw [hV] at hval
  by_cases hsz : 1 ≤ wd ∧ wd ≤ 8 ∧ 1 ≤ hg ∧ hg ≤ 60
  rotate_left
  · have HK : Hid (faultE s wd hg n e u v = 2) := by
      unfold Hid faultE
      rw [hV]
      simp only [Bool.true_eq_false, if_false]
      rw [if_pos (show wd < 1 ∨ 8 < wd ∨ hg < 1 ∨ 60 < hg by omega)]
    clear hm hV hS hwf
    by_cases s1 : wd < 1
    · go_enter Tryd.func7, Tryd.ntmps7
      go_wp2_with fail
      refine hval.mono ?_
      rintro e' w1 ⟨rfl, hb1⟩
      go_wp2_with fail
      go_ret
      exact ⟨by rw [HK.out]; rfl, hb0.trans (hb1.mono hb0.size)⟩
    by_cases s2 : 8 < wd
    · go_enter Tryd.func7, Tryd.ntmps7
      go_wp2_with fail
      refine hval.mono ?_
      rintro e' w1 ⟨rfl, hb1⟩
      go_wp2_with fail
      go_ret
      exact ⟨by rw [HK.out]; rfl, hb0.trans (hb1.mono hb0.size)⟩
    by_cases s3 : hg < 1
    · go_enter Tryd.func7, Tryd.ntmps7
      go_wp2_with fail
      refine hval.mono ?_
      rintro e' w1 ⟨rfl, hb1⟩
      go_wp2_with fail
      go_ret
      exact ⟨by rw [HK.out]; rfl, hb0.trans (hb1.mono hb0.size)⟩
    have s4 : 60 < hg := by omega
    go_enter Tryd.func7, Tryd.ntmps7
    go_wp2_with fail
    refine hval.mono ?_
    rintro e' w1 ⟨rfl, hb1⟩
    go_wp2_with fail
    go_ret
    exact ⟨by rw [HK.out]; rfl, hb0.trans (hb1.mono hb0.size)⟩
  obtain ⟨a1, a2, a3, a4⟩ := hsz
  have HKF : Hid (faultE s wd hg n e u v = if (sideOk n wd && (sideOk u wd && (sideOk v hg && sideOk e hg))) = true then 0 else 2) := by
    unfold Hid faultE
    rw [hV]
    simp only [Bool.true_eq_false, if_false]
    rw [if_neg (show ¬ (wd < 1 ∨ 8 < wd ∨ hg < 1 ∨ 60 < hg) by omega)]
  have t1 := fun (r : Bool) (hr : sideOk n wd = r) (W : World) => rside_any N n nc wd r W hr hn
  have t2 := fun (r : Bool) (hr : sideOk u wd = r) (W : World) => rside_any U u uc wd r W hr hu
  have t3 := fun (r : Bool) (hr : sideOk v hg = r) (W : World) => rside_any V v vc hg r W hr hv
  have t4 := fun (r : Bool) (hr : sideOk e hg = r) (W : World) => rside_any E e ec hg r W hr he
  obtain ⟨k, hk⟩ : ∃ k, k = wd.toNat := ⟨_, rfl⟩
  have hkw : wd = (k : Int) := by omega
  have hk8 : k ≤ 8 := by omega
  subst hkw
  have HV := Lib.hid hV
  clear hm hS hwf hV hk
  cases h1 : sideOk n (k : Int)
  · have HK : Hid (faultE s (k : Int) hg n e u v = 2) := by
      show _ = _
      rw [HKF.out]
      simp [h1]
    have c1 := t1 false h1
    clear t1 t2 t3 t4 HKF h1
    go_enter Tryd.func7, Tryd.ntmps7
    go_wp2_with fail
    refine hval.mono ?_
    rintro e' w1 ⟨rfl, hb1⟩
    have q0 := (hb1.cell (p := ⟨w.heap.size, 0, none⟩) (by simp)).trans (show _ = some (.slice N n nc) by simp)
    have q1 := (hb1.cell (p := ⟨w.heap.size, 1, none⟩) (by simp)).trans (show _ = some (.slice E e ec) by simp)
    have q2 := (hb1.cell (p := ⟨w.heap.size, 2, none⟩) (by simp)).trans (show _ = some (.slice U u uc) by simp)
    have q3 := (hb1.cell (p := ⟨w.heap.size, 3, none⟩) (by simp)).trans (show _ = some (.slice V v vc) by simp)
    have hl1 : w.heap.size < w1.heap.size := Nat.lt_of_lt_of_le (by simp) hb1.size
    go_wp2_with fail
    refine (c1 _).mono ?_
    rintro e' w2 ⟨rfl, rfl⟩
    go_wp2_with fail
    go_ret
    exact ⟨by rw [HK.out]; rfl, hb0.trans (hb1.mono hb0.size)⟩
  cases h2 : sideOk u (k : Int)
  · have HK : Hid (faultE s (k : Int) hg n e u v = 2) := by
      show _ = _
      rw [HKF.out]
      simp [h1, h2]
    have c1 := t1 true h1
    have c2 := t2 false h2
    clear t1 t2 t3 t4 HKF h1 h2
    go_enter Tryd.func7, Tryd.ntmps7
    go_wp2_with fail
    refine hval.mono ?_
    rintro e' w1 ⟨rfl, hb1⟩
    have q0 := (hb1.cell (p := ⟨w.heap.size, 0, none⟩) (by simp)).trans (show _ = some (.slice N n nc) by simp)
    have q1 := (hb1.cell (p := ⟨w.heap.size, 1, none⟩) (by simp)).trans (show _ = some (.slice E e ec) by simp)
    have q2 := (hb1.cell (p := ⟨w.heap.size, 2, none⟩) (by simp)).trans (show _ = some (.slice U u uc) by simp)
    have q3 := (hb1.cell (p := ⟨w.heap.size, 3, none⟩) (by simp)).trans (show _ = some (.slice V v vc) by simp)
    have hl1 : w.heap.size < w1.heap.size := Nat.lt_of_lt_of_le (by simp) hb1.size
    go_wp2_with fail
    refine (c1 _).mono ?_
    rintro e' w2 ⟨rfl, rfl⟩
    go_wp2_with fail
    refine (c2 _).mono ?_
    rintro e' w2 ⟨rfl, rfl⟩
    go_wp2_with fail
    go_ret
    exact ⟨by rw [HK.out]; rfl, hb0.trans (hb1.mono hb0.size)⟩
  cases h3 : sideOk v hg
  · have HK : Hid (faultE s (k : Int) hg n e u v = 2) := by
      show _ = _
      rw [HKF.out]
      simp [h1, h2, h3]
    have c1 := t1 true h1
    have c2 := t2 true h2
    have c3 := t3 false h3
    clear t1 t2 t3 t4 HKF h1 h2 h3
    go_enter Tryd.func7, Tryd.ntmps7
    go_wp2_with fail
    refine hval.mono ?_
    rintro e' w1 ⟨rfl, hb1⟩
    have q0 := (hb1.cell (p := ⟨w.heap.size, 0, none⟩) (by simp)).trans (show _ = some (.slice N n nc) by simp)
    have q1 := (hb1.cell (p := ⟨w.heap.size, 1, none⟩) (by simp)).trans (show _ = some (.slice E e ec) by simp)
    have q2 := (hb1.cell (p := ⟨w.heap.size, 2, none⟩) (by simp)).trans (show _ = some (.slice U u uc) by simp)
    have q3 := (hb1.cell (p := ⟨w.heap.size, 3, none⟩) (by simp)).trans (show _ = some (.slice V v vc) by simp)
    have hl1 : w.heap.size < w1.heap.size := Nat.lt_of_lt_of_le (by simp) hb1.size
    go_wp2_with fail
    refine (c1 _).mono ?_
    rintro e' w2 ⟨rfl, rfl⟩
    go_wp2_with fail
    refine (c2 _).mono ?_
    rintro e' w2 ⟨rfl, rfl⟩
    go_wp2_with fail
    refine (c3 _).mono ?_
    rintro e' w2 ⟨rfl, rfl⟩
    go_wp2_with fail
    go_ret
    exact ⟨by rw [HK.out]; rfl, hb0.trans (hb1.mono hb0.size)⟩
  cases h4 : sideOk e hg
  · have HK : Hid (faultE s (k : Int) hg n e u v = 2) := by
      show _ = _
      rw [HKF.out]
      simp [h1, h2, h3, h4]
    have c1 := t1 true h1
    have c2 := t2 true h2
    have c3 := t3 true h3
    have c4 := t4 false h4
    clear t1 t2 t3 t4 HKF h1 h2 h3 h4
    go_enter Tryd.func7, Tryd.ntmps7
    go_wp2_with fail
    refine hval.mono ?_
    rintro e' w1 ⟨rfl, hb1⟩
    have q0 := (hb1.cell (p := ⟨w.heap.size, 0, none⟩) (by simp)).trans (show _ = some (.slice N n nc) by simp)
    have q1 := (hb1.cell (p := ⟨w.heap.size, 1, none⟩) (by simp)).trans (show _ = some (.slice E e ec) by simp)
    have q2 := (hb1.cell (p := ⟨w.heap.size, 2, none⟩) (by simp)).trans (show _ = some (.slice U u uc) by simp)
    have q3 := (hb1.cell (p := ⟨w.heap.size, 3, none⟩) (by simp)).trans (show _ = some (.slice V v vc) by simp)
    have hl1 : w.heap.size < w1.heap.size := Nat.lt_of_lt_of_le (by simp) hb1.size
    go_wp2_with fail
    refine (c1 _).mono ?_
    rintro e' w2 ⟨rfl, rfl⟩
    go_wp2_with fail
    refine (c2 _).mono ?_
    rintro e' w2 ⟨rfl, rfl⟩
    go_wp2_with fail
    refine (c3 _).mono ?_
    rintro e' w2 ⟨rfl, rfl⟩
    go_wp2_with fail
    refine (c4 _).mono ?_
    rintro e' w2 ⟨rfl, rfl⟩
    go_wp2_with fail
    go_ret
    exact ⟨by rw [HK.out]; rfl, hb0.trans (hb1.mono hb0.size)⟩
  have HK : Hid (faultE s (k : Int) hg n e u v = 0) := by
    show _ = _
    rw [HKF.out]
    simp [h1, h2, h3, h4]
  have c1 := t1 true h1
  have c2 := t2 true h2
  have c3 := t3 true h3
  have c4 := t4 true h4
  clear t1 t2 t3 t4 HKF h1 h2 h3 h4
  go_enter Tryd.func7, Tryd.ntmps7
  go_wp2_with fail
  refine hval.mono ?_
  rintro e' w1 ⟨rfl, hb1⟩
  have q0 := (hb1.cell (p := ⟨w.heap.size, 0, none⟩) (by simp)).trans (show _ = some (.slice N n nc) by simp)
  have q1 := (hb1.cell (p := ⟨w.heap.size, 1, none⟩) (by simp)).trans (show _ = some (.slice E e ec) by simp)
  have q2 := (hb1.cell (p := ⟨w.heap.size, 2, none⟩) (by simp)).trans (show _ = some (.slice U u uc) by simp)
  have q3 := (hb1.cell (p := ⟨w.heap.size, 3, none⟩) (by simp)).trans (show _ = some (.slice V v vc) by simp)
  have hl1 : w.heap.size < w1.heap.size := Nat.lt_of_lt_of_le (by simp) hb1.size
  go_wp2_with fail
  refine (c1 _).mono ?_
  rintro e' w2 ⟨rfl, rfl⟩
  go_wp2_with fail
  refine (c2 _).mono ?_
  rintro e' w2 ⟨rfl, rfl⟩
  go_wp2_with fail
  refine (c3 _).mono ?_
  rintro e' w2 ⟨rfl, rfl⟩
  go_wp2_with fail
  refine (c4 _).mono ?_
  rintro e' w2 ⟨rfl, rfl⟩
  go_wp2_with fail
  go_ret
  exact ⟨by rw [HK.out]; rfl, hb0.trans (hb1.mono hb0.size)⟩

/-- b to the power n, at most 1000000 -/
def pw (b n : Nat) : Nat := min (b ^ n) 1000000
theorem pw_succ (b n : Nat) : pw b (n + 1) = min (pw b n * b) 1000000 := by
  unfold pw
  rw [Nat.pow_succ]
  rcases Nat.eq_zero_or_pos b with e | e
  · subst e
    simp
  · rcases Nat.le_total (b ^ n) 1000000 with h | h
    · rw [Nat.min_eq_left h]
    · have h1 : 1000000 ≤ b ^ n * b := Nat.le_trans h (Nat.le_mul_of_pos_right _ e)
      have h2 : 1000000 ≤ 1000000 * b := Nat.le_mul_of_pos_right _ e
      rw [Nat.min_eq_right h, Nat.min_eq_right h1, Nat.min_eq_right h2]
set_option maxHeartbeats 1000000 in
theorem rpower_any (b n : Nat) (w : World) (hb : b ≤ 1000000) (hn : n ≤ 1000000) :
    Calls Tryd.prog 27 #[.int .i64 (b : Int), .int .i64 (n : Int)] w fun e w' => e = .returned (.int .i64 (pw b n : Int)) ∧ w = w' := by
  go_enter Tryd.func27, Tryd.ntmps27
  go_wp2
  go_loop [5, 6] (fun l i => ∃ (j : Nat) (p : Nat), j ≤ n ∧ i = .int .i64 j ∧ l = .int .i64 (p : Int) ∧ p ≤ 1000000 ∧ Hid (p = pw b j)) (fun _ i => n - (intOf i).toNat)
  case atStart => exact ⟨0, 1, Nat.zero_le _, rfl, rfl, by omega, by show 1 = pw b 0; simp [pw]⟩
  case round =>
    obtain ⟨j, p, hj, rfl, rfl, hp, hpe⟩ := hrel
    by_cases hlt : j < n
    · obtain ⟨q, hq⟩ : ∃ q, q = p * b := ⟨_, rfl⟩
      have hq1 : q ≤ 1000000 * 1000000 := by rw [hq]; exact Nat.mul_le_mul hp hb
      have HQ : Hid (min q 1000000 = pw b (j + 1)) := by show _ = _; rw [pw_succ, hq, hpe.out]
      have e1 : (p : Int) * (b : Int) = (q : Int) := by rw [hq, Int.natCast_mul]
      clear hq
      go_wp2
      go_round
      case rel => exact ⟨j + 1, min q 1000000, by omega, by go_num, by simp; omega, by omega, HQ⟩
      case measure => simp [intOf]; omega
    · have HK : Hid ((p : Int) = (pw b n : Int)) := by
        have e : j = n := by omega
        show _ = _
        rw [hpe.out, e]
      go_wp2
      go_ret
      exact ⟨by rw [← HK.out]; rfl, rfl⟩
theorem tooM_pw (t k : Nat) : tooM t k = decide (5000 < pw t k) := by
  unfold tooM pw
  rw [decide_eq_decide]
  omega
theorem rgreat_any (S : Option Addr) (m d k : Nat) (r : Bool) (w : World) (hr : tooM m k = r) (hm : m ≤ 1000000) (hk : k ≤ 1000000) :
    Calls Tryd.prog 11 #[.slice S m d, .int .i64 (k : Int)] w fun e w' => e = .returned (.bool r) ∧ w = w' := by
  rw [tooM_pw] at hr
  have hp := fun (W : World) => rpower_any m k W hm hk
  obtain ⟨q, hq⟩ : ∃ q, q = pw m k := ⟨_, rfl⟩
  rw [← hq] at hr hp
  clear hq
  have hr2 := ret_bool hr
  cases r
  · have h5 : ¬ 5000 < q := of_decide_eq_false hr
    clear hr hr2
    go_enter Tryd.func11, Tryd.ntmps11
    go_wp2_with fail
    refine (hp _).mono ?_
    rintro e w2 ⟨rfl, rfl⟩
    go_wp2_with fail
    go_ret
    exact ⟨ret_bool (by simp; omega), rfl⟩
  · have h5 : 5000 < q := of_decide_eq_true hr
    clear hr hr2
    go_enter Tryd.func11, Tryd.ntmps11
    go_wp2_with fail
    refine (hp _).mono ?_
    rintro e w2 ⟨rfl, rfl⟩
    go_wp2_with fail
    go_ret
    exact ⟨ret_bool (by simp; omega), rfl⟩
end Go.Proofs.YtfepgemopcpgmaaDoor

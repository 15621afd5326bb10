/-
  fill: along, tooMany, plus, check.
-/
import Derived.Test.YtgadfmknjpanpaaGreatDoorTw
import Derived.Test.YtgadfmknjpanpaaGreatDoorFp
namespace Go.Proofs.YtgadfmknjpanpaaGreatDoor
open Go.RowKit Go.Maps Go.BigFrame
set_option linter.unusedVariables false
set_option maxRecDepth 100000

/-- an edge of n colours may be that of a side with k cells -/
def sideOk (n : Nat) (k : Int) : Bool := decide (n = 0 ∨ (n : Int) = k)
theorem along_any (S : Option Addr) (n c : Nat) (k : Int) (r : Bool) (w : World) (hr : sideOk n k = r) (hn : n ≤ 9223372036854775807) :
    Calls Tryz.prog 40 #[.slice S n c, .int .i64 k] w fun e w' => e = .returned (.bool r) ∧ w = w' := by
  by_cases h0 : n = 0
  · have hr' : r = true := by rw [← hr]; exact decide_eq_true (Or.inl h0)
    subst hr'
    subst h0
    clear hr
    go_enter Tryz.func40, Tryz.ntmps40
    go_wp2
    go_ret
    exact ⟨rfl, rfl⟩
  · by_cases h1 : (n : Int) = k
    · have hr' : r = true := by rw [← hr]; exact decide_eq_true (Or.inr h1)
      subst hr'
      subst h1
      clear hr
      go_enter Tryz.func40, Tryz.ntmps40
      go_wp2
      go_ret
      exact ⟨rfl, rfl⟩
    · have hr' : r = false := by rw [← hr]; exact decide_eq_false (by omega)
      subst hr'
      have h2 : (((n : Int)) == k) = false := by rw [beq_eq_false_iff_ne]; exact h1
      clear hr
      go_enter Tryz.func40, Tryz.ntmps40
      go_wp2
      go_ret
      exact ⟨ret_bool (by simp [h0]), rfl⟩
def many : Int := 1152921504606846977
theorem plus_any (a b : Int) (w : World) (ha : 0 ≤ a) (hb : 0 ≤ b) (ha2 : a ≤ 1152921504606846977) (hb2 : b ≤ 1152921504606846977) :
    Calls Tryz.prog 57 #[.int .i64 a, .int .i64 b] w fun e w' => e = .returned (.int .i64 (min (a + b) 1152921504606846977)) ∧ w = w' := by
  go_enter Tryz.func57, Tryz.ntmps57
  go_wp2
  go_ret
  exact ⟨by simp, rfl⟩

def tooM (t k : Nat) : Bool := decide (5000 < t ^ k)
theorem pow_more {t j k : Nat} (ht : 1 ≤ t) (hjk : j ≤ k) (h : 5000 < t ^ j) : 5000 < t ^ k := Nat.lt_of_lt_of_le h (Nat.pow_le_pow_right ht hjk)
set_option maxHeartbeats 1000000 in
theorem tooMany_any (t k : Nat) (r : Bool) (w : World) (hr : tooM t k = r) (ht : t ≤ 1000) (hk : k ≤ 8) :
    Calls Tryz.prog 41 #[.int .i64 (t : Int), .int .i64 (k : Int)] w fun e w' => e = .returned (.bool r) ∧ w = w' := by
  have HR := Lib.hid hr
  clear hr
  go_enter Tryz.func41, Tryz.ntmps41
  go_wp2
  go_loop [5, 7] (fun l i => ∃ (j : Nat) (p : Nat), j ≤ k ∧ i = .int .i64 j ∧ l = .int .i64 (p : Int) ∧ p ≤ 5000 ∧ Hid (p = t ^ j)) (fun _ i => k - (intOf i).toNat)
  case atStart => exact ⟨0, 1, Nat.zero_le _, rfl, rfl, by omega, by show 1 = t ^ 0; simp⟩
  case round =>
    obtain ⟨j, p, hj, rfl, rfl, hp, hpe⟩ := hrel
    by_cases hlt : j < k
    · obtain ⟨q, hq⟩ : ∃ q, q = p * t := ⟨_, rfl⟩
      have hq1 : q ≤ 5000 * 1000 := by rw [hq]; exact Nat.mul_le_mul hp ht
      have HQ : Hid (q = t ^ (j + 1)) := by show _ = _; rw [hq, hpe.out, Nat.pow_succ]
      have e1 : (p : Int) * (t : Int) = (q : Int) := by rw [hq, Int.natCast_mul]
      clear hq
      by_cases h5 : 5000 < q
      · have hr2 : r = true := by
          rw [← HR.out]
          refine decide_eq_true (pow_more ?_ (show j + 1 ≤ k by omega) (by rw [← HQ.out]; exact h5))
          rcases Nat.eq_zero_or_pos t with e | e
          · have := HQ.out
            rw [e, Nat.pow_succ, Nat.mul_zero] at this
            omega
          · exact e
        clear HR
        subst hr2
        go_wp2
        go_ret
        exact ⟨rfl, rfl⟩
      · go_wp2
        go_round
        case rel => exact ⟨j + 1, q, by omega, by go_num, rfl, by omega, HQ⟩
        case measure => simp [intOf]; omega
    · have hr2 : r = false := by
        rw [← HR.out]
        have e : j = k := by omega
        exact decide_eq_false (by rw [← e, ← hpe.out]; omega)
      clear HR
      subst hr2
      go_wp2
      go_ret
      exact ⟨rfl, rfl⟩

/-- the error that is due for a set, a size and edges, whatever patterns there are: 0 where there is none -/
def faultE (s : List Tl) (wd hg : Int) (n e u v : Nat) : Int :=
  if vld s = false then 1 else if wd < 1 ∨ 8 < wd ∨ hg < 1 ∨ 60 < hg then 2 else if (sideOk n wd && (sideOk u wd && (sideOk v hg && sideOk e hg))) = true then 0 else 2
def checkE (s : List Tl) (wd hg : Int) (n e u v : Nat) : Int :=
  if faultE s wd hg n e u v ≠ 0 then faultE s wd hg n e u v else if tooM s.length wd.toNat = true then 4 else 0

set_option maxHeartbeats 4000000 in
theorem check_any (s : List Tl) (S : Option Addr) (m d : Nat) (wd hg : Int) (N E U V : Option Addr) (n e u v nc ec uc vc : Nat) (w : World) (hm : m = s.length) (hS : SetIn w w.heap.size S s) (hwf : ∀ t ∈ s, twf t) (hml : m ≤ 9223372036854775807)
    (hn : n ≤ 9223372036854775807) (he : e ≤ 9223372036854775807) (hu : u ≤ 9223372036854775807) (hv : v ≤ 9223372036854775807) :
    Calls Tryz.prog 22 #[.slice S m d, .int .i64 wd, .int .i64 hg, .agg #[.slice N n nc, .slice E e ec, .slice U u uc, .slice V v vc]] w fun e' w' => e' = .returned (.int .i64 (checkE s wd hg n e u v)) ∧ Below w.heap.size w w' := by
  have hb0 : Below w.heap.size w (w.alloc (.cells #[.slice N n nc, .slice E e ec, .slice U u uc, .slice V v vc] 35)) := (Below.refl _ _).alloc (Nat.le_refl _) _
  have hval := valid_any s S d _ (hS.keep hb0 hb0.size) hwf (by omega)
  rw [← hm] at hval
  have HM := Lib.hid hm
  cases hV : vld s
  · have HK : Hid (checkE s wd hg n e u v = 1) := by unfold Hid checkE faultE; rw [hV]; simp
    rw [hV] at hval
    clear hm hV hS hwf
    go_enter Tryz.func22, Tryz.ntmps22
    go_wp2_with fail
    refine hval.mono ?_
    rintro e' w1 ⟨rfl, hb1⟩
    go_wp2_with fail
    go_ret
    exact ⟨by rw [HK.out]; rfl, hb0.trans (hb1.mono hb0.size)⟩
  have hm1 : m ≤ 1000 := by rw [hm]; exact (vld_iff.1 hV).1
  rw [hV] at hval
  by_cases hsz : 1 ≤ wd ∧ wd ≤ 8 ∧ 1 ≤ hg ∧ hg ≤ 60
  rotate_left
  · have HK : Hid (checkE s wd hg n e u v = 2) := by
      unfold Hid checkE faultE
      rw [hV]
      simp only [Bool.true_eq_false, if_false]
      rw [if_pos (show wd < 1 ∨ 8 < wd ∨ hg < 1 ∨ 60 < hg by omega)]
      simp
    clear hm hV hS hwf
    by_cases s1 : wd < 1
    · go_enter Tryz.func22, Tryz.ntmps22
      go_wp2_with fail
      refine hval.mono ?_
      rintro e' w1 ⟨rfl, hb1⟩
      go_wp2_with fail
      go_ret
      exact ⟨by rw [HK.out]; rfl, hb0.trans (hb1.mono hb0.size)⟩
    by_cases s2 : 8 < wd
    · go_enter Tryz.func22, Tryz.ntmps22
      go_wp2_with fail
      refine hval.mono ?_
      rintro e' w1 ⟨rfl, hb1⟩
      go_wp2_with fail
      go_ret
      exact ⟨by rw [HK.out]; rfl, hb0.trans (hb1.mono hb0.size)⟩
    by_cases s3 : hg < 1
    · go_enter Tryz.func22, Tryz.ntmps22
      go_wp2_with fail
      refine hval.mono ?_
      rintro e' w1 ⟨rfl, hb1⟩
      go_wp2_with fail
      go_ret
      exact ⟨by rw [HK.out]; rfl, hb0.trans (hb1.mono hb0.size)⟩
    have s4 : 60 < hg := by omega
    go_enter Tryz.func22, Tryz.ntmps22
    go_wp2_with fail
    refine hval.mono ?_
    rintro e' w1 ⟨rfl, hb1⟩
    go_wp2_with fail
    go_ret
    exact ⟨by rw [HK.out]; rfl, hb0.trans (hb1.mono hb0.size)⟩
  obtain ⟨a1, a2, a3, a4⟩ := hsz
  have HKF : Hid (faultE s wd hg n e u v = if (sideOk n wd && (sideOk u wd && (sideOk v hg && sideOk e hg))) = true then 0 else 2) := by
    unfold Hid faultE
    rw [hV]
    simp only [Bool.true_eq_false, if_false]
    rw [if_neg (show ¬ (wd < 1 ∨ 8 < wd ∨ hg < 1 ∨ 60 < hg) by omega)]
  have t1 := fun (r : Bool) (hr : sideOk n wd = r) (W : World) => along_any N n nc wd r W hr hn
  have t2 := fun (r : Bool) (hr : sideOk u wd = r) (W : World) => along_any U u uc wd r W hr hu
  have t3 := fun (r : Bool) (hr : sideOk v hg = r) (W : World) => along_any V v vc hg r W hr hv
  have t4 := fun (r : Bool) (hr : sideOk e hg = r) (W : World) => along_any E e ec hg r W hr he
  obtain ⟨k, hk⟩ : ∃ k, k = wd.toNat := ⟨_, rfl⟩
  have hkw : wd = (k : Int) := by omega
  have hk8 : k ≤ 8 := by omega
  subst hkw
  have HV := Lib.hid hV
  clear hm hS hwf hV hk
  cases h1 : sideOk n (k : Int)
  · have HK : Hid (checkE s (k : Int) hg n e u v = 2) := by
      unfold Hid checkE
      rw [HKF.out]
      simp [h1]
    have c1 := t1 false h1
    clear t1 t2 t3 t4 HKF h1
    go_enter Tryz.func22, Tryz.ntmps22
    go_wp2_with fail
    refine hval.mono ?_
    rintro e' w1 ⟨rfl, hb1⟩
    have q0 := (hb1.cell (p := ⟨w.heap.size, 0, none⟩) (by simp)).trans (show _ = some (.slice N n nc) by simp)
    have q1 := (hb1.cell (p := ⟨w.heap.size, 1, none⟩) (by simp)).trans (show _ = some (.slice E e ec) by simp)
    have q2 := (hb1.cell (p := ⟨w.heap.size, 2, none⟩) (by simp)).trans (show _ = some (.slice U u uc) by simp)
    have q3 := (hb1.cell (p := ⟨w.heap.size, 3, none⟩) (by simp)).trans (show _ = some (.slice V v vc) by simp)
    have hl1 : w.heap.size < w1.heap.size := Nat.lt_of_lt_of_le (by simp) hb1.size
    go_wp2_with fail
    refine (c1 _).mono ?_
    rintro e' w2 ⟨rfl, rfl⟩
    go_wp2_with fail
    go_ret
    exact ⟨by rw [HK.out]; rfl, hb0.trans (hb1.mono hb0.size)⟩
  cases h2 : sideOk u (k : Int)
  · have HK : Hid (checkE s (k : Int) hg n e u v = 2) := by
      unfold Hid checkE
      rw [HKF.out]
      simp [h1, h2]
    have c1 := t1 true h1
    have c2 := t2 false h2
    clear t1 t2 t3 t4 HKF h1 h2
    go_enter Tryz.func22, Tryz.ntmps22
    go_wp2_with fail
    refine hval.mono ?_
    rintro e' w1 ⟨rfl, hb1⟩
    have q0 := (hb1.cell (p := ⟨w.heap.size, 0, none⟩) (by simp)).trans (show _ = some (.slice N n nc) by simp)
    have q1 := (hb1.cell (p := ⟨w.heap.size, 1, none⟩) (by simp)).trans (show _ = some (.slice E e ec) by simp)
    have q2 := (hb1.cell (p := ⟨w.heap.size, 2, none⟩) (by simp)).trans (show _ = some (.slice U u uc) by simp)
    have q3 := (hb1.cell (p := ⟨w.heap.size, 3, none⟩) (by simp)).trans (show _ = some (.slice V v vc) by simp)
    have hl1 : w.heap.size < w1.heap.size := Nat.lt_of_lt_of_le (by simp) hb1.size
    go_wp2_with fail
    refine (c1 _).mono ?_
    rintro e' w2 ⟨rfl, rfl⟩
    go_wp2_with fail
    refine (c2 _).mono ?_
    rintro e' w2 ⟨rfl, rfl⟩
    go_wp2_with fail
    go_ret
    exact ⟨by rw [HK.out]; rfl, hb0.trans (hb1.mono hb0.size)⟩
  cases h3 : sideOk v hg
  · have HK : Hid (checkE s (k : Int) hg n e u v = 2) := by
      unfold Hid checkE
      rw [HKF.out]
      simp [h1, h2, h3]
    have c1 := t1 true h1
    have c2 := t2 true h2
    have c3 := t3 false h3
    clear t1 t2 t3 t4 HKF h1 h2 h3
    go_enter Tryz.func22, Tryz.ntmps22
    go_wp2_with fail
    refine hval.mono ?_
    rintro e' w1 ⟨rfl, hb1⟩
    have q0 := (hb1.cell (p := ⟨w.heap.size, 0, none⟩) (by simp)).trans (show _ = some (.slice N n nc) by simp)
    have q1 := (hb1.cell (p := ⟨w.heap.size, 1, none⟩) (by simp)).trans (show _ = some (.slice E e ec) by simp)
    have q2 := (hb1.cell (p := ⟨w.heap.size, 2, none⟩) (by simp)).trans (show _ = some (.slice U u uc) by simp)
    have q3 := (hb1.cell (p := ⟨w.heap.size, 3, none⟩) (by simp)).trans (show _ = some (.slice V v vc) by simp)
    have hl1 : w.heap.size < w1.heap.size := Nat.lt_of_lt_of_le (by simp) hb1.size
    go_wp2_with fail
    refine (c1 _).mono ?_
    rintro e' w2 ⟨rfl, rfl⟩
    go_wp2_with fail
    refine (c2 _).mono ?_
    rintro e' w2 ⟨rfl, rfl⟩
    go_wp2_with fail
    refine (c3 _).mono ?_
    rintro e' w2 ⟨rfl, rfl⟩
    go_wp2_with fail
    go_ret
    exact ⟨by rw [HK.out]; rfl, hb0.trans (hb1.mono hb0.size)⟩
  cases h4 : sideOk e hg
  · have HK : Hid (checkE s (k : Int) hg n e u v = 2) := by
      unfold Hid checkE
      rw [HKF.out]
      simp [h1, h2, h3, h4]
    have c1 := t1 true h1
    have c2 := t2 true h2
    have c3 := t3 true h3
    have c4 := t4 false h4
    clear t1 t2 t3 t4 HKF h1 h2 h3 h4
    go_enter Tryz.func22, Tryz.ntmps22
    go_wp2_with fail
    refine hval.mono ?_
    rintro e' w1 ⟨rfl, hb1⟩
    have q0 := (hb1.cell (p := ⟨w.heap.size, 0, none⟩) (by simp)).trans (show _ = some (.slice N n nc) by simp)
    have q1 := (hb1.cell (p := ⟨w.heap.size, 1, none⟩) (by simp)).trans (show _ = some (.slice E e ec) by simp)
    have q2 := (hb1.cell (p := ⟨w.heap.size, 2, none⟩) (by simp)).trans (show _ = some (.slice U u uc) by simp)
    have q3 := (hb1.cell (p := ⟨w.heap.size, 3, none⟩) (by simp)).trans (show _ = some (.slice V v vc) by simp)
    have hl1 : w.heap.size < w1.heap.size := Nat.lt_of_lt_of_le (by simp) hb1.size
    go_wp2_with fail
    refine (c1 _).mono ?_
    rintro e' w2 ⟨rfl, rfl⟩
    go_wp2_with fail
    refine (c2 _).mono ?_
    rintro e' w2 ⟨rfl, rfl⟩
    go_wp2_with fail
    refine (c3 _).mono ?_
    rintro e' w2 ⟨rfl, rfl⟩
    go_wp2_with fail
    refine (c4 _).mono ?_
    rintro e' w2 ⟨rfl, rfl⟩
    go_wp2_with fail
    go_ret
    exact ⟨by rw [HK.out]; rfl, hb0.trans (hb1.mono hb0.size)⟩
  have HK : Hid (checkE s (k : Int) hg n e u v = if tooM m k = true then 4 else 0) := by
    unfold Hid checkE
    rw [HKF.out, ← HM.out]
    simp [h1, h2, h3, h4]
  have c1 := t1 true h1
  have c2 := t2 true h2
  have c3 := t3 true h3
  have c4 := t4 true h4
  clear t1 t2 t3 t4 HKF h1 h2 h3 h4
  cases h5 : tooM m k
  · have c5 := fun (W : World) => tooMany_any m k false W h5 hm1 hk8
    rw [h5] at HK
    clear h5
    go_enter Tryz.func22, Tryz.ntmps22
    go_wp2_with fail
    refine hval.mono ?_
    rintro e' w1 ⟨rfl, hb1⟩
    have q0 := (hb1.cell (p := ⟨w.heap.size, 0, none⟩) (by simp)).trans (show _ = some (.slice N n nc) by simp)
    have q1 := (hb1.cell (p := ⟨w.heap.size, 1, none⟩) (by simp)).trans (show _ = some (.slice E e ec) by simp)
    have q2 := (hb1.cell (p := ⟨w.heap.size, 2, none⟩) (by simp)).trans (show _ = some (.slice U u uc) by simp)
    have q3 := (hb1.cell (p := ⟨w.heap.size, 3, none⟩) (by simp)).trans (show _ = some (.slice V v vc) by simp)
    have hl1 : w.heap.size < w1.heap.size := Nat.lt_of_lt_of_le (by simp) hb1.size
    go_wp2_with fail
    refine (c1 _).mono ?_
    rintro e' w2 ⟨rfl, rfl⟩
    go_wp2_with fail
    refine (c2 _).mono ?_
    rintro e' w2 ⟨rfl, rfl⟩
    go_wp2_with fail
    refine (c3 _).mono ?_
    rintro e' w2 ⟨rfl, rfl⟩
    go_wp2_with fail
    refine (c4 _).mono ?_
    rintro e' w2 ⟨rfl, rfl⟩
    go_wp2_with fail
    refine (c5 _).mono ?_
    rintro e' w2 ⟨rfl, rfl⟩
    go_wp2_with fail
    go_ret
    exact ⟨by rw [HK.out]; rfl, hb0.trans (hb1.mono hb0.size)⟩
  · have c5 := fun (W : World) => tooMany_any m k true W h5 hm1 hk8
    rw [h5] at HK
    clear h5
    go_enter Tryz.func22, Tryz.ntmps22
    go_wp2_with fail
    refine hval.mono ?_
    rintro e' w1 ⟨rfl, hb1⟩
    have q0 := (hb1.cell (p := ⟨w.heap.size, 0, none⟩) (by simp)).trans (show _ = some (.slice N n nc) by simp)
    have q1 := (hb1.cell (p := ⟨w.heap.size, 1, none⟩) (by simp)).trans (show _ = some (.slice E e ec) by simp)
    have q2 := (hb1.cell (p := ⟨w.heap.size, 2, none⟩) (by simp)).trans (show _ = some (.slice U u uc) by simp)
    have q3 := (hb1.cell (p := ⟨w.heap.size, 3, none⟩) (by simp)).trans (show _ = some (.slice V v vc) by simp)
    have hl1 : w.heap.size < w1.heap.size := Nat.lt_of_lt_of_le (by simp) hb1.size
    go_wp2_with fail
    refine (c1 _).mono ?_
    rintro e' w2 ⟨rfl, rfl⟩
    go_wp2_with fail
    refine (c2 _).mono ?_
    rintro e' w2 ⟨rfl, rfl⟩
    go_wp2_with fail
    refine (c3 _).mono ?_
    rintro e' w2 ⟨rfl, rfl⟩
    go_wp2_with fail
    refine (c4 _).mono ?_
    rintro e' w2 ⟨rfl, rfl⟩
    go_wp2_with fail
    refine (c5 _).mono ?_
    rintro e' w2 ⟨rfl, rfl⟩
    go_wp2_with fail
    go_ret
    exact ⟨by rw [HK.out]; rfl, hb0.trans (hb1.mono hb0.size)⟩
end Go.Proofs.YtgadfmknjpanpaaGreatDoor

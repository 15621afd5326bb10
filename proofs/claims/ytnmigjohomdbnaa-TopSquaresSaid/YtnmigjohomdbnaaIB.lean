/-
  groutworktop.of, round = false.
-/
import Derived.Test.YtnmigjohomdbnaaIA
namespace Go.Proofs.Ytnmigjohomdbnaa
open Go.RowKit Go.Maps Go.BigFrame
set_option linter.unusedVariables false

set_option maxRecDepth 100000 in
set_option maxHeartbeats 8000000 in
theorem of_flat_any (a b : Int) (cs : List Int) (s : List Tl) (A S : Option Addr) (m n c d : Nat) (w : World) (hm : m = s.length) (hn : n = cs.length)
    (hS : SetIn w w.heap.size S s) (hP : IntsIn w w.heap.size A cs) (hwf : ∀ t ∈ s, twf t) (hml : m ≤ 9223372036854775807) (hnl : n ≤ 9223372036854775807) :
    Calls Try.prog 6 #[.slice S m d, .agg #[.int .i64 a, .int .i64 b, .slice A n c], .bool false] w fun e w' => e = .returned (.bool (ofs (a - 1) (b - 1) s ⟨a, b, cs⟩)) ∧ Below w.heap.size w w' := by
  have HM := Lib.hid hm
  have HN := Lib.hid hn
  clear hm hn
  by_cases c0 : m ≤ 1000
  rotate_left
  · have HK : Hid (ofs (a - 1) (b - 1) s ⟨a, b, cs⟩ = false) := ofs_novld (vld_long s (by rw [← HM.out]; omega))
    clear hS hP hwf
    go_enter Try.func6, Try.ntmps6
    go_wp2
    go_ret
    exact ⟨ret_bool HK.out.symm, (Below.refl _ _).alloc (Nat.le_refl _) _⟩
  by_cases c1 : 1 ≤ a
  rotate_left
  · have HK : Hid (ofs (a - 1) (b - 1) s ⟨a, b, cs⟩ = false) := ofs_noform (noform (by omega))
    clear hS hP hwf
    go_enter Try.func6, Try.ntmps6
    go_wp2
    go_ret
    exact ⟨ret_bool HK.out.symm, (Below.refl _ _).alloc (Nat.le_refl _) _⟩
  by_cases c2 : 1 ≤ b
  rotate_left
  · have HK : Hid (ofs (a - 1) (b - 1) s ⟨a, b, cs⟩ = false) := ofs_noform (noform (by omega))
    clear hS hP hwf
    go_enter Try.func6, Try.ntmps6
    go_wp2
    go_ret
    exact ⟨ret_bool HK.out.symm, (Below.refl _ _).alloc (Nat.le_refl _) _⟩
  have k1 : a ≤ a * b := by have := Int.mul_le_mul_of_nonneg_left (show (1 : Int) ≤ b by omega) (show 0 ≤ a by omega); omega
  have k2 : b ≤ a * b := by have := Int.mul_le_mul_of_nonneg_right (show (1 : Int) ≤ a by omega) (show 0 ≤ b by omega); omega
  by_cases c3 : a ≤ 40000
  rotate_left
  · have HK : Hid (ofs (a - 1) (b - 1) s ⟨a, b, cs⟩ = false) := ofs_noform (noform (by omega))
    clear hS hP hwf
    go_enter Try.func6, Try.ntmps6
    go_wp2
    go_ret
    exact ⟨ret_bool HK.out.symm, (Below.refl _ _).alloc (Nat.le_refl _) _⟩
  by_cases c4 : b ≤ 40000
  rotate_left
  · have HK : Hid (ofs (a - 1) (b - 1) s ⟨a, b, cs⟩ = false) := ofs_noform (noform (by omega))
    clear hS hP hwf
    go_enter Try.func6, Try.ntmps6
    go_wp2
    go_ret
    exact ⟨ret_bool HK.out.symm, (Below.refl _ _).alloc (Nat.le_refl _) _⟩
  have k3 : a * b ≤ 1600000000 := by have := Int.mul_le_mul c3 c4 (by omega) (by omega); omega
  have k4 : 0 ≤ a * b := by omega
  by_cases c5 : a * b ≤ 40000
  rotate_left
  · have HK : Hid (ofs (a - 1) (b - 1) s ⟨a, b, cs⟩ = false) := ofs_noform (noform (by omega))
    clear hS hP hwf
    go_enter Try.func6, Try.ntmps6
    go_wp2
    go_ret
    exact ⟨ret_bool HK.out.symm, (Below.refl _ _).alloc (Nat.le_refl _) _⟩
  by_cases c6 : (n : Int) = a * b
  rotate_left
  · have HK : Hid (ofs (a - 1) (b - 1) s ⟨a, b, cs⟩ = false) := ofs_noform (noform (by rw [← HN.out]; omega))
    have c7 : ((n : Int) == a * b) = false := by simpa using c6
    have c8 : ((n : Int) != a * b) = true := by simpa using c6
    clear hS hP hwf
    go_enter Try.func6, Try.ntmps6
    go_wp2
    go_ret
    exact ⟨ret_bool HK.out.symm, (Below.refl _ _).alloc (Nat.le_refl _) _⟩
  have c7 : ((n : Int) == a * b) = true := by simpa using c6
  have c8 : ((n : Int) != a * b) = false := by simpa using c6
  have hf : form ⟨a, b, cs⟩ = true := form_iff.2 ⟨c1, c2, c5, by rw [← HN.out]; exact c6⟩
  have HF := Lib.hid hf
  obtain ⟨a', b', e1, e2, h1, h2, h3, h4⟩ := form_nat hf
  have e1' : a = a' := e1
  have e2' : b = b' := e2
  subst e1'
  subst e2'
  clear e1 e2 k1 k2 c6 hf h4
  have c3' : a' ≤ 40000 := by omega
  have c4' : b' ≤ 40000 := by omega
  have hn4 : n ≤ 40000 := by have h := form_iff.1 HF.out; have h4 : (cs.length : Int) = a' * b' := h.2.2.2; have h3 : (a' : Int) * b' ≤ 40000 := h.2.2.1; rw [← HN.out] at h4; omega
  have HP0 : Hid (preOk s 0) := preOk_zero s (by rw [← HM.out]; exact c0)
  have HW := Lib.hid hwf
  clear hwf
  go_enter Try.func6, Try.ntmps6
  go_wp2
  clear c7 c8 k3 k4
  obtain ⟨W1, hW1⟩ : ∃ W1, W1 = w.alloc (.cells #[.int .i64 (a' : Int), .int .i64 (b' : Int), .slice A n c] 25) := ⟨_, rfl⟩
  have hz1 : W1.heap.size = w.heap.size + 1 := by rw [hW1]; simp
  have p0 : W1.cell? ⟨w.heap.size, 0, none⟩ = some (.int .i64 (a' : Int)) := by rw [hW1]; simp
  have p1 : W1.cell? ⟨w.heap.size, 1, none⟩ = some (.int .i64 (b' : Int)) := by rw [hW1]; simp
  have p2 : W1.cell? ⟨w.heap.size, 2, none⟩ = some (.slice A n c) := by rw [hW1]; simp
  have hb1 : Below w.heap.size w W1 := by rw [hW1]; exact (Below.refl _ _).alloc (Nat.le_refl _) _
  rw [← hW1]
  clear hW1
  have HZ := Lib.hid hz1
  have HP0' := Lib.hid p0
  have HP1 := Lib.hid p1
  have HP2 := Lib.hid p2
  have HS := Lib.hid hS
  have HPI := Lib.hid hP
  clear hz1 p0 p1 p2 hS hP
  go_loopw [7] (fun i wr => ∃ k : Nat, k ≤ m ∧ i = .int .i64 k ∧ Hid (preOk s k) ∧ Below W1.heap.size W1 wr) (fun i _ => m - (intOf i).toNat)
  case atStart => exact ⟨0, Nat.zero_le _, rfl, HP0, Below.refl _ _⟩
  case round =>
    clear HP0
    obtain ⟨k, hk, rfl, hpre, hbw⟩ := hrel
    obtain ⟨wo, rfl⟩ : ∃ wo : World, wo = wr := ⟨_, rfl⟩
    have hw : Below w.heap.size w wo := hb1.trans (hbw.mono (by rw [HZ.out]; omega))
    by_cases hlt : k < m
    · have hkc : k < s.length := by rw [← HM.out]; exact hlt
      obtain ⟨sb, so, rfl, hsb, hc⟩ := HS.out (ne_nil_of_lt hkc)
      obtain ⟨t, ht⟩ : ∃ t, t = s.getD k ⟨0, 0, 0, 0⟩ := ⟨_, rfl⟩
      obtain ⟨x0, x1, x2, x3⟩ := hc k hkc
      rw [← ht] at x0 x1 x2 x3
      have d0 := (hw.cell (p := ⟨sb, so + k * 4, none⟩) hsb).trans x0
      have d1 := (hw.cell (p := ⟨sb, so + k * 4 + 1, none⟩) hsb).trans x1
      have d2 := (hw.cell (p := ⟨sb, so + k * 4 + 2, none⟩) hsb).trans x2
      have d3 := (hw.cell (p := ⟨sb, so + k * 4 + 3, none⟩) hsb).trans x3
      clear x0 x1 x2 x3
      have HC := Lib.hid hc
      clear hc
      have hsz := hbw.size
      by_cases o0 : 0 ≤ t.n
      rotate_left
      · have HK : Hid (ofs ((a' : Int) - 1) ((b' : Int) - 1) s ⟨a', b', cs⟩ = false) := ofs_novld (vld_bad s k hkc t ht (by rw [Bool.eq_false_iff]; intro h; have := okt_iff.1 h; omega))
        clear ht hkc hpre
        go_wp2
        go_ret
        exact ⟨ret_bool HK.out.symm, hw.alloc hw.size _⟩
      by_cases o1 : 0 ≤ t.e
      rotate_left
      · have HK : Hid (ofs ((a' : Int) - 1) ((b' : Int) - 1) s ⟨a', b', cs⟩ = false) := ofs_novld (vld_bad s k hkc t ht (by rw [Bool.eq_false_iff]; intro h; have := okt_iff.1 h; omega))
        clear ht hkc hpre
        go_wp2
        go_ret
        exact ⟨ret_bool HK.out.symm, hw.alloc hw.size _⟩
      by_cases o2 : 0 ≤ t.s
      rotate_left
      · have HK : Hid (ofs ((a' : Int) - 1) ((b' : Int) - 1) s ⟨a', b', cs⟩ = false) := ofs_novld (vld_bad s k hkc t ht (by rw [Bool.eq_false_iff]; intro h; have := okt_iff.1 h; omega))
        clear ht hkc hpre
        go_wp2
        go_ret
        exact ⟨ret_bool HK.out.symm, hw.alloc hw.size _⟩
      by_cases o3 : 0 ≤ t.w
      rotate_left
      · have HK : Hid (ofs ((a' : Int) - 1) ((b' : Int) - 1) s ⟨a', b', cs⟩ = false) := ofs_novld (vld_bad s k hkc t ht (by rw [Bool.eq_false_iff]; intro h; have := okt_iff.1 h; omega))
        clear ht hkc hpre
        go_wp2
        go_ret
        exact ⟨ret_bool HK.out.symm, hw.alloc hw.size _⟩
      by_cases o4 : t.n < 1000
      rotate_left
      · have HK : Hid (ofs ((a' : Int) - 1) ((b' : Int) - 1) s ⟨a', b', cs⟩ = false) := ofs_novld (vld_bad s k hkc t ht (by rw [Bool.eq_false_iff]; intro h; have := okt_iff.1 h; omega))
        clear ht hkc hpre
        go_wp2
        go_ret
        exact ⟨ret_bool HK.out.symm, hw.alloc hw.size _⟩
      by_cases o5 : t.e < 1000
      rotate_left
      · have HK : Hid (ofs ((a' : Int) - 1) ((b' : Int) - 1) s ⟨a', b', cs⟩ = false) := ofs_novld (vld_bad s k hkc t ht (by rw [Bool.eq_false_iff]; intro h; have := okt_iff.1 h; omega))
        clear ht hkc hpre
        go_wp2
        go_ret
        exact ⟨ret_bool HK.out.symm, hw.alloc hw.size _⟩
      by_cases o6 : t.s < 1000
      rotate_left
      · have HK : Hid (ofs ((a' : Int) - 1) ((b' : Int) - 1) s ⟨a', b', cs⟩ = false) := ofs_novld (vld_bad s k hkc t ht (by rw [Bool.eq_false_iff]; intro h; have := okt_iff.1 h; omega))
        clear ht hkc hpre
        go_wp2
        go_ret
        exact ⟨ret_bool HK.out.symm, hw.alloc hw.size _⟩
      by_cases o7 : t.w < 1000
      rotate_left
      · have HK : Hid (ofs ((a' : Int) - 1) ((b' : Int) - 1) s ⟨a', b', cs⟩ = false) := ofs_novld (vld_bad s k hkc t ht (by rw [Bool.eq_false_iff]; intro h; have := okt_iff.1 h; omega))
        clear ht hkc hpre
        go_wp2
        go_ret
        exact ⟨ret_bool HK.out.symm, hw.alloc hw.size _⟩
      have hok : okt t = true := okt_iff.2 (by omega)
      have HOK := Lib.hid hok
      clear hok
      have HT := Lib.hid ht
      clear ht
      go_wp2
      clear o0 o1 o2 o3 o4 o5 o6 o7 d0 d1 d2 d3
      obtain ⟨W2, hW2⟩ : ∃ W2, W2 = wo.alloc (.cells #[.int .i64 t.n, .int .i64 t.e, .int .i64 t.s, .int .i64 t.w] 42) := ⟨_, rfl⟩
      have hz2 : W2.heap.size = wo.heap.size + 1 := by rw [hW2]; simp
      have t0 : W2.cell? ⟨wo.heap.size, 0, none⟩ = some (.int .i64 t.n) := by rw [hW2]; simp
      have t1 : W2.cell? ⟨wo.heap.size, 1, none⟩ = some (.int .i64 t.e) := by rw [hW2]; simp
      have t2 : W2.cell? ⟨wo.heap.size, 2, none⟩ = some (.int .i64 t.s) := by rw [hW2]; simp
      have t3 : W2.cell? ⟨wo.heap.size, 3, none⟩ = some (.int .i64 t.w) := by rw [hW2]; simp
      have hb2 : Below wo.heap.size wo W2 := by rw [hW2]; exact (Below.refl _ _).alloc (Nat.le_refl _) _
      rw [← hW2]
      clear hW2
      have HZ2 := Lib.hid hz2
      have HT0 := Lib.hid t0
      have HT1 := Lib.hid t1
      have HT2 := Lib.hid t2
      have HT3 := Lib.hid t3
      clear hz2 t0 t1 t2 t3
      have hb2' : Below W1.heap.size W1 W2 := hbw.trans (hb2.mono hbw.size)
      go_loopw [9] (fun i wr => ∃ j : Nat, j ≤ k ∧ i = .int .i64 j ∧ Hid (noneIs s t j) ∧ Below W2.heap.size W2 wr) (fun i _ => k - (intOf i).toNat)
      case atStart => exact ⟨0, Nat.zero_le _, rfl, fun i hi => absurd hi (by omega), Below.refl _ _⟩
      case round =>
        obtain ⟨j, hj, rfl, hno, hbj⟩ := hrel
        obtain ⟨wi, rfl⟩ : ∃ wi : World, wi = wr := ⟨_, rfl⟩
        by_cases hlj : j < k
        · have hjs : j < s.length := by omega
          have hjm : j < m := by omega
          have hwi : Below w.heap.size w wi := hw.trans ((hb2.mono hw.size).trans (hbj.mono (Nat.le_trans hw.size hb2.size)))
          obtain ⟨u, hu⟩ : ∃ u, u = s.getD j ⟨0, 0, 0, 0⟩ := ⟨_, rfl⟩
          obtain ⟨x0, x1, x2, x3⟩ := HC.out j hjs
          rw [← hu] at x0 x1 x2 x3
          have d0 := ext_cell ((hwi.cell (p := ⟨sb, so + j * 4, none⟩) hsb).trans x0)
          have d1 := ext_cell ((hwi.cell (p := ⟨sb, so + j * 4 + 1, none⟩) hsb).trans x1)
          have d2 := ext_cell ((hwi.cell (p := ⟨sb, so + j * 4 + 2, none⟩) hsb).trans x2)
          have d3 := ext_cell ((hwi.cell (p := ⟨sb, so + j * 4 + 3, none⟩) hsb).trans x3)
          have g0 := ext_cell ((hbj.cell (p := ⟨wo.heap.size, 0, none⟩) (by show wo.heap.size < _; rw [HZ2.out]; omega)).trans HT0.out)
          have g1 := ext_cell ((hbj.cell (p := ⟨wo.heap.size, 1, none⟩) (by show wo.heap.size < _; rw [HZ2.out]; omega)).trans HT1.out)
          have g2 := ext_cell ((hbj.cell (p := ⟨wo.heap.size, 2, none⟩) (by show wo.heap.size < _; rw [HZ2.out]; omega)).trans HT2.out)
          have g3 := ext_cell ((hbj.cell (p := ⟨wo.heap.size, 3, none⟩) (by show wo.heap.size < _; rw [HZ2.out]; omega)).trans HT3.out)
          clear x0 x1 x2 x3
          by_cases hut : u = t
          · have heq := fun (W : World) => tile_eql u t W true (decide_eq_true hut)
            have HK : Hid (ofs ((a' : Int) - 1) ((b' : Int) - 1) s ⟨a', b', cs⟩ = false) := ofs_novld (vld_twice s k hkc t HT.out (mem_take_of hlj (by omega) (by rw [← hu]; exact hut)))
            clear hu hut hno hjs hkc
            go_wp2
            refine wp_region_ext (by kernel_rfl) (by kernel_rfl) ?_
            repeat (go_big_quiet_step (fail))
            refine wpQuiet_nil ?_
            intro _ hw'
            obtain ⟨xq, rfl⟩ := hw'
            obtain ⟨W4, hbW4, heW4⟩ : ∃ W4, Below wi.heap.size wi W4 ∧ ext wi xq = W4 := ⟨_, ext_below _, rfl⟩
            rw [heW4]
            clear heW4 xq heq d0 d1 d2 d3 g0 g1 g2 g3
            have hb4 : Below W2.heap.size W2 W4 := hbj.trans (hbW4.mono hbj.size)
            go_wp2
            go_ret
            exact ⟨ret_bool HK.out.symm, hwi.trans (hbW4.mono hwi.size)⟩
          · have heq := fun (W : World) => tile_eql u t W false (decide_eq_false hut)
            have HK : Hid (noneIs s t (j + 1)) := noneIs_succ hno.out (by rw [← hu]; exact hut)
            clear hu hut hno hjs hkc
            go_wp2
            refine wp_region_ext (by kernel_rfl) (by kernel_rfl) ?_
            repeat (go_big_quiet_step (fail))
            refine wpQuiet_nil ?_
            intro _ hw'
            obtain ⟨xq, rfl⟩ := hw'
            obtain ⟨W4, hbW4, heW4⟩ : ∃ W4, Below wi.heap.size wi W4 ∧ ext wi xq = W4 := ⟨_, ext_below _, rfl⟩
            rw [heW4]
            clear heW4 xq heq d0 d1 d2 d3 g0 g1 g2 g3
            have hb4 : Below W2.heap.size W2 W4 := hbj.trans (hbW4.mono hbj.size)
            go_wp2
            go_roundw
            case rel => exact ⟨j + 1, by omega, by go_num, HK, hb4⟩
            case measure => simp [intOf]; omega
        · have HPK : Hid (preOk s (k + 1)) := preOk_succ s k hkc t HT.out hpre.out HOK.out (noneIs_take (by have h := hno.out; have e : j = k := (by omega); rw [e] at h; exact h))
          have hb4 : Below W1.heap.size W1 wi := hb2'.trans (hbj.mono hb2'.size)
          clear hno hpre hkc
          go_wp2
          go_roundw
          case rel => exact ⟨k + 1, by omega, by go_num, HPK, hb4⟩
          case measure => simp [intOf]; omega
    · have HV : Hid (vld s = true) := vld_all s k (by rw [← HM.out]; omega) hpre.out
      clear hpre
      have HRZ : Hid (refK m cs 0) := by show _ = _; simp
      go_wp2
      go_loopw [10] (fun i wr => ∃ j : Nat, j ≤ n ∧ i = .int .i64 j ∧ Hid (refK m cs j) ∧ Below W1.heap.size W1 wr) (fun i _ => n - (intOf i).toNat)
      case atStart => exact ⟨0, Nat.zero_le _, rfl, HRZ, hbw⟩
      case round =>
        clear HRZ hbw hw
        obtain ⟨j, hj, rfl, hrf, hbj⟩ := hrel
        obtain ⟨wi, rfl⟩ : ∃ wi : World, wi = wr := ⟨_, rfl⟩
        have hwi : Below w.heap.size w wi := hb1.trans (hbj.mono (by rw [HZ.out]; omega))
        have q0 := (hbj.cell (p := ⟨w.heap.size, 0, none⟩) (by show w.heap.size < _; rw [HZ.out]; omega)).trans HP0'.out
        have q1 := (hbj.cell (p := ⟨w.heap.size, 1, none⟩) (by show w.heap.size < _; rw [HZ.out]; omega)).trans HP1.out
        have q2 := (hbj.cell (p := ⟨w.heap.size, 2, none⟩) (by show w.heap.size < _; rw [HZ.out]; omega)).trans HP2.out
        by_cases hlj : j < n
        · have hjc : j < cs.length := by rw [← HN.out]; exact hlj
          obtain ⟨bk, off, rfl, hbk, hc⟩ := HPI.out (ne_nil_of_lt hjc)
          obtain ⟨v, hv⟩ : ∃ v, v = cs.getD j 0 := ⟨_, rfl⟩
          have x0 := hc j hjc
          rw [← hv] at x0
          have d0 := (hwi.cell (p := ⟨bk, off + j, none⟩) hbk).trans x0
          clear x0 hc
          by_cases i0 : 0 ≤ v
          rotate_left
          · have HK : Hid (ofs ((a' : Int) - 1) ((b' : Int) - 1) s ⟨a', b', cs⟩ = false) := ofs_norefers (by rw [← refers_is, ← HM.out]; exact all_bad _ _ j hjc 0 (by rw [← hv]; simp [isIdx]; omega))
            clear hv hrf hjc
            go_wp2
            go_ret
            exact ⟨ret_bool HK.out.symm, hwi⟩
          by_cases i1 : v < (m : Int)
          rotate_left
          · have HK : Hid (ofs ((a' : Int) - 1) ((b' : Int) - 1) s ⟨a', b', cs⟩ = false) := ofs_norefers (by rw [← refers_is, ← HM.out]; exact all_bad _ _ j hjc 0 (by rw [← hv]; simp [isIdx]; omega))
            clear hv hrf hjc
            go_wp2
            go_ret
            exact ⟨ret_bool HK.out.symm, hwi⟩
          have HK : Hid (refK m cs (j + 1)) := all_take _ _ j hjc 0 hrf.out (by rw [← hv]; simp [isIdx, i0, i1])
          clear hv hrf hjc
          go_wp2
          go_roundw
          case rel => exact ⟨j + 1, by omega, by go_num, HK, hbj⟩
          case measure => simp [intOf]; omega
        · have HR : Hid (refers s ⟨a', b', cs⟩ = true) := by
            have h : (cs.take j).all (isIdx m) = true := hrf.out
            rw [List.take_of_length_le (by rw [← HN.out]; omega), HM.out] at h
            exact h
          clear hrf
          go_wp2
          clear q0 q1 q2
          go_loopw [11] (fun i wr => ∃ y : Nat, y ≤ b' ∧ i = .int .i64 y ∧ Hid (rowsOk s ⟨a', b', cs⟩ ((a' : Int) - 1) ((b' : Int) - 1) y) ∧ Below W1.heap.size W1 wr) (fun i _ => b' - (intOf i).toNat)
          case atStart => exact ⟨0, Nat.zero_le _, rfl, fun y' h => absurd h (by omega), hbj⟩
          case round =>
            clear hbj hwi
            obtain ⟨y, hy, rfl, hrows, hby⟩ := hrel
            obtain ⟨wy, rfl⟩ : ∃ wy : World, wy = wr := ⟨_, rfl⟩
            have hwy : Below w.heap.size w wy := hb1.trans (hby.mono (by rw [HZ.out]; omega))
            have q1 := (hby.cell (p := ⟨w.heap.size, 1, none⟩) (by show w.heap.size < _; rw [HZ.out]; omega)).trans HP1.out
            by_cases hlt : y < b'
            · go_wp2
              clear q1
              go_loopw [12] (fun i wr => ∃ x : Nat, x ≤ a' ∧ i = .int .i64 x ∧ Hid (rowOk s ⟨a', b', cs⟩ ((a' : Int) - 1) ((b' : Int) - 1) y x) ∧ Below W1.heap.size W1 wr) (fun i _ => a' - (intOf i).toNat)
              case atStart => exact ⟨0, Nat.zero_le _, rfl, fun x' h => absurd h (by omega), hby⟩
              case round =>
                clear hby hwy
                obtain ⟨x, hx, rfl, hrow, hbx⟩ := hrel
                obtain ⟨wi, rfl⟩ : ∃ wi : World, wi = wr := ⟨_, rfl⟩
                have hwi : Below w.heap.size w wi := hb1.trans (hbx.mono (by rw [HZ.out]; omega))
                have q0 := (hbx.cell (p := ⟨w.heap.size, 0, none⟩) (by show w.heap.size < _; rw [HZ.out]; omega)).trans HP0'.out
                by_cases hltx : x < a'
                · have q1 := (hbx.cell (p := ⟨w.heap.size, 1, none⟩) (by show w.heap.size < _; rw [HZ.out]; omega)).trans HP1.out
                  have q2 := (hbx.cell (p := ⟨w.heap.size, 2, none⟩) (by show w.heap.size < _; rw [HZ.out]; omega)).trans HP2.out
                
                  obtain ⟨v0, hv0⟩ : ∃ v, v = cel ⟨a', b', cs⟩ x y := ⟨_, rfl⟩
                  obtain ⟨v1, hv1⟩ : ∃ v, v = cel ⟨a', b', cs⟩ ((x + 1) % a') y := ⟨_, rfl⟩
                  obtain ⟨v2, hv2⟩ : ∃ v, v = cel ⟨a', b', cs⟩ x ((y + 1) % b') := ⟨_, rfl⟩
                  have HIN : Hid (∀ x y : Nat, x < a' → y < b' → 0 ≤ cel ⟨a', b', cs⟩ x y ∧ cel ⟨a', b', cs⟩ x y < m) := fun x y hx hy => by have h := refers_cel HF.out HR.out x y (by simpa using hx) (by simpa using hy); rw [← HM.out] at h; exact h
                  have hxm := Nat.mod_lt (x + 1) (show 0 < a' by omega)
                  have hym := Nat.mod_lt (y + 1) (show 0 < b' by omega)
                  obtain ⟨l0, g0⟩ : 0 ≤ v0 ∧ v0 < (m : Int) := by rw [hv0]; exact HIN.out x y hltx hlt
                  obtain ⟨l1, g1⟩ : 0 ≤ v1 ∧ v1 < (m : Int) := by rw [hv1]; exact HIN.out _ y hxm hlt
                  obtain ⟨l2, g2⟩ : 0 ≤ v2 ∧ v2 < (m : Int) := by rw [hv2]; exact HIN.out x _ hltx hym
                  obtain ⟨sb, so, rfl, hsb, hst⟩ := tl_cell HS.out (v := v0) l0 (by rw [← HM.out]; exact g0)
                  obtain ⟨s0, s1, s2, s3⟩ := hst v0 l0 (by rw [← HM.out]; exact g0)
                  obtain ⟨-, -, -, z1⟩ := hst v1 l1 (by rw [← HM.out]; exact g1)
                  obtain ⟨-, -, z2, -⟩ := hst v2 l2 (by rw [← HM.out]; exact g2)
                  have hcl : cs.length = a' * b' := by have h := form_iff.1 HF.out; have h4 : (cs.length : Int) = a' * b' := h.2.2.2; rw [← Int.natCast_mul] at h4; omega
                  have hnl' : n = a' * b' := by rw [HN.out]; exact hcl
                  have i0 := idx_lt hltx hlt
                  have i1 := idx_lt hxm hlt
                  have i2 := idx_lt hltx hym
                  obtain ⟨bk, off, rfl, hbk, hcc⟩ := HPI.out (ne_nil_of_lt (k := 0) (by omega))
                  have w0 := (hwi.cell (p := ⟨bk, off + (y * a' + x), none⟩) hbk).trans (hcc _ (by omega))
                  have w1 := (hwi.cell (p := ⟨bk, off + (y * a' + (x + 1) % a'), none⟩) hbk).trans (hcc _ (by omega))
                  have w2 := (hwi.cell (p := ⟨bk, off + ((y + 1) % b' * a' + x), none⟩) hbk).trans (hcc _ (by omega))
                  have r0 : cs.getD (y * a' + x) 0 = v0 := by rw [hv0]; rfl
                  have r1 : cs.getD (y * a' + (x + 1) % a') 0 = v1 := by rw [hv1]; rfl
                  have r2 : cs.getD ((y + 1) % b' * a' + x) 0 = v2 := by rw [hv2]; rfl
                  rw [r0] at w0
                  rw [r1] at w1
                  rw [r2] at w2
                  clear r0 r1 r2 hcc hst
                  obtain ⟨n0, hn0⟩ : ∃ q, q = (tl s v0).n := ⟨_, rfl⟩
                  obtain ⟨e0, he0⟩ : ∃ q, q = (tl s v0).e := ⟨_, rfl⟩
                  obtain ⟨u0, hu0⟩ : ∃ q, q = (tl s v0).s := ⟨_, rfl⟩
                  obtain ⟨r0, hr0⟩ : ∃ q, q = (tl s v0).w := ⟨_, rfl⟩
                  obtain ⟨r1, hr1⟩ : ∃ q, q = (tl s v1).w := ⟨_, rfl⟩
                  obtain ⟨u2, hu2⟩ : ∃ q, q = (tl s v2).s := ⟨_, rfl⟩
                  have HAG : Hid (agrAt s ⟨a', b', cs⟩ ((a' : Int) - 1) ((b' : Int) - 1) x y ↔ ((x : Int) < ((a' : Int) - 1) → e0 = r1) ∧ ((y : Int) < ((b' : Int) - 1) → n0 = u2)) := by
                    show _ ↔ _
                    unfold agrAt
                    rw [Int.toNat_natCast, Int.toNat_natCast, ← hv0, ← hv1, ← hv2, ← he0, ← hr1, ← hn0, ← hu2]
                  have HOK : Hid (((x : Int) < ((a' : Int) - 1) → e0 = r1) → ((y : Int) < ((b' : Int) - 1) → n0 = u2) → rowOk s ⟨a', b', cs⟩ ((a' : Int) - 1) ((b' : Int) - 1) y (x + 1)) := fun g1 g2 => rowOk_succ hrow.out (HAG.out.2 ⟨g1, g2⟩)
                  have HBAD : Hid (¬ (((x : Int) < ((a' : Int) - 1) → e0 = r1) ∧ ((y : Int) < ((b' : Int) - 1) → n0 = u2)) → ofs ((a' : Int) - 1) ((b' : Int) - 1) s ⟨a', b', cs⟩ = false) := fun g => ofs_noagrs (agrs_bad x y (by simpa using hltx) (by simpa using hlt) (fun h => g (HAG.out.1 h)))
                  rw [← hn0] at s0
                  rw [← he0] at s1
                  rw [← hu0] at s2
                  rw [← hr0] at s3
                  rw [← hr1] at z1
                  rw [← hu2] at z2
                  clear hn0 he0 hu0 hr0 hr1 hu2 hv0 hv1 hv2 HAG HIN
                  have t0 := (hwi.cell (p := ⟨sb, so + v0.toNat * 4, none⟩) hsb).trans s0
                  have t1 := (hwi.cell (p := ⟨sb, so + v0.toNat * 4 + 1, none⟩) hsb).trans s1
                  have t2 := (hwi.cell (p := ⟨sb, so + v0.toNat * 4 + 2, none⟩) hsb).trans s2
                  have t3 := (hwi.cell (p := ⟨sb, so + v0.toNat * 4 + 3, none⟩) hsb).trans s3
                  have y1 := (hwi.cell (p := ⟨sb, so + v1.toNat * 4 + 3, none⟩) hsb).trans z1
                  have y2 := (hwi.cell (p := ⟨sb, so + v2.toNat * 4 + 2, none⟩) hsb).trans z2
                  clear s0 s1 s2 s3 z1 z2 hrow
                  have hsz := hbx.size
                  have hws : w.heap.size < wi.heap.size := by rw [HZ.out] at hsz; omega
                  have hsw : sb < wi.heap.size := by omega
                  have hbw2 : bk < wi.heap.size := by omega
                  have b1 : (0 : Int) ≤ (y : Int) * a' := by rw [← Int.natCast_mul]; omega
                  have b2 : (y : Int) * a' + x < n := by rw [← Int.natCast_mul]; omega
                  have b3 : (0 : Int) ≤ ((x : Int) + 1) % a' := Int.emod_nonneg _ (by omega)
                  have b4 : (y : Int) * a' + ((x : Int) + 1) % a' < n := by have e : ((x : Int) + 1) % a' = (((x + 1) % a' : Nat) : Int) := by rw [Int.natCast_emod]; rfl
                                                                            rw [e, ← Int.natCast_mul]; omega
                  have b5 : (0 : Int) ≤ ((y : Int) + 1) % b' := Int.emod_nonneg _ (by omega)
                  have e5 : ((y : Int) + 1) % b' = (((y + 1) % b' : Nat) : Int) := by rw [Int.natCast_emod]; rfl
                  have b6 : (0 : Int) ≤ ((y : Int) + 1) % b' * a' := by rw [e5, ← Int.natCast_mul]; omega
                  have b7 : ((y : Int) + 1) % b' * a' + x < n := by rw [e5, ← Int.natCast_mul]; omega
                  have b8 : ((y : Int) + 1) % b' < b' := by rw [e5]; omega
                  have b9 : ((x : Int) + 1) % a' < a' := Int.emod_lt_of_pos _ (by omega)
                  clear e5 hcl hnl' i0 i1 i2
                  go_wp2
                  
                  obtain ⟨W3, hW3⟩ : ∃ W3, W3 = wi.alloc (.cells #[.int .i64 n0, .int .i64 e0, .int .i64 u0, .int .i64 r0] 42) := ⟨_, rfl⟩
                  have hz3 : W3.heap.size = wi.heap.size + 1 := by rw [hW3]; simp
                  have m0 : W3.cell? ⟨wi.heap.size, 0, none⟩ = some (.int .i64 n0) := by rw [hW3]; simp
                  have m1 : W3.cell? ⟨wi.heap.size, 1, none⟩ = some (.int .i64 e0) := by rw [hW3]; simp
                  have hb3 : Below wi.heap.size wi W3 := by rw [hW3]; exact (Below.refl _ _).alloc (Nat.le_refl _) _
                  rw [← hW3]
                  clear hW3 t0 t1 t2 t3 w0 l0 g0
                  replace q0 := (hb3.cell (p := ⟨w.heap.size, 0, none⟩) hws).trans q0
                  replace q1 := (hb3.cell (p := ⟨w.heap.size, 1, none⟩) hws).trans q1
                  replace q2 := (hb3.cell (p := ⟨w.heap.size, 2, none⟩) hws).trans q2
                  replace y1 := (hb3.cell (p := ⟨sb, so + v1.toNat * 4 + 3, none⟩) hsw).trans y1
                  replace y2 := (hb3.cell (p := ⟨sb, so + v2.toNat * 4 + 2, none⟩) hsw).trans y2
                  replace w1 := (hb3.cell (p := ⟨bk, off + (y * a' + (x + 1) % a'), none⟩) hbw2).trans w1
                  replace w2 := (hb3.cell (p := ⟨bk, off + ((y + 1) % b' * a' + x), none⟩) hbw2).trans w2
                  have hr3 : Below W1.heap.size W1 W3 := hbx.trans (hb3.mono hbx.size)
                  have hsw3 : sb < W3.heap.size := by omega
                  have hbw3 : bk < W3.heap.size := by omega
                  have hws3 : w.heap.size < W3.heap.size := by omega
                  have hg3 : wi.heap.size < W3.heap.size := by omega
                  clear hz3 hsz
                  by_cases h1 : (x : Int) + 1 < a'
                  · have d1 : decide ((x : Int) + 1 < a') = true := decide_eq_true h1
                    by_cases kk : e0 = r1
                    · have j1 : (e0 == r1) = true := by simpa using kk
                      have j2 : (e0 != r1) = false := by simpa using kk
                      have HG1 : Hid ((x : Int) < ((a' : Int) - 1) → e0 = r1) := fun _ => kk
                      clear kk
                      have f0 := ext_cell m1
                      have f1 := ext_cell q0
                      have f2 := ext_cell q2
                      have f3 := ext_cell y1
                      have f4 := ext_cell w1
                      refine wp_region_ext (by kernel_rfl) (by kernel_rfl) ?_
                      repeat (go_big_quiet_step (fail))
                      refine wpQuiet_nil ?_
                      intro _ hw'
                      obtain ⟨xq, rfl⟩ := hw'
                      obtain ⟨W5, hbW5, heW5⟩ : ∃ W5, Below W3.heap.size W3 W5 ∧ ext W3 xq = W5 := ⟨_, ext_below _, rfl⟩
                      rw [heW5]
                      clear heW5 xq f0 f1 f2 f3 f4
                      clear j1 j2
                      have hr5 : Below W1.heap.size W1 W5 := hr3.trans (hbW5.mono hr3.size)
                      replace m0 := (hbW5.cell (p := ⟨wi.heap.size, 0, none⟩) hg3).trans m0
                      replace q0 := (hbW5.cell (p := ⟨w.heap.size, 0, none⟩) hws3).trans q0
                      replace q1 := (hbW5.cell (p := ⟨w.heap.size, 1, none⟩) hws3).trans q1
                      replace q2 := (hbW5.cell (p := ⟨w.heap.size, 2, none⟩) hws3).trans q2
                      replace y2 := (hbW5.cell (p := ⟨sb, so + v2.toNat * 4 + 2, none⟩) hsw3).trans y2
                      replace w2 := (hbW5.cell (p := ⟨bk, off + ((y + 1) % b' * a' + x), none⟩) hbw3).trans w2
                      clear m1 y1 w1
                      go_wp2
                      by_cases h2 : (y : Int) + 1 < b'
                      · have d2 : decide ((y : Int) + 1 < b') = true := decide_eq_true h2
                        by_cases kk : n0 = u2
                        · have j1 : (n0 == u2) = true := by simpa using kk
                          have j2 : (n0 != u2) = false := by simpa using kk
                          have HK : Hid (rowOk s ⟨a', b', cs⟩ ((a' : Int) - 1) ((b' : Int) - 1) y (x + 1)) := HOK.out HG1.out (fun _ => kk)
                          clear kk
                          have f0 := ext_cell m0
                          have f1 := ext_cell q0
                          have f2 := ext_cell q1
                          have f3 := ext_cell q2
                          have f4 := ext_cell y2
                          have f5 := ext_cell w2
                          refine wp_region_ext (by kernel_rfl) (by kernel_rfl) ?_
                          repeat (go_big_quiet_step (fail))
                          refine wpQuiet_nil ?_
                          intro _ hw'
                          obtain ⟨xq, rfl⟩ := hw'
                          obtain ⟨W6, hbW6, heW6⟩ : ∃ W6, Below W5.heap.size W5 W6 ∧ ext W5 xq = W6 := ⟨_, ext_below _, rfl⟩
                          rw [heW6]
                          clear heW6 xq f0 f1 f2 f3 f4 f5
                          have hr6 : Below W1.heap.size W1 W6 := hr5.trans (hbW6.mono hr5.size)
                          go_wp2
                          go_roundw
                          case rel => exact ⟨x + 1, by omega, by go_num, HK, hr6⟩
                          case measure => simp [intOf]; omega
                        · have j1 : (n0 == u2) = false := by simpa using kk
                          have j2 : (n0 != u2) = true := by simpa using kk
                          have HK : Hid (ofs ((a' : Int) - 1) ((b' : Int) - 1) s ⟨a', b', cs⟩ = false) := HBAD.out (fun g => kk (g.2 (by omega)))
                          clear kk
                          have f0 := ext_cell m0
                          have f1 := ext_cell q0
                          have f2 := ext_cell q1
                          have f3 := ext_cell q2
                          have f4 := ext_cell y2
                          have f5 := ext_cell w2
                          refine wp_region_ext (by kernel_rfl) (by kernel_rfl) ?_
                          repeat (go_big_quiet_step (fail))
                          refine wpQuiet_nil ?_
                          intro _ hw'
                          obtain ⟨xq, rfl⟩ := hw'
                          obtain ⟨W6, hbW6, heW6⟩ : ∃ W6, Below W5.heap.size W5 W6 ∧ ext W5 xq = W6 := ⟨_, ext_below _, rfl⟩
                          rw [heW6]
                          clear heW6 xq f0 f1 f2 f3 f4 f5
                          have hr6 : Below W1.heap.size W1 W6 := hr5.trans (hbW6.mono hr5.size)
                          go_wp2
                          go_ret
                          exact ⟨ret_bool HK.out.symm, hb1.trans (hr6.mono (by rw [HZ.out]; omega))⟩
                      · have d2 : decide ((y : Int) + 1 < b') = false := decide_eq_false h2
                        have HK : Hid (rowOk s ⟨a', b', cs⟩ ((a' : Int) - 1) ((b' : Int) - 1) y (x + 1)) := HOK.out HG1.out (fun h => absurd h (by omega))
                        have f0 := ext_cell q1
                        refine wp_region_ext (by kernel_rfl) (by kernel_rfl) ?_
                        repeat (go_big_quiet_step (fail))
                        refine wpQuiet_nil ?_
                        intro _ hw'
                        obtain ⟨xq, rfl⟩ := hw'
                        obtain ⟨W6, hbW6, heW6⟩ : ∃ W6, Below W5.heap.size W5 W6 ∧ ext W5 xq = W6 := ⟨_, ext_below _, rfl⟩
                        rw [heW6]
                        clear heW6 xq f0
                        have hr6 : Below W1.heap.size W1 W6 := hr5.trans (hbW6.mono hr5.size)
                        go_wp2
                        go_roundw
                        case rel => exact ⟨x + 1, by omega, by go_num, HK, hr6⟩
                        case measure => simp [intOf]; omega
                    · have j1 : (e0 == r1) = false := by simpa using kk
                      have j2 : (e0 != r1) = true := by simpa using kk
                      have HK : Hid (ofs ((a' : Int) - 1) ((b' : Int) - 1) s ⟨a', b', cs⟩ = false) := HBAD.out (fun g => kk (g.1 (by omega)))
                      clear kk HBAD HOK
                      have f0 := ext_cell m1
                      have f1 := ext_cell q0
                      have f2 := ext_cell q2
                      have f3 := ext_cell y1
                      have f4 := ext_cell w1
                      refine wp_region_ext (by kernel_rfl) (by kernel_rfl) ?_
                      repeat (go_big_quiet_step (fail))
                      refine wpQuiet_nil ?_
                      intro _ hw'
                      obtain ⟨xq, rfl⟩ := hw'
                      obtain ⟨W5, hbW5, heW5⟩ : ∃ W5, Below W3.heap.size W3 W5 ∧ ext W3 xq = W5 := ⟨_, ext_below _, rfl⟩
                      rw [heW5]
                      clear heW5 xq f0 f1 f2 f3 f4
                      have hr5 : Below W1.heap.size W1 W5 := hr3.trans (hbW5.mono hr3.size)
                      go_wp2
                      go_ret
                      exact ⟨ret_bool HK.out.symm, hb1.trans (hr5.mono (by rw [HZ.out]; omega))⟩
                  · have d1 : decide ((x : Int) + 1 < a') = false := decide_eq_false h1
                    have HG1 : Hid ((x : Int) < ((a' : Int) - 1) → e0 = r1) := fun h => absurd h (by omega)
                    have f0 := ext_cell q0
                    refine wp_region_ext (by kernel_rfl) (by kernel_rfl) ?_
                    repeat (go_big_quiet_step (fail))
                    refine wpQuiet_nil ?_
                    intro _ hw'
                    obtain ⟨xq, rfl⟩ := hw'
                    obtain ⟨W5, hbW5, heW5⟩ : ∃ W5, Below W3.heap.size W3 W5 ∧ ext W3 xq = W5 := ⟨_, ext_below _, rfl⟩
                    rw [heW5]
                    clear heW5 xq f0
                    have hr5 : Below W1.heap.size W1 W5 := hr3.trans (hbW5.mono hr3.size)
                    replace m0 := (hbW5.cell (p := ⟨wi.heap.size, 0, none⟩) hg3).trans m0
                    replace q0 := (hbW5.cell (p := ⟨w.heap.size, 0, none⟩) hws3).trans q0
                    replace q1 := (hbW5.cell (p := ⟨w.heap.size, 1, none⟩) hws3).trans q1
                    replace q2 := (hbW5.cell (p := ⟨w.heap.size, 2, none⟩) hws3).trans q2
                    replace y2 := (hbW5.cell (p := ⟨sb, so + v2.toNat * 4 + 2, none⟩) hsw3).trans y2
                    replace w2 := (hbW5.cell (p := ⟨bk, off + ((y + 1) % b' * a' + x), none⟩) hbw3).trans w2
                    clear m1 y1 w1
                    go_wp2
                    by_cases h2 : (y : Int) + 1 < b'
                    · have d2 : decide ((y : Int) + 1 < b') = true := decide_eq_true h2
                      by_cases kk : n0 = u2
                      · have j1 : (n0 == u2) = true := by simpa using kk
                        have j2 : (n0 != u2) = false := by simpa using kk
                        have HK : Hid (rowOk s ⟨a', b', cs⟩ ((a' : Int) - 1) ((b' : Int) - 1) y (x + 1)) := HOK.out HG1.out (fun _ => kk)
                        clear kk
                        have f0 := ext_cell m0
                        have f1 := ext_cell q0
                        have f2 := ext_cell q1
                        have f3 := ext_cell q2
                        have f4 := ext_cell y2
                        have f5 := ext_cell w2
                        refine wp_region_ext (by kernel_rfl) (by kernel_rfl) ?_
                        repeat (go_big_quiet_step (fail))
                        refine wpQuiet_nil ?_
                        intro _ hw'
                        obtain ⟨xq, rfl⟩ := hw'
                        obtain ⟨W6, hbW6, heW6⟩ : ∃ W6, Below W5.heap.size W5 W6 ∧ ext W5 xq = W6 := ⟨_, ext_below _, rfl⟩
                        rw [heW6]
                        clear heW6 xq f0 f1 f2 f3 f4 f5
                        have hr6 : Below W1.heap.size W1 W6 := hr5.trans (hbW6.mono hr5.size)
                        go_wp2
                        go_roundw
                        case rel => exact ⟨x + 1, by omega, by go_num, HK, hr6⟩
                        case measure => simp [intOf]; omega
                      · have j1 : (n0 == u2) = false := by simpa using kk
                        have j2 : (n0 != u2) = true := by simpa using kk
                        have HK : Hid (ofs ((a' : Int) - 1) ((b' : Int) - 1) s ⟨a', b', cs⟩ = false) := HBAD.out (fun g => kk (g.2 (by omega)))
                        clear kk
                        have f0 := ext_cell m0
                        have f1 := ext_cell q0
                        have f2 := ext_cell q1
                        have f3 := ext_cell q2
                        have f4 := ext_cell y2
                        have f5 := ext_cell w2
                        refine wp_region_ext (by kernel_rfl) (by kernel_rfl) ?_
                        repeat (go_big_quiet_step (fail))
                        refine wpQuiet_nil ?_
                        intro _ hw'
                        obtain ⟨xq, rfl⟩ := hw'
                        obtain ⟨W6, hbW6, heW6⟩ : ∃ W6, Below W5.heap.size W5 W6 ∧ ext W5 xq = W6 := ⟨_, ext_below _, rfl⟩
                        rw [heW6]
                        clear heW6 xq f0 f1 f2 f3 f4 f5
                        have hr6 : Below W1.heap.size W1 W6 := hr5.trans (hbW6.mono hr5.size)
                        go_wp2
                        go_ret
                        exact ⟨ret_bool HK.out.symm, hb1.trans (hr6.mono (by rw [HZ.out]; omega))⟩
                    · have d2 : decide ((y : Int) + 1 < b') = false := decide_eq_false h2
                      have HK : Hid (rowOk s ⟨a', b', cs⟩ ((a' : Int) - 1) ((b' : Int) - 1) y (x + 1)) := HOK.out HG1.out (fun h => absurd h (by omega))
                      have f0 := ext_cell q1
                      refine wp_region_ext (by kernel_rfl) (by kernel_rfl) ?_
                      repeat (go_big_quiet_step (fail))
                      refine wpQuiet_nil ?_
                      intro _ hw'
                      obtain ⟨xq, rfl⟩ := hw'
                      obtain ⟨W6, hbW6, heW6⟩ : ∃ W6, Below W5.heap.size W5 W6 ∧ ext W5 xq = W6 := ⟨_, ext_below _, rfl⟩
                      rw [heW6]
                      clear heW6 xq f0
                      have hr6 : Below W1.heap.size W1 W6 := hr5.trans (hbW6.mono hr5.size)
                      go_wp2
                      go_roundw
                      case rel => exact ⟨x + 1, by omega, by go_num, HK, hr6⟩
                      case measure => simp [intOf]; omega
                · have HR2 : Hid (rowsOk s ⟨a', b', cs⟩ ((a' : Int) - 1) ((b' : Int) - 1) (y + 1)) := rowsOk_succ hrows.out (fun x' hx' => hrow.out x' (by simp at hx'; omega))
                  clear hrow hrows
                  go_wp2
                  go_roundw
                  case rel => exact ⟨y + 1, by omega, by go_num, HR2, hbx⟩
                  case measure => simp [intOf]; omega
            · have HK : Hid (ofs ((a' : Int) - 1) ((b' : Int) - 1) s ⟨a', b', cs⟩ = true) := by
                show _ = _
                unfold ofs
                rw [HV.out, HF.out, HR.out, agrs_iff.2 (fun y' hy' x hx => hrows.out y' (by simp at hy'; omega) x hx)]
                rfl
              clear hrows
              go_wp2
              go_ret
              exact ⟨ret_bool HK.out.symm, hwy⟩
end Go.Proofs.Ytnmigjohomdbnaa

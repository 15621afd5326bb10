/-
  groutworktop.TopPeriods returns true, for every set, pattern and size.
-/
import Derived.Test.YthdbailpdedlmaaM
import Derived.Test.YthdbailpdedlmaaIB
import Derived.Test.YthdbailpdedlmaaIC
namespace Go.Proofs.Ythdbailpdedlmaa
open Go.RowKit Go.Maps Go.BigFrame
set_option linter.unusedVariables false

theorem ofF (a b : Int) (cs : List Int) (s : List Tl) (f : Bool) (A S : Option Addr) (m n c d : Nat) (w : World) (hm : m = s.length) (hn : n = cs.length) (hf : fits s ⟨a, b, cs⟩ = f)
    (hS : SetIn w w.heap.size S s) (hP : IntsIn w w.heap.size A cs) (hwf : ∀ t ∈ s, twf t) (hml : m ≤ 9223372036854775807) (hnl : n ≤ 9223372036854775807) :
    Calls Try.prog 6 #[.slice S m d, .agg #[.int .i64 a, .int .i64 b, .slice A n c], .bool false] w fun e w' => e = .returned (.bool f) ∧ Below w.heap.size w w' := by
  rw [← hf]
  exact of_flat_any a b cs s A S m n c d w hm hn hS hP hwf hml hnl
theorem ofT (a b : Int) (cs : List Int) (s : List Tl) (f : Bool) (A S : Option Addr) (m n c d : Nat) (w : World) (hm : m = s.length) (hn : n = cs.length) (hf : reps s ⟨a, b, cs⟩ = f)
    (hS : SetIn w w.heap.size S s) (hP : IntsIn w w.heap.size A cs) (hwf : ∀ t ∈ s, twf t) (hml : m ≤ 9223372036854775807) (hnl : n ≤ 9223372036854775807) :
    Calls Try.prog 6 #[.slice S m d, .agg #[.int .i64 a, .int .i64 b, .slice A n c], .bool true] w fun e w' => e = .returned (.bool f) ∧ Below w.heap.size w w' := by
  rw [← hf]
  exact of_round_any a b cs s A S m n c d w hm hn hS hP hwf hml hnl
theorem fitsF (a b : Int) (cs : List Int) (s : List Tl) (f : Bool) (A S : Option Addr) (m n c d : Nat) (w : World) (hm : m = s.length) (hn : n = cs.length) (hf : fits s ⟨a, b, cs⟩ = f)
    (hS : SetIn w w.heap.size S s) (hP : IntsIn w w.heap.size A cs) (hwf : ∀ t ∈ s, twf t) (hml : m ≤ 9223372036854775807) (hnl : n ≤ 9223372036854775807) :
    Calls Try.prog 5 #[.slice S m d, .agg #[.int .i64 a, .int .i64 b, .slice A n c]] w fun e w' => e = .returned (.bool f) ∧ Below w.heap.size w w' := by
  rw [← hf]
  exact fits_any a b cs s A S m n c d w hm hn hS hP hwf hml hnl
theorem repsF (a b : Int) (cs : List Int) (s : List Tl) (f : Bool) (A S : Option Addr) (m n c d : Nat) (w : World) (hm : m = s.length) (hn : n = cs.length) (hf : reps s ⟨a, b, cs⟩ = f)
    (hS : SetIn w w.heap.size S s) (hP : IntsIn w w.heap.size A cs) (hwf : ∀ t ∈ s, twf t) (hml : m ≤ 9223372036854775807) (hnl : n ≤ 9223372036854775807) :
    Calls Try.prog 7 #[.slice S m d, .agg #[.int .i64 a, .int .i64 b, .slice A n c]] w fun e w' => e = .returned (.bool f) ∧ Below w.heap.size w w' := by
  rw [← hf]
  exact repeats_any a b cs s A S m n c d w hm hn hS hP hwf hml hnl
theorem cycle_ext {W : World} {x : Ext W} (i : Int) : Calls Try.prog 8 #[.int .i64 i, .int .i64 40] (ext W x) fun e w' => e = .returned (.int .i64 (cyc i)) ∧ Below (ext W x).heap.size (ext W x) w' :=
  (cycle_any i _).mono fun e w' ⟨he, hw⟩ => ⟨he, hw ▸ Below.refl _ _⟩

theorem reps_fits {s : List Tl} {p : Pt} (h : reps s p = true) : fits s p = true := by
  simp only [reps, Bool.and_eq_true] at h
  obtain ⟨h1, h2, h3, h4⟩ := h
  simp only [fits, Bool.and_eq_true]
  refine ⟨h1, h2, h3, agrs_iff.2 fun y hy x hx => ?_⟩
  have := agrs_iff.1 h4 y hy x hx
  exact ⟨fun hc => this.1 (by omega), fun hc => this.2 (by omega)⟩
theorem win_ok {s : List Tl} {p : Pt} (h : reps s p = true) (wd hg : Nat) (h1 : 1 ≤ wd) (h2 : 1 ≤ hg) (h3 : wd * hg ≤ 40000) (cs : List Int) (hc : cs = (win p 0 0 wd hg).c) : fits s ⟨wd, hg, cs⟩ = true := by
  rw [hc]
  exact win_fits s p 0 0 wd hg h1 h2 h3 h

set_option maxHeartbeats 4000000 in
theorem top_any (a b s0 s1 : Int) (cs : List Int) (s : List Tl) (A S : Option Addr) (m n c d : Nat) (w : World) (hm : m = s.length) (hn : n = cs.length)
    (hS : SetIn w w.heap.size S s) (hP : IntsIn w w.heap.size A cs) (hwf : ∀ t ∈ s, twf t) (hml : m ≤ 9223372036854775807) (hnl : n ≤ 9223372036854775807) :
    Calls Try.prog 3 #[.slice S m d, .agg #[.int .i64 a, .int .i64 b, .slice A n c], .agg #[.int .i64 s0, .int .i64 s1]] w fun e w' => e = .returned (.bool true) ∧ Below w.heap.size w w' := by
  have HM := Lib.hid hm
  have HN := Lib.hid hn
  have HW := Lib.hid hwf
  have hb2 : Below w.heap.size w ((w.alloc (.cells #[.int .i64 a, .int .i64 b, .slice A n c] 25)).alloc (.cells #[.int .i64 s0, .int .i64 s1] 26)) := ((Below.refl _ _).alloc (Nat.le_refl _) _).alloc (by simp) _
  by_cases c1 : n ≤ 5000
  rotate_left
  · clear hm hn hS hP hwf
    go_enter Try.func3, Try.ntmps3
    go_wp2_with (go_at_call 4; refine (lives_any _).mono ?_; rintro e wn ⟨rfl, hn⟩)
    go_ret
    exact ⟨rfl, hb2.trans (hn.mono hb2.size)⟩
  by_cases c2 : m ≤ 200
  rotate_left
  · clear hm hn hS hP hwf
    go_enter Try.func3, Try.ntmps3
    go_wp2_with (go_at_call 4; refine (lives_any _).mono ?_; rintro e wn ⟨rfl, hn⟩)
    go_ret
    exact ⟨rfl, hb2.trans (hn.mono hb2.size)⟩
  have HS := Lib.hid (hS.keep hb2 hb2.size)
  have HP := Lib.hid (hP.keep hb2 hb2.size)
  clear hm hn hS hP hwf
  obtain ⟨f, hf⟩ : ∃ f, fits s ⟨a, b, cs⟩ = f := ⟨_, rfl⟩
  obtain ⟨r, hr⟩ : ∃ r, reps s ⟨a, b, cs⟩ = r := ⟨_, rfl⟩
  have HF := Lib.hid hf
  have HR := Lib.hid hr
  clear hf hr
  have HB2 := Lib.hid hb2
  clear hb2
  have jf : (f != f) = false := by cases f <;> rfl
  have jr : (r != r) = false := by cases r <;> rfl
  cases r
  · cases f
    all_goals
      go_enter Try.func3, Try.ntmps3
      go_wp2
      obtain ⟨W1, hW1⟩ : ∃ W1, W1 = (w.alloc (.cells #[.int .i64 a, .int .i64 b, .slice A n c] 25)).alloc (.cells #[.int .i64 s0, .int .i64 s1] 26) := ⟨_, rfl⟩
      have q0 : W1.cell? ⟨w.heap.size, 0, none⟩ = some (.int .i64 a) := by rw [hW1]; simp [go_sem]
      have q1 : W1.cell? ⟨w.heap.size, 1, none⟩ = some (.int .i64 b) := by rw [hW1]; simp [go_sem]
      have q2 : W1.cell? ⟨w.heap.size, 2, none⟩ = some (.slice A n c) := by rw [hW1]; simp [go_sem]
      have hz1 : W1.heap.size = w.heap.size + 1 + 1 := by rw [hW1]; simp
      have hws : w.heap.size < W1.heap.size := by omega
      clear hz1
      rw [← hW1] at HS HP HB2 ⊢
      clear hW1
      have f0 := ext_cell q0
      have f1 := ext_cell q1
      have f2 := ext_cell q2
      refine wp_region_ext (by kernel_rfl) (by kernel_rfl) ?_
      repeat (go_big_quiet_step ((first | (go_at_call 5; exact ext_call (fitsF a b cs s _ A S m n c d _ HM.out HN.out HF.out (HS.out.keep (ext_below _) (ext_below _).size) (HP.out.keep (ext_below _) (ext_below _).size) HW.out hml hnl)) | (go_at_call_of 6 (Value.bool false); exact ext_call (ofF a b cs s _ A S m n c d _ HM.out HN.out HF.out (HS.out.keep (ext_below _) (ext_below _).size) (HP.out.keep (ext_below _) (ext_below _).size) HW.out hml hnl)) | (go_at_call 7; exact ext_call (repsF a b cs s _ A S m n c d _ HM.out HN.out HR.out (HS.out.keep (ext_below _) (ext_below _).size) (HP.out.keep (ext_below _) (ext_below _).size) HW.out hml hnl)) | (go_at_call_of 6 (Value.bool true); exact ext_call (ofT a b cs s _ A S m n c d _ HM.out HN.out HR.out (HS.out.keep (ext_below _) (ext_below _).size) (HP.out.keep (ext_below _) (ext_below _).size) HW.out hml hnl)))))
      refine wpQuiet_nil ?_
      intro _ hw'
      obtain ⟨xq, rfl⟩ := hw'
      obtain ⟨W4, hb4, heW4⟩ : ∃ W4, Below W1.heap.size W1 W4 ∧ ext W1 xq = W4 := ⟨_, ext_below _, rfl⟩
      rw [heW4]
      clear heW4 xq f0 f1 f2
      have r0 := (hb4.cell (p := ⟨w.heap.size, 0, none⟩) hws).trans q0
      have r1 := (hb4.cell (p := ⟨w.heap.size, 1, none⟩) hws).trans q1
      have r2 := (hb4.cell (p := ⟨w.heap.size, 2, none⟩) hws).trans q2
      clear q0 q1 q2
      go_wp2_with (first | (go_at_call 6; refine (ofT a b cs s _ A S m n c d _ HM.out HN.out HR.out (HS.out.keep hb4 hb4.size) (HP.out.keep hb4 hb4.size) HW.out hml hnl).mono ?_; rintro e w5 ⟨rfl, hb5⟩) | (go_at_call 4; refine (lives_any _).mono ?_; rintro e wn ⟨rfl, hn⟩))
      go_ret
      exact ⟨rfl, HB2.out.trans ((hb4.trans ((hb5.mono hb4.size).trans (hn.mono (Nat.le_trans hb4.size hb5.size)))).mono HB2.out.size)⟩
  · have hf : form ⟨a, b, cs⟩ = true := by
      have := HR.out
      simp only [reps, Bool.and_eq_true] at this
      exact this.2.1
    have hft := reps_fits HR.out
    have hff : f = true := by rw [← HF.out]; exact hft
    subst hff
    obtain ⟨a', b', e1, e2, h1, h2, h3, h4⟩ := form_nat hf
    have e1' : a = a' := e1
    have e2' : b = b' := e2
    subst e1'
    subst e2'
    have HFm := Lib.hid hf
    clear e1 e2 hf hft h4
    obtain ⟨l0, l1⟩ := cyc_lo s0
    obtain ⟨l2, l3⟩ := cyc_lo s1
    obtain ⟨wd, hwd⟩ := Int.eq_ofNat_of_zero_le (show 0 ≤ cyc s0 + 1 by omega)
    obtain ⟨hg, hhg⟩ := Int.eq_ofNat_of_zero_le (show 0 ≤ cyc s1 + 1 by omega)
    have g1 : 1 ≤ wd := by omega
    have g2 : 1 ≤ hg := by omega
    have g3 : wd ≤ 40 := by omega
    have g4 : hg ≤ 40 := by omega
    have g5 : wd * hg ≤ 40 * 40 := Nat.mul_le_mul g3 g4
    have g6 : wd * hg ≤ 40000 := by omega
    have HWD := Lib.hid hwd
    have HHG := Lib.hid hhg
    clear hwd hhg
    obtain ⟨ws, hws⟩ : ∃ ws, ws = (win ⟨a', b', cs⟩ 0 0 wd hg).c := ⟨_, rfl⟩
    have HWS := Lib.hid hws
    have HWL : Hid (wd * hg = ws.length) := by show _ = _; rw [hws]; simp [win]
    have HWF : Hid (fits s ⟨wd, hg, ws⟩ = true) := win_ok HR.out wd hg g1 g2 g6 ws hws
    clear hws
    go_enter Try.func3, Try.ntmps3
    go_wp2
    obtain ⟨W1, hW1⟩ : ∃ W1, W1 = (w.alloc (.cells #[.int .i64 (a' : Int), .int .i64 (b' : Int), .slice A n c] 25)).alloc (.cells #[.int .i64 s0, .int .i64 s1] 26) := ⟨_, rfl⟩
    have q0 : W1.cell? ⟨w.heap.size, 0, none⟩ = some (.int .i64 (a' : Int)) := by rw [hW1]; simp [go_sem]
    have q1 : W1.cell? ⟨w.heap.size, 1, none⟩ = some (.int .i64 (b' : Int)) := by rw [hW1]; simp [go_sem]
    have q2 : W1.cell? ⟨w.heap.size, 2, none⟩ = some (.slice A n c) := by rw [hW1]; simp [go_sem]
    have hz1 : W1.heap.size = w.heap.size + 1 + 1 := by rw [hW1]; simp
    have t0 : W1.cell? ⟨w.heap.size + 1, 0, none⟩ = some (.int .i64 s0) := by rw [hW1]; simp [go_sem]
    have t1 : W1.cell? ⟨w.heap.size + 1, 1, none⟩ = some (.int .i64 s1) := by rw [hW1]; simp [go_sem]
    have hws : w.heap.size < W1.heap.size := by omega
    have hws1 : w.heap.size + 1 < W1.heap.size := by omega
    clear hz1
    rw [← hW1] at HS HP HB2 ⊢
    clear hW1
    have f0 := ext_cell q0
    have f1 := ext_cell q1
    have f2 := ext_cell q2
    refine wp_region_ext (by kernel_rfl) (by kernel_rfl) ?_
    repeat (go_big_quiet_step ((first | (go_at_call 5; exact ext_call (fitsF a' b' cs s _ A S m n c d _ HM.out HN.out HF.out (HS.out.keep (ext_below _) (ext_below _).size) (HP.out.keep (ext_below _) (ext_below _).size) HW.out hml hnl)) | (go_at_call_of 6 (Value.bool false); exact ext_call (ofF a' b' cs s _ A S m n c d _ HM.out HN.out HF.out (HS.out.keep (ext_below _) (ext_below _).size) (HP.out.keep (ext_below _) (ext_below _).size) HW.out hml hnl)) | (go_at_call 7; exact ext_call (repsF a' b' cs s _ A S m n c d _ HM.out HN.out HR.out (HS.out.keep (ext_below _) (ext_below _).size) (HP.out.keep (ext_below _) (ext_below _).size) HW.out hml hnl)) | (go_at_call_of 6 (Value.bool true); exact ext_call (ofT a' b' cs s _ A S m n c d _ HM.out HN.out HR.out (HS.out.keep (ext_below _) (ext_below _).size) (HP.out.keep (ext_below _) (ext_below _).size) HW.out hml hnl)))))
    refine wpQuiet_nil ?_
    intro _ hw'
    obtain ⟨xq, rfl⟩ := hw'
    obtain ⟨W4, hb4, heW4⟩ : ∃ W4, Below W1.heap.size W1 W4 ∧ ext W1 xq = W4 := ⟨_, ext_below _, rfl⟩
    rw [heW4]
    clear heW4 xq f0 f1 f2
    have r0 := (hb4.cell (p := ⟨w.heap.size, 0, none⟩) hws).trans q0
    have r1 := (hb4.cell (p := ⟨w.heap.size, 1, none⟩) hws).trans q1
    have r2 := (hb4.cell (p := ⟨w.heap.size, 2, none⟩) hws).trans q2
    go_wp2_with (go_at_call 6; refine (ofT a' b' cs s _ A S m n c d _ HM.out HN.out HR.out (HS.out.keep hb4 hb4.size) (HP.out.keep hb4 hb4.size) HW.out hml hnl).mono ?_; rintro e w5 ⟨rfl, hb5⟩)
    clear r0 r1 r2
    have hb15 : Below W1.heap.size W1 w5 := hb4.trans (hb5.mono hb4.size)
    clear hb4 hb5
    replace q0 := (hb15.cell (p := ⟨w.heap.size, 0, none⟩) hws).trans q0
    replace q1 := (hb15.cell (p := ⟨w.heap.size, 1, none⟩) hws).trans q1
    replace q2 := (hb15.cell (p := ⟨w.heap.size, 2, none⟩) hws).trans q2
    have f0 := ext_cell ((hb15.cell (p := ⟨w.heap.size + 1, 0, none⟩) hws1).trans t0)
    have f1 := ext_cell ((hb15.cell (p := ⟨w.heap.size + 1, 1, none⟩) hws1).trans t1)
    clear t0 t1
    refine wp_region_ext (by kernel_rfl) (by kernel_rfl) ?_
    repeat (go_big_quiet_step ((go_at_call 8; exact ext_call (cycle_ext _))))
    refine wpQuiet_nil ?_
    intro _ hw'
    obtain ⟨xq, rfl⟩ := hw'
    obtain ⟨W6, hb6, heW6⟩ : ∃ W6, Below w5.heap.size w5 W6 ∧ ext w5 xq = W6 := ⟨_, ext_below _, rfl⟩
    rw [heW6]
    have hw5 : w.heap.size < w5.heap.size := by have := hb15.size; omega
    clear heW6 xq f0 f1
    replace q0 := (hb6.cell (p := ⟨w.heap.size, 0, none⟩) hw5).trans q0
    replace q1 := (hb6.cell (p := ⟨w.heap.size, 1, none⟩) hw5).trans q1
    replace q2 := (hb6.cell (p := ⟨w.heap.size, 2, none⟩) hw5).trans q2
    have hb16 : Below W1.heap.size W1 W6 := hb15.trans (hb6.mono hb15.size)
    go_wp2_with fail
    refine (repeat_ok a' b' cs A n c _ _ wd hg _ HWD.out HHG.out HFm.out HN.out hnl (HP.out.keep hb16 hb16.size) g1 g2 g6).mono ?_
    rintro e w7 ⟨B, c7, rfl, hQ, hb7⟩
    rw [← HWS.out] at hQ
    have hb17 : Below W1.heap.size W1 w7 := hb16.trans (hb7.mono hb16.size)
    have j0 : ((wd : Int) == cyc s0 + 1) = true := by rw [HWD.out]; simp
    have j1 : ((hg : Int) == cyc s1 + 1) = true := by rw [HHG.out]; simp
    clear q0 q1 q2
    have e8 : ∀ W : World, Below W.heap.size W (W.alloc (.cells #[.int .i64 (wd : Int), .int .i64 (hg : Int), .slice B (wd * hg) c7] 25)) := fun W => (Below.refl _ _).alloc (Nat.le_refl _) _
    have HE8 := Lib.hid e8
    clear e8
    have hw7 := Lib.hid hQ
    clear hQ
    go_wp2_with (first | (go_at_call 6; refine (ofF _ _ ws s _ B S m (wd * hg) c7 d _ HM.out HWL.out HWF.out (HS.out.keep (hb17.trans ((HE8.out w7).mono hb17.size)) (Nat.le_trans hb17.size (HE8.out w7).size)) (hw7.out.old.keep (HE8.out w7) (HE8.out w7).size) HW.out hml (by omega)).mono ?_; rintro e w8 ⟨rfl, hb8⟩) | (go_at_call 4; refine (lives_any _).mono ?_; rintro e wn ⟨rfl, hn⟩))
    go_ret
    exact ⟨rfl, HB2.out.trans (((hb17.trans ((HE8.out w7).mono hb17.size)).trans ((hb8.mono (Nat.le_trans hb17.size (HE8.out w7).size)).trans (hn.mono (Nat.le_trans hb17.size (Nat.le_trans (HE8.out w7).size hb8.size))))).mono HB2.out.size)⟩
end Go.Proofs.Ythdbailpdedlmaa

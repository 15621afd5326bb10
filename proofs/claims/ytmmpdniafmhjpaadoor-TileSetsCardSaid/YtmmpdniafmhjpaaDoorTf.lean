/-
  groutworklaw01.TileFits, walked.
-/
import Derived.Test.YtmmpdniafmhjpaaDoorRc
import Derived.Test.YtmmpdniafmhjpaaDoorRd
import Derived.Test.YtmmpdniafmhjpaaDoorAw
namespace Go.Proofs.YtmmpdniafmhjpaaDoor
open Go.RowKit Go.Maps Go.BigFrame
set_option linter.unusedVariables false
set_option maxRecDepth 100000

theorem wide_any (S : Option Addr) (m d : Nat) (r : Bool) (w : World) (hr : decide (1100 < m) = r) (hm : m ≤ 9223372036854775807) :
    Calls Tryd.prog 11 #[.slice S m d] w fun e w' => e = .returned (.bool r) ∧ Below w.heap.size w w' := by
  cases r
  · have h : ¬ 1100 < m := of_decide_eq_false hr
    clear hr
    go_enter Tryd.func11, Tryd.ntmps11
    go_wp2
    go_ret
    exact ⟨ret_bool (by simp; omega), Below.refl _ _⟩
  · have h : 1100 < m := of_decide_eq_true hr
    clear hr
    go_enter Tryd.func11, Tryd.ntmps11
    go_wp2
    go_ret
    exact ⟨ret_bool (by simp; omega), Below.refl _ _⟩

set_option maxHeartbeats 8000000 in
theorem tileFits_any (a b : Int) (cs : List Int) (s : List Tl) (A S : Option Addr) (m n c d : Nat) (w : World) (hm : m = s.length) (hn : n = cs.length) (hmd : m ≤ d)
    (hS : SetIn w w.heap.size S s) (hP : IntsIn w w.heap.size A cs) (hwf : ∀ t ∈ s, twf t) (hml : d ≤ 9223372036854775807) (hnl : n ≤ 9223372036854775807) (h : Env w) :
    Calls Tryd.prog 5 #[.slice S m d, .agg #[.int .i64 a, .int .i64 b, .slice A n c]] w fun e w' => e = .returned (.bool true) ∧ Below w.heap.size w w' := by
  have HM := Lib.hid hm
  have HN := Lib.hid hn
  have HS := Lib.hid hS
  have HPI := Lib.hid hP
  have HW := Lib.hid hwf
  have hmm : m ≤ 9223372036854775807 := by omega
  clear hm hn hS hP hwf
  obtain ⟨W0, hW0⟩ : ∃ W0, W0 = w.alloc (.cells #[.int .i64 a, .int .i64 b, .slice A n c] 40) := ⟨_, rfl⟩
  have hb0 : Below w.heap.size w W0 := by rw [hW0]; exact (Below.refl _ _).alloc (Nat.le_refl _) _
  have q0 : W0.cell? ⟨w.heap.size, 0, none⟩ = some (.int .i64 a) := by rw [hW0]; simp
  have q1 : W0.cell? ⟨w.heap.size, 1, none⟩ = some (.int .i64 b) := by rw [hW0]; simp
  have q2 : W0.cell? ⟨w.heap.size, 2, none⟩ = some (.slice A n c) := by rw [hW0]; simp
  have hz : w.heap.size < W0.heap.size := by rw [hW0]; simp
  cases hwd : decide (1100 < m)
  rotate_left
  · have hc := wide_any S m d true W0 hwd hmm
    go_enter Tryd.func5, Tryd.ntmps5
    go_wp2_with fail
    rw [← hW0]
    clear hW0
    refine hc.mono ?_
    rintro e w1 ⟨rfl, hb1⟩
    have hb01 : Below w.heap.size w w1 := hb0.trans (hb1.mono hb0.size)
    go_wp2_with fail
    refine (awake_any _ (h.keep hb01)).mono ?_
    rintro e w2 ⟨rfl, hb2⟩
    go_wp2_with fail
    go_ret
    exact ⟨rfl, hb01.trans (hb2.mono hb01.size)⟩
  have hc := wide_any S m d false W0 hwd hmm
  by_cases h5 : n ≤ 50000
  rotate_left
  · go_enter Tryd.func5, Tryd.ntmps5
    go_wp2_with fail
    rw [← hW0]
    clear hW0
    refine hc.mono ?_
    rintro e w1 ⟨rfl, hb1⟩
    have p2 := (hb1.cell (p := ⟨w.heap.size, 2, none⟩) hz).trans q2
    have hb01 : Below w.heap.size w w1 := hb0.trans (hb1.mono hb0.size)
    go_wp2_with fail
    refine (awake_any _ (h.keep hb01)).mono ?_
    rintro e w2 ⟨rfl, hb2⟩
    go_wp2_with fail
    go_ret
    exact ⟨rfl, hb01.trans (hb2.mono hb01.size)⟩
  cases hV : vld s
  · have hF : fits s ⟨a, b, cs⟩ = false := by rw [fits_ofr, hV]; rfl
    have hR : reps s ⟨a, b, cs⟩ = false := by rw [reps_ofr, hV]; rfl
    go_enter Tryd.func5, Tryd.ntmps5
    go_wp2_with fail
    rw [← hW0]
    clear hW0
    refine hc.mono ?_
    rintro e W1 ⟨rfl, hb1⟩
    have p0 := (hb1.cell (p := ⟨w.heap.size, 0, none⟩) hz).trans q0
    have p1 := (hb1.cell (p := ⟨w.heap.size, 1, none⟩) hz).trans q1
    have p2 := (hb1.cell (p := ⟨w.heap.size, 2, none⟩) hz).trans q2
    have hb01 : Below w.heap.size w W1 := hb0.trans (hb1.mono hb0.size)
    clear q0 q1 q2
    go_wp2_with fail
    have f0 := ext_cell p0
    have f1 := ext_cell p1
    have f2 := ext_cell p2
    have hbx : ∀ x : Ext W1, Below w.heap.size w (ext W1 x) := fun x => hb01.trans ((ext_below x).mono hb01.size)
    have cF : ∀ x : Ext W1, Calls Tryd.prog 27 #[.slice S m d, .agg #[.int .i64 a, .int .i64 b, .slice A n c]] (ext W1 x) fun e w'' => e = .returned (.bool false) ∧ ∃ y, w'' = ext W1 y := fun x => ext_call (by
      have hh := fits_any a b cs s A S m n c d (ext W1 x) HM.out HN.out (HS.out.keep (hbx x) (hbx x).size) (HPI.out.keep (hbx x) (hbx x).size) HW.out hmm hnl
      rw [hF] at hh
      exact hh)
    have cR : ∀ x : Ext W1, Calls Tryd.prog 29 #[.slice S m d, .agg #[.int .i64 a, .int .i64 b, .slice A n c]] (ext W1 x) fun e w'' => e = .returned (.bool false) ∧ ∃ y, w'' = ext W1 y := fun x => ext_call (by
      have hh := repeats_any a b cs s A S m n c d (ext W1 x) HM.out HN.out (HS.out.keep (hbx x) (hbx x).size) (HPI.out.keep (hbx x) (hbx x).size) HW.out hmm hnl
      rw [hR] at hh
      exact hh)
    have cG : ∀ x : Ext W1, Calls Tryd.prog 28 #[.slice S m d, .agg #[.int .i64 a, .int .i64 b, .slice A n c]] (ext W1 x) fun e w'' => e = .returned (.bool false) ∧ ∃ y, w'' = ext W1 y := fun x => ext_call (rfits_any a b cs s A S m n c d _ (ext W1 x) HM.out HN.out hmd hF (HS.out.keep (hbx x) (hbx x).size) (HPI.out.keep (hbx x) (hbx x).size) hml hnl)
    have cV : ∀ x : Ext W1, Calls Tryd.prog 18 #[.slice S m d] (ext W1 x) fun e w'' => e = .returned (.bool false) ∧ ∃ y, w'' = ext W1 y := fun x => ext_call (by
      have hh := rvalid_any s S m d (ext W1 x) HM.out hmd hml (HS.out.keep (hbx x) (hbx x).size)
      rw [hV] at hh
      exact hh)
    have cA : ∀ x : Ext W1, Calls Tryd.prog 12 #[] (ext W1 x) fun e w'' => e = .returned (.bool true) ∧ ∃ y, w'' = ext W1 y := fun x => ext_call (awake_any _ (h.keep (hbx x)))
    clear hF hR hc hV hbx
    refine wp_region_ext (by kernel_rfl) (by kernel_rfl) ?_
    repeat (go_big_quiet_step (first | (go_at_call 27; with_reducible exact cF _) | (go_at_call 28; with_reducible exact cG _) | (go_at_call 29; with_reducible exact cR _) | (go_at_call 18; with_reducible exact cV _) | (go_at_call 12; with_reducible exact cA _)))
    refine wpQuiet_nil ?_
    intro _ hw'
    obtain ⟨xq, rfl⟩ := hw'
    obtain ⟨W4, hbW4, heW4⟩ : ∃ W4, Below W1.heap.size W1 W4 ∧ ext W1 xq = W4 := ⟨_, ext_below _, rfl⟩
    rw [heW4]
    clear heW4 xq f0 f1 f2
    go_wp2_with fail
    go_ret
    exact ⟨rfl, hb01.trans (hbW4.mono hb01.size)⟩
  · have hF : fits s ⟨a, b, cs⟩ = ofr (a - 1) (b - 1) s ⟨a, b, cs⟩ := by rw [fits_ofr, hV]; rfl
    have hR : reps s ⟨a, b, cs⟩ = ofr a b s ⟨a, b, cs⟩ := by rw [reps_ofr, hV]; rfl
    obtain ⟨T, hT⟩ : ∃ T, T = ofr a b s ⟨a, b, cs⟩ := ⟨_, rfl⟩
    obtain ⟨F, hF'⟩ : ∃ F, F = ofr (a - 1) (b - 1) s ⟨a, b, cs⟩ := ⟨_, rfl⟩
    rw [← hT] at hR
    rw [← hF'] at hF
    go_enter Tryd.func5, Tryd.ntmps5
    go_wp2_with fail
    rw [← hW0]
    clear hW0
    refine hc.mono ?_
    rintro e W1 ⟨rfl, hb1⟩
    have p0 := (hb1.cell (p := ⟨w.heap.size, 0, none⟩) hz).trans q0
    have p1 := (hb1.cell (p := ⟨w.heap.size, 1, none⟩) hz).trans q1
    have p2 := (hb1.cell (p := ⟨w.heap.size, 2, none⟩) hz).trans q2
    have hb01 : Below w.heap.size w W1 := hb0.trans (hb1.mono hb0.size)
    clear q0 q1 q2
    go_wp2_with fail
    have f0 := ext_cell p0
    have f1 := ext_cell p1
    have f2 := ext_cell p2
    have hbx : ∀ x : Ext W1, Below w.heap.size w (ext W1 x) := fun x => hb01.trans ((ext_below x).mono hb01.size)
    have cF : ∀ x : Ext W1, Calls Tryd.prog 27 #[.slice S m d, .agg #[.int .i64 a, .int .i64 b, .slice A n c]] (ext W1 x) fun e w'' => e = .returned (.bool F) ∧ ∃ y, w'' = ext W1 y := fun x => ext_call (by
      have hh := fits_any a b cs s A S m n c d (ext W1 x) HM.out HN.out (HS.out.keep (hbx x) (hbx x).size) (HPI.out.keep (hbx x) (hbx x).size) HW.out hmm hnl
      rw [hF] at hh
      exact hh)
    have cR : ∀ x : Ext W1, Calls Tryd.prog 29 #[.slice S m d, .agg #[.int .i64 a, .int .i64 b, .slice A n c]] (ext W1 x) fun e w'' => e = .returned (.bool T) ∧ ∃ y, w'' = ext W1 y := fun x => ext_call (by
      have hh := repeats_any a b cs s A S m n c d (ext W1 x) HM.out HN.out (HS.out.keep (hbx x) (hbx x).size) (HPI.out.keep (hbx x) (hbx x).size) HW.out hmm hnl
      rw [hR] at hh
      exact hh)
    have cG : ∀ x : Ext W1, Calls Tryd.prog 28 #[.slice S m d, .agg #[.int .i64 a, .int .i64 b, .slice A n c]] (ext W1 x) fun e w'' => e = .returned (.bool F) ∧ ∃ y, w'' = ext W1 y := fun x => ext_call (rfits_any a b cs s A S m n c d _ (ext W1 x) HM.out HN.out hmd hF (HS.out.keep (hbx x) (hbx x).size) (HPI.out.keep (hbx x) (hbx x).size) hml hnl)
    have cV : ∀ x : Ext W1, Calls Tryd.prog 18 #[.slice S m d] (ext W1 x) fun e w'' => e = .returned (.bool true) ∧ ∃ y, w'' = ext W1 y := fun x => ext_call (by
      have hh := rvalid_any s S m d (ext W1 x) HM.out hmd hml (HS.out.keep (hbx x) (hbx x).size)
      rw [hV] at hh
      exact hh)
    have cT : ∀ x : Ext W1, Calls Tryd.prog 30 #[.slice S m d, .agg #[.int .i64 a, .int .i64 b, .slice A n c]] (ext W1 x) fun e w'' => e = .returned (.bool T) ∧ ∃ y, w'' = ext W1 y := fun x => ext_call (rtorus_any a b cs s A S m n c d _ (ext W1 x) HM.out HN.out hT.symm (HS.out.keep (hbx x) (hbx x).size) (HPI.out.keep (hbx x) (hbx x).size) hmm hnl)
    have cA : ∀ x : Ext W1, Calls Tryd.prog 12 #[] (ext W1 x) fun e w'' => e = .returned (.bool true) ∧ ∃ y, w'' = ext W1 y := fun x => ext_call (awake_any _ (h.keep (hbx x)))
    clear hF hR hc hV hbx
    refine wp_region_ext (by kernel_rfl) (by kernel_rfl) ?_
    repeat (go_big_quiet_step (first | (go_at_call 27; with_reducible exact cF _) | (go_at_call 28; with_reducible exact cG _) | (go_at_call 29; with_reducible exact cR _) | (go_at_call 18; with_reducible exact cV _) | (go_at_call 30; with_reducible exact cT _) | (go_at_call 12; with_reducible exact cA _)))
    refine wpQuiet_nil ?_
    intro _ hw'
    obtain ⟨xq, rfl⟩ := hw'
    obtain ⟨W4, hbW4, heW4⟩ : ∃ W4, Below W1.heap.size W1 W4 ∧ ext W1 xq = W4 := ⟨_, ext_below _, rfl⟩
    rw [heW4]
    clear heW4 xq f0 f1 f2
    go_wp2_with fail
    go_ret
    exact ⟨rfl, hb01.trans (hbW4.mono hb01.size)⟩
end Go.Proofs.YtmmpdniafmhjpaaDoor

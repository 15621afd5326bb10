/-
  groutworklaw01.TileSets, walked.
-/
import Derived.Test.YtmmpdniafmhjpaaDoorTf
import Derived.Test.YtmmpdniafmhjpaaDoorRe
namespace Go.Proofs.YtmmpdniafmhjpaaDoor
open Go.RowKit Go.Maps
set_option linter.unusedVariables false
set_option maxRecDepth 100000

theorem none_any (w : World) : Calls Tryd.prog 19 #[.slice none 0 0, .int .i64 1] w fun e w' => e = .returned (.bool true) ∧ Below w.heap.size w w' := by
  go_enter Tryd.func19, Tryd.ntmps19
  go_wp2
  go_ret
  exact ⟨rfl, Below.refl _ _⟩

set_option maxHeartbeats 4000000 in
theorem ts_wide (s : List Tl) (S : Option Addr) (m d : Nat) (w : World) (hm : m = s.length) (hmd : m ≤ d)
    (hS : SetIn w w.heap.size S s) (hwf : ∀ t ∈ s, twf t) (hml : d ≤ 9223372036854775807) (h : Env w) (hwd : decide (1100 < m) = true) :
    Calls Tryd.prog 3 #[.slice S m d] w fun e w' => e = .returned (.bool true) ∧ Below w.heap.size w w' := by
  have HM := Lib.hid hm
  have HS := Lib.hid hS
  have HW := Lib.hid hwf
  have hmm : m ≤ 9223372036854775807 := by omega
  clear hm hS hwf
  have hc := wide_any S m d true w hwd hmm
  go_enter Tryd.func3, Tryd.ntmps3
  go_wp2_with fail
  refine hc.mono ?_
  rintro e w1 ⟨rfl, hb1⟩
  go_wp2_with fail
  refine (awake_any _ (h.keep hb1)).mono ?_
  rintro e w2 ⟨rfl, hb2⟩
  go_wp2_with fail
  go_ret
  exact ⟨rfl, hb1.trans (hb2.mono hb1.size)⟩
set_option maxHeartbeats 4000000 in
theorem ts_bad (s : List Tl) (S : Option Addr) (m d : Nat) (w : World) (hm : m = s.length) (hmd : m ≤ d)
    (hS : SetIn w w.heap.size S s) (hwf : ∀ t ∈ s, twf t) (hml : d ≤ 9223372036854775807) (h : Env w) (hwd : decide (1100 < m) = false) (hV : vld s = false) :
    Calls Tryd.prog 3 #[.slice S m d] w fun e w' => e = .returned (.bool true) ∧ Below w.heap.size w w' := by
  have HM := Lib.hid hm
  have HS := Lib.hid hS
  have HW := Lib.hid hwf
  have hmm : m ≤ 9223372036854775807 := by omega
  clear hm hS hwf
  have hc := wide_any S m d false w hwd hmm
  go_enter Tryd.func3, Tryd.ntmps3
  go_wp2_with fail
  refine hc.mono ?_
  rintro e w1 ⟨rfl, hb1⟩
  have hk1 : Below w.heap.size w w1 := hb1
  go_wp2_with fail
  refine (mir_bad s S m d _ HM.out (HS.out.keep hk1 hk1.size) HW.out hmm hV).mono ?_
  rintro e w2 ⟨hb2, rfl⟩
  have hk2 : Below w.heap.size w w2 := hk1.trans (hb2.mono hk1.size)
  go_wp2_with fail
  refine (up_bad s S m d _ HM.out (HS.out.keep hk2 hk2.size) HW.out hmm hV).mono ?_
  rintro e w3 ⟨hb3, rfl⟩
  have hk3 : Below w.heap.size w w3 := hk2.trans (hb3.mono hk2.size)
  go_wp2_with fail
  refine (tur_bad s S m d _ HM.out (HS.out.keep hk3 hk3.size) HW.out hmm hV).mono ?_
  rintro e w4 ⟨hb4, rfl⟩
  have hk4 : Below w.heap.size w w4 := hk3.trans (hb4.mono hk3.size)
  go_wp2_with fail
  have ht := text_any s S d w4 (HS.out.keep hk4 hk4.size) HW.out (by rw [← HM.out]; exact hmm) (h.keep hk4)
  rw [← HM.out, text_bad hV] at ht
  refine ht.mono ?_
  rintro e w5 ⟨rfl, hb5⟩
  have hk5 : Below w.heap.size w w5 := hk4.trans (hb5.mono hk4.size)
  clear ht hb1 hb2 hb3 hb4 hb5 hk1 hk2 hk3 hk4
  go_wp2_with fail
  have hv5 := valid_any s S d w5 (HS.out.keep hk5 hk5.size) HW.out (by rw [← HM.out]; exact hmm)
  rw [← HM.out, hV] at hv5
  refine (hv5).mono ?_
  rintro e w6 ⟨rfl, hb6⟩
  have hk6 : Below w.heap.size w w6 := hk5.trans (hb6.mono hk5.size)
  go_wp2_with fail
  have hr6 := rvalid_any s S m d w6 HM.out hmd hml (HS.out.keep hk6 hk6.size)
  rw [hV] at hr6
  refine (hr6).mono ?_
  rintro e w7 ⟨rfl, hb7⟩
  have hk7 : Below w.heap.size w w7 := hk6.trans (hb7.mono hk6.size)
  go_wp2_with fail
  have hr7 := rvalid_any s S m d w7 HM.out hmd hml (HS.out.keep hk7 hk7.size)
  rw [hV] at hr7
  refine (hr7).mono ?_
  rintro e w8 ⟨rfl, hb8⟩
  have hk8 : Below w.heap.size w w8 := hk7.trans (hb8.mono hk7.size)
  go_wp2_with fail
  refine (none_any _).mono ?_
  rintro e w9 ⟨rfl, hb9⟩
  have hk9 : Below w.heap.size w w9 := hk8.trans (hb9.mono hk8.size)
  go_wp2_with fail
  refine (none_any _).mono ?_
  rintro e w10 ⟨rfl, hb10⟩
  have hk10 : Below w.heap.size w w10 := hk9.trans (hb10.mono hk9.size)
  go_wp2_with fail
  refine (none_any _).mono ?_
  rintro e w11 ⟨rfl, hb11⟩
  have hk11 : Below w.heap.size w w11 := hk10.trans (hb11.mono hk10.size)
  go_wp2_with fail
  refine (awake_any _ (h.keep hk11)).mono ?_
  rintro e w12 ⟨rfl, hb12⟩
  have hk12 : Below w.heap.size w w12 := hk11.trans (hb12.mono hk11.size)
  go_wp2_with fail
  go_ret
  exact ⟨rfl, hk12⟩
set_option maxHeartbeats 8000000 in
theorem ts_ok (s : List Tl) (S : Option Addr) (m d : Nat) (w : World) (hm : m = s.length) (hmd : m ≤ d)
    (hS : SetIn w w.heap.size S s) (hwf : ∀ t ∈ s, twf t) (hml : d ≤ 9223372036854775807) (h : Env w) (hwd : decide (1100 < m) = false) (hV : vld s = true) :
    Calls Tryd.prog 3 #[.slice S m d] w fun e w' => e = .returned (.bool true) ∧ Below w.heap.size w w' := by
  have HM := Lib.hid hm
  have HS := Lib.hid hS
  have HW := Lib.hid hwf
  have hmm : m ≤ 9223372036854775807 := by omega
  clear hm hS hwf
  have hc := wide_any S m d false w hwd hmm
  obtain ⟨T, hT⟩ : ∃ T, T = sText s := ⟨_, rfl⟩
  have hm1 : m ≤ 1000 := by rw [HM.out]; exact (vld_iff.1 hV).1
  have hTs : T.size ≤ 4294967280 := by
    have := pre_len s s.length HW.out (by rw [← HM.out]; exact hm1)
    rw [pre_all s s.length (Nat.le_refl _), ← hT] at this
    omega
  have HT := Lib.hid hT
  clear hT
  go_enter Tryd.func3, Tryd.ntmps3
  go_wp2_with fail
  refine hc.mono ?_
  rintro e w1 ⟨rfl, hb1⟩
  have hk1 : Below w.heap.size w w1 := hb1
  go_wp2_with fail
  refine (mir_ok s S m d _ HM.out (HS.out.keep hk1 hk1.size) HW.out hV).mono ?_
  rintro e w2 ⟨hb2, B1, d1, rfl, h11, h12, hA1⟩
  have hk2 : Below w.heap.size w w2 := hk1.trans (hb2.mono hk1.size)
  go_wp2_with fail
  refine (up_ok s S m d _ HM.out (HS.out.keep hk2 hk2.size) HW.out hV).mono ?_
  rintro e w3 ⟨hb3, B2, d2, rfl, h21, h22, hA2⟩
  have hk3 : Below w.heap.size w w3 := hk2.trans (hb3.mono hk2.size)
  go_wp2_with fail
  refine (tur_ok s S m d _ HM.out (HS.out.keep hk3 hk3.size) HW.out hV).mono ?_
  rintro e w4 ⟨hb4, B3, d3, rfl, h31, h32, hA3⟩
  have hk4 : Below w.heap.size w w4 := hk3.trans (hb4.mono hk3.size)
  go_wp2_with fail
  have ht := text_any s S d w4 (HS.out.keep hk4 hk4.size) HW.out (by rw [← HM.out]; exact hmm) (h.keep hk4)
  rw [← HM.out, text_ok hV, ← HT.out] at ht
  refine (ht).mono ?_
  rintro e w5 ⟨rfl, hb5⟩
  have hk5 : Below w.heap.size w w5 := hk4.trans (hb5.mono hk4.size)
  go_wp2_with fail
  have hv5 := valid_any s S d w5 (HS.out.keep hk5 hk5.size) HW.out (by rw [← HM.out]; exact hmm)
  rw [← HM.out, hV] at hv5
  refine (hv5).mono ?_
  rintro e w6 ⟨rfl, hb6⟩
  have hk6 : Below w.heap.size w w6 := hk5.trans (hb6.mono hk5.size)
  go_wp2_with fail
  have hr6 := rvalid_any s S m d w6 HM.out hmd hml (HS.out.keep hk6 hk6.size)
  rw [hV] at hr6
  refine (hr6).mono ?_
  rintro e w7 ⟨rfl, hb7⟩
  have hk7 : Below w.heap.size w w7 := hk6.trans (hb7.mono hk6.size)
  go_wp2_with fail
  have hr7 := rvalid_any s S m d w7 HM.out hmd hml (HS.out.keep hk7 hk7.size)
  rw [hV] at hr7
  refine (hr7).mono ?_
  rintro e w8 ⟨rfl, hb8⟩
  have hk8 : Below w.heap.size w w8 := hk7.trans (hb8.mono hk7.size)
  go_wp2_with fail
  have hrt := rtext_any s S m d w8 HM.out (HS.out.keep hk8 hk8.size) HW.out hV
  rw [← HT.out] at hrt
  refine (hrt).mono ?_
  rintro e w9 ⟨rfl, hb9⟩
  have hk9 : Below w.heap.size w w9 := hk8.trans (hb9.mono hk8.size)
  go_wp2_with fail
  have hpp : pParse T = some s := by rw [HT.out]; exact parse_text hV
  refine (parse_any T hTs w9 (h.keep hk9)).mono ?_
  rintro e w10 ⟨hb10, hp⟩
  rw [hpp] at hp
  obtain ⟨B4, d4, rfl, hA4⟩ := hp
  have hk10 : Below w.heap.size w w10 := hk9.trans (hb10.mono hk9.size)
  go_wp2_with fail
  refine (rsame_any s s B4 S s.length m d4 d true w10 rfl HM.out (decide_eq_true rfl) (by rw [← HM.out]; omega) hmm hA4.old (HS.out.keep hk10 hk10.size)).mono ?_
  rintro e w11 ⟨rfl, hb11⟩
  have hk11 : Below w.heap.size w w11 := hk10.trans (hb11.mono hk10.size)
  go_wp2_with fail
  refine (rmir_any s S m d w11 HM.out (by omega) (HS.out.keep hk11 hk11.size)).mono ?_
  rintro e w12 ⟨hb12, C11, c11, rfl, x11, y11, hC11⟩
  have hk12 : Below w.heap.size w w12 := hk11.trans (hb12.mono hk11.size)
  have hq11 : Below w2.heap.size w2 w12 := by
    have hh := hb3
    have hh := hh.trans (hb4.mono hh.size)
    have hh := hh.trans (hb5.mono hh.size)
    have hh := hh.trans (hb6.mono hh.size)
    have hh := hh.trans (hb7.mono hh.size)
    have hh := hh.trans (hb8.mono hh.size)
    have hh := hh.trans (hb9.mono hh.size)
    have hh := hh.trans (hb10.mono hh.size)
    have hh := hh.trans (hb11.mono hh.size)
    have hh := hh.trans (hb12.mono hh.size)
    exact hh
  go_wp2_with fail
  refine (rsame_any (s.map mirT) (s.map mirT) B1 C11 _ _ d1 c11 true w12 (by rw [List.length_map]) (by rw [List.length_map]) (decide_eq_true rfl) (by rw [← HM.out]; omega) (by rw [← HM.out]; omega) (hA1.keep hq11).old hC11.old).mono ?_
  rintro e w13 ⟨rfl, hb13⟩
  have hk13 : Below w.heap.size w w13 := hk12.trans (hb13.mono hk12.size)
  go_wp2_with fail
  refine (rup_any s S m d w13 HM.out (by omega) (HS.out.keep hk13 hk13.size)).mono ?_
  rintro e w14 ⟨hb14, C13, c13, rfl, x13, y13, hC13⟩
  have hk14 : Below w.heap.size w w14 := hk13.trans (hb14.mono hk13.size)
  have hq13 : Below w3.heap.size w3 w14 := by
    have hh := hb4
    have hh := hh.trans (hb5.mono hh.size)
    have hh := hh.trans (hb6.mono hh.size)
    have hh := hh.trans (hb7.mono hh.size)
    have hh := hh.trans (hb8.mono hh.size)
    have hh := hh.trans (hb9.mono hh.size)
    have hh := hh.trans (hb10.mono hh.size)
    have hh := hh.trans (hb11.mono hh.size)
    have hh := hh.trans (hb12.mono hh.size)
    have hh := hh.trans (hb13.mono hh.size)
    have hh := hh.trans (hb14.mono hh.size)
    exact hh
  go_wp2_with fail
  refine (rsame_any (s.map upT) (s.map upT) B2 C13 _ _ d2 c13 true w14 (by rw [List.length_map]) (by rw [List.length_map]) (decide_eq_true rfl) (by rw [← HM.out]; omega) (by rw [← HM.out]; omega) (hA2.keep hq13).old hC13.old).mono ?_
  rintro e w15 ⟨rfl, hb15⟩
  have hk15 : Below w.heap.size w w15 := hk14.trans (hb15.mono hk14.size)
  go_wp2_with fail
  refine (rtur_any s S m d w15 HM.out (by omega) (HS.out.keep hk15 hk15.size)).mono ?_
  rintro e w16 ⟨hb16, C15, c15, rfl, x15, y15, hC15⟩
  have hk16 : Below w.heap.size w w16 := hk15.trans (hb16.mono hk15.size)
  have hq15 : Below w4.heap.size w4 w16 := by
    have hh := hb5
    have hh := hh.trans (hb6.mono hh.size)
    have hh := hh.trans (hb7.mono hh.size)
    have hh := hh.trans (hb8.mono hh.size)
    have hh := hh.trans (hb9.mono hh.size)
    have hh := hh.trans (hb10.mono hh.size)
    have hh := hh.trans (hb11.mono hh.size)
    have hh := hh.trans (hb12.mono hh.size)
    have hh := hh.trans (hb13.mono hh.size)
    have hh := hh.trans (hb14.mono hh.size)
    have hh := hh.trans (hb15.mono hh.size)
    have hh := hh.trans (hb16.mono hh.size)
    exact hh
  go_wp2_with fail
  refine (rsame_any (s.map turT) (s.map turT) B3 C15 _ _ d3 c15 true w16 (by rw [List.length_map]) (by rw [List.length_map]) (decide_eq_true rfl) (by rw [← HM.out]; omega) (by rw [← HM.out]; omega) (hA3.keep hq15).old hC15.old).mono ?_
  rintro e w17 ⟨rfl, hb17⟩
  have hk17 : Below w.heap.size w w17 := hk16.trans (hb17.mono hk16.size)
  go_wp2_with fail
  refine (awake_any _ (h.keep hk17)).mono ?_
  rintro e w18 ⟨rfl, hb18⟩
  have hk18 : Below w.heap.size w w18 := hk17.trans (hb18.mono hk17.size)
  go_wp2_with fail
  go_ret
  exact ⟨rfl, hk18⟩
theorem tileSets_any (s : List Tl) (S : Option Addr) (m d : Nat) (w : World) (hm : m = s.length) (hmd : m ≤ d)
    (hS : SetIn w w.heap.size S s) (hwf : ∀ t ∈ s, twf t) (hml : d ≤ 9223372036854775807) (h : Env w) :
    Calls Tryd.prog 3 #[.slice S m d] w fun e w' => e = .returned (.bool true) ∧ Below w.heap.size w w' := by
  cases hwd : decide (1100 < m)
  · cases hV : vld s
    · exact ts_bad s S m d w hm hmd hS hwf hml h hwd hV
    · exact ts_ok s S m d w hm hmd hS hwf hml h hwd hV
  · exact ts_wide s S m d w hm hmd hS hwf hml h hwd
end Go.Proofs.YtmmpdniafmhjpaaDoor

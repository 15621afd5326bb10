/-
  groutworklaw02.FillFirst returns true, for every set, size and edges.
-/
import Derived.Test.YtfepgemopcpgmaaDoorRf
import Derived.Test.YtfepgemopcpgmaaDoorEx
import Derived.Test.YtfepgemopcpgmaaDoorSl
import Derived.Test.YtfepgemopcpgmaaDoorAx
namespace Go.Proofs.YtfepgemopcpgmaaDoor
open Go.RowKit Go.Maps Go.BigFrame
set_option linter.unusedVariables false
set_option linter.unusedSimpArgs false
set_option maxRecDepth 100000

set_option maxHeartbeats 8000000 in
theorem ffirst_any (s : List Tl) (d : Ed) (S : Option Addr) (m cp : Nat) (wd hg : Int) (N E U V : Option Addr) (nc ec uc vc : Nat) (w : World) (hEnv : Env w) (hm : m = s.length) (hmd : m ≤ cp) (hdl : cp ≤ 9223372036854775807) (hS : SetIn w w.heap.size S s) (hwf : ∀ t ∈ s, twf t) (hml : m ≤ 9223372036854775807)
    (hn : d.n.length ≤ 9223372036854775807) (he : d.e.length ≤ 9223372036854775807) (hu : d.s.length ≤ 9223372036854775807) (hv : d.w.length ≤ 9223372036854775807) (hE : EdIn w w.heap.size N E U V d) :
    Calls Tryd.prog 3 #[.slice S m cp, .int .i64 wd, .int .i64 hg, .agg #[.slice N d.n.length nc, .slice E d.e.length ec, .slice U d.s.length uc, .slice V d.w.length vc]] w fun e' w' => e' = .returned (.bool true) ∧ Below w.heap.size w w' := by
  obtain ⟨en, hen⟩ : ∃ en, en = d.e.length := ⟨_, rfl⟩
  obtain ⟨un, hun⟩ : ∃ un, un = d.s.length := ⟨_, rfl⟩
  obtain ⟨vn, hvn⟩ : ∃ vn, vn = d.w.length := ⟨_, rfl⟩
  obtain ⟨nn, hnn⟩ : ∃ nn, nn = d.n.length := ⟨_, rfl⟩
  obtain ⟨W1, hW1⟩ : ∃ W1, W1 = w.alloc (.cells #[.slice N nn nc, .slice E en ec, .slice U un uc, .slice V vn vc] 25) := ⟨_, rfl⟩
  have hblk1 : W1.heap[w.heap.size]? = some (.cells #[.slice N nn nc, .slice E en ec, .slice U un uc, .slice V vn vc] 25 (0, 0)) := by rw [hW1]; exact heap_alloc_new w _
  have hb1 : Below w.heap.size w W1 := by rw [hW1]; exact (Below.refl _ _).alloc (Nat.le_refl _) _
  have hz1 : w.heap.size < W1.heap.size := (Array.getElem?_eq_some_iff.1 hblk1).1
  rw [← hen, ← hun, ← hvn, ← hnn]
  have cAw : ∀ W, Below w.heap.size w W → Calls Tryd.prog 6 #[] W fun e w' => e = .returned (.bool true) ∧ Below W.heap.size W w' := fun W hb => awake2_any W (hEnv.keep hb)
  obtain ⟨wb, hwb⟩ : ∃ wb, wb = wideB m nn en un vn := ⟨_, rfl⟩
  have cWd : ∀ W, Calls Tryd.prog 5 #[.slice S m cp, .agg #[.slice N nn nc, .slice E en ec, .slice U un uc, .slice V vn vc]] W fun e w' => e = .returned (.bool wb) ∧ Below W.heap.size W w' := fun W => by
    have hh := wide_any m cp nn nc en ec un uc vn vc S N E U V W
    rw [show decide _ = wb from hwb.symm] at hh
    exact hh
  have HW1 := Lib.hid hW1
  have HB1 := Lib.hid hb1
  have HBK := Lib.hid hblk1
  have HNN := Lib.hid hnn
  have HEN := Lib.hid hen
  have HUN := Lib.hid hun
  have HVN := Lib.hid hvn
  have HMM := Lib.hid hm
  have HS := Lib.hid hS
  have HWF := Lib.hid hwf
  have HE := Lib.hid hE
  have HENV := Lib.hid hEnv
  clear hW1 hb1 hblk1 hnn hen hun hvn hm hS hwf hE hEnv
  cases wb
  rotate_left
  · clear hwb
    go_enter Tryd.func3, Tryd.ntmps3
    go_wp2_with fail
    rw [← HW1.out]
    refine (cWd _).mono ?_
    rintro e2 w2 ⟨rfl, hb2⟩
    have hb02 : Below w.heap.size w w2 := HB1.out.trans (hb2.mono HB1.out.size)
    have q2 := (hb2.block w.heap.size (Array.getElem?_eq_some_iff.1 HBK.out).1).trans HBK.out
    obtain ⟨y20, y21, y22, y23, -⟩ := zcells4 q2
    go_wp2_with fail
    refine (cAw _ hb02).mono ?_
    rintro e9 w9 ⟨rfl, hb9⟩
    go_wp2_with fail
    go_ret
    exact ⟨rfl, hb02.trans (hb9.mono hb02.size)⟩
  have hm1100 : m ≤ 1100 := by
    unfold wideB at hwb
    have := of_decide_eq_false hwb.symm
    omega
  clear hwb
  obtain ⟨fe, hfe⟩ : ∃ fe, fe = faultE s wd hg nn en un vn := ⟨_, rfl⟩
  have cFe : ∀ W, Below w.heap.size w W → Calls Tryd.prog 7 #[.slice S m cp, .int .i64 wd, .int .i64 hg, .agg #[.slice N nn nc, .slice E en ec, .slice U un uc, .slice V vn vc]] W fun e w' => e = .returned (.int .i64 fe) ∧ Below W.heap.size W w' := fun W hb => by
    have hh := rfault_any s S m cp wd hg N E U V nn en un vn nc ec uc vc W HMM.out hmd hdl (HS.out.keep hb hb.size) HWF.out hml (by rw [HNN.out]; exact hn) (by rw [HEN.out]; exact he) (by rw [HUN.out]; exact hu) (by rw [HVN.out]; exact hv)
    rw [← hfe] at hh
    exact hh
  have hf0 : faultE s wd hg d.n.length d.e.length d.s.length d.w.length = fe := by rw [hfe, HNN.out, HEN.out, HUN.out, HVN.out]
  have cFi0 : ∀ W, Below w.heap.size w W → Calls Tryd.prog 8 #[.slice S m cp, .int .i64 wd, .int .i64 hg, .agg #[.slice N nn nc, .slice E en ec, .slice U un uc, .slice V vn vc]] W (IsFirstRes s wd hg d W) := fun W hb => by
    have hh := first_any s d S m cp wd hg N E U V nc ec uc vc W HMM.out (HS.out.keep hb hb.size) HWF.out (by omega) hn he hu hv (HE.out.keep hb hb.size)
    rw [HNN.out, HEN.out, HUN.out, HVN.out]
    exact hh
  by_cases hfz : fe = 0
  rotate_left
  · have cFi : ∀ W, Below w.heap.size w W → Calls Tryd.prog 8 #[.slice S m cp, .int .i64 wd, .int .i64 hg, .agg #[.slice N nn nc, .slice E en ec, .slice U un uc, .slice V vn vc]] W fun e w' => e = .returned (.tuple #[.agg #[.int .i64 0, .int .i64 0, .slice none 0 0], .int .i64 fe]) ∧ Below W.heap.size W w' := fun W hb => (cFi0 W hb).mono fun e w' h => by
      obtain ⟨h1, h2⟩ := h
      have hck : checkE s wd hg d.n.length d.e.length d.s.length d.w.length = fe := by unfold checkE; rw [hf0, if_pos hfz]
      rw [hck, if_pos hfz] at h2
      exact ⟨h2, h1⟩
    have hdz : (fe != 0) = true := by rw [bne_iff_ne]; exact hfz
    clear hfe hf0 cFi0 hfz
    go_enter Tryd.func3, Tryd.ntmps3
    go_wp2_with fail
    rw [← HW1.out]
    refine (cWd _).mono ?_
    rintro e2 w2 ⟨rfl, hb2⟩
    have hb02 : Below w.heap.size w w2 := HB1.out.trans (hb2.mono HB1.out.size)
    have q2 := (hb2.block w.heap.size (Array.getElem?_eq_some_iff.1 HBK.out).1).trans HBK.out
    obtain ⟨y20, y21, y22, y23, -⟩ := zcells4 q2
    go_wp2_with fail
    refine (cFe _ hb02).mono ?_
    rintro e3 w3 ⟨rfl, hb3⟩
    have hb03 : Below w.heap.size w w3 := hb02.trans (hb3.mono hb02.size)
    have q3 := (hb3.block w.heap.size (Array.getElem?_eq_some_iff.1 q2).1).trans q2
    obtain ⟨y30, y31, y32, y33, -⟩ := zcells4 q3
    clear y20 y21 y22 y23
    go_wp2_with fail
    refine (cFi _ hb03).mono ?_
    rintro e4 w4 ⟨rfl, hb4⟩
    have hb04 : Below w.heap.size w (w4.alloc (.cells #[.int .i64 0, .int .i64 0, .slice none 0 0] 31)) := be_alloc (hb03.trans (hb4.mono hb03.size)) _
    clear hb4
    go_wp2_with fail
    refine (rsameP_any 0 0 [] none none 0 0 0 0 _ rfl rfl (by omega) (fun h => absurd rfl h) (fun h => absurd rfl h)).mono ?_
    rintro e8 w8 ⟨rfl, hb8⟩
    have hb08 := hb04.trans (hb8.mono hb04.size)
    go_wp2_with fail
    refine (cAw _ hb08).mono ?_
    rintro e9 w9 ⟨rfl, hb9⟩
    go_wp2_with fail
    go_ret
    exact ⟨rfl, hb08.trans (hb9.mono hb08.size)⟩
  subst hfz
  obtain ⟨hvl, hrng, -, -, -, -⟩ := faultE_iff.1 hf0
  obtain ⟨a, rfl⟩ := Int.eq_ofNat_of_zero_le (show 0 ≤ wd by omega)
  obtain ⟨b, rfl⟩ := Int.eq_ofNat_of_zero_le (show 0 ≤ hg by omega)
  have ha1 : 1 ≤ a := by omega
  have ha8 : a ≤ 8 := by omega
  have hb1 : 1 ≤ b := by omega
  have hb60 : b ≤ 60 := by omega
  have hm1000 : m ≤ 1000 := by rw [HMM.out]; exact (vld_iff.1 hvl).1
  obtain ⟨hvy, hhv⟩ : ∃ hvy, hvy = heavyB s a := ⟨_, rfl⟩
  have cHv : ∀ W, Below w.heap.size w W → Calls Tryd.prog 10 #[.slice S m cp, .int .i64 (a : Int)] W fun e w' => e = .returned (.bool hvy) ∧ Below W.heap.size W w' := fun W hb => by
    have hh := heavy_any s S m cp a W HMM.out (HS.out.keep hb hb.size) (by omega) (by omega)
    rw [show (decide (60 < m) || !lightB s a) = hvy by rw [hhv, HMM.out]; rfl] at hh
    exact hh
  cases hvy
  rotate_left
  · clear hhv hfe hf0 cFi0
    go_enter Tryd.func3, Tryd.ntmps3
    go_wp2_with fail
    rw [← HW1.out]
    refine (cWd _).mono ?_
    rintro e2 w2 ⟨rfl, hb2⟩
    have hb02 : Below w.heap.size w w2 := HB1.out.trans (hb2.mono HB1.out.size)
    have q2 := (hb2.block w.heap.size (Array.getElem?_eq_some_iff.1 HBK.out).1).trans HBK.out
    obtain ⟨y20, y21, y22, y23, -⟩ := zcells4 q2
    go_wp2_with fail
    refine (cFe _ hb02).mono ?_
    rintro e3 w3 ⟨rfl, hb3⟩
    have hb03 : Below w.heap.size w w3 := hb02.trans (hb3.mono hb02.size)
    have q3 := (hb3.block w.heap.size (Array.getElem?_eq_some_iff.1 q2).1).trans q2
    obtain ⟨y30, y31, y32, y33, -⟩ := zcells4 q3
    clear y20 y21 y22 y23
    go_wp2_with fail
    refine (cHv _ hb03).mono ?_
    rintro e4 w4 ⟨rfl, hb4⟩
    have hb04 : Below w.heap.size w w4 := hb03.trans (hb4.mono hb03.size)
    clear hb4
    go_wp2_with fail
    refine (cAw _ hb04).mono ?_
    rintro e9 w9 ⟨rfl, hb9⟩
    go_wp2_with fail
    go_ret
    exact ⟨rfl, hb04.trans (hb9.mono hb04.size)⟩
  have hlight : m ≤ 60 ∧ pw (colsOf s).length a ≤ 1500 ∧ pw s.length a ≤ 40000 := by
    unfold heavyB lightB at hhv
    have := hhv.symm
    simp only [Bool.or_eq_false_iff, decide_eq_false_iff_not, Bool.not_eq_false', Bool.and_eq_true, decide_eq_true_eq] at this
    exact ⟨by rw [HMM.out]; omega, this.2.1, this.2.2⟩
  obtain ⟨gr, hgr⟩ : ∃ gr, gr = tooM s.length a := ⟨_, rfl⟩
  have cGr : ∀ W, Below w.heap.size w W → Calls Tryd.prog 11 #[.slice S m cp, .int .i64 (a : Int)] W fun e w' => e = .returned (.bool gr) ∧ W = w' := fun W hb => rgreat_any S m cp a gr W (by rw [HMM.out, hgr]) (by omega) (by omega)
  have hok := edOk_of hf0
  have cRc : ∀ W, Below w.heap.size w W → Calls Tryd.prog 12 #[.slice S m cp, .int .i64 (a : Int), .int .i64 (b : Int), .agg #[.slice N nn nc, .slice E en ec, .slice U un uc, .slice V vn vc]] W (IsFirstR s a b d W) := fun W hb => by
    have hh := rfirst_any s S m cp a b d N E U V nc ec uc vc W (fun W' hb' => rows_done s S m cp a W' HMM.out (by omega) (HS.out.keep (hb.trans (hb'.mono hb.size)) (hb.trans (hb'.mono hb.size)).size) ha1 ha8 hlight.2.1 hlight.2.2) HMM.out (by omega) (HS.out.keep hb hb.size) ha1 ha8 hb1 hb60 hok (HE.out.keep hb hb.size) hlight.2.1
    rw [HNN.out, HEN.out, HUN.out, HVN.out]
    exact hh
  cases gr
  rotate_left
  · have hck : checkE s (a : Int) (b : Int) d.n.length d.e.length d.s.length d.w.length = 4 := by
      unfold checkE
      rw [if_neg (by rw [hf0]; simp), if_pos (by rw [Int.toNat_natCast]; exact hgr.symm)]
    have cFi : ∀ W, Below w.heap.size w W → Calls Tryd.prog 8 #[.slice S m cp, .int .i64 (a : Int), .int .i64 (b : Int), .agg #[.slice N nn nc, .slice E en ec, .slice U un uc, .slice V vn vc]] W fun e w' => e = .returned (.tuple #[.agg #[.int .i64 0, .int .i64 0, .slice none 0 0], .int .i64 4]) ∧ Below W.heap.size W w' := fun W hb => (cFi0 W hb).mono fun e w' h => by
      obtain ⟨h1, h2⟩ := h
      rw [hck, if_pos (by decide)] at h2
      exact ⟨h2, h1⟩
    clear hhv hfe hf0 cFi0 hck hgr hok cRc
    go_enter Tryd.func3, Tryd.ntmps3
    go_wp2_with fail
    rw [← HW1.out]
    refine (cWd _).mono ?_
    rintro e2 w2 ⟨rfl, hb2⟩
    have hb02 : Below w.heap.size w w2 := HB1.out.trans (hb2.mono HB1.out.size)
    have q2 := (hb2.block w.heap.size (Array.getElem?_eq_some_iff.1 HBK.out).1).trans HBK.out
    obtain ⟨y20, y21, y22, y23, -⟩ := zcells4 q2
    go_wp2_with fail
    refine (cFe _ hb02).mono ?_
    rintro e3 w3 ⟨rfl, hb3⟩
    have hb03 : Below w.heap.size w w3 := hb02.trans (hb3.mono hb02.size)
    have q3 := (hb3.block w.heap.size (Array.getElem?_eq_some_iff.1 q2).1).trans q2
    obtain ⟨y30, y31, y32, y33, -⟩ := zcells4 q3
    clear y20 y21 y22 y23
    go_wp2_with fail
    refine (cHv _ hb03).mono ?_
    rintro e4 w4 ⟨rfl, hb4⟩
    have hb04 : Below w.heap.size w w4 := hb03.trans (hb4.mono hb03.size)
    have q4 := (hb4.block w.heap.size (Array.getElem?_eq_some_iff.1 q3).1).trans q3
    obtain ⟨y40, y41, y42, y43, -⟩ := zcells4 q4
    clear y30 y31 y32 y33
    go_wp2_with fail
    refine (cFi _ hb04).mono ?_
    rintro e5 w5 ⟨rfl, hb5⟩
    have hb05 : Below w.heap.size w (w5.alloc (.cells #[.int .i64 0, .int .i64 0, .slice none 0 0] 31)) := be_alloc (hb04.trans (hb5.mono hb04.size)) _
    clear hb5
    go_wp2_with fail
    refine (cGr _ hb05).mono ?_
    rintro e6 w6 ⟨rfl, rfl⟩
    go_wp2_with fail
    refine (rsameP_any 0 0 [] none none 0 0 0 0 _ rfl rfl (by omega) (fun h => absurd rfl h) (fun h => absurd rfl h)).mono ?_
    rintro e8 w8 ⟨rfl, hb8⟩
    have hb08 := hb05.trans (hb8.mono hb05.size)
    go_wp2_with fail
    refine (cAw _ hb08).mono ?_
    rintro e9 w9 ⟨rfl, hb9⟩
    go_wp2_with fail
    go_ret
    exact ⟨rfl, hb08.trans (hb9.mono hb08.size)⟩
  have hck : checkE s (a : Int) (b : Int) d.n.length d.e.length d.s.length d.w.length = 0 := checkE_ok hf0 (by rw [Int.toNat_natCast]; exact hgr.symm)
  cases hfi : firstE s a b d with
  | none =>
    have cFi : ∀ W, Below w.heap.size w W → Calls Tryd.prog 8 #[.slice S m cp, .int .i64 (a : Int), .int .i64 (b : Int), .agg #[.slice N nn nc, .slice E en ec, .slice U un uc, .slice V vn vc]] W fun e w' => e = .returned (.tuple #[.agg #[.int .i64 0, .int .i64 0, .slice none 0 0], .int .i64 6]) ∧ Below W.heap.size W w' := fun W hb => (cFi0 W hb).mono fun e w' h => by
      obtain ⟨h1, h2⟩ := h
      rw [if_neg (by rw [hck]; simp), Int.toNat_natCast, Int.toNat_natCast, hfi] at h2
      exact ⟨h2, h1⟩
    have cRf : ∀ W, Below w.heap.size w W → Calls Tryd.prog 12 #[.slice S m cp, .int .i64 (a : Int), .int .i64 (b : Int), .agg #[.slice N nn nc, .slice E en ec, .slice U un uc, .slice V vn vc]] W fun e w' => e = .returned (.tuple #[.agg #[.int .i64 0, .int .i64 0, .slice none 0 0], .bool false]) ∧ Below W.heap.size W w' := fun W hb => (cRc W hb).mono fun e w' h => by
      obtain ⟨h1, h2⟩ := h
      rw [hfi] at h2
      exact ⟨h2, h1⟩
    clear hhv hfe hf0 cFi0 hck hgr hok cRc hfi
    go_enter Tryd.func3, Tryd.ntmps3
    go_wp2_with fail
    rw [← HW1.out]
    refine (cWd _).mono ?_
    rintro e2 w2 ⟨rfl, hb2⟩
    have hb02 : Below w.heap.size w w2 := HB1.out.trans (hb2.mono HB1.out.size)
    have q2 := (hb2.block w.heap.size (Array.getElem?_eq_some_iff.1 HBK.out).1).trans HBK.out
    obtain ⟨y20, y21, y22, y23, -⟩ := zcells4 q2
    go_wp2_with fail
    refine (cFe _ hb02).mono ?_
    rintro e3 w3 ⟨rfl, hb3⟩
    have hb03 : Below w.heap.size w w3 := hb02.trans (hb3.mono hb02.size)
    have q3 := (hb3.block w.heap.size (Array.getElem?_eq_some_iff.1 q2).1).trans q2
    obtain ⟨y30, y31, y32, y33, -⟩ := zcells4 q3
    clear y20 y21 y22 y23
    go_wp2_with fail
    refine (cHv _ hb03).mono ?_
    rintro e4 w4 ⟨rfl, hb4⟩
    have hb04 : Below w.heap.size w w4 := hb03.trans (hb4.mono hb03.size)
    have q4 := (hb4.block w.heap.size (Array.getElem?_eq_some_iff.1 q3).1).trans q3
    obtain ⟨y40, y41, y42, y43, -⟩ := zcells4 q4
    clear y30 y31 y32 y33
    go_wp2_with fail
    refine (cFi _ hb04).mono ?_
    rintro e5 w5 ⟨rfl, hb5⟩
    obtain ⟨W5, hW5⟩ : ∃ W5, W5 = w5.alloc (.cells #[.int .i64 0, .int .i64 0, .slice none 0 0] 31) := ⟨_, rfl⟩
    have hb55 : Below w5.heap.size w5 W5 := by rw [hW5]; exact be_alloc (Below.refl _ _) _
    have hb45 : Below w4.heap.size w4 W5 := hb5.trans (hb55.mono hb5.size)
    have hb05 : Below w.heap.size w W5 := hb04.trans (hb45.mono hb04.size)
    have q5 := (hb45.block w.heap.size (Array.getElem?_eq_some_iff.1 q4).1).trans q4
    obtain ⟨y50, y51, y52, y53, -⟩ := zcells4 q5
    have hp5 : W5.heap[w5.heap.size]? = some (.cells #[.int .i64 0, .int .i64 0, .slice none 0 0] 31 (0, 0)) := by rw [hW5]; exact heap_at _ _ _ rfl
    clear y40 y41 y42 y43
    go_upto_region 10 with fail
    rw [← hW5]
    clear hW5
    go_wp2_with fail
    refine (cRf _ hb05).mono ?_
    rintro e7 w7 ⟨rfl, hb7⟩
    obtain ⟨W7, hW7⟩ : ∃ W7, W7 = w7.alloc (.cells #[.int .i64 0, .int .i64 0, .slice none 0 0] 31) := ⟨_, rfl⟩
    have hb77 : Below w7.heap.size w7 W7 := by rw [hW7]; exact be_alloc (Below.refl _ _) _
    have hb57 : Below W5.heap.size W5 W7 := hb7.trans (hb77.mono hb7.size)
    have hb07 : Below w.heap.size w W7 := hb05.trans (hb57.mono hb05.size)
    obtain ⟨x0, x1, x2, -⟩ := zcells ((hb57.block w5.heap.size (Array.getElem?_eq_some_iff.1 hp5).1).trans hp5)
    clear y50 y51 y52 y53
    go_upto_region 13 with fail
    rw [← hW7]
    clear hW7
    go_wp2_with fail
    refine (rsameP_any 0 0 [] none none 0 0 0 0 _ rfl rfl (by omega) (fun h => absurd rfl h) (fun h => absurd rfl h)).mono ?_
    rintro e8 w8 ⟨rfl, hb8⟩
    have hb08 := hb07.trans (hb8.mono hb07.size)
    go_wp2_with fail
    refine (cAw _ hb08).mono ?_
    rintro e9 w9 ⟨rfl, hb9⟩
    go_wp2_with fail
    go_ret
    exact ⟨rfl, hb08.trans (hb9.mono hb08.size)⟩
  | some l =>
    have hln : l.length ≤ 480 := by
      obtain ⟨t, ht, rfl⟩ := first_mem hfi
      have hs := ((mem_stksE s a b d ha1 hb1 hok t).1 ht).1
      rw [flatR_len t hs.2, hs.1]
      have := Nat.mul_le_mul hb60 ha8
      omega
    have cFi : ∀ W, Below w.heap.size w W → Calls Tryd.prog 8 #[.slice S m cp, .int .i64 (a : Int), .int .i64 (b : Int), .agg #[.slice N nn nc, .slice E en ec, .slice U un uc, .slice V vn vc]] W fun e w' => (∃ A cc, e = .returned (.tuple #[.agg #[.int .i64 (a : Int), .int .i64 (b : Int), .slice A l.length cc], .int .i64 0]) ∧ IntsIn w' w'.heap.size A (idxI l)) ∧ Below W.heap.size W w' := fun W hb => (cFi0 W hb).mono fun e w' h => by
      obtain ⟨h1, h2⟩ := h
      rw [if_neg (by rw [hck]; simp), Int.toNat_natCast, Int.toNat_natCast, hfi] at h2
      obtain ⟨v, he', ho⟩ := h2
      obtain ⟨A, cc, rfl, -, -, -, hi', -⟩ := own_ints ho
      exact ⟨⟨A, cc, he', hi'⟩, h1⟩
    have cRf : ∀ W, Below w.heap.size w W → Calls Tryd.prog 12 #[.slice S m cp, .int .i64 (a : Int), .int .i64 (b : Int), .agg #[.slice N nn nc, .slice E en ec, .slice U un uc, .slice V vn vc]] W fun e w' => (∃ A cc, e = .returned (.tuple #[.agg #[.int .i64 (a : Int), .int .i64 (b : Int), .slice A l.length cc], .bool true]) ∧ IntsIn w' w'.heap.size A (idxI l)) ∧ Below W.heap.size W w' := fun W hb => (cRc W hb).mono fun e w' h => by
      obtain ⟨h1, h2⟩ := h
      rw [hfi] at h2
      exact ⟨h2, h1⟩
    obtain ⟨ln, hle⟩ : ∃ ln, ln = l.length := ⟨_, rfl⟩
    rw [← hle] at cFi cRf hln
    have HLN : Hid (ln = (idxI l).length) := by show _ = _; rw [hle]; simp [idxI]
    clear hhv hfe hf0 cFi0 hck hgr hok cRc hfi hle
    go_enter Tryd.func3, Tryd.ntmps3
    go_wp2_with fail
    rw [← HW1.out]
    refine (cWd _).mono ?_
    rintro e2 w2 ⟨rfl, hb2⟩
    have hb02 : Below w.heap.size w w2 := HB1.out.trans (hb2.mono HB1.out.size)
    have q2 := (hb2.block w.heap.size (Array.getElem?_eq_some_iff.1 HBK.out).1).trans HBK.out
    obtain ⟨y20, y21, y22, y23, -⟩ := zcells4 q2
    go_wp2_with fail
    refine (cFe _ hb02).mono ?_
    rintro e3 w3 ⟨rfl, hb3⟩
    have hb03 : Below w.heap.size w w3 := hb02.trans (hb3.mono hb02.size)
    have q3 := (hb3.block w.heap.size (Array.getElem?_eq_some_iff.1 q2).1).trans q2
    obtain ⟨y30, y31, y32, y33, -⟩ := zcells4 q3
    clear y20 y21 y22 y23
    go_wp2_with fail
    refine (cHv _ hb03).mono ?_
    rintro e4 w4 ⟨rfl, hb4⟩
    have hb04 : Below w.heap.size w w4 := hb03.trans (hb4.mono hb03.size)
    have q4 := (hb4.block w.heap.size (Array.getElem?_eq_some_iff.1 q3).1).trans q3
    obtain ⟨y40, y41, y42, y43, -⟩ := zcells4 q4
    clear y30 y31 y32 y33
    go_wp2_with fail
    refine (cFi _ hb04).mono ?_
    rintro e5 w5 ⟨⟨A5, c5, rfl, hI5⟩, hb5⟩
    obtain ⟨W5, hW5⟩ : ∃ W5, W5 = w5.alloc (.cells #[.int .i64 (a : Int), .int .i64 (b : Int), .slice A5 ln c5] 31) := ⟨_, rfl⟩
    have hb55 : Below w5.heap.size w5 W5 := by rw [hW5]; exact be_alloc (Below.refl _ _) _
    have hb45 : Below w4.heap.size w4 W5 := hb5.trans (hb55.mono hb5.size)
    have hb05 : Below w.heap.size w W5 := hb04.trans (hb45.mono hb04.size)
    have q5 := (hb45.block w.heap.size (Array.getElem?_eq_some_iff.1 q4).1).trans q4
    obtain ⟨y50, y51, y52, y53, -⟩ := zcells4 q5
    have hp5 : W5.heap[w5.heap.size]? = some (.cells #[.int .i64 (a : Int), .int .i64 (b : Int), .slice A5 ln c5] 31 (0, 0)) := by rw [hW5]; exact heap_at _ _ _ rfl
    have HI5 := Lib.hid (hI5.keep hb55 hb55.size)
    clear y40 y41 y42 y43 hI5
    go_upto_region 10 with fail
    rw [← hW5]
    clear hW5
    go_wp2_with fail
    refine (cRf _ hb05).mono ?_
    rintro e7 w7 ⟨⟨A7, c7, rfl, hI7⟩, hb7⟩
    obtain ⟨W7, hW7⟩ : ∃ W7, W7 = w7.alloc (.cells #[.int .i64 (a : Int), .int .i64 (b : Int), .slice A7 ln c7] 31) := ⟨_, rfl⟩
    have hb77 : Below w7.heap.size w7 W7 := by rw [hW7]; exact be_alloc (Below.refl _ _) _
    have hb57 : Below W5.heap.size W5 W7 := hb7.trans (hb77.mono hb7.size)
    have hb07 : Below w.heap.size w W7 := hb05.trans (hb57.mono hb05.size)
    have hp7 : W7.heap[w7.heap.size]? = some (.cells #[.int .i64 (a : Int), .int .i64 (b : Int), .slice A7 ln c7] 31 (0, 0)) := by rw [hW7]; exact heap_at _ _ _ rfl
    obtain ⟨x0, x1, x2, -⟩ := zcells ((hb57.block w5.heap.size (Array.getElem?_eq_some_iff.1 hp5).1).trans hp5)
    obtain ⟨x3, x4, x5, -⟩ := zcells hp7
    have HI57 := Lib.hid (HI5.out.keep hb57 hb57.size)
    have HI7 := Lib.hid (hI7.keep hb77 hb77.size)
    clear y50 y51 y52 y53 hI7
    go_upto_region 13 with fail
    rw [← hW7]
    clear hW7
    go_wp2_with fail
    refine (rsameP_any (a : Int) (b : Int) (idxI l) A5 A7 ln ln c5 c7 _ HLN.out HLN.out (by omega) HI57.out HI7.out).mono ?_
    rintro e8 w8 ⟨rfl, hb8⟩
    have hb08 := hb07.trans (hb8.mono hb07.size)
    go_wp2_with fail
    refine (cAw _ hb08).mono ?_
    rintro e9 w9 ⟨rfl, hb9⟩
    go_wp2_with fail
    go_ret
    exact ⟨rfl, hb08.trans (hb9.mono hb08.size)⟩
end Go.Proofs.YtfepgemopcpgmaaDoor

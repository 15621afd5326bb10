/-
  groutworklaw02.FillCounts, given what the reference's Rows returns.
-/
import Derived.Test.YtnmigjohomdbnaaDoorRk
import Derived.Test.YtnmigjohomdbnaaDoorSl
import Derived.Test.YtnmigjohomdbnaaDoorAx
namespace Go.Proofs.YtnmigjohomdbnaaDoor
open Go.RowKit Go.Maps Go.BigFrame
set_option linter.unusedVariables false
set_option linter.unusedSimpArgs false
set_option maxRecDepth 100000

/-- what is to be shown of Rows -/
def RowsOk : Prop := ∀ (s : List Tl) (S : Option Addr) (m sc a : Nat) (W : World), m = s.length → m ≤ 1000 → SetIn W W.heap.size S s → 1 ≤ a → a ≤ 8 → pw (colsOf s).length a ≤ 1500 → pw s.length a ≤ 40000 →
  Calls Tryd.prog 27 #[.slice S m sc, .int .i64 (a : Int)] W (IsRowsR s a W)
theorem faultE_pos (s : List Tl) (wd hg : Int) (n e u v : Nat) : faultE s wd hg n e u v = 0 ∨ faultE s wd hg n e u v = 1 ∨ faultE s wd hg n e u v = 2 := by
  unfold faultE
  split
  · exact Or.inr (Or.inl rfl)
  · split
    · exact Or.inr (Or.inr rfl)
    · split
      · exact Or.inl rfl
      · exact Or.inr (Or.inr rfl)
set_option maxHeartbeats 8000000 in
theorem fcounts_any (hRows : RowsOk) (s : List Tl) (d : Ed) (S : Option Addr) (m cp : Nat) (wd hg : Int) (N E U V : Option Addr) (nc ec uc vc : Nat) (w : World) (hEnv : Env w) (hm : m = s.length) (hmd : m ≤ cp) (hdl : cp ≤ 9223372036854775807) (hS : SetIn w w.heap.size S s) (hwf : ∀ t ∈ s, twf t) (hml : m ≤ 9223372036854775807)
    (hn : d.n.length ≤ 9223372036854775807) (he : d.e.length ≤ 9223372036854775807) (hu : d.s.length ≤ 9223372036854775807) (hv : d.w.length ≤ 9223372036854775807) (hE : EdIn w w.heap.size N E U V d) :
    Calls Tryd.prog 3 #[.slice S m cp, .int .i64 wd, .int .i64 hg, .agg #[.slice N d.n.length nc, .slice E d.e.length ec, .slice U d.s.length uc, .slice V d.w.length vc]] w fun e' w' => e' = .returned (.bool true) ∧ Below w.heap.size w w' := by
  obtain ⟨en, hen⟩ : ∃ en, en = d.e.length := ⟨_, rfl⟩
  obtain ⟨un, hun⟩ : ∃ un, un = d.s.length := ⟨_, rfl⟩
  obtain ⟨vn, hvn⟩ : ∃ vn, vn = d.w.length := ⟨_, rfl⟩
  obtain ⟨nn, hnn⟩ : ∃ nn, nn = d.n.length := ⟨_, rfl⟩
  obtain ⟨W1, hW1⟩ : ∃ W1, W1 = w.alloc (.cells #[.slice N nn nc, .slice E en ec, .slice U un uc, .slice V vn vc] 25) := ⟨_, rfl⟩
  have hblk1 : W1.heap[w.heap.size]? = some (.cells #[.slice N nn nc, .slice E en ec, .slice U un uc, .slice V vn vc] 25 (0, 0)) := by rw [hW1]; exact heap_alloc_new w _
  have hb1 : Below w.heap.size w W1 := by rw [hW1]; exact (Below.refl _ _).alloc (Nat.le_refl _) _
  have hz1 : w.heap.size < W1.heap.size := (Array.getElem?_eq_some_iff.1 hblk1).1
  rw [← hen, ← hun, ← hvn, ← hnn]
  have cAw : ∀ W, Below w.heap.size w W → Calls Tryd.prog 6 #[] W fun e w' => e = .returned (.bool true) ∧ Below W.heap.size W w' := fun W hb => awake2_any W (hEnv.keep hb)
  obtain ⟨wb, hwb⟩ : ∃ wb, wb = wideB m nn en un vn := ⟨_, rfl⟩
  have cWd : ∀ W, Calls Tryd.prog 5 #[.slice S m cp, .agg #[.slice N nn nc, .slice E en ec, .slice U un uc, .slice V vn vc]] W fun e w' => e = .returned (.bool wb) ∧ Below W.heap.size W w' := fun W => by
    have hh := wide_any m cp nn nc en ec un uc vn vc S N E U V W
    rw [show decide _ = wb from hwb.symm] at hh
    exact hh
  have HW1 := Lib.hid hW1
  have HB1 := Lib.hid hb1
  have HBK := Lib.hid hblk1
  have HNN := Lib.hid hnn
  have HEN := Lib.hid hen
  have HUN := Lib.hid hun
  have HVN := Lib.hid hvn
  have HMM := Lib.hid hm
  have HS := Lib.hid hS
  have HWF := Lib.hid hwf
  have HE := Lib.hid hE
  have HRO := Lib.hid hRows
  have HENV := Lib.hid hEnv
  clear hW1 hb1 hblk1 hnn hen hun hvn hm hS hwf hE hRows hEnv
  cases wb
  rotate_left
  · clear hwb
    go_enter Tryd.func3, Tryd.ntmps3
    go_wp2_with fail
    rw [← HW1.out]
    refine (cWd _).mono ?_
    rintro e2 w2 ⟨rfl, hb2⟩
    have hb02 : Below w.heap.size w w2 := HB1.out.trans (hb2.mono HB1.out.size)
    have q2 := (hb2.block w.heap.size (Array.getElem?_eq_some_iff.1 HBK.out).1).trans HBK.out
    obtain ⟨y20, y21, y22, y23, -⟩ := zcells4 q2
    go_wp2_with fail
    refine (cAw _ hb02).mono ?_
    rintro e9 w9 ⟨rfl, hb9⟩
    go_wp2_with fail
    go_ret
    exact ⟨rfl, hb02.trans (hb9.mono hb02.size)⟩
  have hm1100 : m ≤ 1100 := by
    unfold wideB at hwb
    have := of_decide_eq_false hwb.symm
    omega
  clear hwb
  obtain ⟨fe, hfe⟩ : ∃ fe, fe = faultE s wd hg nn en un vn := ⟨_, rfl⟩
  have cFe : ∀ W, Below w.heap.size w W → Calls Tryd.prog 7 #[.slice S m cp, .int .i64 wd, .int .i64 hg, .agg #[.slice N nn nc, .slice E en ec, .slice U un uc, .slice V vn vc]] W fun e w' => e = .returned (.int .i64 fe) ∧ Below W.heap.size W w' := fun W hb => by
    have hh := rfault_any s S m cp wd hg N E U V nn en un vn nc ec uc vc W HMM.out hmd hdl (HS.out.keep hb hb.size) HWF.out hml (by rw [HNN.out]; exact hn) (by rw [HEN.out]; exact he) (by rw [HUN.out]; exact hu) (by rw [HVN.out]; exact hv)
    rw [← hfe] at hh
    exact hh
  have hf0 : faultE s wd hg d.n.length d.e.length d.s.length d.w.length = fe := by rw [hfe, HNN.out, HEN.out, HUN.out, HVN.out]
  have cCt0 : ∀ W, Below w.heap.size w W → Calls Tryd.prog 8 #[.slice S m cp, .int .i64 wd, .int .i64 hg, .agg #[.slice N nn nc, .slice E en ec, .slice U un uc, .slice V vn vc]] W fun e w' => e = .returned (countRes s wd hg d) ∧ Below W.heap.size W w' := fun W hb => by
    have hh := count_any s d S m cp wd hg N E U V nc ec uc vc W HMM.out (HS.out.keep hb hb.size) HWF.out (by omega) hn he hu hv (HE.out.keep hb hb.size)
    rw [HNN.out, HEN.out, HUN.out, HVN.out]
    exact hh
  by_cases hfz : fe = 0
  rotate_left
  · have hcr : countRes s wd hg d = .tuple #[.int .i64 0, .int .i64 fe] := by
      unfold countRes checkE
      rw [hf0, if_pos hfz, if_pos hfz]
    have cCt : ∀ W, Below w.heap.size w W → Calls Tryd.prog 8 #[.slice S m cp, .int .i64 wd, .int .i64 hg, .agg #[.slice N nn nc, .slice E en ec, .slice U un uc, .slice V vn vc]] W fun e w' => e = .returned (.tuple #[.int .i64 0, .int .i64 fe]) ∧ Below W.heap.size W w' := fun W hb => by rw [← hcr]; exact cCt0 W hb
    have hdz : (fe != 0) = true := by rw [bne_iff_ne]; exact hfz
    clear hfe hf0 hcr cCt0 hfz
    go_enter Tryd.func3, Tryd.ntmps3
    go_wp2_with fail
    rw [← HW1.out]
    refine (cWd _).mono ?_
    rintro e2 w2 ⟨rfl, hb2⟩
    have hb02 : Below w.heap.size w w2 := HB1.out.trans (hb2.mono HB1.out.size)
    have q2 := (hb2.block w.heap.size (Array.getElem?_eq_some_iff.1 HBK.out).1).trans HBK.out
    obtain ⟨y20, y21, y22, y23, -⟩ := zcells4 q2
    go_wp2_with fail
    refine (cFe _ hb02).mono ?_
    rintro e3 w3 ⟨rfl, hb3⟩
    have hb03 : Below w.heap.size w w3 := hb02.trans (hb3.mono hb02.size)
    have q3 := (hb3.block w.heap.size (Array.getElem?_eq_some_iff.1 q2).1).trans q2
    obtain ⟨y30, y31, y32, y33, -⟩ := zcells4 q3
    clear y20 y21 y22 y23
    go_wp2_with fail
    refine (cCt _ hb03).mono ?_
    rintro e4 w4 ⟨rfl, hb4⟩
    have hb04 : Below w.heap.size w w4 := hb03.trans (hb4.mono hb03.size)
    clear hb4
    go_wp2_with fail
    refine (cAw _ hb04).mono ?_
    rintro e9 w9 ⟨rfl, hb9⟩
    go_wp2_with fail
    go_ret
    exact ⟨rfl, hb04.trans (hb9.mono hb04.size)⟩
  subst hfz
  obtain ⟨hvl, hrng, -, -, -, -⟩ := faultE_iff.1 hf0
  obtain ⟨a, rfl⟩ := Int.eq_ofNat_of_zero_le (show 0 ≤ wd by omega)
  obtain ⟨b, rfl⟩ := Int.eq_ofNat_of_zero_le (show 0 ≤ hg by omega)
  have ha1 : 1 ≤ a := by omega
  have ha8 : a ≤ 8 := by omega
  have hb1 : 1 ≤ b := by omega
  have hb60 : b ≤ 60 := by omega
  have hm1000 : m ≤ 1000 := by rw [HMM.out]; exact (vld_iff.1 hvl).1
  obtain ⟨hvy, hhv⟩ : ∃ hvy, hvy = heavyB s a := ⟨_, rfl⟩
  have cHv : ∀ W, Below w.heap.size w W → Calls Tryd.prog 9 #[.slice S m cp, .int .i64 (a : Int)] W fun e w' => e = .returned (.bool hvy) ∧ Below W.heap.size W w' := fun W hb => by
    have hh := heavy_any s S m cp a W HMM.out (HS.out.keep hb hb.size) (by omega) (by omega)
    rw [show (decide (60 < m) || !lightB s a) = hvy by rw [hhv, HMM.out]; rfl] at hh
    exact hh
  cases hvy
  rotate_left
  · clear hhv hfe hf0 cCt0
    go_enter Tryd.func3, Tryd.ntmps3
    go_wp2_with fail
    rw [← HW1.out]
    refine (cWd _).mono ?_
    rintro e2 w2 ⟨rfl, hb2⟩
    have hb02 : Below w.heap.size w w2 := HB1.out.trans (hb2.mono HB1.out.size)
    have q2 := (hb2.block w.heap.size (Array.getElem?_eq_some_iff.1 HBK.out).1).trans HBK.out
    obtain ⟨y20, y21, y22, y23, -⟩ := zcells4 q2
    go_wp2_with fail
    refine (cFe _ hb02).mono ?_
    rintro e3 w3 ⟨rfl, hb3⟩
    have hb03 : Below w.heap.size w w3 := hb02.trans (hb3.mono hb02.size)
    have q3 := (hb3.block w.heap.size (Array.getElem?_eq_some_iff.1 q2).1).trans q2
    obtain ⟨y30, y31, y32, y33, -⟩ := zcells4 q3
    clear y20 y21 y22 y23
    go_wp2_with fail
    refine (cHv _ hb03).mono ?_
    rintro e4 w4 ⟨rfl, hb4⟩
    have hb04 : Below w.heap.size w w4 := hb03.trans (hb4.mono hb03.size)
    clear hb4
    go_wp2_with fail
    refine (cAw _ hb04).mono ?_
    rintro e9 w9 ⟨rfl, hb9⟩
    go_wp2_with fail
    go_ret
    exact ⟨rfl, hb04.trans (hb9.mono hb04.size)⟩
  have hlight : m ≤ 60 ∧ pw (colsOf s).length a ≤ 1500 ∧ pw s.length a ≤ 40000 := by
    unfold heavyB lightB at hhv
    have := hhv.symm
    simp only [Bool.or_eq_false_iff, decide_eq_false_iff_not, Bool.not_eq_false', Bool.and_eq_true, decide_eq_true_eq] at this
    exact ⟨by rw [HMM.out]; omega, this.2.1, this.2.2⟩
  obtain ⟨gr, hgr⟩ : ∃ gr, gr = tooM s.length a := ⟨_, rfl⟩
  have cGr : ∀ W, Below w.heap.size w W → Calls Tryd.prog 10 #[.slice S m cp, .int .i64 (a : Int)] W fun e w' => e = .returned (.bool gr) ∧ W = w' := fun W hb => rgreat_any S m cp a gr W (by rw [HMM.out, hgr]) (by omega) (by omega)
  have hok := edOk_of hf0
  obtain ⟨n, hn'⟩ : ∃ n, n = countE s a b d := ⟨_, rfl⟩
  have cRc : ∀ W, Below w.heap.size w W → Calls Tryd.prog 11 #[.slice S m cp, .int .i64 (a : Int), .int .i64 (b : Int), .agg #[.slice N nn nc, .slice E en ec, .slice U un uc, .slice V vn vc]] W fun e w' => e = .returned (.int .i64 ((min n cap : Nat) : Int)) ∧ Below W.heap.size W w' := fun W hb => by
    have hh := rcount_any s S m cp a b d N E U V nc ec uc vc W (fun W' hb' => HRO.out s S m cp a W' HMM.out (by omega) (HS.out.keep (hb.trans (hb'.mono hb.size)) (hb.trans (hb'.mono hb.size)).size) ha1 ha8 hlight.2.1 hlight.2.2) HMM.out (by omega) (HS.out.keep hb hb.size) ha1 ha8 hb1 hb60 hok (HE.out.keep hb hb.size) hlight.2.1
    rw [HNN.out, HEN.out, HUN.out, HVN.out, hn']
    exact hh
  cases gr
  rotate_left
  · have hcr : countRes s (a : Int) (b : Int) d = .tuple #[.int .i64 0, .int .i64 4] := by
      have hck : checkE s (a : Int) (b : Int) d.n.length d.e.length d.s.length d.w.length = 4 := by
        unfold checkE
        rw [if_neg (by rw [hf0]; simp), if_pos (by rw [Int.toNat_natCast]; exact hgr.symm)]
      unfold countRes
      rw [hck, if_pos (by decide)]
    have cCt : ∀ W, Below w.heap.size w W → Calls Tryd.prog 8 #[.slice S m cp, .int .i64 (a : Int), .int .i64 (b : Int), .agg #[.slice N nn nc, .slice E en ec, .slice U un uc, .slice V vn vc]] W fun e w' => e = .returned (.tuple #[.int .i64 0, .int .i64 4]) ∧ Below W.heap.size W w' := fun W hb => by rw [← hcr]; exact cCt0 W hb
    clear hhv hfe hf0 cCt0 hcr hgr hn' hok
    go_enter Tryd.func3, Tryd.ntmps3
    go_wp2_with fail
    rw [← HW1.out]
    refine (cWd _).mono ?_
    rintro e2 w2 ⟨rfl, hb2⟩
    have hb02 : Below w.heap.size w w2 := HB1.out.trans (hb2.mono HB1.out.size)
    have q2 := (hb2.block w.heap.size (Array.getElem?_eq_some_iff.1 HBK.out).1).trans HBK.out
    obtain ⟨y20, y21, y22, y23, -⟩ := zcells4 q2
    go_wp2_with fail
    refine (cFe _ hb02).mono ?_
    rintro e3 w3 ⟨rfl, hb3⟩
    have hb03 : Below w.heap.size w w3 := hb02.trans (hb3.mono hb02.size)
    have q3 := (hb3.block w.heap.size (Array.getElem?_eq_some_iff.1 q2).1).trans q2
    obtain ⟨y30, y31, y32, y33, -⟩ := zcells4 q3
    clear y20 y21 y22 y23
    go_wp2_with fail
    refine (cHv _ hb03).mono ?_
    rintro e4 w4 ⟨rfl, hb4⟩
    have hb04 : Below w.heap.size w w4 := hb03.trans (hb4.mono hb03.size)
    have q4 := (hb4.block w.heap.size (Array.getElem?_eq_some_iff.1 q3).1).trans q3
    obtain ⟨y40, y41, y42, y43, -⟩ := zcells4 q4
    clear y30 y31 y32 y33
    go_wp2_with fail
    refine (cCt _ hb04).mono ?_
    rintro e5 w5 ⟨rfl, hb5⟩
    have hb05 : Below w.heap.size w w5 := hb04.trans (hb5.mono hb04.size)
    have q5 := (hb5.block w.heap.size (Array.getElem?_eq_some_iff.1 q4).1).trans q4
    obtain ⟨y50, y51, y52, y53, -⟩ := zcells4 q5
    clear y40 y41 y42 y43
    go_wp2_with fail
    refine (cGr _ hb05).mono ?_
    rintro e6 w6 ⟨rfl, rfl⟩
    go_wp2_with fail
    refine (cAw _ hb05).mono ?_
    rintro e9 w9 ⟨rfl, hb9⟩
    go_wp2_with fail
    go_ret
    exact ⟨rfl, hb05.trans (hb9.mono hb05.size)⟩
  have hcr0 := countRes_ok hf0 (by simpa using hgr.symm)
  simp only [Int.toNat_natCast] at hcr0
  rw [← hn'] at hcr0
  by_cases hbig : 1152921504606846976 < n
  · rw [if_pos hbig] at hcr0
    have cCt : ∀ W, Below w.heap.size w W → Calls Tryd.prog 8 #[.slice S m cp, .int .i64 (a : Int), .int .i64 (b : Int), .agg #[.slice N nn nc, .slice E en ec, .slice U un uc, .slice V vn vc]] W fun e w' => e = .returned (.tuple #[.int .i64 0, .int .i64 4]) ∧ Below W.heap.size W w' := fun W hb => by rw [← hcr0]; exact cCt0 W hb
    obtain ⟨want, hwant⟩ : ∃ want, want = min n cap := ⟨_, rfl⟩
    have hw2 : (1152921504606846976 : Int) < (want : Int) := by rw [hwant]; unfold cap; omega
    rw [← hwant] at cRc
    clear hhv hfe hf0 cCt0 hcr0 hgr hn' hok hwant hbig
    go_enter Tryd.func3, Tryd.ntmps3
    go_wp2_with fail
    rw [← HW1.out]
    refine (cWd _).mono ?_
    rintro e2 w2 ⟨rfl, hb2⟩
    have hb02 : Below w.heap.size w w2 := HB1.out.trans (hb2.mono HB1.out.size)
    have q2 := (hb2.block w.heap.size (Array.getElem?_eq_some_iff.1 HBK.out).1).trans HBK.out
    obtain ⟨y20, y21, y22, y23, -⟩ := zcells4 q2
    go_wp2_with fail
    refine (cFe _ hb02).mono ?_
    rintro e3 w3 ⟨rfl, hb3⟩
    have hb03 : Below w.heap.size w w3 := hb02.trans (hb3.mono hb02.size)
    have q3 := (hb3.block w.heap.size (Array.getElem?_eq_some_iff.1 q2).1).trans q2
    obtain ⟨y30, y31, y32, y33, -⟩ := zcells4 q3
    clear y20 y21 y22 y23
    go_wp2_with fail
    refine (cHv _ hb03).mono ?_
    rintro e4 w4 ⟨rfl, hb4⟩
    have hb04 : Below w.heap.size w w4 := hb03.trans (hb4.mono hb03.size)
    have q4 := (hb4.block w.heap.size (Array.getElem?_eq_some_iff.1 q3).1).trans q3
    obtain ⟨y40, y41, y42, y43, -⟩ := zcells4 q4
    clear y30 y31 y32 y33
    go_wp2_with fail
    refine (cCt _ hb04).mono ?_
    rintro e5 w5 ⟨rfl, hb5⟩
    have hb05 : Below w.heap.size w w5 := hb04.trans (hb5.mono hb04.size)
    have q5 := (hb5.block w.heap.size (Array.getElem?_eq_some_iff.1 q4).1).trans q4
    obtain ⟨y50, y51, y52, y53, -⟩ := zcells4 q5
    clear y40 y41 y42 y43
    go_wp2_with fail
    refine (cGr _ hb05).mono ?_
    rintro e6 w6 ⟨rfl, rfl⟩
    go_wp2_with fail
    refine (cRc _ hb05).mono ?_
    rintro e7 w7 ⟨rfl, hb7⟩
    have hb07 : Below w.heap.size w w7 := hb05.trans (hb7.mono hb05.size)
    clear hb7
    go_wp2_with fail
    refine (cAw _ hb07).mono ?_
    rintro e9 w9 ⟨rfl, hb9⟩
    go_wp2_with fail
    go_ret
    exact ⟨rfl, hb07.trans (hb9.mono hb07.size)⟩
  · rw [if_neg hbig] at hcr0
    have cCt : ∀ W, Below w.heap.size w W → Calls Tryd.prog 8 #[.slice S m cp, .int .i64 (a : Int), .int .i64 (b : Int), .agg #[.slice N nn nc, .slice E en ec, .slice U un uc, .slice V vn vc]] W fun e w' => e = .returned (.tuple #[.int .i64 (n : Int), .int .i64 0]) ∧ Below W.heap.size W w' := fun W hb => by rw [← hcr0]; exact cCt0 W hb
    have hwn : min n cap = n := by unfold cap; omega
    rw [hwn] at cRc
    have hw2 : ¬ ((1152921504606846976 : Int) < (n : Int)) := by omega
    clear hhv hfe hf0 cCt0 hcr0 hgr hn' hok hwn hbig
    go_enter Tryd.func3, Tryd.ntmps3
    go_wp2_with fail
    rw [← HW1.out]
    refine (cWd _).mono ?_
    rintro e2 w2 ⟨rfl, hb2⟩
    have hb02 : Below w.heap.size w w2 := HB1.out.trans (hb2.mono HB1.out.size)
    have q2 := (hb2.block w.heap.size (Array.getElem?_eq_some_iff.1 HBK.out).1).trans HBK.out
    obtain ⟨y20, y21, y22, y23, -⟩ := zcells4 q2
    go_wp2_with fail
    refine (cFe _ hb02).mono ?_
    rintro e3 w3 ⟨rfl, hb3⟩
    have hb03 : Below w.heap.size w w3 := hb02.trans (hb3.mono hb02.size)
    have q3 := (hb3.block w.heap.size (Array.getElem?_eq_some_iff.1 q2).1).trans q2
    obtain ⟨y30, y31, y32, y33, -⟩ := zcells4 q3
    clear y20 y21 y22 y23
    go_wp2_with fail
    refine (cHv _ hb03).mono ?_
    rintro e4 w4 ⟨rfl, hb4⟩
    have hb04 : Below w.heap.size w w4 := hb03.trans (hb4.mono hb03.size)
    have q4 := (hb4.block w.heap.size (Array.getElem?_eq_some_iff.1 q3).1).trans q3
    obtain ⟨y40, y41, y42, y43, -⟩ := zcells4 q4
    clear y30 y31 y32 y33
    go_wp2_with fail
    refine (cCt _ hb04).mono ?_
    rintro e5 w5 ⟨rfl, hb5⟩
    have hb05 : Below w.heap.size w w5 := hb04.trans (hb5.mono hb04.size)
    have q5 := (hb5.block w.heap.size (Array.getElem?_eq_some_iff.1 q4).1).trans q4
    obtain ⟨y50, y51, y52, y53, -⟩ := zcells4 q5
    clear y40 y41 y42 y43
    go_wp2_with fail
    refine (cRc _ hb05).mono ?_
    rintro e7 w7 ⟨rfl, hb7⟩
    have hb07 : Below w.heap.size w w7 := hb05.trans (hb7.mono hb05.size)
    clear hb7
    go_wp2_with fail
    refine (cAw _ hb07).mono ?_
    rintro e9 w9 ⟨rfl, hb9⟩
    go_wp2_with fail
    go_ret
    exact ⟨rfl, hb07.trans (hb9.mono hb07.size)⟩
end Go.Proofs.YtnmigjohomdbnaaDoor

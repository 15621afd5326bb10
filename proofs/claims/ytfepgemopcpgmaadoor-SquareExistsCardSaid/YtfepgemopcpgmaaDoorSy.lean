/-
  groutworklaw05.SquareExists returns true, for every set, side and limit.
-/
import Derived.Test.YtfepgemopcpgmaaDoorSx
namespace Go.Proofs.YtfepgemopcpgmaaDoor
open Go.RowKit Go.Maps Go.BigFrame
set_option linter.unusedVariables false
set_option linter.unusedSimpArgs false
set_option maxRecDepth 100000

set_option maxHeartbeats 4000000 in
theorem one_any (s : List Tl) (S : Option Addr) (m cp : Nat) (n due : Int) (w : World) (hm : m = s.length) (hS : SetIn w w.heap.size S s) (hwf : ∀ t ∈ s, twf t) (hml : m ≤ 9223372036854775807) (hdue : due = sideE5 s n) (hl : due = 0 → lightB s n.toNat = true) :
    Calls Tryd.prog 16 #[.slice S m cp, .int .i64 n, .int .i64 due] w fun e w' => e = .returned (.bool true) ∧ Below w.heap.size w w' := by
  have hex := fun (W : World) (hb : Below w.heap.size w W) => exists_any s S m cp n W hm (hS.keep hb hb.size) hwf hml
  have hex1 := hex w (Below.refl _ _)
  by_cases h0 : due = 0
  rotate_left
  · have hd0 : (due != 0) = true := by rw [bne_iff_ne]; exact h0
    have hr : exE s n = (false, due) := by rw [hdue]; exact exE_side (by rw [← hdue]; exact h0)
    rw [hr] at hex1
    have HEX := Lib.hid hex1
    clear hm hS hwf hdue hl hr hex hex1 h0
    go_enter Tryd.func16, Tryd.ntmps16
    go_wp2_with (go_at_call 32; refine HEX.out.mono ?_; rintro e w2 ⟨rfl, hb2⟩)
    go_ret
    exact ⟨rfl, hb2⟩
  subst h0
  have hlt := hl rfl
  obtain ⟨hv, hn1, hn8⟩ := side_ok hdue.symm
  obtain ⟨k, rfl⟩ := Int.eq_ofNat_of_zero_le (show 0 ≤ n by omega)
  rw [Int.toNat_natCast] at hlt
  have hm1 : m ≤ 1000 := by rw [hm]; exact (vld_iff.1 hv).1
  have hk1 : 1 ≤ k := by omega
  have hk8 : k ≤ 8 := by omega
  clear hex hl hdue
  have hre := fun (W : World) (hb : Below w.heap.size w W) => rex_any s S m cp k W hm hm1 (hS.keep hb hb.size) hk1 hk8 hlt
  have HRE := Lib.hid hre
  rcases ex_side hv hk1 hk8 with hr | ⟨hr, ht⟩
  · rw [hr] at hex1
    obtain ⟨q, hq⟩ : ∃ q, q = sqB s k := ⟨_, rfl⟩
    rw [← hq] at hex1 HRE
    have HEX := Lib.hid hex1
    clear hm hS hwf hr hex1 hre hlt hv hq
    cases q
    all_goals
      go_enter Tryd.func16, Tryd.ntmps16
      go_wp2_with (first
        | (go_at_call 32; refine HEX.out.mono ?_; rintro e w2 ⟨rfl, hb2⟩)
        | (go_at_call 35; refine (HRE.out w2 hb2).mono ?_; rintro e w3 ⟨rfl, hb3⟩))
      go_ret
      exact ⟨rfl, hb2.trans (hb3.mono hb2.size)⟩
  · rw [hr] at hex1
    rw [← hm] at ht
    have hg := fun (W : World) => rgreat_any S m cp k true W ht (by omega) (by omega)
    have HG := Lib.hid hg
    have HEX := Lib.hid hex1
    clear hm hS hwf hr hex1 hre hlt hv ht hg
    go_enter Tryd.func16, Tryd.ntmps16
    go_wp2_with (first
      | (go_at_call 32; refine HEX.out.mono ?_; rintro e w2 ⟨rfl, hb2⟩)
      | (go_at_call 11; refine (HG.out w2).mono ?_; rintro e w3 ⟨rfl, rfl⟩))
    go_ret
    exact ⟨rfl, hb2⟩
set_option maxHeartbeats 4000000 in
theorem greatest_any (s : List Tl) (S : Option Addr) (m cp : Nat) (n due : Int) (w : World) (hm : m = s.length) (hS : SetIn w w.heap.size S s) (hwf : ∀ t ∈ s, twf t) (hml : m ≤ 9223372036854775807) (hdue : due = sideE5 s n) (hl : due = 0 → lightB s n.toNat = true) :
    Calls Tryd.prog 17 #[.slice S m cp, .int .i64 n, .int .i64 due] w fun e w' => e = .returned (.bool true) ∧ Below w.heap.size w w' := by
  have hex := fun (W : World) (hb : Below w.heap.size w W) => largest_any s S m cp n W hm (hS.keep hb hb.size) hwf hml
  have hex1 := hex w (Below.refl _ _)
  by_cases h0 : due = 0
  rotate_left
  · have hd0 : (due != 0) = true := by rw [bne_iff_ne]; exact h0
    have hr : lgE s n = (0, due) := by unfold lgE; rw [← hdue, if_pos h0]
    rw [hr] at hex1
    have HEX := Lib.hid hex1
    clear hm hS hwf hdue hl hr hex hex1 h0
    go_enter Tryd.func17, Tryd.ntmps17
    go_wp2_with (go_at_call 31; refine HEX.out.mono ?_; rintro e w2 ⟨rfl, hb2⟩)
    go_ret
    exact ⟨rfl, hb2⟩
  subst h0
  have hlt := hl rfl
  obtain ⟨hv, hn1, hn8⟩ := side_ok hdue.symm
  obtain ⟨k, rfl⟩ := Int.eq_ofNat_of_zero_le (show 0 ≤ n by omega)
  rw [Int.toNat_natCast] at hlt
  have hm1 : m ≤ 1000 := by rw [hm]; exact (vld_iff.1 hv).1
  have hk1 : 1 ≤ k := by omega
  have hk8 : k ≤ 8 := by omega
  clear hex hl hdue
  have hre := fun (W : World) (hb : Below w.heap.size w W) => rlg_any s S m cp k W hm hm1 (hS.keep hb hb.size) hk1 hk8 hlt
  have HRE := Lib.hid hre
  rcases lg_cases hv hk1 hk8 with ⟨hr, ht⟩ | ⟨hr, hL⟩ | ⟨hr, hL⟩
  · rw [hr] at hex1
    rw [← hm] at ht
    have hg := fun (W : World) => rgreat_any S m cp k true W ht (by omega) (by omega)
    have HG := Lib.hid hg
    have HEX := Lib.hid hex1
    clear hm hS hwf hr hex1 hre hlt hv ht hg
    go_enter Tryd.func17, Tryd.ntmps17
    go_wp2_with (first
      | (go_at_call 31; refine HEX.out.mono ?_; rintro e w2 ⟨rfl, hb2⟩)
      | (go_at_call 11; refine (HG.out w2).mono ?_; rintro e w3 ⟨rfl, rfl⟩))
    go_ret
    exact ⟨rfl, hb2⟩
  · rw [hr] at hex1
    rw [hL, decide_eq_false (Nat.lt_irrefl k)] at HRE
    have HEX := Lib.hid hex1
    clear hm hS hwf hr hex1 hre hlt hv hL
    go_enter Tryd.func17, Tryd.ntmps17
    go_wp2_with (first
      | (go_at_call 31; refine HEX.out.mono ?_; rintro e w2 ⟨rfl, hb2⟩)
      | (go_at_call 36; refine (HRE.out w2 hb2).mono ?_; rintro e w3 ⟨rfl, hb3⟩))
    go_ret
    exact ⟨rfl, hb2.trans (hb3.mono hb2.size)⟩
  · rw [hr] at hex1
    rw [decide_eq_true hL] at HRE
    obtain ⟨L, hLe⟩ : ∃ L, L = lastS s k := ⟨_, rfl⟩
    rw [← hLe] at hex1 HRE
    have HEX := Lib.hid hex1
    clear hm hS hwf hr hex1 hre hlt hv hL hLe
    go_enter Tryd.func17, Tryd.ntmps17
    go_wp2_with (first
      | (go_at_call 31; refine HEX.out.mono ?_; rintro e w2 ⟨rfl, hb2⟩)
      | (go_at_call 36; refine (HRE.out w2 hb2).mono ?_; rintro e w3 ⟨rfl, hb3⟩))
    go_ret
    exact ⟨rfl, hb2.trans (hb3.mono hb2.size)⟩
set_option maxHeartbeats 8000000 in
theorem sqex_any (s : List Tl) (S : Option Addr) (m cp : Nat) (side most : Int) (w : World) (hEnv : Env w) (hm : m = s.length) (hmd : m ≤ cp) (hdl : cp ≤ 9223372036854775807) (hS : SetIn w w.heap.size S s) (hwf : ∀ t ∈ s, twf t) (hml : m ≤ 9223372036854775807) :
    Calls Tryd.prog 4 #[.slice S m cp, .int .i64 side, .int .i64 most] w fun e w' => e = .returned (.bool true) ∧ Below w.heap.size w w' := by
  have HAW : Hid (∀ W, Below w.heap.size w W → Calls Tryd.prog 13 #[] W fun e w' => e = .returned (.bool true) ∧ Below W.heap.size W w') := fun W hb => awake5_any W (hEnv.keep hb)
  by_cases c1 : m ≤ 1100
  rotate_left
  · clear hm hS hwf hEnv
    go_enter Tryd.func4, Tryd.ntmps4
    go_wp2_with (go_at_call 13; refine (HAW.out _ (Below.refl _ _)).mono ?_; rintro e w2 ⟨rfl, hb2⟩)
    go_ret
    exact ⟨rfl, hb2⟩
  have hvA := fun (W : World) (hb : Below w.heap.size w W) => rvalid_any s S m cp W hm hmd hdl (hS.keep hb hb.size)
  have HST : Hid (m = s.length ∧ SetIn w w.heap.size S s ∧ ∀ t ∈ s, twf t) := ⟨hm, hS, hwf⟩
  have HVV := Lib.hid hvA
  have HEN := Lib.hid hEnv
  clear hm hS hwf hEnv hvA
  go_enter Tryd.func4, Tryd.ntmps4
  go_wp2_with fail
  go_loopw [7] (fun i wr => ∃ k : Nat, k ≤ 2 ∧ i = .int .i64 (k : Int) ∧ Below w.heap.size w wr) (fun i _ => 2 - (intOf i).toNat)
  case atStart => exact ⟨0, by omega, rfl, Below.refl _ _⟩
  case round =>
    obtain ⟨k, hk, rfl, hbr⟩ := hrel
    obtain ⟨hm, hS, hwf⟩ := HST.out
    have hvA := HVV.out
    have hEnv := HEN.out
    rcases (show k = 0 ∨ k = 1 ∨ k = 2 by omega) with hk0 | hk1 | hk2
    · subst hk0
      cases hV : vld s
      · have hon := fun (W : World) (hb : Below w.heap.size w W) => one_any s S m cp side 1 W hm (hS.keep hb hb.size) hwf hml (by unfold sideE5; rw [hV]; simp) (fun h => by cases h)
        have HON := Lib.hid hon
        have HVA : Hid (∀ W, Below w.heap.size w W → Calls Tryd.prog 14 #[.slice S m cp] W fun e w' => e = .returned (.bool false) ∧ Below W.heap.size W w') := fun W hb => by have := hvA W hb; rw [hV] at this; exact this
        clear hon hm hS hwf hEnv hvA hV
        go_wp2_with (first
          | (go_at_call 14; refine (HVA.out _ hbr).mono ?_; rintro e w2 ⟨rfl, hb2⟩; have hb02 := hbr.trans (hb2.mono hbr.size))
          | (go_at_call 16; refine (HON.out _ hb02).mono ?_; rintro e w4 ⟨rfl, hb4⟩; have hb04 := hb02.trans (hb4.mono hb02.size)))
        go_roundw
        case rel => exact ⟨1, by omega, by go_num, hb04⟩
        case measure => first | (simp [intOf]; done) | (simp [intOf]; omega)
      · have HVA : Hid (∀ W, Below w.heap.size w W → Calls Tryd.prog 14 #[.slice S m cp] W fun e w' => e = .returned (.bool true) ∧ Below W.heap.size W w') := fun W hb => by have := hvA W hb; rw [hV] at this; exact this
        have hm1 : m ≤ 1000 := by rw [hm]; exact (vld_iff.1 hV).1
        by_cases hn1 : side < 1
        · have hon := fun (W : World) (hb : Below w.heap.size w W) => one_any s S m cp side 2 W hm (hS.keep hb hb.size) hwf hml (by unfold sideE5; rw [hV]; simp only [Bool.true_eq_false, if_false]; rw [if_pos (Or.inl hn1)]) (fun h => by cases h)
          have HON := Lib.hid hon
          clear hon hm hS hwf hEnv hvA hV
          go_wp2_with (first
            | (go_at_call 14; refine (HVA.out _ hbr).mono ?_; rintro e w2 ⟨rfl, hb2⟩; have hb02 := hbr.trans (hb2.mono hbr.size))
            | (go_at_call 16; refine (HON.out _ hb02).mono ?_; rintro e w4 ⟨rfl, hb4⟩; have hb04 := hb02.trans (hb4.mono hb02.size)))
          go_roundw
          case rel => exact ⟨1, by omega, by go_num, hb04⟩
          case measure => first | (simp [intOf]; done) | (simp [intOf]; omega)
        by_cases hn8 : 8 < side
        · have hon := fun (W : World) (hb : Below w.heap.size w W) => one_any s S m cp side 2 W hm (hS.keep hb hb.size) hwf hml (by unfold sideE5; rw [hV]; simp only [Bool.true_eq_false, if_false]; rw [if_pos (Or.inr hn8)]) (fun h => by cases h)
          have HON := Lib.hid hon
          clear hon hm hS hwf hEnv hvA hV
          go_wp2_with (first
            | (go_at_call 14; refine (HVA.out _ hbr).mono ?_; rintro e w2 ⟨rfl, hb2⟩; have hb02 := hbr.trans (hb2.mono hbr.size))
            | (go_at_call 16; refine (HON.out _ hb02).mono ?_; rintro e w4 ⟨rfl, hb4⟩; have hb04 := hb02.trans (hb4.mono hb02.size)))
          go_roundw
          case rel => exact ⟨1, by omega, by go_num, hb04⟩
          case measure => first | (simp [intOf]; done) | (simp [intOf]; omega)
        obtain ⟨n, rfl⟩ := Int.eq_ofNat_of_zero_le (show 0 ≤ side by omega)
        obtain ⟨hv, hhv⟩ : ∃ hv, hv = (decide (60 < m) || !lightB s n) := ⟨_, rfl⟩
        have hhe := fun (W : World) (hb : Below w.heap.size w W) => heavy5_any s S m cp n W hm (hS.keep hb hb.size) hm1 (by omega)
        rw [← hhv] at hhe
        have HHE := Lib.hid hhe
        cases hv
        · have hlt : lightB s n = true := by
            cases hq : lightB s n
            · rw [hq] at hhv; simp at hhv
            · rfl
          have hon := fun (W : World) (hb : Below w.heap.size w W) => one_any s S m cp (n : Int) 0 W hm (hS.keep hb hb.size) hwf hml (by unfold sideE5; rw [hV]; simp only [Bool.true_eq_false, if_false]; rw [if_neg (by omega)]) (fun _ => by rw [Int.toNat_natCast]; exact hlt)
          have HON := Lib.hid hon
          clear hon hm hS hwf hEnv hvA hV hhe hhv hlt
          go_wp2_with (first
            | (go_at_call 14; refine (HVA.out _ hbr).mono ?_; rintro e w2 ⟨rfl, hb2⟩; have hb02 := hbr.trans (hb2.mono hbr.size))
            | (go_at_call 15; refine (HHE.out _ hb02).mono ?_; rintro e w3 ⟨rfl, hb3⟩; have hb03 := hb02.trans (hb3.mono hb02.size))
            | (go_at_call 16; refine (HON.out _ hb03).mono ?_; rintro e w4 ⟨rfl, hb4⟩; have hb04 := hb03.trans (hb4.mono hb03.size)))
          go_roundw
          case rel => exact ⟨1, by omega, by go_num, hb04⟩
          case measure => first | (simp [intOf]; done) | (simp [intOf]; omega)
        · clear hm hS hwf hEnv hvA hV hhe hhv
          go_wp2_with (first
            | (go_at_call 14; refine (HVA.out _ hbr).mono ?_; rintro e w2 ⟨rfl, hb2⟩; have hb02 := hbr.trans (hb2.mono hbr.size))
            | (go_at_call 15; refine (HHE.out _ hb02).mono ?_; rintro e w3 ⟨rfl, hb3⟩; have hb03 := hb02.trans (hb3.mono hb02.size)))
          go_roundw
          case rel => exact ⟨1, by omega, by go_num, hb03⟩
          case measure => first | (simp [intOf]; done) | (simp [intOf]; omega)
    · subst hk1
      cases hV : vld s
      · have hon := fun (W : World) (hb : Below w.heap.size w W) => greatest_any s S m cp most 1 W hm (hS.keep hb hb.size) hwf hml (by unfold sideE5; rw [hV]; simp) (fun h => by cases h)
        have HON := Lib.hid hon
        have HVA : Hid (∀ W, Below w.heap.size w W → Calls Tryd.prog 14 #[.slice S m cp] W fun e w' => e = .returned (.bool false) ∧ Below W.heap.size W w') := fun W hb => by have := hvA W hb; rw [hV] at this; exact this
        clear hon hm hS hwf hEnv hvA hV
        go_wp2_with (first
          | (go_at_call 14; refine (HVA.out _ hbr).mono ?_; rintro e w2 ⟨rfl, hb2⟩; have hb02 := hbr.trans (hb2.mono hbr.size))
          | (go_at_call 17; refine (HON.out _ hb02).mono ?_; rintro e w4 ⟨rfl, hb4⟩; have hb04 := hb02.trans (hb4.mono hb02.size)))
        go_roundw
        case rel => exact ⟨2, by omega, by go_num, hb04⟩
        case measure => first | (simp [intOf]; done) | (simp [intOf]; omega)
      · have HVA : Hid (∀ W, Below w.heap.size w W → Calls Tryd.prog 14 #[.slice S m cp] W fun e w' => e = .returned (.bool true) ∧ Below W.heap.size W w') := fun W hb => by have := hvA W hb; rw [hV] at this; exact this
        have hm1 : m ≤ 1000 := by rw [hm]; exact (vld_iff.1 hV).1
        by_cases hn1 : most < 1
        · have hon := fun (W : World) (hb : Below w.heap.size w W) => greatest_any s S m cp most 2 W hm (hS.keep hb hb.size) hwf hml (by unfold sideE5; rw [hV]; simp only [Bool.true_eq_false, if_false]; rw [if_pos (Or.inl hn1)]) (fun h => by cases h)
          have HON := Lib.hid hon
          clear hon hm hS hwf hEnv hvA hV
          go_wp2_with (first
            | (go_at_call 14; refine (HVA.out _ hbr).mono ?_; rintro e w2 ⟨rfl, hb2⟩; have hb02 := hbr.trans (hb2.mono hbr.size))
            | (go_at_call 17; refine (HON.out _ hb02).mono ?_; rintro e w4 ⟨rfl, hb4⟩; have hb04 := hb02.trans (hb4.mono hb02.size)))
          go_roundw
          case rel => exact ⟨2, by omega, by go_num, hb04⟩
          case measure => first | (simp [intOf]; done) | (simp [intOf]; omega)
        by_cases hn8 : 8 < most
        · have hon := fun (W : World) (hb : Below w.heap.size w W) => greatest_any s S m cp most 2 W hm (hS.keep hb hb.size) hwf hml (by unfold sideE5; rw [hV]; simp only [Bool.true_eq_false, if_false]; rw [if_pos (Or.inr hn8)]) (fun h => by cases h)
          have HON := Lib.hid hon
          clear hon hm hS hwf hEnv hvA hV
          go_wp2_with (first
            | (go_at_call 14; refine (HVA.out _ hbr).mono ?_; rintro e w2 ⟨rfl, hb2⟩; have hb02 := hbr.trans (hb2.mono hbr.size))
            | (go_at_call 17; refine (HON.out _ hb02).mono ?_; rintro e w4 ⟨rfl, hb4⟩; have hb04 := hb02.trans (hb4.mono hb02.size)))
          go_roundw
          case rel => exact ⟨2, by omega, by go_num, hb04⟩
          case measure => first | (simp [intOf]; done) | (simp [intOf]; omega)
        obtain ⟨n, rfl⟩ := Int.eq_ofNat_of_zero_le (show 0 ≤ most by omega)
        obtain ⟨hv, hhv⟩ : ∃ hv, hv = (decide (60 < m) || !lightB s n) := ⟨_, rfl⟩
        have hhe := fun (W : World) (hb : Below w.heap.size w W) => heavy5_any s S m cp n W hm (hS.keep hb hb.size) hm1 (by omega)
        rw [← hhv] at hhe
        have HHE := Lib.hid hhe
        cases hv
        · have hlt : lightB s n = true := by
            cases hq : lightB s n
            · rw [hq] at hhv; simp at hhv
            · rfl
          have hon := fun (W : World) (hb : Below w.heap.size w W) => greatest_any s S m cp (n : Int) 0 W hm (hS.keep hb hb.size) hwf hml (by unfold sideE5; rw [hV]; simp only [Bool.true_eq_false, if_false]; rw [if_neg (by omega)]) (fun _ => by rw [Int.toNat_natCast]; exact hlt)
          have HON := Lib.hid hon
          clear hon hm hS hwf hEnv hvA hV hhe hhv hlt
          go_wp2_with (first
            | (go_at_call 14; refine (HVA.out _ hbr).mono ?_; rintro e w2 ⟨rfl, hb2⟩; have hb02 := hbr.trans (hb2.mono hbr.size))
            | (go_at_call 15; refine (HHE.out _ hb02).mono ?_; rintro e w3 ⟨rfl, hb3⟩; have hb03 := hb02.trans (hb3.mono hb02.size))
            | (go_at_call 17; refine (HON.out _ hb03).mono ?_; rintro e w4 ⟨rfl, hb4⟩; have hb04 := hb03.trans (hb4.mono hb03.size)))
          go_roundw
          case rel => exact ⟨2, by omega, by go_num, hb04⟩
          case measure => first | (simp [intOf]; done) | (simp [intOf]; omega)
        · clear hm hS hwf hEnv hvA hV hhe hhv
          go_wp2_with (first
            | (go_at_call 14; refine (HVA.out _ hbr).mono ?_; rintro e w2 ⟨rfl, hb2⟩; have hb02 := hbr.trans (hb2.mono hbr.size))
            | (go_at_call 15; refine (HHE.out _ hb02).mono ?_; rintro e w3 ⟨rfl, hb3⟩; have hb03 := hb02.trans (hb3.mono hb02.size)))
          go_roundw
          case rel => exact ⟨2, by omega, by go_num, hb03⟩
          case measure => first | (simp [intOf]; done) | (simp [intOf]; omega)
    · subst hk2
      clear hm hS hwf hEnv hvA
      go_wp2_with (go_at_call 13; refine (HAW.out _ hbr).mono ?_; rintro e w2 ⟨rfl, hb2⟩)
      go_ret
      exact ⟨rfl, hbr.trans (hb2.mono hbr.size)⟩
end Go.Proofs.YtfepgemopcpgmaaDoor

/-
  torus.number: the number of a line.
-/
import Derived.Test.YthjponagoahdhaaDoorTo
import Derived.StillTailTactics
namespace Go.Proofs.YthjponagoahdhaaDoor
open Go.RowKit Go.Maps Go.BigFrame Go.Sort
set_option linter.unusedVariables false
set_option linter.unusedSimpArgs false
set_option maxRecDepth 100000

/-- what number returns -/
def IsNum (ks : List (List Int)) (l : List Int) (b n : Nat) (W : World) (e : Ending) (w' : World) : Prop :=
  ∃ (n' : Nat) (D' : DataW Unit), e = .returned (.int .i64 ((metT ks l).idxOf l : Nat)) ∧ w'.ownsMap Tryd.prog 77 (plainElem Tryd.prog 3) b n' D' ∧ n' ≤ n + 1 ∧ Nv D' (metT ks l) ∧ W.grownBy w' (some b)
set_option maxHeartbeats 4000000 in
theorem number_any (l : List Int) (b n : Nat) (D : DataW Unit) (ks : List (List Int)) (w : World) (hown : w.ownsMap Tryd.prog 77 (plainElem Tryd.prog 3) b n D) (hN : Nv D ks) (hl : lwf6 l) (hn : n ≤ 1000000000) :
    Calls Tryd.prog 45 #[.map (some b), .agg (vals l).toArray] w (IsNum ks l b n w) := by
  have hkey := keyOf_line6 l hl
  have hhas := hN.has_ l hl
  obtain ⟨a0, a1, a2, a3, a4, a5, hla⟩ := len6 l hl.1
  have hv : (vals l).toArray = #[.int .i64 a0, .int .i64 a1, .int .i64 a2, .int .i64 a3, .int .i64 a4, .int .i64 a5] := by rw [hla]; rfl
  rw [hv] at hkey ⊢
  have hkl : ks.length ≤ n := by rw [← hN.size]; exact hown.size_le
  have hal := hown.kept (World.grownBy_alloc w (.cells #[.int .i64 a0, .int .i64 a1, .int .i64 a2, .int .i64 a3, .int .i64 a4, .int .i64 a5] 77) none) (by simp)
  have HA := Lib.hid hal
  have HNv := Lib.hid hN
  have HL := Lib.hid hl
  have HK := Lib.hid hkey
  have HO := Lib.hid hown
  by_cases hm : l ∈ ks
  · have hat := hN.at_ l hl hm
    have hd : Maps.has D (lk l) = true := by rw [hhas]; exact decide_eq_true hm
    have hmet : Hid (metT ks l = ks) := met_old hm
    obtain ⟨m, hmm⟩ : ∃ m : Nat, m = ks.idxOf l := ⟨_, rfl⟩
    rw [← hmm] at hat
    have HM := Lib.hid hmm
    have HAT := Lib.hid hat
    have HD := Lib.hid hd
    clear hmm hat hd hm hhas hv hla hal hN hl hkey hown
    go_enter Tryd.func45, Tryd.ntmps45
    go_wp2_with (first
      | (at_lookup; refine wpList_lookup_own_ok_int _ rfl _ _ 73 rfl 77 3 .i64 line_law6 Tryd.underlying73 Tryd.underlying3 (zero_int _) b n D rfl HA.out _ _ rfl HK.out ?_; intro c hat hwc; rw [HAT.out] at hat; rw [HD.out])
      | fail)
    go_ret
    obtain rfl : (m : Int) = c := by simpa using hat
    refine ⟨n, D, ?_, (HO.out.kept (World.grownBy_alloc w _ none) (by simp)), by omega, ?_, World.grownBy_alloc w _ _⟩
    · rw [hmet.out, ← HM.out]
      rfl
    · rw [hmet.out]
      exact HNv.out
  · have hd : Maps.has D (lk l) = false := by rw [hhas]; exact decide_eq_false hm
    have hmet : Hid (metT ks l = ks ++ [l]) := met_new hm
    have hidx : Hid ((ks ++ [l]).idxOf l = ks.length) := by
      show _ = _
      rw [List.idxOf_append, if_neg hm, List.idxOf_cons_self]
      simp
    have hsz := hN.size
    have hadd := hN.add hl hm
    obtain ⟨m, hmm⟩ : ∃ m : Nat, m = ks.length := ⟨_, rfl⟩
    rw [← hmm] at hsz hadd hkl
    have HADD := Lib.hid hadd
    have HM := Lib.hid hmm
    have HD := Lib.hid hd
    have HSZ := Lib.hid hsz
    clear hmm hd hm hhas hv hla hal hN hl hkey hown hsz hadd
    go_enter Tryd.func45, Tryd.ntmps45
    go_wp2_with (first
      | (at_lookup; refine wpList_lookup_own_ok_int _ rfl _ _ 73 rfl 77 3 .i64 line_law6 Tryd.underlying73 Tryd.underlying3 (zero_int _) b n D rfl HA.out _ _ rfl HK.out ?_; intro c hat hwc; rw [HD.out])
      | (at_len; refine wpList_len_own _ rfl _ 73 rfl 77 3 Tryd.underlying73 _ b n D rfl HA.out ?_; rw [HSZ.out])
      | (at_mapUpdate; refine wpList_mapUpdate_own _ rfl _ _ _ 73 rfl 77 3 line_law6 Tryd.underlying73 _ b n _ rfl HA.out (by unfold maxLen; omega) _ _ _ rfl rfl HK.out _ [] (plainElem_int Tryd.underlying3 (WalkArith.wf_i64 (by omega))) ?_; intro w7 hown7 hgrow7))
    go_ret
    refine ⟨n + 1, _, ?_, hown7, Nat.le_refl _, ?_, (World.grownBy_alloc w _ _).trans hgrow7⟩
    · rw [hmet.out, hidx.out, ← HM.out]
      rfl
    · rw [hmet.out]
      exact HADD.out
end Go.Proofs.YthjponagoahdhaaDoor

/-
  groutworklaw01.TileParses, walked.
-/
import Derived.Test.YtmmpdniafmhjpaaDoorPy
import Derived.Test.YtmmpdniafmhjpaaDoorAw
namespace Go.Proofs.YtmmpdniafmhjpaaDoor
open Go.RowKit Go.Maps Go.BigFrame Go.Sort
set_option linter.unusedVariables false
set_option maxRecDepth 100000

set_option maxHeartbeats 2000000 in
theorem tileParses_any (s : ByteArray) (w : World) (h : Env w) :
    Calls Tryd.prog 4 #[.string s] w fun e w' => e = .returned (.bool true) ∧ Below w.heap.size w w' := by
  by_cases hs : s.size ≤ 70000
  rotate_left
  · go_enter Tryd.func4, Tryd.ntmps4
    go_wp2_with fail
    refine (awake_any _ h).mono ?_
    rintro e w2 ⟨rfl, hb2⟩
    go_wp2_with fail
    go_ret
    exact ⟨rfl, hb2⟩
  have hp1 := parse_any s (by omega) w h
  have hp2 := fun (W : World) => rparse_any s hs W
  unfold IsParse at hp1
  unfold IsRParse at hp2
  cases hp : pParse s with
  | none =>
    simp only [hp] at hp1
    simp only [hp] at hp2
    clear hp
    go_enter Tryd.func4, Tryd.ntmps4
    go_wp2_with fail
    refine hp1.mono ?_
    rintro e w1 ⟨hb1, rfl⟩
    go_wp2_with fail
    refine (hp2 _).mono ?_
    rintro e w2 ⟨hb2, rfl⟩
    have hb02 := hb1.trans (hb2.mono hb1.size)
    go_wp2_with fail
    refine (awake_any _ (h.keep hb02)).mono ?_
    rintro e w3 ⟨rfl, hb3⟩
    go_wp2_with fail
    go_ret
    exact ⟨rfl, hb02.trans (hb3.mono hb02.size)⟩
  | some set =>
    obtain ⟨htx, hvl⟩ := text_parse hp
    simp only [hp] at hp1
    simp only [hp] at hp2
    have hl1 : set.length ≤ 1000 := (vld_iff.1 hvl).1
    have hwf : ∀ t ∈ set, twf t := fun t ht => by
      have := okt_range ((vld_iff.1 hvl).2.1 t ht)
      exact ⟨wf_small (by omega) (by omega), wf_small (by omega) (by omega), wf_small (by omega) (by omega), wf_small (by omega) (by omega)⟩
    have HTX : Hid (textRes set = .tuple #[.string s, .int .i64 0]) := by show _ = _; rw [text_ok hvl, htx]
    obtain ⟨L, hL⟩ : ∃ L, L = set.length := ⟨_, rfl⟩
    have HL := Lib.hid hL
    rw [← hL] at hp1 hl1
    simp only [← hL] at hp2
    clear hp htx hvl hL
    go_enter Tryd.func4, Tryd.ntmps4
    go_wp2_with fail
    refine hp1.mono ?_
    rintro e w1 ⟨hb1, A1, c1, rfl, hs1⟩
    have HS1 := Lib.hid hs1
    clear hs1
    go_wp2_with fail
    refine (hp2 _).mono ?_
    rintro e w2 ⟨hb2, A2, c2, rfl, hs2⟩
    have HS2 := Lib.hid hs2
    clear hs2
    have hb02 := hb1.trans (hb2.mono hb1.size)
    go_wp2_with fail
    have ht := text_any set A1 c1 w2 ((HS1.out.keep hb2).old) hwf (by rw [← HL.out]; omega) (h.keep hb02)
    rw [← HL.out, HTX.out] at ht
    refine ht.mono ?_
    rintro e w3 ⟨rfl, hb3⟩
    have hb03 := hb02.trans (hb3.mono hb02.size)
    have hb13 := hb2.trans (hb3.mono hb2.size)
    clear ht hp1 hp2
    go_wp2_with fail
    refine (rsame_any set set A1 A2 L L c1 c2 true w3 HL.out HL.out (decide_eq_true rfl) (by omega) (by omega) ((HS1.out.keep hb13).old) ((HS2.out.keep hb3).old)).mono ?_
    rintro e w4 ⟨rfl, hb4⟩
    have hb04 := hb03.trans (hb4.mono hb03.size)
    go_wp2_with fail
    refine (awake_any _ (h.keep hb04)).mono ?_
    rintro e w5 ⟨rfl, hb5⟩
    go_wp2_with fail
    go_ret
    exact ⟨rfl, hb04.trans (hb5.mono hb04.size)⟩
end Go.Proofs.YtmmpdniafmhjpaaDoor

/-
  groutworklaw02.awake: the examples of the second chapter: their counts.
-/
import Derived.Test.YtfepgemopcpgmaaDoorFu
import Derived.Test.YtfepgemopcpgmaaDoorFz
import Derived.Test.YtfepgemopcpgmaaDoorAp
import Derived.Test.YtfepgemopcpgmaaDoorSm
namespace Go.Proofs.YtfepgemopcpgmaaDoor
open Go.RowKit Go.Maps
set_option linter.unusedVariables false
set_option maxRecDepth 100000

def twoS : List Tl := [⟨0, 0, 0, 0⟩, ⟨1, 1, 1, 1⟩]
theorem count_two : countRes twoS 3 2 ⟨[], [], [], []⟩ = .tuple #[.int .i64 2, .int .i64 0] := by
  have h : countE twoS 3 2 ⟨[], [], [], []⟩ = 2 := by decide +kernel
  have hc : checkE twoS 3 2 0 0 0 0 = 0 := by decide +kernel
  unfold countRes
  simp [hc, h]
theorem count_ch : countRes chessS 4 4 ⟨[], [], [], []⟩ = .tuple #[.int .i64 2, .int .i64 0] := by
  have h : countE chessS 4 4 ⟨[], [], [], []⟩ = 2 := by decide +kernel
  have hc : checkE chessS 4 4 0 0 0 0 = 0 := by decide +kernel
  unfold countRes
  simp [hc, h]
theorem count_arg : countRes chessS 4 4 ⟨[], [], [1, 1], []⟩ = .tuple #[.int .i64 0, .int .i64 2] := by
  have hc : checkE chessS 4 4 0 0 2 0 = 2 := by decide +kernel
  unfold countRes
  simp [hc]
theorem first_ch : firstE chessS 2 2 ⟨[], [], [], []⟩ = some [0, 1, 1, 0] := by decide +kernel
theorem twoS_wf : ∀ t ∈ twoS, twf t := by
  intro t ht
  simp only [twoS, List.mem_cons, List.not_mem_nil, or_false] at ht
  rcases ht with rfl | rfl <;> exact ⟨by decide, by decide, by decide, by decide⟩
theorem text_two : sText twoS = ⟨#[48, 46, 48, 46, 48, 46, 48, 32, 49, 46, 49, 46, 49, 46, 49]⟩ := by
  simp only [twoS, sText, tText, tList, glue, List.map_cons, List.map_nil, dec_one (n := 0) (by decide) (by decide), dec_one (n := 1) (by decide) (by decide)]
  decide
theorem parse_two (w : World) (h : Env w) : Calls Tryd.prog 18 #[.string ⟨#[48, 46, 48, 46, 48, 46, 48, 32, 49, 46, 49, 46, 49, 46, 49]⟩] w fun e w' =>
    ∃ A c, e = .returned (.tuple #[.slice A 2 c, .int .i64 0]) ∧ SetNew w' w.heap.size A twoS ∧ Below w.heap.size w w' := by
  refine (parse_any _ (by decide) w h).mono ?_
  rintro e w' ⟨hb, hp⟩
  rw [← text_two, parse_text (by decide)] at hp
  obtain ⟨A, c, he, hs⟩ := hp
  exact ⟨A, c, he, hs, hb⟩
theorem no_edges (w : World) (B : Nat) : EdIn w B none none none none ⟨[], [], [], []⟩ := ⟨fun h => absurd rfl h, fun h => absurd rfl h, fun h => absurd rfl h, fun h => absurd rfl h⟩
theorem cq1 (S : Option Addr) (c : Nat) (w : World) (hS : SetIn w w.heap.size S twoS) :
    Calls Tryd.prog 19 #[.slice S 2 c, .int .i64 3, .int .i64 2, .agg #[.slice none 0 0, .slice none 0 0, .slice none 0 0, .slice none 0 0]] w fun e w' => e = .returned (.tuple #[.int .i64 2, .int .i64 0]) ∧ Below w.heap.size w w' := by
  have hq := count_any twoS ⟨[], [], [], []⟩ S 2 c 3 2 none none none none 0 0 0 0 w rfl hS twoS_wf (by omega) (by decide) (by decide) (by decide) (by decide) (no_edges _ _)
  rw [count_two] at hq
  exact hq
theorem cq2 (S : Option Addr) (c : Nat) (w : World) (hS : SetIn w w.heap.size S chessS) :
    Calls Tryd.prog 19 #[.slice S 2 c, .int .i64 4, .int .i64 4, .agg #[.slice none 0 0, .slice none 0 0, .slice none 0 0, .slice none 0 0]] w fun e w' => e = .returned (.tuple #[.int .i64 2, .int .i64 0]) ∧ Below w.heap.size w w' := by
  have hq := count_any chessS ⟨[], [], [], []⟩ S 2 c 4 4 none none none none 0 0 0 0 w rfl hS chessS_wf (by omega) (by decide) (by decide) (by decide) (by decide) (no_edges _ _)
  rw [count_ch] at hq
  exact hq
theorem cq3 (S A : Option Addr) (c d : Nat) (w : World) (hS : SetIn w w.heap.size S chessS) (hA : IntsIn w w.heap.size A [1, 1]) :
    Calls Tryd.prog 19 #[.slice S 2 c, .int .i64 4, .int .i64 4, .agg #[.slice none 0 0, .slice none 0 0, .slice A 2 d, .slice none 0 0]] w fun e w' => e = .returned (.tuple #[.int .i64 0, .int .i64 2]) ∧ Below w.heap.size w w' := by
  have hq := count_any chessS ⟨[], [], [1, 1], []⟩ S 2 c 4 4 none none A none 0 0 d 0 w rfl hS chessS_wf (by omega) (by decide) (by decide) (by decide) (by decide) ⟨fun h => absurd rfl h, fun h => absurd rfl h, hA, fun h => absurd rfl h⟩
  rw [count_arg] at hq
  exact hq
theorem fq1 (S : Option Addr) (c : Nat) (w : World) (hS : SetIn w w.heap.size S chessS) :
    Calls Tryd.prog 8 #[.slice S 2 c, .int .i64 2, .int .i64 2, .agg #[.slice none 0 0, .slice none 0 0, .slice none 0 0, .slice none 0 0]] w fun e w' =>
      ∃ A c', e = .returned (.tuple #[.agg #[.int .i64 2, .int .i64 2, .slice A 4 c'], .int .i64 0]) ∧ IntsIn w' w'.heap.size A [0, 1, 1, 0] ∧ Below w.heap.size w w' := by
  refine (first_any chessS ⟨[], [], [], []⟩ S 2 c 2 2 none none none none 0 0 0 0 w rfl hS chessS_wf (by omega) (by decide) (by decide) (by decide) (by decide) (no_edges _ _)).mono ?_
  rintro e w' ⟨hb, hr⟩
  have h0 : checkE chessS 2 2 0 0 0 0 = 0 := by decide +kernel
  have h1 : firstE chessS (2 : Int).toNat (2 : Int).toNat ⟨[], [], [], []⟩ = some [0, 1, 1, 0] := first_ch
  rw [if_neg (fun hne => hne h0), h1] at hr
  obtain ⟨v, he, ho⟩ := hr
  obtain ⟨A, c', rfl, -, -, -, hi⟩ := own_ints ho
  exact ⟨A, c', he, hi.1, hb⟩
set_option maxHeartbeats 4000000 in
theorem awake2_any (w : World) (h : Env w) :
    Calls Tryd.prog 6 #[] w fun e w' => e = .returned (.bool true) ∧ Below w.heap.size w w' := by
  go_enter Tryd.func6, Tryd.ntmps6
  go_wp2_with fail
  refine (parse_two _ h).mono ?_
  rintro e w1 ⟨S1, c1, rfl, hS1, hb1⟩
  go_wp2_with fail
  refine (parse_chess _ (h.keep hb1)).mono ?_
  rintro e w2 ⟨S2, c2, rfl, hS2, hb2⟩
  have hb02 : Below w.heap.size w w2 := hb1.trans (hb2.mono hb1.size)
  have hA2 := (hS1.keep hb2).old
  have hB2 := hS2.old
  clear hS1 hS2
  go_wp2_with fail
  refine (cq1 _ _ _ hA2).mono ?_
  rintro e w3 ⟨rfl, hb3⟩
  have hb03 : Below w.heap.size w w3 := hb02.trans (hb3.mono hb02.size)
  have hB3 := hB2.keep hb3 hb3.size
  go_wp2_with fail
  refine (cq2 _ _ _ hB3).mono ?_
  rintro e w4 ⟨rfl, hb4⟩
  have hb04 : Below w.heap.size w w4 := hb03.trans (hb4.mono hb03.size)
  have hB4 := hB3.keep hb4 hb4.size
  go_wp2_with fail
  have hb45 : Below w4.heap.size w4 (w4.alloc (.cells #[.int .i64 1, .int .i64 1] 3)) := (Below.refl _ _).alloc (Nat.le_refl _) _
  refine (cq3 _ _ _ _ _ (hB4.keep hb45 hb45.size) ((ints_new w4 [1, 1] 3).keep (Below.refl _ _) (by simp))).mono ?_
  rintro e w5 ⟨rfl, hb5⟩
  have hb46 : Below w4.heap.size w4 w5 := hb45.trans (hb5.mono (by simp))
  have hb05 : Below w.heap.size w w5 := hb04.trans (hb46.mono hb04.size)
  have hB5 := hB4.keep hb46 hb46.size
  clear hb45 hb5 hb46
  go_wp2_with fail
  refine (fq1 _ _ _ hB5).mono ?_
  rintro e w6 ⟨A6, c6, rfl, hI6, hb6⟩
  have hb06 : Below w.heap.size w w6 := hb05.trans (hb6.mono hb05.size)
  clear hA2 hB2 hB3 hB4 hB5 hb1 hb2 hb3 hb4 hb6 hb02 hb03 hb04 hb05
  go_wp2_with fail
  obtain ⟨W7, hW7⟩ : ∃ W7, W7 = (w6.alloc (.cells #[.int .i64 2, .int .i64 2, .slice A6 4 c6] 31)).alloc (.cells #[.int .i64 0, .int .i64 1, .int .i64 1, .int .i64 0] 3) := ⟨_, rfl⟩
  have hb67 : Below w6.heap.size w6 W7 := by rw [hW7]; exact below_two _ _ _
  have hsz : (w6.alloc (.cells #[.int .i64 2, .int .i64 2, .slice A6 4 c6] 31)).heap.size = w6.heap.size + 1 := by simp
  have hJ0 := ints_new (w6.alloc (.cells #[.int .i64 2, .int .i64 2, .slice A6 4 c6] 31)) [0, 1, 1, 0] 3
  rw [hsz] at hJ0
  have hJ : IntsIn W7 W7.heap.size (some ⟨w6.heap.size + 1, 0, none⟩) [0, 1, 1, 0] := by rw [hW7]; exact hJ0.keep (Below.refl _ _) (by simp)
  have hI7 := hI6.keep hb67 hb67.size
  rw [← hW7]
  clear hJ0 hW7 hI6 hsz
  refine (rsameP_any 2 2 [0, 1, 1, 0] _ _ 4 4 _ _ _ rfl rfl (by omega) hI7 hJ).mono ?_
  rintro e w7 ⟨rfl, hb7⟩
  have hb07 : Below w.heap.size w w7 := hb06.trans ((hb67.trans (hb7.mono hb67.size)).mono hb06.size)
  go_wp2_with fail
  go_ret
  exact ⟨rfl, hb07⟩
end Go.Proofs.YtfepgemopcpgmaaDoor

/-
  groutworklaw02.awake: the examples of the second chapter: their counts.
-/
import Derived.Test.YthjponagoahdhaaGreatDoorFu
import Derived.Test.YthjponagoahdhaaGreatDoorFz
import Derived.Test.YthjponagoahdhaaGreatDoorAp
import Derived.Test.YthjponagoahdhaaGreatDoorSm
namespace Go.Proofs.YthjponagoahdhaaGreatDoor
open Go.RowKit Go.Maps
set_option linter.unusedVariables false
set_option maxRecDepth 100000

def twoS : List Tl := [⟨0, 0, 0, 0⟩, ⟨1, 1, 1, 1⟩]
theorem count_two : countRes twoS 3 2 ⟨[], [], [], []⟩ = .tuple #[.int .i64 2, .int .i64 0] := by
  have h : countE twoS 3 2 ⟨[], [], [], []⟩ = 2 := by decide +kernel
  have hc : checkE twoS 3 2 0 0 0 0 = 0 := by decide +kernel
  unfold countRes
  simp [hc, h]
theorem count_ch : countRes chessS 4 4 ⟨[], [], [], []⟩ = .tuple #[.int .i64 2, .int .i64 0] := by
  have h : countE chessS 4 4 ⟨[], [], [], []⟩ = 2 := by decide +kernel
  have hc : checkE chessS 4 4 0 0 0 0 = 0 := by decide +kernel
  unfold countRes
  simp [hc, h]
theorem count_arg : countRes chessS 4 4 ⟨[], [], [1, 1], []⟩ = .tuple #[.int .i64 0, .int .i64 2] := by
  have hc : checkE chessS 4 4 0 0 2 0 = 2 := by decide +kernel
  unfold countRes
  simp [hc]
theorem first_ch : firstE chessS 2 2 ⟨[], [], [], []⟩ = some [0, 1, 1, 0] := by decide +kernel
theorem twoS_wf : ∀ t ∈ twoS, twf t := by
  intro t ht
  simp only [twoS, List.mem_cons, List.not_mem_nil, or_false] at ht
  rcases ht with rfl | rfl <;> exact ⟨by decide, by decide, by decide, by decide⟩
theorem text_two : sText twoS = ⟨#[48, 46, 48, 46, 48, 46, 48, 32, 49, 46, 49, 46, 49, 46, 49]⟩ := by
  simp only [twoS, sText, tText, tList, glue, List.map_cons, List.map_nil, dec_one (n := 0) (by decide) (by decide), dec_one (n := 1) (by decide) (by decide)]
  decide
theorem parse_two (w : World) (h : Env w) : Calls Tryz.prog 16 #[.string ⟨#[48, 46, 48, 46, 48, 46, 48, 32, 49, 46, 49, 46, 49, 46, 49]⟩] w fun e w' =>
    ∃ A c, e = .returned (.tuple #[.slice A 2 c, .int .i64 0]) ∧ SetNew w' w.heap.size A twoS ∧ Below w.heap.size w w' := by
  refine (parse_any _ (by decide) w h).mono ?_
  rintro e w' ⟨hb, hp⟩
  rw [← text_two, parse_text (by decide)] at hp
  obtain ⟨A, c, he, hs⟩ := hp
  exact ⟨A, c, he, hs, hb⟩
theorem no_edges (w : World) (B : Nat) : EdIn w B none none none none ⟨[], [], [], []⟩ := ⟨fun h => absurd rfl h, fun h => absurd rfl h, fun h => absurd rfl h, fun h => absurd rfl h⟩
theorem fq1 (S : Option Addr) (c : Nat) (w : World) (hS : SetIn w w.heap.size S chessS) :
    Calls Tryz.prog 19 #[.slice S 2 c, .int .i64 2, .int .i64 2, .agg #[.slice none 0 0, .slice none 0 0, .slice none 0 0, .slice none 0 0]] w fun e w' =>
      ∃ A c', e = .returned (.tuple #[.agg #[.int .i64 2, .int .i64 2, .slice A 4 c'], .int .i64 0]) ∧ IntsIn w' w'.heap.size A [0, 1, 1, 0] ∧ Below w.heap.size w w' := by
  refine (first_any chessS ⟨[], [], [], []⟩ S 2 c 2 2 none none none none 0 0 0 0 w rfl hS chessS_wf (by omega) (by decide) (by decide) (by decide) (by decide) (no_edges _ _)).mono ?_
  rintro e w' ⟨hb, hr⟩
  have h0 : checkE chessS 2 2 0 0 0 0 = 0 := by decide +kernel
  have h1 : firstE chessS (2 : Int).toNat (2 : Int).toNat ⟨[], [], [], []⟩ = some [0, 1, 1, 0] := first_ch
  rw [if_neg (fun hne => hne h0), h1] at hr
  obtain ⟨v, he, ho⟩ := hr
  obtain ⟨A, c', rfl, -, -, -, hi⟩ := own_ints ho
  exact ⟨A, c', he, hi.1, hb⟩
end Go.Proofs.YthjponagoahdhaaGreatDoor

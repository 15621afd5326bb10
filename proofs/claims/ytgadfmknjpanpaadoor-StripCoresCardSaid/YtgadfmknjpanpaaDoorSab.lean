/-
  groutworklaw04.awake: the examples of the fourth chapter.
-/
import Derived.Test.YtgadfmknjpanpaaDoorSd
import Derived.Test.YtgadfmknjpanpaaDoorSj
import Derived.Test.YtgadfmknjpanpaaDoorSz
import Derived.Test.YtgadfmknjpanpaaDoorAp
import Derived.Test.YtgadfmknjpanpaaDoorSm
import Derived.Test.YtgadfmknjpanpaaDoorTx
namespace Go.Proofs.YtgadfmknjpanpaaDoor
open Go.RowKit Go.Maps
set_option linter.unusedVariables false
set_option linter.unusedSimpArgs false
set_option maxRecDepth 100000

def twoS : List Tl := [⟨0, 1, 0, 0⟩, ⟨0, 2, 0, 1⟩]
theorem twoS_wf : ∀ t ∈ twoS, twf t := by
  intro t ht
  simp only [twoS, List.mem_cons, List.not_mem_nil, or_false] at ht
  rcases ht with rfl | rfl <;> exact ⟨by decide, by decide, by decide, by decide⟩
theorem text_two : sText twoS = ⟨#[48, 46, 49, 46, 48, 46, 48, 32, 48, 46, 50, 46, 48, 46, 49]⟩ := by
  simp only [twoS, sText, tText, tList, glue, List.map_cons, List.map_nil, dec_one (n := 0) (by decide) (by decide), dec_one (n := 1) (by decide) (by decide), dec_one (n := 2) (by decide) (by decide)]
  decide
theorem parse_two (w : World) (h : Env w) : Calls Tryd.prog 25 #[.string ⟨#[48, 46, 49, 46, 48, 46, 48, 32, 48, 46, 50, 46, 48, 46, 49]⟩] w fun e w' =>
    ∃ A c, e = .returned (.tuple #[.slice A 2 c, .int .i64 0]) ∧ SetNew w' w.heap.size A twoS ∧ Below w.heap.size w w' := by
  refine (parse_any _ (by decide) w h).mono ?_
  rintro e w' ⟨hb, hp⟩
  rw [← text_two, parse_text (by decide)] at hp
  obtain ⟨A, c, he, hs⟩ := hp
  exact ⟨A, c, he, hs, hb⟩
def upS : List Tl := [⟨1, 0, 1, 1⟩, ⟨0, 1, 0, 0⟩]
theorem upS_wf : ∀ t ∈ upS, twf t := by
  intro t ht
  simp only [upS, List.mem_cons, List.not_mem_nil, or_false] at ht
  rcases ht with rfl | rfl <;> exact ⟨by decide, by decide, by decide, by decide⟩
theorem text_up : sText upS = ⟨#[49, 46, 48, 46, 49, 46, 49, 32, 48, 46, 49, 46, 48, 46, 48]⟩ := by
  simp only [upS, sText, tText, tList, glue, List.map_cons, List.map_nil, dec_one (n := 0) (by decide) (by decide), dec_one (n := 1) (by decide) (by decide)]
  decide
theorem rows_two : rowsL twoS = some 2 := by decide +kernel
theorem core_two : coreE twoS = [] := by decide +kernel
theorem on_chess : onE chessS chessS = some (upS, [(0, 1), (1, 0)]) := by decide +kernel
theorem path_chess : pathE chessS 0 1 3 = some [0, 1, 0] := by decide +kernel
theorem sq1 (S : Option Addr) (c : Nat) (w : World) (hS : SetIn w w.heap.size S twoS) : Calls Tryd.prog 10 #[.slice S 2 c] w fun e w' =>
    e = .returned (.tuple #[.int .i64 2, .int .i64 0]) ∧ Below w.heap.size w w' := by
  refine (rows_anyS twoS S 2 c w rfl hS twoS_wf (by omega)).mono ?_
  rintro e w' ⟨hb, hr⟩
  rw [if_neg (by decide +kernel), rows_two] at hr
  exact ⟨hr, hb⟩
theorem sq2 (S : Option Addr) (c : Nat) (w : World) (hS : SetIn w w.heap.size S twoS) : Calls Tryd.prog 9 #[.slice S 2 c] w fun e w' =>
    ∃ A c', e = .returned (.tuple #[.slice A 0 c', .int .i64 0]) ∧ Below w.heap.size w w' := by
  refine (core_any twoS S 2 c w rfl hS twoS_wf (by omega)).mono ?_
  rintro e w' ⟨hb, hr⟩
  rw [if_neg (by decide +kernel), core_two] at hr
  obtain ⟨A, c', he, -⟩ := hr
  exact ⟨A, c', he, hb⟩
theorem sq3 (S : Option Addr) (c : Nat) (w : World) (hS : SetIn w w.heap.size S chessS) : Calls Tryd.prog 14 #[.slice S 2 c, .slice S 2 c] w fun e w' =>
    ∃ A c' A' c'', e = .returned (.tuple #[.slice A 2 c', .slice A' 2 c'', .int .i64 0]) ∧ SetIn w' w'.heap.size A upS ∧ Below w.heap.size w w' := by
  refine (on_any chessS chessS S S 2 c 2 c w rfl rfl hS hS chessS_wf chessS_wf (by omega) (by omega)).mono ?_
  rintro e w' ⟨hb, hr⟩
  rw [if_neg (by decide +kernel), on_chess] at hr
  obtain ⟨v, v', he, h1, h2⟩ := hr
  obtain ⟨A, c1, rfl, -, -, hS1⟩ := own_set h1
  obtain ⟨A', c2, rfl⟩ : ∃ A c, v' = .slice A 2 c := by
    rcases h2.2 with ⟨rfl, h0⟩ | ⟨_, _, _, rfl, _⟩
    · simp at h0
    · exact ⟨_, _, rfl⟩
  exact ⟨A, c1, A', c2, he, hS1.old, hb⟩
theorem sq4 (S : Option Addr) (c : Nat) (w : World) (hS : SetIn w w.heap.size S upS) (h : Env w) : Calls Tryd.prog 26 #[.slice S 2 c] w fun e w' =>
    e = .returned (.tuple #[.string ⟨#[49, 46, 48, 46, 49, 46, 49, 32, 48, 46, 49, 46, 48, 46, 48]⟩, .int .i64 0]) ∧ Below w.heap.size w w' := by
  have hq := text_any upS S c w hS upS_wf (by decide) h
  rw [text_ok (s := upS) (by decide), show sText upS = _ from text_up] at hq
  exact hq
theorem sq5 (S : Option Addr) (c : Nat) (w : World) (hS : SetIn w w.heap.size S chessS) : Calls Tryd.prog 18 #[.slice S 2 c, .int .i64 0, .int .i64 1, .int .i64 3] w fun e w' =>
    ∃ A c', e = .returned (.tuple #[.slice A 3 c', .int .i64 0]) ∧ IntsIn w' w'.heap.size A [0, 1, 0] ∧ Below w.heap.size w w' := by
  refine (path_any chessS S 2 c 0 1 3 w rfl hS chessS_wf (by omega)).mono ?_
  rintro e w' ⟨hb, hr⟩
  have h1 : pathE chessS 0 1 (3 : Int).toNat = some [0, 1, 0] := path_chess
  rw [if_neg (by decide +kernel), if_neg (by decide), h1] at hr
  obtain ⟨A, c', he, hI⟩ := hr
  exact ⟨A, c', he, hI, hb⟩
set_option maxHeartbeats 4000000 in
theorem awake4_any (w : World) (h : Env w) :
    Calls Tryd.prog 8 #[] w fun e w' => e = .returned (.bool true) ∧ Below w.heap.size w w' := by
  go_enter Tryd.func8, Tryd.ntmps8
  go_wp2_with fail
  refine (parse_two _ h).mono ?_
  rintro e w1 ⟨S1, c1, rfl, hS1, hb1⟩
  go_wp2_with fail
  refine (parse_chess _ (h.keep hb1)).mono ?_
  rintro e w2 ⟨S2, c2, rfl, hS2, hb2⟩
  have hb02 : Below w.heap.size w w2 := hb1.trans (hb2.mono hb1.size)
  have hA2 := (hS1.keep hb2).old
  have hB2 := hS2.old
  clear hS1 hS2
  go_wp2_with fail
  refine (sq1 _ _ _ hA2).mono ?_
  rintro e w3 ⟨rfl, hb3⟩
  have hb03 : Below w.heap.size w w3 := hb02.trans (hb3.mono hb02.size)
  have hA3 := hA2.keep hb3 hb3.size
  have hB3 := hB2.keep hb3 hb3.size
  clear hA2 hB2
  go_wp2_with fail
  refine (sq2 _ _ _ hA3).mono ?_
  rintro e w4 ⟨A4, c4, rfl, hb4⟩
  have hb04 : Below w.heap.size w w4 := hb03.trans (hb4.mono hb03.size)
  have hB4 := hB3.keep hb4 hb4.size
  clear hA3 hB3
  go_wp2_with fail
  refine (sq3 _ _ _ hB4).mono ?_
  rintro e w5 ⟨A5, c5, A5', c5', rfl, hU5, hb5⟩
  have hb05 : Below w.heap.size w w5 := hb04.trans (hb5.mono hb04.size)
  have hB5 := hB4.keep hb5 hb5.size
  clear hB4
  go_wp2_with fail
  refine (sq4 _ _ _ hU5 (h.keep hb05)).mono ?_
  rintro e w6 ⟨rfl, hb6⟩
  have hb06 : Below w.heap.size w w6 := hb05.trans (hb6.mono hb05.size)
  have hB6 := hB5.keep hb6 hb6.size
  clear hB5 hU5
  go_wp2_with fail
  refine (sq5 _ _ _ hB6).mono ?_
  rintro e w7 ⟨A7, c7, rfl, hI7, hb7⟩
  have hb07 : Below w.heap.size w w7 := hb06.trans (hb7.mono hb06.size)
  clear hB6 hb1 hb2 hb3 hb4 hb5 hb6 hb02 hb03 hb04 hb05 hb06
  go_wp2_with fail
  have hJ := ints_new w7 [0, 1, 0] 3
  obtain ⟨W8, hW8⟩ : ∃ W8, W8 = w7.alloc (.cells #[.int .i64 0, .int .i64 1, .int .i64 0] 3) := ⟨_, rfl⟩
  have hb78 : Below w7.heap.size w7 W8 := by rw [hW8]; exact (Below.refl _ _).alloc (Nat.le_refl _) _
  have hJ8 : IntsIn W8 W8.heap.size (some ⟨w7.heap.size, 0, none⟩) [0, 1, 0] := by rw [hW8]; exact hJ.keep (Below.refl _ _) (by simp)
  have hI8 := hI7.keep hb78 hb78.size
  rw [← hW8]
  clear hW8 hJ hI7
  refine (rsameI_any [0, 1, 0] _ _ 3 3 _ _ _ rfl rfl (by omega) hI8 hJ8).mono ?_
  rintro e w9 ⟨rfl, hb9⟩
  have hb09 : Below w.heap.size w w9 := hb07.trans ((hb78.trans (hb9.mono hb78.size)).mono hb07.size)
  go_wp2_with fail
  go_ret
  exact ⟨rfl, hb09⟩
end Go.Proofs.YtgadfmknjpanpaaDoor

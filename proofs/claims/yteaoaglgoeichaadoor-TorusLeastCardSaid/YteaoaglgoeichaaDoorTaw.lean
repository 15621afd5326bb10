/-
  groutworklaw03.awake: the examples of the third chapter.
-/
import Derived.Test.YteaoaglgoeichaaDoorTC
import Derived.Test.YteaoaglgoeichaaDoorAp
import Derived.Test.YteaoaglgoeichaaDoorSm
namespace Go.Proofs.YteaoaglgoeichaaDoor
open Go.RowKit Go.Maps
set_option linter.unusedVariables false
set_option linter.unusedSimpArgs false
set_option maxRecDepth 100000

def soloS : List Tl := [⟨0, 1, 0, 0⟩]
theorem soloS_wf : ∀ t ∈ soloS, twf t := by
  intro t ht
  simp only [soloS, List.mem_cons, List.not_mem_nil, or_false] at ht
  subst ht
  exact ⟨by decide, by decide, by decide, by decide⟩
theorem text_solo : sText soloS = ⟨#[48, 46, 49, 46, 48, 46, 48]⟩ := by
  simp only [soloS, sText, tText, tList, glue, List.map_cons, List.map_nil, dec_one (n := 0) (by decide) (by decide), dec_one (n := 1) (by decide) (by decide)]
  decide
theorem parse_solo (w : World) (h : Env w) : Calls Tryd.prog 15 #[.string ⟨#[48, 46, 49, 46, 48, 46, 48]⟩] w fun e w' =>
    ∃ A c, e = .returned (.tuple #[.slice A 1 c, .int .i64 0]) ∧ SetNew w' w.heap.size A soloS ∧ Below w.heap.size w w' := by
  refine (parse_any _ (by decide) w h).mono ?_
  rintro e w' ⟨hb, hp⟩
  rw [← text_solo, parse_text (by decide)] at hp
  obtain ⟨A, c, he, hs⟩ := hp
  exact ⟨A, c, he, hs, hb⟩
theorem least_ch : leastE chessS 6 = some (2, 2, [[0, 1], [1, 0]]) := by decide +kernel
theorem least_solo : leastE soloS 4 = none := by decide +kernel
theorem find_ch : (torsE chessS 2 1).head? = none := by decide +kernel
theorem tq1 (S : Option Addr) (c : Nat) (w : World) (hS : SetIn w w.heap.size S chessS) : Calls Tryd.prog 13 #[.slice S 2 c, .int .i64 6] w fun e w' =>
    ∃ A c', e = .returned (.tuple #[.agg #[.int .i64 2, .int .i64 2, .slice A 4 c'], .int .i64 0]) ∧ IntsIn w' w'.heap.size A [0, 1, 1, 0] ∧ Below w.heap.size w w' := by
  refine (least_anyT chessS S 2 c 6 w rfl hS chessS_wf (by omega)).mono ?_
  rintro e w' ⟨hb, hr⟩
  have h0 : tcheckE chessS 6 6 = 0 := by decide +kernel
  have h1 : leastE chessS (6 : Int).toNat = some (2, 2, [[0, 1], [1, 0]]) := least_ch
  rw [if_neg (fun hne => hne h0), h1] at hr
  obtain ⟨A, c', he, hI⟩ := hr
  exact ⟨A, c', he, hI, hb⟩
theorem tq2 (S : Option Addr) (c : Nat) (w : World) (hS : SetIn w w.heap.size S chessS) : Calls Tryd.prog 7 #[.slice S 2 c, .int .i64 2, .int .i64 1] w fun e w' =>
    e = .returned (.tuple #[.agg #[.int .i64 0, .int .i64 0, .slice none 0 0], .int .i64 6]) ∧ Below w.heap.size w w' := by
  refine (find_anyT chessS S 2 c 2 1 w rfl hS chessS_wf (by omega)).mono ?_
  rintro e w' ⟨hb, hr⟩
  have h0 : tcheckE chessS 2 1 = 0 := by decide +kernel
  have h1 : (torsE chessS (2 : Int).toNat (1 : Int).toNat).head? = none := find_ch
  rw [if_neg (fun hne => hne h0), h1] at hr
  exact ⟨hr, hb⟩
theorem tq3 (S : Option Addr) (c : Nat) (w : World) (hS : SetIn w w.heap.size S soloS) : Calls Tryd.prog 13 #[.slice S 1 c, .int .i64 4] w fun e w' =>
    e = .returned (.tuple #[.agg #[.int .i64 0, .int .i64 0, .slice none 0 0], .int .i64 6]) ∧ Below w.heap.size w w' := by
  refine (least_anyT soloS S 1 c 4 w rfl hS soloS_wf (by omega)).mono ?_
  rintro e w' ⟨hb, hr⟩
  have h0 : tcheckE soloS 4 4 = 0 := by decide +kernel
  have h1 : leastE soloS (4 : Int).toNat = none := least_solo
  rw [if_neg (fun hne => hne h0), h1] at hr
  exact ⟨hr, hb⟩
set_option maxHeartbeats 4000000 in
theorem awake3_any (w : World) (h : Env w) :
    Calls Tryd.prog 5 #[] w fun e w' => e = .returned (.bool true) ∧ Below w.heap.size w w' := by
  go_enter Tryd.func5, Tryd.ntmps5
  go_wp2_with fail
  refine (parse_chess _ h).mono ?_
  rintro e w1 ⟨S1, c1, rfl, hS1, hb1⟩
  go_wp2_with fail
  refine (parse_solo _ (h.keep hb1)).mono ?_
  rintro e w2 ⟨S2, c2, rfl, hS2, hb2⟩
  have hb02 : Below w.heap.size w w2 := hb1.trans (hb2.mono hb1.size)
  have hA2 := (hS1.keep hb2).old
  have hB2 := hS2.old
  clear hS1 hS2
  go_wp2_with fail
  refine (tq1 _ _ _ hA2).mono ?_
  rintro e w3 ⟨A3, c3, rfl, hI3, hb3⟩
  have hb03 : Below w.heap.size w w3 := hb02.trans (hb3.mono hb02.size)
  have hA3 := hA2.keep hb3 hb3.size
  have hB3 := hB2.keep hb3 hb3.size
  clear hA2 hB2
  go_wp2_with fail
  obtain ⟨W4, hW4⟩ : ∃ W4, W4 = w3.alloc (.cells #[.int .i64 2, .int .i64 2, .slice A3 4 c3] 27) := ⟨_, rfl⟩
  have hb34 : Below w3.heap.size w3 W4 := by rw [hW4]; exact (Below.refl _ _).alloc (Nat.le_refl _) _
  have hp4 : W4.heap[w3.heap.size]? = some (.cells #[.int .i64 2, .int .i64 2, .slice A3 4 c3] 27 (0, 0)) := by rw [hW4]; exact heap_at _ _ _ rfl
  rw [← hW4]
  clear hW4
  refine (tq2 _ _ _ (hA3.keep hb34 hb34.size)).mono ?_
  rintro e w5 ⟨rfl, hb5⟩
  have hb35 : Below w3.heap.size w3 w5 := hb34.trans (hb5.mono hb34.size)
  have hp5 := (hb5.block w3.heap.size (Array.getElem?_eq_some_iff.1 hp4).1).trans hp4
  clear hp4 hA3
  go_wp2_with fail
  have hb5a : Below w5.heap.size w5 (w5.alloc (.cells #[.int .i64 0, .int .i64 0, .slice none 0 0] 27)) := (Below.refl _ _).alloc (Nat.le_refl _) _
  have hb35a := hb35.trans (hb5a.mono hb35.size)
  refine (tq3 _ _ _ (hB3.keep hb35a hb35a.size)).mono ?_
  rintro e w6 ⟨rfl, hb6⟩
  have hb36 : Below w3.heap.size w3 w6 := hb35a.trans (hb6.mono hb35a.size)
  have hp6 := ((hb5a.trans (hb6.mono hb5a.size)).block w3.heap.size (Array.getElem?_eq_some_iff.1 hp5).1).trans hp5
  have hI6 := hI3.keep hb36 hb36.size
  have hb06 : Below w.heap.size w w6 := hb03.trans (hb36.mono hb03.size)
  have hp7 := heap_kp hp6 (.cells #[.int .i64 0, .int .i64 0, .slice none 0 0] 27)
  obtain ⟨y0, y1, y2, y3⟩ := zcells hp7
  clear hp7 hp5 hp6 hB3 hI3 hb1 hb2 hb3 hb02 hb03 hb34 hb35 hb36 hb5 hb6 hb5a hb35a
  go_wp2_with fail
  obtain ⟨W7, hW7⟩ : ∃ W7, W7 = (w6.alloc (.cells #[.int .i64 0, .int .i64 0, .slice none 0 0] 27)).alloc (.cells #[.int .i64 0, .int .i64 1, .int .i64 1, .int .i64 0] 3) := ⟨_, rfl⟩
  have hb67 : Below w6.heap.size w6 W7 := by rw [hW7]; exact below_two _ _ _
  have hsz : (w6.alloc (.cells #[.int .i64 0, .int .i64 0, .slice none 0 0] 27)).heap.size = w6.heap.size + 1 := by simp
  have hJ0 := ints_new (w6.alloc (.cells #[.int .i64 0, .int .i64 0, .slice none 0 0] 27)) [0, 1, 1, 0] 3
  rw [hsz] at hJ0
  have hJ : IntsIn W7 W7.heap.size (some ⟨w6.heap.size + 1, 0, none⟩) [0, 1, 1, 0] := by rw [hW7]; exact hJ0.keep (Below.refl _ _) (by simp)
  have hI7 := hI6.keep hb67 hb67.size
  rw [← hW7]
  clear hJ0 hW7 hI6 hsz y0 y1 y2 y3
  refine (rsameP_any 2 2 [0, 1, 1, 0] _ _ 4 4 _ _ _ rfl rfl (by omega) hI7 hJ).mono ?_
  rintro e w7 ⟨rfl, hb7⟩
  have hb07 : Below w.heap.size w w7 := hb06.trans ((hb67.trans (hb7.mono hb67.size)).mono hb06.size)
  go_wp2_with fail
  go_ret
  exact ⟨rfl, hb07⟩
end Go.Proofs.YteaoaglgoeichaaDoor

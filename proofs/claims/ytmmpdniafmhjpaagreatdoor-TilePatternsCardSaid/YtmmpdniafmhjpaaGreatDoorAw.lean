/-
  groutworklaw01.awake: the chapter's examples hold.
-/
import Derived.Test.YtmmpdniafmhjpaaGreatDoorRt
import Derived.Test.YtmmpdniafmhjpaaGreatDoorG
namespace Go.Proofs.YtmmpdniafmhjpaaGreatDoor
open Go.RowKit Go.Maps
set_option linter.unusedVariables false
set_option maxRecDepth 100000

def chessS : List Tl := [⟨0, 1, 1, 0⟩, ⟨1, 0, 0, 1⟩]
theorem chessS_wf : ∀ t ∈ chessS, twf t := by
  intro t ht
  simp only [chessS, List.mem_cons, List.not_mem_nil, or_false] at ht
  rcases ht with rfl | rfl <;> exact ⟨by decide, by decide, by decide, by decide⟩
theorem oneS_wf : ∀ t ∈ [(⟨0, 1, 0, 1⟩ : Tl)], twf t := by
  intro t ht
  simp only [List.mem_cons, List.not_mem_nil, or_false] at ht
  subst ht
  exact ⟨by decide, by decide, by decide, by decide⟩
theorem parse_one (w : World) (h : Env w) : Calls Tryz.prog 31 #[.string ⟨#[48, 46, 49, 46, 48, 46, 49]⟩] w fun e w' =>
    ∃ A c, e = .returned (.tuple #[.slice A 1 c, .int .i64 0]) ∧ SetNew w' w.heap.size A [⟨0, 1, 0, 1⟩] ∧ Below w.heap.size w w' := by
  refine (parse_any _ (by decide) w h).mono ?_
  rintro e w' ⟨hb, hp⟩
  rw [← text_a, parse_text (by decide)] at hp
  obtain ⟨A, c, he, hs⟩ := hp
  exact ⟨A, c, he, hs, hb⟩
theorem parse_chess (w : World) (h : Env w) : Calls Tryz.prog 31 #[.string ⟨#[48, 46, 49, 46, 49, 46, 48, 32, 49, 46, 48, 46, 48, 46, 49]⟩] w fun e w' =>
    ∃ A c, e = .returned (.tuple #[.slice A 2 c, .int .i64 0]) ∧ SetNew w' w.heap.size A chessS ∧ Below w.heap.size w w' := by
  refine (parse_any _ (by decide) w h).mono ?_
  rintro e w' ⟨hb, hp⟩
  rw [← text_b, parse_text (by decide)] at hp
  obtain ⟨A, c, he, hs⟩ := hp
  exact ⟨A, c, he, hs, hb⟩
theorem text_chess (A : Option Addr) (c : Nat) (w : World) (hs : SetIn w w.heap.size A chessS) (h : Env w) : Calls Tryz.prog 32 #[.slice A 2 c] w fun e w' =>
    e = .returned (.tuple #[.string ⟨#[48, 46, 49, 46, 49, 46, 48, 32, 49, 46, 48, 46, 48, 46, 49]⟩, .int .i64 0]) ∧ Below w.heap.size w w' := by
  have hq := text_any chessS A c w hs chessS_wf (by decide) h
  rw [text_ok (s := chessS) (by decide), show sText chessS = _ from text_b] at hq
  exact hq
theorem rq1 (S A : Option Addr) (c d : Nat) (w : World) (hS : SetIn w w.heap.size S [⟨0, 1, 0, 1⟩]) (hP : IntsIn w w.heap.size A [0]) :
    Calls Tryz.prog 20 #[.slice S 1 d, .agg #[.int .i64 1, .int .i64 1, .slice A 1 c]] w fun e w' => e = .returned (.bool true) ∧ Below w.heap.size w w' :=
  repeats_any 1 1 [0] _ A S 1 1 c d w rfl rfl hS hP oneS_wf (by omega) (by omega)
theorem rq2 (S A : Option Addr) (c d : Nat) (w : World) (hS : SetIn w w.heap.size S chessS) (hP : IntsIn w w.heap.size A [0, 1, 1, 0]) :
    Calls Tryz.prog 20 #[.slice S 2 d, .agg #[.int .i64 2, .int .i64 2, .slice A 4 c]] w fun e w' => e = .returned (.bool true) ∧ Below w.heap.size w w' :=
  repeats_any 2 2 [0, 1, 1, 0] chessS A S 2 4 c d w rfl rfl hS hP chessS_wf (by omega) (by omega)
theorem fq3 (S A : Option Addr) (c d : Nat) (w : World) (hS : SetIn w w.heap.size S chessS) (hP : IntsIn w w.heap.size A [0, 0]) :
    Calls Tryz.prog 22 #[.slice S 2 d, .agg #[.int .i64 2, .int .i64 1, .slice A 2 c]] w fun e w' => e = .returned (.bool false) ∧ Below w.heap.size w w' :=
  fits_any 2 1 [0, 0] chessS A S 2 2 c d w rfl rfl hS hP chessS_wf (by omega) (by omega)
/-- a literal slice of integers -/
theorem ints_new (w : World) (cs : List Int) (e : TypeId) : IntsIn (w.alloc (.cells (cs.map (Value.int .i64)).toArray e)) (w.heap.size + 1) (some ⟨w.heap.size, 0, none⟩) cs := fun _ =>
  ⟨w.heap.size, 0, rfl, by omega, fun i hi => by
    rw [World.cell?_alloc_new]
    simp [List.getElem?_eq_getElem hi, List.getD_eq_getElem?_getD]⟩

set_option maxHeartbeats 4000000 in
theorem awake_any (w : World) (h : Env w) :
    Calls Tryz.prog 6 #[] w fun e w' => e = .returned (.bool true) ∧ Below w.heap.size w w' := by
  go_enter Tryz.func6, Tryz.ntmps6
  go_wp2_with fail
  refine (parse_one _ h).mono ?_
  rintro e w1 ⟨S1, c1, rfl, hS1, hb1⟩
  go_wp2_with fail
  refine (parse_chess _ (h.keep hb1)).mono ?_
  rintro e w2 ⟨S2, c2, rfl, hS2, hb2⟩
  have hb02 : Below w.heap.size w w2 := hb1.trans (hb2.mono hb1.size)
  have hS12 := hS1.keep hb2
  go_wp2_with fail
  obtain ⟨W3, hW3⟩ : ∃ W3, W3 = (w2.alloc (.cells #[.int .i64 0, .int .i64 1, .int .i64 1, .int .i64 0] 3)).alloc (.cells #[.int .i64 2, .int .i64 2, .slice (some ⟨w2.heap.size, 0, none⟩) 4 4] 24) := ⟨_, rfl⟩
  have hz3 : W3.heap.size = w2.heap.size + 2 := by rw [hW3]; simp
  have hb23 : Below w2.heap.size w2 W3 := by rw [hW3]; exact ((Below.refl _ _).alloc (Nat.le_refl _) _).alloc (by simp) _
  have q0 : W3.cell? ⟨w2.heap.size + 1, 0, none⟩ = some (.int .i64 2) := by rw [hW3]; simp [go_sem]
  have q1 : W3.cell? ⟨w2.heap.size + 1, 1, none⟩ = some (.int .i64 2) := by rw [hW3]; simp [go_sem]
  have q2 : W3.cell? ⟨w2.heap.size + 1, 2, none⟩ = some (.slice (some ⟨w2.heap.size, 0, none⟩) 4 4) := by rw [hW3]; simp [go_sem]
  have hI : IntsIn W3 W3.heap.size (some ⟨w2.heap.size, 0, none⟩) [0, 1, 1, 0] := by
    rw [hW3]
    exact (ints_new w2 [0, 1, 1, 0] 3).keep ((Below.refl _ _).alloc (by simp) _) (by simp)
  have hb03 : Below w.heap.size w W3 := hb02.trans (hb23.mono hb02.size)
  have hA3 : SetIn W3 W3.heap.size S1 [⟨0, 1, 0, 1⟩] := hS12.old.keep hb23 hb23.size
  have hB3 : SetIn W3 W3.heap.size S2 chessS := hS2.old.keep hb23 hb23.size
  rw [← hW3]
  refine (text_chess _ _ _ hB3 (h.keep hb03)).mono ?_
  rintro e w4 ⟨rfl, hb4⟩
  have p0 := (hb4.cell (p := ⟨w2.heap.size + 1, 0, none⟩) (by show w2.heap.size + 1 < _; omega)).trans q0
  have p1 := (hb4.cell (p := ⟨w2.heap.size + 1, 1, none⟩) (by show w2.heap.size + 1 < _; omega)).trans q1
  have p2 := (hb4.cell (p := ⟨w2.heap.size + 1, 2, none⟩) (by show w2.heap.size + 1 < _; omega)).trans q2
  have hs4 := hb4.size
  have hA4 := hA3.keep hb4 hb4.size
  have hB4 := hB3.keep hb4 hb4.size
  have hI4 := hI.keep hb4 hb4.size
  have hb04 : Below w.heap.size w w4 := hb03.trans (hb4.mono hb03.size)
  clear q0 q1 q2 hW3 hI hA3 hB3 hb4 hS1 hS2 hS12 hb1 hb2 hb02 hb03 hb23
  go_wp2_with fail
  have hb45 : Below w4.heap.size w4 (w4.alloc (.cells #[.int .i64 0] 3)) := (Below.refl _ _).alloc (Nat.le_refl _) _
  refine (rq1 _ _ _ _ _ (hA4.keep hb45 hb45.size) ((ints_new w4 [0] 3).keep (Below.refl _ _) (by simp))).mono ?_
  rintro e w5 ⟨rfl, hb5⟩
  have hb46 : Below w4.heap.size w4 w5 := hb45.trans (hb5.mono (by simp))
  have r0 := (hb46.cell (p := ⟨w2.heap.size + 1, 0, none⟩) (by show w2.heap.size + 1 < _; omega)).trans p0
  have r1 := (hb46.cell (p := ⟨w2.heap.size + 1, 1, none⟩) (by show w2.heap.size + 1 < _; omega)).trans p1
  have r2 := (hb46.cell (p := ⟨w2.heap.size + 1, 2, none⟩) (by show w2.heap.size + 1 < _; omega)).trans p2
  have hB5 := hB4.keep hb46 hb46.size
  have hI5 := hI4.keep hb46 hb46.size
  have hb05 : Below w.heap.size w w5 := hb04.trans (hb46.mono hb04.size)
  clear p0 p1 p2 hb45 hb5
  go_wp2_with fail
  refine (rq2 _ _ _ _ _ hB5 hI5).mono ?_
  rintro e w6 ⟨rfl, hb6⟩
  have hB6 := hB5.keep hb6 hb6.size
  have hb06 : Below w.heap.size w w6 := hb05.trans (hb6.mono hb05.size)
  clear r0 r1 r2
  go_wp2_with fail
  have hb67 : Below w6.heap.size w6 (w6.alloc (.cells #[.int .i64 0, .int .i64 0] 3)) := (Below.refl _ _).alloc (Nat.le_refl _) _
  refine (fq3 _ _ _ _ _ (hB6.keep hb67 hb67.size) ((ints_new w6 [0, 0] 3).keep (Below.refl _ _) (by simp))).mono ?_
  rintro e w7 ⟨rfl, hb7⟩
  have hb07 : Below w.heap.size w w7 := hb06.trans ((hb67.trans (hb7.mono (by simp))).mono hb06.size)
  go_wp2_with fail
  go_ret
  exact ⟨rfl, hb07⟩
end Go.Proofs.YtmmpdniafmhjpaaGreatDoor

/-
  groutworktop.lives.
-/
import Derived.Test.YtnmigjohomdbnaaGf
import Derived.Test.YtnmigjohomdbnaaL
import Derived.Deep.RegionHeld3
namespace Go.Proofs.Ytnmigjohomdbnaa
open Go.RowKit Go.Maps Go.BigFrame
set_option linter.unusedVariables false

theorem rep31 (A : Option Addr) (c : Nat) (w : World) (hP : IntsIn w w.heap.size A [0, 1, 1, 0]) :
    Calls Try.prog 8 #[.agg #[.int .i64 2, .int .i64 2, .slice A 4 c], .int .i64 3, .int .i64 1] w fun e w' =>
      ∃ B c', e = .returned (.tuple #[.agg #[.int .i64 3, .int .i64 1, .slice B 3 c'], .int .i64 0]) ∧ IntsNew w' w.heap.size B [0, 1, 0] ∧ Below w.heap.size w w' :=
  repeat_ok 2 2 [0, 1, 1, 0] A 4 c 3 1 3 1 w rfl rfl (by decide) rfl (by omega) hP (by omega) (by omega) (by omega)
theorem rp1 (S A : Option Addr) (c d : Nat) (w : World) (hS : SetIn w w.heap.size S chessL) (hP : IntsIn w w.heap.size A [0, 1, 1, 0]) :
    Calls Try.prog 9 #[.slice S 2 d, .agg #[.int .i64 2, .int .i64 2, .slice A 4 c]] w fun e w' => e = .returned (.bool true) ∧ Below w.heap.size w w' :=
  repeats_any 2 2 [0, 1, 1, 0] chessL A S 2 4 c d w rfl rfl hS hP chess_wf (by omega) (by omega)
theorem rp2 (S A : Option Addr) (c d : Nat) (w : World) (hS : SetIn w w.heap.size S chessL) (hP : IntsIn w w.heap.size A [0]) :
    Calls Try.prog 9 #[.slice S 2 d, .agg #[.int .i64 1, .int .i64 1, .slice A 1 c]] w fun e w' => e = .returned (.bool false) ∧ Below w.heap.size w w' :=
  repeats_any 1 1 [0] chessL A S 2 1 c d w rfl rfl hS hP chess_wf (by omega) (by omega)
theorem ft3 (S A : Option Addr) (c d : Nat) (w : World) (hS : SetIn w w.heap.size S chessL) (hP : IntsIn w w.heap.size A [0, 1, 0]) :
    Calls Try.prog 12 #[.slice S 2 d, .agg #[.int .i64 3, .int .i64 1, .slice A 3 c]] w fun e w' => e = .returned (.bool true) ∧ Below w.heap.size w w' :=
  fits_any 3 1 [0, 1, 0] chessL A S 2 3 c d w rfl rfl hS hP chess_wf (by omega) (by omega)
theorem sm3 (A B : Option Addr) (c d : Nat) (w : World) (hA : IntsIn w w.heap.size A [0, 1, 0]) (hB : IntsIn w w.heap.size B [0, 1, 0]) :
    Calls Try.prog 11 #[.slice A 3 c, .slice B 3 d] w fun e w' => e = .returned (.bool true) ∧ Below w.heap.size w w' :=
  sameInts_any [0, 1, 0] [0, 1, 0] A B 3 3 c d w rfl rfl hA hB (by omega) (by omega)

/-- a literal slice of integers -/
theorem ints_lit (w : World) (cs : List Int) (e : TypeId) : IntsIn (w.alloc (.cells (cs.map (Value.int .i64)).toArray e)) (w.heap.size + 1) (some ⟨w.heap.size, 0, none⟩) cs := fun _ =>
  ⟨w.heap.size, 0, rfl, by omega, fun i hi => by
    rw [World.cell?_alloc_new]
    simp [List.getElem?_eq_getElem hi, List.getD_eq_getElem?_getD]⟩
set_option maxHeartbeats 4000000 in
theorem lives_any (w : World) :
    Calls Try.prog 4 #[] w fun e w' => e = .returned (.bool true) ∧ Below w.heap.size w w' := by
  go_enter Try.func4, Try.ntmps4
  go_wp2_with fail
  refine (rep31 _ _ _ ?_).mono ?_
  · exact (ints_lit w [0, 1, 1, 0] 3).keep ((Below.refl _ _).alloc (by simp) _) (by simp)
  rintro e w2 ⟨B, c2, rfl, hQ, hb2⟩
  go_wp2_with fail
  obtain ⟨W3, hW3⟩ : ∃ W3, W3 = w2.alloc (.cells #[.int .i64 3, .int .i64 1, .slice B 3 c2] 25) := ⟨_, rfl⟩
  have hs2 : w.heap.size + 2 ≤ w2.heap.size := by have := hb2.size; simpa using this
  have hz3 : W3.heap.size = w2.heap.size + 1 := by rw [hW3]; simp
  have hb3 : Below w2.heap.size w2 W3 := by rw [hW3]; exact (Below.refl _ _).alloc (Nat.le_refl _) _
  have q0 : W3.cell? ⟨w2.heap.size, 0, none⟩ = some (.int .i64 3) := by rw [hW3]; simp
  have q1 : W3.cell? ⟨w2.heap.size, 1, none⟩ = some (.int .i64 1) := by rw [hW3]; simp
  have q2 : W3.cell? ⟨w2.heap.size, 2, none⟩ = some (.slice B 3 c2) := by rw [hW3]; simp
  have p0 : W3.cell? ⟨w.heap.size + 1, 0, none⟩ = some (.int .i64 2) := (hb3.cell (p := ⟨w.heap.size + 1, 0, none⟩) (by show w.heap.size + 1 < _; omega)).trans ((hb2.cell (p := ⟨w.heap.size + 1, 0, none⟩) (by simp)).trans (by simp [go_sem]))
  have p1 : W3.cell? ⟨w.heap.size + 1, 1, none⟩ = some (.int .i64 2) := (hb3.cell (p := ⟨w.heap.size + 1, 1, none⟩) (by show w.heap.size + 1 < _; omega)).trans ((hb2.cell (p := ⟨w.heap.size + 1, 1, none⟩) (by simp)).trans (by simp [go_sem]))
  have p2 : W3.cell? ⟨w.heap.size + 1, 2, none⟩ = some (.slice (some ⟨w.heap.size, 0, none⟩) 4 4) := (hb3.cell (p := ⟨w.heap.size + 1, 2, none⟩) (by show w.heap.size + 1 < _; omega)).trans ((hb2.cell (p := ⟨w.heap.size + 1, 2, none⟩) (by simp)).trans (by simp [go_sem]))
  have hb23 : Below w.heap.size w W3 := ((((Below.refl _ _).alloc (Nat.le_refl _) _).alloc (by simp) _).trans (hb2.mono (by simp; omega))).trans (hb3.mono (by omega))
  have IA : IntsIn W3 W3.heap.size (some ⟨w.heap.size, 0, none⟩) [0, 1, 1, 0] := ((((ints_lit w [0, 1, 1, 0] 3).keep (B' := w.heap.size + 1) ((Below.refl _ _).alloc (by simp) _) (by omega)).keep (B' := w2.heap.size) (hb2.mono (by simp)) (by omega)).keep (B' := W3.heap.size) (hb3.mono (by omega)) hb3.size)
  have IB : IntsIn W3 W3.heap.size B [0, 1, 0] := hQ.old.keep hb3 hb3.size
  rw [← hW3]
  clear hW3 hb2 hb3 hz3 hQ
  have HIA := Lib.hid IA
  have HIB := Lib.hid IB
  have hk : ∀ {a v}, W3.cell? a = some v → ∀ w', Below W3.heap.size W3 w' → w'.cell? a = some v := fun h w' hb => (hb.cell (World.block_lt_of_cell? W3 _ h)).trans h
  have r0 := hk q0
  have r1 := hk q1
  have r2 := hk q2
  have r3 := hk p0
  have r4 := hk p1
  have r5 := hk p2
  clear hk q0 q1 q2 p0 p1 p2 IA IB
  go_region_held3 (fun w' => Below W3.heap.size W3 w') (first | exact (Below.refl _ _).drew | exact Below.alloc (by assumption) (Below.size (by assumption)) _ | exact Below.trans (by assumption) (hn.mono (Below.size (by assumption))))
    (first | (go_at_call 10; (with_reducible refine (chess_any _).mono ?_); rintro e wn ⟨S, rfl, hS, hn⟩) | (go_at_call 9; (with_reducible refine (rp1 _ _ _ _ _ ?_ ?_).mono ?_); (exact hS); (exact HIA.out.keep (by assumption) (Below.size (by assumption))); rintro e wn ⟨rfl, hn⟩) | (go_at_call 9; (with_reducible refine (rp2 _ _ _ _ _ ?_ ?_).mono ?_); (first | exact hS | exact hS.keep ((Below.refl _ _).alloc (Nat.le_refl _) _) (by simp)); (first | exact (ints_lit _ [0] 3).keep (hn.mono (by simp)) (by have := hn.size; simp at this; omega) | exact (ints_lit _ [0] 3).keep (Below.refl _ _) (by simp)); rintro e wn ⟨rfl, hn⟩) | (go_at_call 11; (with_reducible refine (sm3 _ _ _ _ _ ?_ ?_).mono ?_); (exact HIB.out.keep (by assumption) (Below.size (by assumption))); (exact (ints_lit _ [0, 1, 0] 3).keep (Below.refl _ _) (by simp)); rintro e wn ⟨rfl, hn⟩) | (go_at_call 12; (with_reducible refine (ft3 _ _ _ _ _ ?_ ?_).mono ?_); (exact hS); (exact HIB.out.keep (by assumption) (Below.size (by assumption))); rintro e wn ⟨rfl, hn⟩))
  all_goals
    go_wp2
    go_ret
    exact ⟨rfl, hb23.trans (Below.mono (by assumption) hb23.size)⟩
end Go.Proofs.Ytnmigjohomdbnaa

/-
  groutworklaw01.TilePatterns, walked.
-/
import Derived.Test.YtmmpdniafmhjpaaGreatDoorPw
import Derived.Test.YtmmpdniafmhjpaaGreatDoorRb
import Derived.Test.YtmmpdniafmhjpaaGreatDoorAw
import Derived.Deep.RegionHeld3
import Derived.Deep.CutRange
import Derived.Deep.DeepCutAuto
namespace Go.Proofs.YtmmpdniafmhjpaaGreatDoor
open Go.RowKit Go.Maps Go.BigFrame
set_option linter.unusedVariables false
set_option maxRecDepth 100000

/-- a pattern and an error that are returned -/
def IsAny (dw dh : Int) (dn : Nat) (dcs : List Int) (de : Int) (W : World) (e : Ending) (w' : World) : Prop := Below W.heap.size W w' ∧ ∃ B c, e = .returned (.tuple #[.agg #[.int .i64 dw, .int .i64 dh, .slice B dn c], .int .i64 de]) ∧ IntsNew w' W.heap.size B dcs
theorem IsPat.any {q : Pt} {W : World} {e : Ending} {w' : World} {dw dh : Int} {dn : Nat} {dcs : List Int} (h : IsPat q W e w') (h1 : dw = q.w) (h2 : dh = q.h) (h3 : dn = q.c.length) (h4 : dcs = q.c) : IsAny dw dh dn dcs 0 W e w' := by
  subst h1
  subst h2
  subst h3
  subst h4
  obtain ⟨hb, B, c, he, hI⟩ := h
  exact ⟨hb, B, c, he, hI⟩
theorem IsNoPat.any {k : Int} {W : World} {e : Ending} {w' : World} (h : IsNoPat k W e w') : IsAny 0 0 0 [] k W e w' := ⟨h.1, none, 0, h.2, fun hn => absurd rfl hn⟩
theorem IsRPat.any {q : Pt} {n : Nat} {W : World} {e : Ending} {w' : World} (h : IsRPat q W e w') (hn : n = q.c.length) : Below W.heap.size W w' ∧ ∃ B c, e = .returned (.agg #[.int .i64 q.w, .int .i64 q.h, .slice B n c]) ∧ IntsNew w' W.heap.size B q.c := by
  subst hn
  obtain ⟨hb, B, c, he, hI⟩ := h
  exact ⟨hb, B, c, he, hI⟩

set_option maxHeartbeats 2000000 in
theorem tp_wide (a b X Y Wd Hg : Int) (A : Option Addr) (n c : Nat) (w : World) (hn5 : 50000 < n) (h : Env w) :
    Calls Tryz.prog 3 #[.agg #[.int .i64 a, .int .i64 b, .slice A n c], .int .i64 X, .int .i64 Y, .int .i64 Wd, .int .i64 Hg] w fun e w' => e = .returned (.bool true) ∧ Below w.heap.size w w' := by
  have hb0 : Below w.heap.size w (w.alloc (.cells #[.int .i64 a, .int .i64 b, .slice A n c] 24)) := (Below.refl _ _).alloc (Nat.le_refl _) _
  go_enter Tryz.func3, Tryz.ntmps3
  go_wp2_with fail
  refine (awake_any _ (h.keep hb0)).mono ?_
  rintro e w2 ⟨rfl, hb2⟩
  go_wp2_with fail
  go_ret
  exact ⟨rfl, hb0.trans (hb2.mono hb0.size)⟩

/-- three cells of a block -/
def Tri (w : World) (b : Nat) (x y z : Value) : Prop := w.cell? ⟨b, 0, none⟩ = some x ∧ w.cell? ⟨b, 1, none⟩ = some y ∧ w.cell? ⟨b, 2, none⟩ = some z
theorem Tri.keep {w w' : World} {b : Nat} {x y z : Value} (h : Tri w b x y z) (hb : Below w.heap.size w w') : Tri w' b x y z := by
  have hl : b < w.heap.size := World.block_lt_of_cell? w _ h.1
  exact ⟨(hb.cell (p := ⟨b, 0, none⟩) hl).trans h.1, (hb.cell (p := ⟨b, 1, none⟩) hl).trans h.2.1, (hb.cell (p := ⟨b, 2, none⟩) hl).trans h.2.2⟩
theorem Tri.new (w : World) (t : TypeId) (x y z : Value) : Tri (w.alloc (.cells #[x, y, z] t)) w.heap.size x y z := ⟨by simp, by simp, by simp⟩
theorem Tri.lt {w : World} {b : Nat} {x y z : Value} (h : Tri w b x y z) : b < w.heap.size := World.block_lt_of_cell? w _ h.1


theorem is_err' (k : Int) (hk : k = 1 ∨ k = 2 ∨ k = 4) (A : Option Addr) (c : Nat) (w : World) :
    Calls Tryz.prog 13 #[.agg #[.int .i64 0, .int .i64 0, .slice A 0 c], .int .i64 k, .agg #[.int .i64 0, .int .i64 0, .slice none 0 0], .int .i64 k] w fun e w' => e = .returned (.bool true) ∧ Below w.heap.size w w' := by
  have hs := fun (W : World) => rsameP_any 0 0 [] A none 0 0 c 0 W rfl rfl (by omega) (fun h => absurd rfl h) (fun h => absurd rfl h)
  have hb2 : Below w.heap.size w ((w.alloc (.cells #[.int .i64 0, .int .i64 0, .slice A 0 c] 24)).alloc (.cells #[.int .i64 0, .int .i64 0, .slice none 0 0] 24)) := ((Below.refl _ _).alloc (Nat.le_refl _) _).alloc (by simp) _
  rcases hk with rfl | rfl | rfl
  all_goals
    go_enter Tryz.func13, Tryz.ntmps13
    go_wp2_with fail
    refine (hs _).mono ?_
    rintro e w3 ⟨rfl, hb3⟩
    go_wp2_with fail
    go_ret
    exact ⟨rfl, hb2.trans (hb3.mono hb2.size)⟩

set_option maxHeartbeats 8000000 in
theorem tp_noform (a b X Y Wd Hg : Int) (cs : List Int) (A : Option Addr) (n c : Nat) (w : World) (hf : form ⟨a, b, cs⟩ = false) (hn : n = cs.length) (hn5 : n ≤ 50000) (h : Env w) :
    Calls Tryz.prog 3 #[.agg #[.int .i64 a, .int .i64 b, .slice A n c], .int .i64 X, .int .i64 Y, .int .i64 Wd, .int .i64 Hg] w fun e w' => e = .returned (.bool true) ∧ Below w.heap.size w w' := by
  have c1 := fun (W : World) (_ : Below w.heap.size w W) => (mirP_bad a b cs A n c W hf hn (by omega)).mono fun _ _ hh => IsNoPat.any hh
  have c2 := fun (W : World) (_ : Below w.heap.size w W) => (upP_bad a b cs A n c W hf hn (by omega)).mono fun _ _ hh => IsNoPat.any hh
  have c3 := fun (W : World) (_ : Below w.heap.size w W) => (turP_bad a b cs A n c W hf hn (by omega)).mono fun _ _ hh => IsNoPat.any hh
  have c4 := fun (W : World) (_ : Below w.heap.size w W) => (cut_noform a b X Y Wd Hg cs A n c W hf hn (by omega)).mono fun _ _ hh => IsNoPat.any hh
  have c5 := fun (W : World) (_ : Below w.heap.size w W) => (rep_noform a b Wd Hg cs A n c W hf hn (by omega)).mono fun _ _ hh => IsNoPat.any hh
  have c6 := fun (W : World) => rform_any a b cs A n c false W hn hf
  clear hf hn
  obtain ⟨W0, hW0⟩ : ∃ W0, W0 = w.alloc (.cells #[.int .i64 a, .int .i64 b, .slice A n c] 24) := ⟨_, rfl⟩
  have hb0 : Below w.heap.size w W0 := by rw [hW0]; exact (Below.refl _ _).alloc (Nat.le_refl _) _
  have HT0 : Hid (Tri W0 w.heap.size (.int .i64 a) (.int .i64 b) (.slice A n c)) := by rw [hW0]; exact Tri.new _ _ _ _ _
  go_enter Tryz.func3, Tryz.ntmps3
  go_wp2_with fail
  rw [← hW0]
  clear hW0
  refine (c1 _ hb0).mono ?_
  rintro e w1 ⟨hx1, B1, e1, rfl, hi1⟩
  have HI1 := Lib.hid hi1
  have hd1 : Below w.heap.size w w1 := hb0.trans (hx1.mono hb0.size)
  obtain ⟨W1, hW1⟩ : ∃ W, W = w1.alloc (.cells #[.int .i64 0, .int .i64 0, .slice B1 0 e1] 24) := ⟨_, rfl⟩
  have hy1 : Below w1.heap.size w1 W1 := by rw [hW1]; exact (Below.refl _ _).alloc (Nat.le_refl _) _
  have hz1 : Below W0.heap.size W0 W1 := hx1.trans (hy1.mono hx1.size)
  have hbc1 : Below w.heap.size w W1 := hd1.trans (hy1.mono hd1.size)
  have HB1 : Hid (Tri W1 w1.heap.size (.int .i64 0) (.int .i64 0) (.slice B1 0 e1)) := by rw [hW1]; exact Tri.new _ _ _ _ _
  have tp1 := HT0.out.keep (hx1)
  have hu1 : Below W0.heap.size W0 W1 := hz1
  have lp1 := tp1.lt
  obtain ⟨q0, q1, q2⟩ := tp1
  clear hi1
  go_wp2_with fail
  rw [← hW1]
  clear hW1 q0 q1 q2 lp1
  refine (c2 _ hbc1).mono ?_
  rintro e w2 ⟨hx2, B2, e2, rfl, hi2⟩
  have HI2 := Lib.hid hi2
  have hd2 : Below w.heap.size w w2 := hbc1.trans (hx2.mono hbc1.size)
  obtain ⟨W2, hW2⟩ : ∃ W, W = w2.alloc (.cells #[.int .i64 0, .int .i64 0, .slice B2 0 e2] 24) := ⟨_, rfl⟩
  have hy2 : Below w2.heap.size w2 W2 := by rw [hW2]; exact (Below.refl _ _).alloc (Nat.le_refl _) _
  have hz2 : Below W1.heap.size W1 W2 := hx2.trans (hy2.mono hx2.size)
  have hbc2 : Below w.heap.size w W2 := hd2.trans (hy2.mono hd2.size)
  have HB2 : Hid (Tri W2 w2.heap.size (.int .i64 0) (.int .i64 0) (.slice B2 0 e2)) := by rw [hW2]; exact Tri.new _ _ _ _ _
  have tp2 := HT0.out.keep (hu1.trans (hx2.mono hu1.size))
  have hu2 : Below W0.heap.size W0 W2 := hu1.trans (hz2.mono hu1.size)
  have lp2 := tp2.lt
  obtain ⟨q0, q1, q2⟩ := tp2
  clear hi2
  go_wp2_with fail
  rw [← hW2]
  clear hW2 q0 q1 q2 lp2
  refine (c3 _ hbc2).mono ?_
  rintro e w3 ⟨hx3, B3, e3, rfl, hi3⟩
  have HI3 := Lib.hid hi3
  have hd3 : Below w.heap.size w w3 := hbc2.trans (hx3.mono hbc2.size)
  obtain ⟨W3, hW3⟩ : ∃ W, W = w3.alloc (.cells #[.int .i64 0, .int .i64 0, .slice B3 0 e3] 24) := ⟨_, rfl⟩
  have hy3 : Below w3.heap.size w3 W3 := by rw [hW3]; exact (Below.refl _ _).alloc (Nat.le_refl _) _
  have hz3 : Below W2.heap.size W2 W3 := hx3.trans (hy3.mono hx3.size)
  have hbc3 : Below w.heap.size w W3 := hd3.trans (hy3.mono hd3.size)
  have HB3 : Hid (Tri W3 w3.heap.size (.int .i64 0) (.int .i64 0) (.slice B3 0 e3)) := by rw [hW3]; exact Tri.new _ _ _ _ _
  have tp3 := HT0.out.keep (hu2.trans (hx3.mono hu2.size))
  have hu3 : Below W0.heap.size W0 W3 := hu2.trans (hz3.mono hu2.size)
  have lp3 := tp3.lt
  obtain ⟨q0, q1, q2⟩ := tp3
  clear hi3
  go_wp2_with fail
  rw [← hW3]
  clear hW3 q0 q1 q2 lp3
  refine (c4 _ hbc3).mono ?_
  rintro e w4 ⟨hx4, B4, e4, rfl, hi4⟩
  have HI4 := Lib.hid hi4
  have hd4 : Below w.heap.size w w4 := hbc3.trans (hx4.mono hbc3.size)
  obtain ⟨W4, hW4⟩ : ∃ W, W = w4.alloc (.cells #[.int .i64 0, .int .i64 0, .slice B4 0 e4] 24) := ⟨_, rfl⟩
  have hy4 : Below w4.heap.size w4 W4 := by rw [hW4]; exact (Below.refl _ _).alloc (Nat.le_refl _) _
  have hz4 : Below W3.heap.size W3 W4 := hx4.trans (hy4.mono hx4.size)
  have hbc4 : Below w.heap.size w W4 := hd4.trans (hy4.mono hd4.size)
  have HB4 : Hid (Tri W4 w4.heap.size (.int .i64 0) (.int .i64 0) (.slice B4 0 e4)) := by rw [hW4]; exact Tri.new _ _ _ _ _
  have tp4 := HT0.out.keep (hu3.trans (hx4.mono hu3.size))
  have hu4 : Below W0.heap.size W0 W4 := hu3.trans (hz4.mono hu3.size)
  have lp4 := tp4.lt
  obtain ⟨q0, q1, q2⟩ := tp4
  clear hi4
  go_wp2_with fail
  rw [← hW4]
  clear hW4 q0 q1 q2 lp4
  refine (c5 _ hbc4).mono ?_
  rintro e w5 ⟨hx5, B5, e5, rfl, hi5⟩
  have HI5 := Lib.hid hi5
  have hd5 : Below w.heap.size w w5 := hbc4.trans (hx5.mono hbc4.size)
  obtain ⟨W5, hW5⟩ : ∃ W, W = w5.alloc (.cells #[.int .i64 0, .int .i64 0, .slice B5 0 e5] 24) := ⟨_, rfl⟩
  have hy5 : Below w5.heap.size w5 W5 := by rw [hW5]; exact (Below.refl _ _).alloc (Nat.le_refl _) _
  have hz5 : Below W4.heap.size W4 W5 := hx5.trans (hy5.mono hx5.size)
  have hbc5 : Below w.heap.size w W5 := hd5.trans (hy5.mono hd5.size)
  have HB5 : Hid (Tri W5 w5.heap.size (.int .i64 0) (.int .i64 0) (.slice B5 0 e5)) := by rw [hW5]; exact Tri.new _ _ _ _ _
  have tp5 := HT0.out.keep (hu4.trans (hx5.mono hu4.size))
  have hu5 : Below W0.heap.size W0 W5 := hu4.trans (hz5.mono hu4.size)
  have lp5 := tp5.lt
  obtain ⟨q0, q1, q2⟩ := tp5
  clear hi5
  go_wp2_with fail
  rw [← hW5]
  have z5 : W5.heap.size = w5.heap.size + 1 := by rw [hW5]; simp
  clear hW5 q0 q1 q2 lp5
  obtain ⟨W6, hW6⟩ : ∃ W, W = W5.alloc (.cells #[.int .i64 0, .int .i64 0, .slice none 0 0] 24) := ⟨_, rfl⟩
  have hz6 : Below W5.heap.size W5 W6 := by rw [hW6]; exact (Below.refl _ _).alloc (Nat.le_refl _) _
  have hbc6 : Below w.heap.size w W6 := hbc5.trans (hz6.mono hbc5.size)
  have HB6 : Hid (Tri W6 (w5.heap.size + 1) (.int .i64 0) (.int .i64 0) (.slice none 0 0)) := by rw [hW6, ← z5]; exact Tri.new _ _ _ _ _
  clear z5
  rw [← hW6]
  clear hW6
  refine (c6 _).mono ?_
  rintro e w7 ⟨rfl, hx7⟩
  have m5 : Below W5.heap.size W5 w7 := hz6.trans (hx7.mono hz6.size)
  have m4 : Below W4.heap.size W4 w7 := hz5.trans (m5.mono hz5.size)
  have m3 : Below W3.heap.size W3 w7 := hz4.trans (m4.mono hz4.size)
  have m2 : Below W2.heap.size W2 w7 := hz3.trans (m3.mono hz3.size)
  have m1 : Below W1.heap.size W1 w7 := hz2.trans (m2.mono hz2.size)
  have m0 : Below W0.heap.size W0 w7 := hz1.trans (m1.mono hz1.size)
  have hb07 : Below w.heap.size w w7 := hb0.trans (m0.mono hb0.size)
  have T0 := Lib.hid (HT0.out.keep m0)
  have T1 := Lib.hid (HB1.out.keep m1)
  have T2 := Lib.hid (HB2.out.keep m2)
  have T3 := Lib.hid (HB3.out.keep m3)
  have T4 := Lib.hid (HB4.out.keep m4)
  have T5 := Lib.hid (HB5.out.keep m5)
  have T6 := Lib.hid (HB6.out.keep hx7)
  have I1 := Lib.hid (HI1.out.keep (hy1.trans (m1.mono hy1.size)))
  have I2 := Lib.hid (HI2.out.keep (hy2.trans (m2.mono hy2.size)))
  have I3 := Lib.hid (HI3.out.keep (hy3.trans (m3.mono hy3.size)))
  have I4 := Lib.hid (HI4.out.keep (hy4.trans (m4.mono hy4.size)))
  have I5 := Lib.hid (HI5.out.keep (hy5.trans (m5.mono hy5.size)))
  clear m0 m1 m2 m3 m4 m5 hz1 hz2 hz3 hz4 hz5 hz6 hx1 hx2 hx3 hx4 hx5 hx7 hy1 hy2 hy3 hy4 hy5 hbc1 hbc2 hbc3 hbc4 hbc5 hbc6 hd1 hd2 hd3 hd4 hd5 hu1 hu2 hu3 hu4 hu5 HT0 HB1 HB2 HB3 HB4 HB5 HB6 HI1 HI2 HI3 HI4 HI5 hb0 c1 c2 c3 c4 c5 c6
  obtain ⟨z0, z1, z2⟩ := T6.out
  have zl := T6.out.lt
  obtain ⟨x0, x1, x2⟩ := T1.out
  have xl := World.block_lt_of_cell? _ _ x0
  go_wp2_with fail
  refine (is_err' 1 (Or.inl rfl) B1 e1 _).mono ?_
  rintro e v1 ⟨rfl, nb1⟩
  have nn1 : Below w7.heap.size w7 v1 := nb1
  clear x0 x1 x2 z0 z1 z2 xl zl
  obtain ⟨x0, x1, x2⟩ := T2.out.keep nn1
  have xl := World.block_lt_of_cell? _ _ x0
  obtain ⟨z0, z1, z2⟩ := T6.out.keep nn1
  have zl := World.block_lt_of_cell? _ _ z0
  go_wp2_with fail
  refine (is_err' 1 (Or.inl rfl) B2 e2 _).mono ?_
  rintro e v2 ⟨rfl, nb2⟩
  have nn2 : Below w7.heap.size w7 v2 := nn1.trans (nb2.mono nn1.size)
  clear x0 x1 x2 z0 z1 z2 xl zl
  obtain ⟨x0, x1, x2⟩ := T3.out.keep nn2
  have xl := World.block_lt_of_cell? _ _ x0
  obtain ⟨z0, z1, z2⟩ := T6.out.keep nn2
  have zl := World.block_lt_of_cell? _ _ z0
  go_wp2_with fail
  refine (is_err' 1 (Or.inl rfl) B3 e3 _).mono ?_
  rintro e v3 ⟨rfl, nb3⟩
  have nn3 : Below w7.heap.size w7 v3 := nn2.trans (nb3.mono nn2.size)
  clear x0 x1 x2 z0 z1 z2 xl zl
  obtain ⟨x0, x1, x2⟩ := T4.out.keep nn3
  have xl := World.block_lt_of_cell? _ _ x0
  obtain ⟨z0, z1, z2⟩ := T6.out.keep nn3
  have zl := World.block_lt_of_cell? _ _ z0
  go_wp2_with fail
  refine (is_err' 1 (Or.inl rfl) B4 e4 _).mono ?_
  rintro e v4 ⟨rfl, nb4⟩
  have nn4 : Below w7.heap.size w7 v4 := nn3.trans (nb4.mono nn3.size)
  clear x0 x1 x2 z0 z1 z2 xl zl
  obtain ⟨x0, x1, x2⟩ := T5.out.keep nn4
  have xl := World.block_lt_of_cell? _ _ x0
  obtain ⟨z0, z1, z2⟩ := T6.out.keep nn4
  have zl := World.block_lt_of_cell? _ _ z0
  go_wp2_with fail
  refine (is_err' 1 (Or.inl rfl) B5 e5 _).mono ?_
  rintro e v5 ⟨rfl, nb5⟩
  have nn5 : Below w7.heap.size w7 v5 := nn4.trans (nb5.mono nn4.size)
  clear x0 x1 x2 z0 z1 z2 xl zl
  go_wp2_with fail
  have hb08 : Below w.heap.size w v5 := hb07.trans (nn5.mono hb07.size)
  refine (awake_any _ (h.keep hb08)).mono ?_
  rintro e v6 ⟨rfl, nb6⟩
  go_wp2_with fail
  go_ret
  exact ⟨rfl, hb08.trans (nb6.mono hb08.size)⟩

theorem s12_call {wi w1 w2 : World} {a0 a1 a2 a3 a4 a5 a6 a7 a8 a9 a10 a11 : Addr} {v0 v1 v2 v3 v4 v5 v6 v7 v8 v9 v10 v11 : Value} (h : Below wi.heap.size wi w1 ∧ w1.cell? a0 = some v0 ∧ w1.cell? a1 = some v1 ∧ w1.cell? a2 = some v2 ∧ w1.cell? a3 = some v3 ∧ w1.cell? a4 = some v4 ∧ w1.cell? a5 = some v5 ∧ w1.cell? a6 = some v6 ∧ w1.cell? a7 = some v7 ∧ w1.cell? a8 = some v8 ∧ w1.cell? a9 = some v9 ∧ w1.cell? a10 = some v10 ∧ w1.cell? a11 = some v11) (hb : Below w1.heap.size w1 w2) :
    Below wi.heap.size wi w2 ∧ w2.cell? a0 = some v0 ∧ w2.cell? a1 = some v1 ∧ w2.cell? a2 = some v2 ∧ w2.cell? a3 = some v3 ∧ w2.cell? a4 = some v4 ∧ w2.cell? a5 = some v5 ∧ w2.cell? a6 = some v6 ∧ w2.cell? a7 = some v7 ∧ w2.cell? a8 = some v8 ∧ w2.cell? a9 = some v9 ∧ w2.cell? a10 = some v10 ∧ w2.cell? a11 = some v11 := by
  obtain ⟨h, h0, h1, h2, h3, h4, h5, h6, h7, h8, h9, h10, h11⟩ := h
  have k := fun (a : Addr) (v : Value) (hc : w1.cell? a = some v) => (hb.cell (p := a) (World.block_lt_of_cell? w1 a hc)).trans hc
  exact ⟨h.trans (hb.mono h.size), k _ _ h0, k _ _ h1, k _ _ h2, k _ _ h3, k _ _ h4, k _ _ h5, k _ _ h6, k _ _ h7, k _ _ h8, k _ _ h9, k _ _ h10, k _ _ h11⟩
theorem s6_call {wi w1 w2 : World} {a0 a1 a2 a3 a4 a5 : Addr} {v0 v1 v2 v3 v4 v5 : Value} (h : Below wi.heap.size wi w1 ∧ w1.cell? a0 = some v0 ∧ w1.cell? a1 = some v1 ∧ w1.cell? a2 = some v2 ∧ w1.cell? a3 = some v3 ∧ w1.cell? a4 = some v4 ∧ w1.cell? a5 = some v5) (hb : Below w1.heap.size w1 w2) :
    Below wi.heap.size wi w2 ∧ w2.cell? a0 = some v0 ∧ w2.cell? a1 = some v1 ∧ w2.cell? a2 = some v2 ∧ w2.cell? a3 = some v3 ∧ w2.cell? a4 = some v4 ∧ w2.cell? a5 = some v5 := by
  obtain ⟨h, h0, h1, h2, h3, h4, h5⟩ := h
  have k := fun (a : Addr) (v : Value) (hc : w1.cell? a = some v) => (hb.cell (p := a) (World.block_lt_of_cell? w1 a hc)).trans hc
  exact ⟨h.trans (hb.mono h.size), k _ _ h0, k _ _ h1, k _ _ h2, k _ _ h3, k _ _ h4, k _ _ h5⟩
theorem s_fst {wi w1 : World} {X : Prop} (h : Below wi.heap.size wi w1 ∧ X) : Below wi.heap.size wi w1 := h.1

/-- what Cut returns, and when -/
structure CutIs (a b : Nat) (cs : List Int) (X Y Wd Hg dw dh : Int) (dn : Nat) (dcs : List Int) (de : Int) : Prop where
  yes : (inside a X Wd && inside b Y Hg) = true → ∃ x y wd hg : Nat, X = x ∧ Y = y ∧ Wd = wd ∧ Hg = hg ∧ x + wd ≤ a ∧ y + hg ≤ b ∧ dw = wd ∧ dh = hg ∧ dcs = (cutP ⟨a, b, cs⟩ x y wd hg).c ∧ dn = dcs.length ∧ de = 0
  no : (inside a X Wd && inside b Y Hg) = false → dw = 0 ∧ dh = 0 ∧ dn = 0 ∧ de = 2
structure RepIs (a b : Nat) (cs : List Int) (Wd Hg rw rh : Int) (rn : Nat) (rcs : List Int) (re : Int) : Prop where
  arg : Wd < 1 ∨ Hg < 1 → rw = 0 ∧ rh = 0 ∧ rn = 0 ∧ re = 2
  size : 1 ≤ Wd → 1 ≤ Hg → incl Wd Hg = false → rw = 0 ∧ rh = 0 ∧ rn = 0 ∧ re = 4
  yes : 1 ≤ Wd → 1 ≤ Hg → incl Wd Hg = true → ∃ wd hg : Nat, Wd = wd ∧ Hg = hg ∧ wd * hg ≤ 40000 ∧ rw = wd ∧ rh = hg ∧ rcs = (win ⟨a, b, cs⟩ 0 0 wd hg).c ∧ rn = rcs.length ∧ re = 0
section
variable {a b : Nat} {X Y Wd Hg : Int} {cs : List Int} {A : Option Addr} {n c : Nat} {w : World}
theorem cut_all (hf : form ⟨a, b, cs⟩ = true) (hn : n = cs.length) (hn5 : n ≤ 50000) (hP : IntsIn w w.heap.size A cs) (hX : X ≤ 9223372036854775807) (hY : Y ≤ 9223372036854775807) :
    ∃ dw dh dn dcs de, (∀ W, Below w.heap.size w W → Calls Tryz.prog 10 #[.agg #[.int .i64 (a : Int), .int .i64 (b : Int), .slice A n c], .int .i64 X, .int .i64 Y, .int .i64 Wd, .int .i64 Hg] W (IsAny dw dh dn dcs de W)) ∧ CutIs a b cs X Y Wd Hg dw dh dn dcs de := by
  cases hi : inside a X Wd && inside b Y Hg
  · exact ⟨0, 0, 0, [], 2, fun W _ => (cut_out a b X Y Wd Hg cs A n c W hf hn (by omega) hX hY hi).mono fun _ _ hh => IsNoPat.any hh, ⟨fun h => (by rw [hi] at h; cases h), fun _ => ⟨rfl, rfl, rfl, rfl⟩⟩⟩
  · rw [Bool.and_eq_true] at hi
    have h1 := of_decide_eq_true hi.1
    have h2 := of_decide_eq_true hi.2
    obtain ⟨x, hx⟩ := Int.eq_ofNat_of_zero_le h1.1
    obtain ⟨y, hy⟩ := Int.eq_ofNat_of_zero_le h2.1
    obtain ⟨wd, hwd⟩ := Int.eq_ofNat_of_zero_le (show 0 ≤ Wd by omega)
    obtain ⟨hg, hhg⟩ := Int.eq_ofNat_of_zero_le (show 0 ≤ Hg by omega)
    have hxa : x + wd ≤ a := by omega
    have hyb : y + hg ≤ b := by omega
    refine ⟨wd, hg, _, (cutP ⟨a, b, cs⟩ x y wd hg).c, 0, fun W hW => (cut_in a b x y wd hg X Y Wd Hg cs A n c W hx hy hwd hhg hf hn (hP.keep hW hW.size) (by omega) (by omega) hxa hyb).mono fun _ _ hh => IsPat.any hh rfl rfl rfl rfl, ⟨fun _ => ⟨x, y, wd, hg, hx, hy, hwd, hhg, hxa, hyb, rfl, rfl, rfl, rfl, rfl⟩, fun h => ?_⟩⟩
    rw [hi.1, hi.2] at h
    cases h
theorem rep_all (hf : form ⟨a, b, cs⟩ = true) (hn : n = cs.length) (hn5 : n ≤ 50000) (hP : IntsIn w w.heap.size A cs) :
    ∃ rw rh rn rcs re, (∀ W, Below w.heap.size w W → Calls Tryz.prog 11 #[.agg #[.int .i64 (a : Int), .int .i64 (b : Int), .slice A n c], .int .i64 Wd, .int .i64 Hg] W (IsAny rw rh rn rcs re W)) ∧ RepIs a b cs Wd Hg rw rh rn rcs re := by
  by_cases h0 : Wd < 1 ∨ Hg < 1
  · exact ⟨0, 0, 0, [], 2, fun W _ => (rep_arg a b Wd Hg cs A n c W hf hn (by omega) h0).mono fun _ _ hh => IsNoPat.any hh, ⟨fun _ => ⟨rfl, rfl, rfl, rfl⟩, fun h1 h2 _ => (by omega), fun h1 h2 _ => (by omega)⟩⟩
  · cases hi : incl Wd Hg
    · exact ⟨0, 0, 0, [], 4, fun W _ => (rep_size a b Wd Hg cs A n c W hf hn (by omega) (by omega) (by omega) hi).mono fun _ _ hh => IsNoPat.any hh, ⟨fun h1 => absurd h1 h0, fun _ _ _ => ⟨rfl, rfl, rfl, rfl⟩, fun _ _ h3 => (by rw [hi] at h3; cases h3)⟩⟩
    · have h1 := of_decide_eq_true hi
      obtain ⟨wd, hwd⟩ := Int.eq_ofNat_of_zero_le (show 0 ≤ Wd by omega)
      obtain ⟨hg, hhg⟩ := Int.eq_ofNat_of_zero_le (show 0 ≤ Hg by omega)
      have hwh : wd * hg ≤ 40000 := by
        have := h1.2.2
        rw [hwd, hhg, ← Int.natCast_mul] at this
        omega
      have hl : (win ⟨a, b, cs⟩ 0 0 wd hg).c.length = wd * hg := by simp [win]
      refine ⟨wd, hg, wd * hg, (win ⟨a, b, cs⟩ 0 0 wd hg).c, 0, fun W hW => (repeat_ok a b cs A n c Wd Hg wd hg W hwd hhg hf hn (by omega) (hP.keep hW hW.size) (by omega) (by omega) hwh).mono fun _ _ hh => ?_, ⟨fun h => absurd h h0, fun _ _ h3 => (by rw [hi] at h3; cases h3), fun _ _ _ => ⟨wd, hg, hwd, hhg, hwh, rfl, rfl, rfl, hl.symm, rfl⟩⟩⟩
      obtain ⟨B, c', he, hI, hb⟩ := hh
      exact ⟨hb, B, c', he, hI⟩
end
set_option maxHeartbeats 16000000 in
theorem tp_form (a b : Nat) (X Y Wd Hg : Int) (cs : List Int) (A : Option Addr) (n c : Nat) (w : World) (hf : form ⟨a, b, cs⟩ = true) (hn : n = cs.length) (hn5 : n ≤ 50000) (hP : IntsIn w w.heap.size A cs)
    (hX1 : -9223372036854775808 ≤ X) (hX : X ≤ 9223372036854775807) (hY1 : -9223372036854775808 ≤ Y) (hY : Y ≤ 9223372036854775807) (hW1 : -9223372036854775808 ≤ Wd) (hW2 : Wd ≤ 9223372036854775807) (hH1 : -9223372036854775808 ≤ Hg) (hH2 : Hg ≤ 9223372036854775807) (h : Env w) :
    Calls Tryz.prog 3 #[.agg #[.int .i64 (a : Int), .int .i64 (b : Int), .slice A n c], .int .i64 X, .int .i64 Y, .int .i64 Wd, .int .i64 Hg] w fun e w' => e = .returned (.bool true) ∧ Below w.heap.size w w' := by
  obtain ⟨a', b', e1, e2, h1, h2, h3, h4⟩ := form_nat hf
  have e1' : a = a' := by have : (a : Int) = a' := e1; omega
  have e2' : b = b' := by have : (b : Int) = b' := e2; omega
  subst e1'
  subst e2'
  clear e1 e2 h4
  have a40 : a ≤ 40000 := by have := Nat.le_mul_of_pos_right a (show 0 < b by omega); omega
  have b40 : b ≤ 40000 := by have := Nat.le_mul_of_pos_left b (show 0 < a by omega); omega
  obtain ⟨dw, dh, dn, dcs, de, c4, HD⟩ := cut_all (X := X) (Y := Y) (Wd := Wd) (Hg := Hg) (c := c) hf hn hn5 hP hX hY
  obtain ⟨rw, rh, rn, rcs, re, c5, HRR⟩ := rep_all (Wd := Wd) (Hg := Hg) (c := c) hf hn hn5 hP
  have c1 := fun (W : World) (hW : Below w.heap.size w W) => (mirP_ok a b cs A n c W hf hn (hP.keep hW hW.size)).mono fun _ _ hh => IsPat.any (dn := n) hh (mirP_w hf).1.symm (mirP_w hf).2.symm (by rw [(mir_goes hf rfl rfl).len]; exact hn) rfl
  have c2 := fun (W : World) (hW : Below w.heap.size w W) => (upP_ok a b cs A n c W hf hn (hP.keep hW hW.size)).mono fun _ _ hh => IsPat.any (dn := n) hh (upP_w hf).1.symm (upP_w hf).2.symm (by rw [(up_goes hf rfl rfl).len]; exact hn) rfl
  have c3 := fun (W : World) (hW : Below w.heap.size w W) => (turP_ok a b cs A n c W hf hn (hP.keep hW hW.size)).mono fun _ _ hh => IsPat.any (dn := n) hh (turP_w hf).1.symm (turP_w hf).2.symm (by rw [(tur_goes hf rfl rfl).len]; exact hn) rfl
  have c6 := fun (W : World) => rform_any a b cs A n c true W hn hf
  have d1 := fun (W : World) (hW : Below w.heap.size w W) => (rmirP_any a b cs A n c W hf hn (hP.keep hW hW.size)).mono fun _ _ hh => IsRPat.any (n := n) hh (by rw [(mir_goes hf rfl rfl).len]; exact hn)
  have d2 := fun (W : World) (hW : Below w.heap.size w W) => (rupP_any a b cs A n c W hf hn (hP.keep hW hW.size)).mono fun _ _ hh => IsRPat.any (n := n) hh (by rw [(up_goes hf rfl rfl).len]; exact hn)
  have d3 := fun (W : World) (hW : Below w.heap.size w W) => (rturP_any a b cs A n c W hf hn (hP.keep hW hW.size)).mono fun _ _ hh => IsRPat.any (n := n) hh (by rw [(tur_goes hf rfl rfl).len]; exact hn)
  simp only [(mirP_w hf).1, (mirP_w hf).2, (upP_w hf).1, (upP_w hf).2, (turP_w hf).1, (turP_w hf).2] at c1 c2 c3 d1 d2 d3
  have hm1 : n = (mirP ⟨a, b, cs⟩).c.length := by rw [(mir_goes hf rfl rfl).len]; exact hn
  have hm2 : n = (upP ⟨a, b, cs⟩).c.length := by rw [(up_goes hf rfl rfl).len]; exact hn
  have hm3 : n = (turP ⟨a, b, cs⟩).c.length := by rw [(tur_goes hf rfl rfl).len]; exact hn
  obtain ⟨M1, hM1⟩ : ∃ M, M = (mirP ⟨a, b, cs⟩).c := ⟨_, rfl⟩
  obtain ⟨M2, hM2⟩ : ∃ M, M = (upP ⟨a, b, cs⟩).c := ⟨_, rfl⟩
  obtain ⟨M3, hM3⟩ : ∃ M, M = (turP ⟨a, b, cs⟩).c := ⟨_, rfl⟩
  rw [← hM1] at hm1
  rw [← hM2] at hm2
  rw [← hM3] at hm3
  simp only [← hM1] at c1 d1
  simp only [← hM2] at c2 d2
  simp only [← hM3] at c3 d3
  have HD' := Lib.hid HD
  have HRR' := Lib.hid HRR
  have HF := Lib.hid hf
  have HN := Lib.hid hn
  have HP := Lib.hid hP
  have HM1 := Lib.hid hm1
  have HM2 := Lib.hid hm2
  have HM3 := Lib.hid hm3
  clear hM1 hM2 hM3 HD HRR hf hn hP hm1 hm2 hm3 h3
  obtain ⟨W0, hW0⟩ : ∃ W0, W0 = w.alloc (.cells #[.int .i64 (a : Int), .int .i64 (b : Int), .slice A n c] 24) := ⟨_, rfl⟩
  have hb0 : Below w.heap.size w W0 := by rw [hW0]; exact (Below.refl _ _).alloc (Nat.le_refl _) _
  have HT0 : Hid (Tri W0 w.heap.size (.int .i64 (a : Int)) (.int .i64 (b : Int)) (.slice A n c)) := by rw [hW0]; exact Tri.new _ _ _ _ _
  go_enter Tryz.func3, Tryz.ntmps3
  go_wp2_with fail
  rw [← hW0]
  clear hW0
  refine (c1 _ hb0).mono ?_
  rintro e w1 ⟨hx1, B1, e1, rfl, hi1⟩
  have HI1 := Lib.hid hi1
  have hd1 : Below w.heap.size w w1 := hb0.trans (hx1.mono hb0.size)
  obtain ⟨W1, hW1⟩ : ∃ W, W = w1.alloc (.cells #[.int .i64 (a : Int), .int .i64 (b : Int), .slice B1 n e1] 24) := ⟨_, rfl⟩
  have hy1 : Below w1.heap.size w1 W1 := by rw [hW1]; exact (Below.refl _ _).alloc (Nat.le_refl _) _
  have hz1 : Below W0.heap.size W0 W1 := hx1.trans (hy1.mono hx1.size)
  have hbc1 : Below w.heap.size w W1 := hd1.trans (hy1.mono hd1.size)
  have HB1 : Hid (Tri W1 w1.heap.size (.int .i64 (a : Int)) (.int .i64 (b : Int)) (.slice B1 n e1)) := by rw [hW1]; exact Tri.new _ _ _ _ _
  have tp1 := HT0.out.keep (hx1)
  have hu1 : Below W0.heap.size W0 W1 := hz1
  have lp1 := tp1.lt
  obtain ⟨q0, q1, q2⟩ := tp1
  clear hi1
  go_wp2_with fail
  rw [← hW1]
  clear hW1 q0 q1 q2 lp1
  refine (c2 _ hbc1).mono ?_
  rintro e w2 ⟨hx2, B2, e2, rfl, hi2⟩
  have HI2 := Lib.hid hi2
  have hd2 : Below w.heap.size w w2 := hbc1.trans (hx2.mono hbc1.size)
  obtain ⟨W2, hW2⟩ : ∃ W, W = w2.alloc (.cells #[.int .i64 (a : Int), .int .i64 (b : Int), .slice B2 n e2] 24) := ⟨_, rfl⟩
  have hy2 : Below w2.heap.size w2 W2 := by rw [hW2]; exact (Below.refl _ _).alloc (Nat.le_refl _) _
  have hz2 : Below W1.heap.size W1 W2 := hx2.trans (hy2.mono hx2.size)
  have hbc2 : Below w.heap.size w W2 := hd2.trans (hy2.mono hd2.size)
  have HB2 : Hid (Tri W2 w2.heap.size (.int .i64 (a : Int)) (.int .i64 (b : Int)) (.slice B2 n e2)) := by rw [hW2]; exact Tri.new _ _ _ _ _
  have tp2 := HT0.out.keep (hu1.trans (hx2.mono hu1.size))
  have hu2 : Below W0.heap.size W0 W2 := hu1.trans (hz2.mono hu1.size)
  have lp2 := tp2.lt
  obtain ⟨q0, q1, q2⟩ := tp2
  clear hi2
  go_wp2_with fail
  rw [← hW2]
  clear hW2 q0 q1 q2 lp2
  refine (c3 _ hbc2).mono ?_
  rintro e w3 ⟨hx3, B3, e3, rfl, hi3⟩
  have HI3 := Lib.hid hi3
  have hd3 : Below w.heap.size w w3 := hbc2.trans (hx3.mono hbc2.size)
  obtain ⟨W3, hW3⟩ : ∃ W, W = w3.alloc (.cells #[.int .i64 (b : Int), .int .i64 (a : Int), .slice B3 n e3] 24) := ⟨_, rfl⟩
  have hy3 : Below w3.heap.size w3 W3 := by rw [hW3]; exact (Below.refl _ _).alloc (Nat.le_refl _) _
  have hz3 : Below W2.heap.size W2 W3 := hx3.trans (hy3.mono hx3.size)
  have hbc3 : Below w.heap.size w W3 := hd3.trans (hy3.mono hd3.size)
  have HB3 : Hid (Tri W3 w3.heap.size (.int .i64 (b : Int)) (.int .i64 (a : Int)) (.slice B3 n e3)) := by rw [hW3]; exact Tri.new _ _ _ _ _
  have tp3 := HT0.out.keep (hu2.trans (hx3.mono hu2.size))
  have hu3 : Below W0.heap.size W0 W3 := hu2.trans (hz3.mono hu2.size)
  have lp3 := tp3.lt
  obtain ⟨q0, q1, q2⟩ := tp3
  clear hi3
  go_wp2_with fail
  rw [← hW3]
  clear hW3 q0 q1 q2 lp3
  refine (c4 _ hbc3).mono ?_
  rintro e w4 ⟨hx4, B4, e4, rfl, hi4⟩
  have HI4 := Lib.hid hi4
  have hd4 : Below w.heap.size w w4 := hbc3.trans (hx4.mono hbc3.size)
  obtain ⟨W4, hW4⟩ : ∃ W, W = w4.alloc (.cells #[.int .i64 dw, .int .i64 dh, .slice B4 dn e4] 24) := ⟨_, rfl⟩
  have hy4 : Below w4.heap.size w4 W4 := by rw [hW4]; exact (Below.refl _ _).alloc (Nat.le_refl _) _
  have hz4 : Below W3.heap.size W3 W4 := hx4.trans (hy4.mono hx4.size)
  have hbc4 : Below w.heap.size w W4 := hd4.trans (hy4.mono hd4.size)
  have HB4 : Hid (Tri W4 w4.heap.size (.int .i64 dw) (.int .i64 dh) (.slice B4 dn e4)) := by rw [hW4]; exact Tri.new _ _ _ _ _
  have tp4 := HT0.out.keep (hu3.trans (hx4.mono hu3.size))
  have hu4 : Below W0.heap.size W0 W4 := hu3.trans (hz4.mono hu3.size)
  have lp4 := tp4.lt
  obtain ⟨q0, q1, q2⟩ := tp4
  clear hi4
  go_wp2_with fail
  rw [← hW4]
  clear hW4 q0 q1 q2 lp4
  refine (c5 _ hbc4).mono ?_
  rintro e w5 ⟨hx5, B5, e5, rfl, hi5⟩
  have HI5 := Lib.hid hi5
  have hd5 : Below w.heap.size w w5 := hbc4.trans (hx5.mono hbc4.size)
  obtain ⟨W5, hW5⟩ : ∃ W, W = w5.alloc (.cells #[.int .i64 rw, .int .i64 rh, .slice B5 rn e5] 24) := ⟨_, rfl⟩
  have hy5 : Below w5.heap.size w5 W5 := by rw [hW5]; exact (Below.refl _ _).alloc (Nat.le_refl _) _
  have hz5 : Below W4.heap.size W4 W5 := hx5.trans (hy5.mono hx5.size)
  have hbc5 : Below w.heap.size w W5 := hd5.trans (hy5.mono hd5.size)
  have HB5 : Hid (Tri W5 w5.heap.size (.int .i64 rw) (.int .i64 rh) (.slice B5 rn e5)) := by rw [hW5]; exact Tri.new _ _ _ _ _
  have tp5 := HT0.out.keep (hu4.trans (hx5.mono hu4.size))
  have hu5 : Below W0.heap.size W0 W5 := hu4.trans (hz5.mono hu4.size)
  have lp5 := tp5.lt
  obtain ⟨q0, q1, q2⟩ := tp5
  clear hi5
  go_wp2_with fail
  rw [← hW5]
  have z5 : W5.heap.size = w5.heap.size + 1 := by rw [hW5]; simp
  clear hW5 q0 q1 q2 lp5
  obtain ⟨W6, hW6⟩ : ∃ W, W = W5.alloc (.cells #[.int .i64 0, .int .i64 0, .slice none 0 0] 24) := ⟨_, rfl⟩
  have hz6 : Below W5.heap.size W5 W6 := by rw [hW6]; exact (Below.refl _ _).alloc (Nat.le_refl _) _
  have hbc6 : Below w.heap.size w W6 := hbc5.trans (hz6.mono hbc5.size)
  have HB6 : Hid (Tri W6 (w5.heap.size + 1) (.int .i64 0) (.int .i64 0) (.slice none 0 0)) := by rw [hW6, ← z5]; exact Tri.new _ _ _ _ _
  clear z5
  rw [← hW6]
  clear hW6
  refine (c6 _).mono ?_
  rintro e w7 ⟨rfl, hx7⟩
  have m5 : Below W5.heap.size W5 w7 := hz6.trans (hx7.mono hz6.size)
  have m4 : Below W4.heap.size W4 w7 := hz5.trans (m5.mono hz5.size)
  have m3 : Below W3.heap.size W3 w7 := hz4.trans (m4.mono hz4.size)
  have m2 : Below W2.heap.size W2 w7 := hz3.trans (m3.mono hz3.size)
  have m1 : Below W1.heap.size W1 w7 := hz2.trans (m2.mono hz2.size)
  have m0 : Below W0.heap.size W0 w7 := hz1.trans (m1.mono hz1.size)
  have hb07 : Below w.heap.size w w7 := hb0.trans (m0.mono hb0.size)
  have T0 := Lib.hid (HT0.out.keep m0)
  have T1 := Lib.hid (HB1.out.keep m1)
  have T2 := Lib.hid (HB2.out.keep m2)
  have T3 := Lib.hid (HB3.out.keep m3)
  have T4 := Lib.hid (HB4.out.keep m4)
  have T5 := Lib.hid (HB5.out.keep m5)
  have T6 := Lib.hid (HB6.out.keep hx7)
  have I1 := Lib.hid (HI1.out.keep (hy1.trans (m1.mono hy1.size)))
  have I2 := Lib.hid (HI2.out.keep (hy2.trans (m2.mono hy2.size)))
  have I3 := Lib.hid (HI3.out.keep (hy3.trans (m3.mono hy3.size)))
  have I4 := Lib.hid (HI4.out.keep (hy4.trans (m4.mono hy4.size)))
  have I5 := Lib.hid (HI5.out.keep (hy5.trans (m5.mono hy5.size)))
  clear m0 m1 m2 m3 m4 m5 hz1 hz2 hz3 hz4 hz5 hz6 hx1 hx2 hx3 hx4 hx5 hx7 hy1 hy2 hy3 hy4 hy5 hbc1 hbc2 hbc3 hbc4 hbc5 hbc6 hd1 hd2 hd3 hd4 hd5 hu1 hu2 hu3 hu4 hu5 HT0 HB1 HB2 HB3 HB4 HB5 HB6 HI1 HI2 HI3 HI4 HI5 hb0 c1 c2 c3 c4 c5 c6
  obtain ⟨p0, p1, p2⟩ := T0.out
  obtain ⟨x0, x1, x2⟩ := T1.out
  obtain ⟨y0, y1, y2⟩ := T2.out
  obtain ⟨z0, z1, z2⟩ := T3.out
  have g1 := fun (W : World) (hW : Below w7.heap.size w7 W) => d1 W (hb07.trans (hW.mono hb07.size))
  have g2 := fun (W : World) (hW : Below w7.heap.size w7 W) => d2 W (hb07.trans (hW.mono hb07.size))
  have g3 := fun (W : World) (hW : Below w7.heap.size w7 W) => d3 W (hb07.trans (hW.mono hb07.size))
  have j1 := fun (W : World) (Bx : Option Addr) (cx : Nat) (hW : Below w7.heap.size w7 W) (hx : IntsIn W W.heap.size Bx M1) => is_same (a : Int) (b : Int) M1 B1 Bx n n e1 cx W HM1.out HM1.out (by omega) ((I1.out.keep hW).old) hx
  have j2 := fun (W : World) (Bx : Option Addr) (cx : Nat) (hW : Below w7.heap.size w7 W) (hx : IntsIn W W.heap.size Bx M2) => is_same (a : Int) (b : Int) M2 B2 Bx n n e2 cx W HM2.out HM2.out (by omega) ((I2.out.keep hW).old) hx
  have j3 := fun (W : World) (Bx : Option Addr) (cx : Nat) (hW : Below w7.heap.size w7 W) (hx : IntsIn W W.heap.size Bx M3) => is_same (b : Int) (a : Int) M3 B3 Bx n n e3 cx W HM3.out HM3.out (by omega) ((I3.out.keep hW).old) hx
  clear d1 d2 d3
  go_wp2_with fail
  go_region_held3 (fun w' => Below w7.heap.size w7 w' ∧ w'.cell? ⟨w.heap.size, 0, none⟩ = some (.int .i64 (a : Int)) ∧ w'.cell? ⟨w.heap.size, 1, none⟩ = some (.int .i64 (b : Int)) ∧ w'.cell? ⟨w.heap.size, 2, none⟩ = some (.slice A n c) ∧ w'.cell? ⟨w1.heap.size, 0, none⟩ = some (.int .i64 (a : Int)) ∧ w'.cell? ⟨w1.heap.size, 1, none⟩ = some (.int .i64 (b : Int)) ∧ w'.cell? ⟨w1.heap.size, 2, none⟩ = some (.slice B1 n e1) ∧ w'.cell? ⟨w2.heap.size, 0, none⟩ = some (.int .i64 (a : Int)) ∧ w'.cell? ⟨w2.heap.size, 1, none⟩ = some (.int .i64 (b : Int)) ∧ w'.cell? ⟨w2.heap.size, 2, none⟩ = some (.slice B2 n e2) ∧ w'.cell? ⟨w3.heap.size, 0, none⟩ = some (.int .i64 (b : Int)) ∧ w'.cell? ⟨w3.heap.size, 1, none⟩ = some (.int .i64 (a : Int)) ∧ w'.cell? ⟨w3.heap.size, 2, none⟩ = some (.slice B3 n e3)) (first | exact ⟨(Below.refl _ _).drew, p0, p1, p2, x0, x1, x2, y0, y1, y2, z0, z1, z2⟩ | exact s12_call (by assumption) hn)
    (first | (go_at_call 14; (with_reducible refine (g1 _ ?_).mono ?_); (focus (first | exact s_fst (by assumption) | exact (Below.refl _ _).drew)); rintro e wn ⟨hn, Bx, cx, rfl, hix⟩) | (go_at_call 13; (with_reducible refine (j1 _ _ _ ?_ ?_).mono ?_); (focus exact s_fst (by assumption)); (focus exact hix.old); rintro e wn ⟨rfl, hn⟩) | (go_at_call 15; (with_reducible refine (g2 _ ?_).mono ?_); (focus (first | exact s_fst (by assumption) | exact (Below.refl _ _).drew)); rintro e wn ⟨hn, Bx, cx, rfl, hix⟩) | (go_at_call 13; (with_reducible refine (j2 _ _ _ ?_ ?_).mono ?_); (focus exact s_fst (by assumption)); (focus exact hix.old); rintro e wn ⟨rfl, hn⟩) | (go_at_call 16; (with_reducible refine (g3 _ ?_).mono ?_); (focus (first | exact s_fst (by assumption) | exact (Below.refl _ _).drew)); rintro e wn ⟨hn, Bx, cx, rfl, hix⟩) | (go_at_call 13; (with_reducible refine (j3 _ _ _ ?_ ?_).mono ?_); (focus exact s_fst (by assumption)); (focus exact hix.old); rintro e wn ⟨rfl, hn⟩))
  have hb8 : Below w7.heap.size w7 wn := s_fst (by assumption)
  obtain ⟨V8, hV8⟩ : ∃ V, V = wn := ⟨_, rfl⟩
  rw [← hV8] at hb8
  rw [← hV8]
  have U0 := Lib.hid (T0.out.keep hb8)
  have U4 := Lib.hid (T4.out.keep hb8)
  have U5 := Lib.hid (T5.out.keep hb8)
  have U6 := Lib.hid (T6.out.keep hb8)
  have K4 := Lib.hid (I4.out.keep hb8)
  have K5 := Lib.hid (I5.out.keep hb8)
  have hb08 : Below w.heap.size w V8 := hb07.trans (hb8.mono hb07.size)
  clear p0 p1 p2 x0 x1 x2 y0 y1 y2 z0 z1 z2 g1 g2 g3 j1 j2 j3 T0 T1 T2 T3 T4 T5 T6 I1 I2 I3 I4 I5 hb8 hb07 HM1 HM2 HM3 hV8
  obtain ⟨IN, hIN⟩ : ∃ I, I = (inside a X Wd && inside b Y Hg) := ⟨_, rfl⟩
  obtain ⟨p0, p1, p2⟩ := U0.out
  have pl := World.block_lt_of_cell? _ _ p0
  go_upto_region 13 with fail
  go_cut [156] from 115 to 156 (fun v wx => v = .bool (!IN) ∧ V8 = wx)
  case first =>
    cases hI2 : IN
    · rw [hI2] at hIN
      have hno : ¬ ((0 ≤ X ∧ 1 ≤ Wd ∧ Wd ≤ (a : Int) - X) ∧ (0 ≤ Y ∧ 1 ≤ Hg ∧ Hg ≤ (b : Int) - Y)) := fun hh => by
        have h1 : inside a X Wd = true := decide_eq_true hh.1
        have h2 : inside b Y Hg = true := decide_eq_true hh.2
        rw [h1, h2] at hIN
        cases hIN
      have HNO := Lib.hid hno
      clear hIN hno
      by_cases s1 : X < 0
      · go_wp2_with fail
        go_meet
        exact ⟨by rw [hI2]; rfl, rfl⟩
      by_cases s2 : Y < 0
      · go_wp2_with fail
        go_meet
        exact ⟨by rw [hI2]; rfl, rfl⟩
      by_cases s3 : Wd < 1
      · go_wp2_with fail
        go_meet
        exact ⟨by rw [hI2]; rfl, rfl⟩
      by_cases s4 : Hg < 1
      · go_wp2_with fail
        go_meet
        exact ⟨by rw [hI2]; rfl, rfl⟩
      by_cases s5 : (a : Int) < Wd
      · go_wp2_with fail
        go_meet
        exact ⟨by rw [hI2]; rfl, rfl⟩
      by_cases s6 : (b : Int) < Hg
      · go_wp2_with fail
        go_meet
        exact ⟨by rw [hI2]; rfl, rfl⟩
      by_cases s7 : (a : Int) - Wd < X
      · go_wp2_with fail
        go_meet
        exact ⟨by rw [hI2]; rfl, rfl⟩
      by_cases s8 : (b : Int) - Hg < Y
      · go_wp2_with fail
        go_meet
        exact ⟨by rw [hI2]; rfl, rfl⟩
      exact absurd ⟨⟨by omega, by omega, by omega⟩, by omega, by omega, by omega⟩ HNO.out
    · rw [hI2] at hIN
      have hq := hIN.symm
      rw [Bool.and_eq_true] at hq
      have q1 := of_decide_eq_true hq.1
      have q2 := of_decide_eq_true hq.2
      have s1 : ¬ X < 0 := by omega
      have s2 : ¬ Y < 0 := by omega
      have s3 : ¬ Wd < 1 := by omega
      have s4 : ¬ Hg < 1 := by omega
      have s5 : ¬ (a : Int) < Wd := by omega
      have s6 : ¬ (b : Int) < Hg := by omega
      have s7 : ¬ (a : Int) - Wd < X := by omega
      have s8 : ¬ (b : Int) - Hg < Y := by omega
      clear hIN hq q1 q2
      go_wp2_with fail
      go_meet
      exact ⟨by rw [hI2]; rfl, rfl⟩
  case rest =>
  obtain ⟨rfl, rfl⟩ := hcut
  clear p0 p1 p2 pl
  have HIN := Lib.hid hIN
  clear hIN
  go_upto_if 156 with fail
  go_cut [] from 156 to 171 (fun wx => Below V8.heap.size V8 wx)
  case first =>
    obtain ⟨d0, d1, d2⟩ := U4.out
    have dl := World.block_lt_of_cell? _ _ d0
    cases hI2 : IN
    · obtain ⟨rfl, rfl, rfl, rfl⟩ := HD'.out.no (HIN.out.symm.trans hI2)
      obtain ⟨z0, z1, z2⟩ := U6.out
      have zl := World.block_lt_of_cell? _ _ z0
      rw [hI2] at HIN
      go_wp2_with fail
      refine (is_err' 2 (Or.inr (Or.inl rfl)) B4 e4 _).mono ?_
      rintro e v1 ⟨rfl, nb⟩
      go_wp2_with fail
      go_meet
      exact nb
    · obtain ⟨x, y, wd, hg, rfl, rfl, rfl, rfl, hxa, hyb, rfl, rfl, hdc, hdn, rfl⟩ := HD'.out.yes (HIN.out.symm.trans hI2)
      obtain ⟨p0, p1, p2⟩ := U0.out
      have pl := World.block_lt_of_cell? _ _ p0
      have g1 := fun (W : World) (hW : Below V8.heap.size V8 W) => (rcut_any a b cs A n c x y wd hg W HF.out HN.out (HP.out.keep (hb08.trans (hW.mono hb08.size)) (hb08.trans (hW.mono hb08.size)).size) hxa hyb).mono fun _ _ hh => IsRPat.any (n := dn) hh (by rw [hdn, hdc])
      simp only [show (cutP ⟨a, b, cs⟩ x y wd hg).w = (wd : Int) from rfl, show (cutP ⟨a, b, cs⟩ x y wd hg).h = (hg : Int) from rfl, ← hdc] at g1
      have HDN := Lib.hid hdn
      have hdl : dn ≤ 9223372036854775807 := by
        have e1 : dn = wd * hg := by rw [hdn, hdc]; simp [cutP, rel]
        have := Nat.mul_le_mul (show wd ≤ 40000 by omega) (show hg ≤ 40000 by omega)
        omega
      have j1 := fun (W : World) (Bx : Option Addr) (cx : Nat) (hW : Below V8.heap.size V8 W) (hx : IntsIn W W.heap.size Bx dcs) => is_same (wd : Int) (hg : Int) dcs B4 Bx dn dn e4 cx W HDN.out HDN.out hdl ((K4.out.keep hW).old) hx
      rw [hI2] at HIN
      clear hdc hdn
      go_wp2_with fail
      go_region_held3 (fun w' => Below V8.heap.size V8 w' ∧ w'.cell? ⟨w.heap.size, 0, none⟩ = some (.int .i64 (a : Int)) ∧ w'.cell? ⟨w.heap.size, 1, none⟩ = some (.int .i64 (b : Int)) ∧ w'.cell? ⟨w.heap.size, 2, none⟩ = some (.slice A n c) ∧ w'.cell? ⟨w4.heap.size, 0, none⟩ = some (.int .i64 (wd : Int)) ∧ w'.cell? ⟨w4.heap.size, 1, none⟩ = some (.int .i64 (hg : Int)) ∧ w'.cell? ⟨w4.heap.size, 2, none⟩ = some (.slice B4 dn e4)) (first | exact ⟨(Below.refl _ _).drew, p0, p1, p2, d0, d1, d2⟩ | exact s6_call (by assumption) hn)
        (first | (go_at_call 17; (with_reducible refine (g1 _ ?_).mono ?_); (focus (first | exact s_fst (by assumption) | exact (Below.refl _ _).drew)); rintro e wn ⟨hn, Bx, cx, rfl, hix⟩) | (go_at_call 13; (with_reducible refine (j1 _ _ _ ?_ ?_).mono ?_); (focus exact s_fst (by assumption)); (focus exact hix.old); rintro e wn ⟨rfl, hn⟩))
      have hbn : Below V8.heap.size V8 wn := s_fst (by assumption)
      go_wp2_with fail
      go_meet
      exact hbn
  case rest =>
  obtain ⟨r0, r1, r2⟩ := U5.out.keep hcut
  have rl := World.block_lt_of_cell? _ _ r0
  have hb09 : Below w.heap.size w wc := hb08.trans (hcut.mono hb08.size)
  by_cases s1 : Wd < 1
  · obtain ⟨rfl, rfl, rfl, rfl⟩ := HRR'.out.arg (Or.inl s1)
    obtain ⟨z0, z1, z2⟩ := U6.out.keep hcut
    have zl := World.block_lt_of_cell? _ _ z0
    go_wp2_with fail
    refine (is_err' 2 (Or.inr (Or.inl rfl)) B5 e5 _).mono ?_
    rintro e v1 ⟨rfl, nb⟩
    have hbv := hb09.trans (nb.mono hb09.size)
    go_wp2_with fail
    refine (awake_any _ (h.keep hbv)).mono ?_
    rintro e v2 ⟨rfl, nb2⟩
    go_wp2_with fail
    go_ret
    exact ⟨rfl, hbv.trans (nb2.mono hbv.size)⟩
  by_cases s2 : Hg < 1
  · obtain ⟨rfl, rfl, rfl, rfl⟩ := HRR'.out.arg (Or.inr s2)
    obtain ⟨z0, z1, z2⟩ := U6.out.keep hcut
    have zl := World.block_lt_of_cell? _ _ z0
    go_wp2_with fail
    refine (is_err' 2 (Or.inr (Or.inl rfl)) B5 e5 _).mono ?_
    rintro e v1 ⟨rfl, nb⟩
    have hbv := hb09.trans (nb.mono hb09.size)
    go_wp2_with fail
    refine (awake_any _ (h.keep hbv)).mono ?_
    rintro e v2 ⟨rfl, nb2⟩
    go_wp2_with fail
    go_ret
    exact ⟨rfl, hbv.trans (nb2.mono hbv.size)⟩
  have hq1 : 0 ≤ 40000 / Hg := Int.ediv_nonneg (by omega) (by omega)
  have hq2 : 40000 / Hg ≤ 40000 := Int.ediv_le_self _ (by omega)
  have hh1 : 1 ≤ Hg := by omega
  have hw1 : 1 ≤ Wd := by omega
  cases hi : incl Wd Hg
  · obtain ⟨rfl, rfl, rfl, rfl⟩ := HRR'.out.size hw1 hh1 hi
    have hgt : 40000 / Hg < Wd := by
      have hne : ¬ Wd * Hg ≤ 40000 := fun hh => by
        have : incl Wd Hg = true := decide_eq_true ⟨hw1, hh1, hh⟩
        rw [this] at hi
        cases hi
      have := (Int.le_ediv_iff_mul_le (a := Wd) (b := 40000) (c := Hg) (by omega)).1
      omega
    clear hi
    obtain ⟨z0, z1, z2⟩ := U6.out.keep hcut
    have zl := World.block_lt_of_cell? _ _ z0
    go_wp2_with fail
    refine (is_err' 4 (Or.inr (Or.inr rfl)) B5 e5 _).mono ?_
    rintro e v1 ⟨rfl, nb⟩
    have hbv := hb09.trans (nb.mono hb09.size)
    go_wp2_with fail
    refine (awake_any _ (h.keep hbv)).mono ?_
    rintro e v2 ⟨rfl, nb2⟩
    go_wp2_with fail
    go_ret
    exact ⟨rfl, hbv.trans (nb2.mono hbv.size)⟩
  · obtain ⟨wd, hg, rfl, rfl, hwh, rfl, rfl, hdc, hdn, rfl⟩ := HRR'.out.yes hw1 hh1 hi
    have hgt : ¬ 40000 / (hg : Int) < (wd : Int) := by
      have := (Int.le_ediv_iff_mul_le (a := (wd : Int)) (b := 40000) (c := (hg : Int)) (by omega)).2 (by rw [← Int.natCast_mul]; omega)
      omega
    obtain ⟨p0, p1, p2⟩ := U0.out.keep hcut
    have pl := World.block_lt_of_cell? _ _ p0
    have g1 := fun (W : World) (hW : Below wc.heap.size wc W) => (rrep_any a b cs A n c wd hg W HF.out HN.out (HP.out.keep (hb09.trans (hW.mono hb09.size)) (hb09.trans (hW.mono hb09.size)).size) (by omega) (by omega) hwh).mono fun _ _ hh => IsRPat.any (n := rn) hh (by rw [hdn, hdc])
    simp only [show (win ⟨a, b, cs⟩ 0 0 wd hg).w = (wd : Int) from rfl, show (win ⟨a, b, cs⟩ 0 0 wd hg).h = (hg : Int) from rfl, ← hdc] at g1
    have HDN := Lib.hid hdn
    have hdl : rn ≤ 9223372036854775807 := by
      have e1 : rn = wd * hg := by rw [hdn, hdc]; simp [win]
      omega
    have j1 := fun (W : World) (Bx : Option Addr) (cx : Nat) (hW : Below wc.heap.size wc W) (hx : IntsIn W W.heap.size Bx rcs) => is_same (wd : Int) (hg : Int) rcs B5 Bx rn rn e5 cx W HDN.out HDN.out hdl ((K5.out.keep (hcut.trans (hW.mono hcut.size))).old) hx
    have jA := fun (W : World) (hW : Below wc.heap.size wc W) => awake_any W (h.keep (hb09.trans (hW.mono hb09.size)))
    clear hdc hdn hi
    go_wp2_with fail
    go_region_held3 (fun w' => Below wc.heap.size wc w' ∧ w'.cell? ⟨w.heap.size, 0, none⟩ = some (.int .i64 (a : Int)) ∧ w'.cell? ⟨w.heap.size, 1, none⟩ = some (.int .i64 (b : Int)) ∧ w'.cell? ⟨w.heap.size, 2, none⟩ = some (.slice A n c) ∧ w'.cell? ⟨w5.heap.size, 0, none⟩ = some (.int .i64 (wd : Int)) ∧ w'.cell? ⟨w5.heap.size, 1, none⟩ = some (.int .i64 (hg : Int)) ∧ w'.cell? ⟨w5.heap.size, 2, none⟩ = some (.slice B5 rn e5)) (first | exact ⟨(Below.refl _ _).drew, p0, p1, p2, r0, r1, r2⟩ | exact s6_call (by assumption) hn)
      (first | (go_at_call 18; (with_reducible refine (g1 _ ?_).mono ?_); (focus (first | exact s_fst (by assumption) | exact (Below.refl _ _).drew)); rintro e wn ⟨hn, Bx, cx, rfl, hix⟩) | (go_at_call 13; (with_reducible refine (j1 _ _ _ ?_ ?_).mono ?_); (focus exact s_fst (by assumption)); (focus exact hix.old); rintro e wn ⟨rfl, hn⟩) | (go_at_call 6; (with_reducible refine (jA _ ?_).mono ?_); (focus exact s_fst (by assumption)); rintro e wn ⟨rfl, hn⟩))
    have hbn : Below wc.heap.size wc wn := s_fst (by assumption)
    go_wp2_with fail
    go_ret
    exact ⟨rfl, hb09.trans (hbn.mono hb09.size)⟩
theorem tilePatterns_any (a b X Y Wd Hg : Int) (cs : List Int) (A : Option Addr) (n c : Nat) (w : World) (hn : n = cs.length) (hnl : n ≤ 9223372036854775807) (hP : IntsIn w w.heap.size A cs)
    (hX1 : -9223372036854775808 ≤ X) (hX : X ≤ 9223372036854775807) (hY1 : -9223372036854775808 ≤ Y) (hY : Y ≤ 9223372036854775807) (hW1 : -9223372036854775808 ≤ Wd) (hW2 : Wd ≤ 9223372036854775807) (hH1 : -9223372036854775808 ≤ Hg) (hH2 : Hg ≤ 9223372036854775807) (h : Env w) :
    Calls Tryz.prog 3 #[.agg #[.int .i64 a, .int .i64 b, .slice A n c], .int .i64 X, .int .i64 Y, .int .i64 Wd, .int .i64 Hg] w fun e w' => e = .returned (.bool true) ∧ Below w.heap.size w w' := by
  by_cases h5 : 50000 < n
  · exact tp_wide a b X Y Wd Hg A n c w h5 h
  cases hf : form ⟨a, b, cs⟩
  · exact tp_noform a b X Y Wd Hg cs A n c w hf hn (by omega) h
  · obtain ⟨a', b', e1, e2, _⟩ := form_nat hf
    have e1' : a = a' := e1
    have e2' : b = b' := e2
    subst e1'
    subst e2'
    exact tp_form a' b' X Y Wd Hg cs A n c w hf hn (by omega) hP hX1 hX hY1 hY hW1 hW2 hH1 hH2 h
end Go.Proofs.YtmmpdniafmhjpaaGreatDoor

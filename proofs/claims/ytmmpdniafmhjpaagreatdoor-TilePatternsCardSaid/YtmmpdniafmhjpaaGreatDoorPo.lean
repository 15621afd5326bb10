/-
  tile.Cut; tile.Repeat where it is refused.
-/
import Derived.Test.YtmmpdniafmhjpaaGreatDoorPn
namespace Go.Proofs.YtmmpdniafmhjpaaGreatDoor
open Go.RowKit Go.Maps Go.BigFrame
set_option linter.unusedVariables false
set_option maxRecDepth 100000

theorem cut_noform (a b X Y Wd Hg : Int) (cs : List Int) (A : Option Addr) (n c : Nat) (w : World) (hf : form ⟨a, b, cs⟩ = false) (hn : n = cs.length) (hnl : n ≤ 9223372036854775807) :
    Calls Tryz.prog 10 #[.agg #[.int .i64 a, .int .i64 b, .slice A n c], .int .i64 X, .int .i64 Y, .int .i64 Wd, .int .i64 Hg] w (IsNoPat 1 w) := by
  have HF := Lib.hid hf
  have HN := Lib.hid hn
  clear hf hn
  go_enter Tryz.func10, Tryz.ntmps10
  go_wp2_with fail
  refine (hasForm_pat a b cs false A n c _ HN.out HF.out hnl).mono ?_
  rintro e w2 ⟨rfl, hb2⟩
  obtain ⟨hc2, hf2⟩ := bcell hb2
  have hs2 := hb2.size
  simp at hs2
  have b2 : Below w.heap.size w w2 := (((Below.refl _ _).alloc (Nat.le_refl _) _).alloc (by simp) _).trans (hb2.mono (by simp; omega))
  have ht2 : w.heap.size + 1 < w2.heap.size := by omega
  go_wp2_with fail
  refine bodyPost_ret (v := .tuple #[.agg #[.int .i64 0, .int .i64 0, .slice none 0 0], .int .i64 1]) (by simp [results, Tryz.results10, go_sem, hc2]) rfl ?_
  exact ⟨((b2.setCell (by show w.heap.size ≤ w.heap.size + 1; omega) _).setCell (by show w.heap.size ≤ w.heap.size + 1; omega) _).setCell (by show w.heap.size ≤ w.heap.size + 1; omega) _, rfl⟩
theorem cut_out (a b : Nat) (X Y Wd Hg : Int) (cs : List Int) (A : Option Addr) (n c : Nat) (w : World) (hf : form ⟨a, b, cs⟩ = true) (hn : n = cs.length) (hnl : n ≤ 9223372036854775807) (hX : X ≤ 9223372036854775807) (hY : Y ≤ 9223372036854775807)
    (hi : (inside a X Wd && inside b Y Hg) = false) :
    Calls Tryz.prog 10 #[.agg #[.int .i64 (a : Int), .int .i64 (b : Int), .slice A n c], .int .i64 X, .int .i64 Y, .int .i64 Wd, .int .i64 Hg] w (IsNoPat 2 w) := by
  obtain ⟨a', b', e1, e2, h1, h2, h3, h4⟩ := form_nat hf
  have e1' : a = a' := by have : (a : Int) = a' := e1; omega
  have e2' : b = b' := by have : (b : Int) = b' := e2; omega
  subst e1'
  subst e2'
  clear e1 e2 h4
  have a40 : a ≤ 40000 := by have := Nat.le_mul_of_pos_right a (show 0 < b by omega); omega
  have b40 : b ≤ 40000 := by have := Nat.le_mul_of_pos_left b (show 0 < a by omega); omega
  have HF := Lib.hid hf
  have HN := Lib.hid hn
  have hwa := fun (W : World) => within_any (a : Int) X Wd (by omega) (by omega) hX W
  have hwb := fun (W : World) => within_any (b : Int) Y Hg (by omega) (by omega) hY W
  clear hf hn
  cases hia : inside a X Wd
  · rw [hia] at hwa
    clear hi hia hwb
    go_enter Tryz.func10, Tryz.ntmps10
    go_wp2_with fail
    refine (hasForm_pat a b cs true A n c _ HN.out HF.out hnl).mono ?_
    rintro e w2 ⟨rfl, hb2⟩
    obtain ⟨hc2, hf2⟩ := bcell hb2
    have hs2 := hb2.size
    simp at hs2
    have b2 : Below w.heap.size w w2 := (((Below.refl _ _).alloc (Nat.le_refl _) _).alloc (by simp) _).trans (hb2.mono (by simp; omega))
    have ht2 : w.heap.size + 1 < w2.heap.size := by omega
    have ht3 : w.heap.size < w2.heap.size := by omega
    go_wp2_with fail
    refine (hwa _).mono ?_
    rintro e w3 ⟨rfl, rfl⟩
    go_wp2_with fail
    refine bodyPost_ret (v := .tuple #[.agg #[.int .i64 0, .int .i64 0, .slice none 0 0], .int .i64 2]) (by simp [results, Tryz.results10, go_sem, hc2]) rfl ?_
    exact ⟨((b2.setCell (by show w.heap.size ≤ w.heap.size + 1; omega) _).setCell (by show w.heap.size ≤ w.heap.size + 1; omega) _).setCell (by show w.heap.size ≤ w.heap.size + 1; omega) _, rfl⟩
  · rw [hia, Bool.true_and] at hi
    rw [hia] at hwa
    rw [hi] at hwb
    clear hi hia
    go_enter Tryz.func10, Tryz.ntmps10
    go_wp2_with fail
    refine (hasForm_pat a b cs true A n c _ HN.out HF.out hnl).mono ?_
    rintro e w2 ⟨rfl, hb2⟩
    obtain ⟨hc2, hf2⟩ := bcell hb2
    have hs2 := hb2.size
    simp at hs2
    have b2 : Below w.heap.size w w2 := (((Below.refl _ _).alloc (Nat.le_refl _) _).alloc (by simp) _).trans (hb2.mono (by simp; omega))
    have ht2 : w.heap.size + 1 < w2.heap.size := by omega
    have ht3 : w.heap.size < w2.heap.size := by omega
    go_wp2_with fail
    refine (hwa _).mono ?_
    rintro e w3 ⟨rfl, rfl⟩
    go_wp2_with fail
    refine (hwb _).mono ?_
    rintro e w3 ⟨rfl, rfl⟩
    go_wp2_with fail
    refine bodyPost_ret (v := .tuple #[.agg #[.int .i64 0, .int .i64 0, .slice none 0 0], .int .i64 2]) (by simp [results, Tryz.results10, go_sem, hc2]) rfl ?_
    exact ⟨((b2.setCell (by show w.heap.size ≤ w.heap.size + 1; omega) _).setCell (by show w.heap.size ≤ w.heap.size + 1; omega) _).setCell (by show w.heap.size ≤ w.heap.size + 1; omega) _, rfl⟩
set_option maxHeartbeats 1000000 in
theorem cut_in (a b x y wd hg : Nat) (X Y Wd Hg : Int) (cs : List Int) (A : Option Addr) (n c : Nat) (w : World) (hX : X = x) (hY : Y = y) (hWd : Wd = wd) (hHg : Hg = hg) (hf : form ⟨a, b, cs⟩ = true) (hn : n = cs.length) (hP : IntsIn w w.heap.size A cs)
    (hw : 1 ≤ wd) (hh : 1 ≤ hg) (hxa : x + wd ≤ a) (hyb : y + hg ≤ b) :
    Calls Tryz.prog 10 #[.agg #[.int .i64 (a : Int), .int .i64 (b : Int), .slice A n c], .int .i64 X, .int .i64 Y, .int .i64 Wd, .int .i64 Hg] w (IsPat (cutP ⟨a, b, cs⟩ x y wd hg) w) := by
  subst hX
  subst hY
  subst hWd
  subst hHg
  obtain ⟨a', b', e1, e2, h1, h2, h3, h4⟩ := form_nat hf
  have e1' : a = a' := by have : (a : Int) = a' := e1; omega
  have e2' : b = b' := by have : (b : Int) = b' := e2; omega
  subst e1'
  subst e2'
  clear e1 e2
  have a40 : a ≤ 40000 := by have := Nat.le_mul_of_pos_right a (show 0 < b by omega); omega
  have b40 : b ≤ 40000 := by have := Nat.le_mul_of_pos_left b (show 0 < a by omega); omega
  have hwh : wd * hg ≤ 40000 := Nat.le_trans (Nat.mul_le_mul (show wd ≤ a by omega) (show hg ≤ b by omega)) h3
  have hnl : n ≤ 9223372036854775807 := by have h4' : cs.length = a * b := h4; omega
  have HF := Lib.hid hf
  have HN := Lib.hid hn
  have HL : Hid (cs.length = a * b) := h4
  have HP := Lib.hid hP
  have hwa := fun (W : World) => within_any (a : Int) x wd (by omega) (by omega) (by omega) W
  have hwb := fun (W : World) => within_any (b : Int) y hg (by omega) (by omega) (by omega) W
  rw [show inside a x wd = true from decide_eq_true (by omega)] at hwa
  rw [show inside b y hg = true from decide_eq_true (by omega)] at hwb
  have HQ : Hid (win ⟨a, b, cs⟩ x y wd hg = cutP ⟨a, b, cs⟩ x y wd hg) := win_cut _ x y wd hg (by simpa using hxa) (by simpa using hyb)
  clear hf hn hP h4
  go_enter Tryz.func10, Tryz.ntmps10
  go_wp2_with fail
  refine (hasForm_pat a b cs true A n c _ HN.out HF.out hnl).mono ?_
  rintro e w2 ⟨rfl, hb2⟩
  obtain ⟨hc2, hf2⟩ := bcell hb2
  have hs2 := hb2.size
  simp at hs2
  have b2 : Below w.heap.size w w2 := (((Below.refl _ _).alloc (Nat.le_refl _) _).alloc (by simp) _).trans (hb2.mono (by simp; omega))
  have ht2 : w.heap.size + 1 < w2.heap.size := by omega
  have ht3 : w.heap.size < w2.heap.size := by omega
  go_wp2_with fail
  refine (hwa _).mono ?_
  rintro e w3 ⟨rfl, rfl⟩
  go_wp2_with fail
  refine (hwb _).mono ?_
  rintro e w3 ⟨rfl, rfl⟩
  go_wp2_with fail
  refine (window_any a b cs A n c _ _ _ _ x y wd hg _ rfl rfl rfl rfl h1 h2 h3 HL.out HN.out (HP.out.keep b2 b2.size) hw hh hwh (by omega) (by omega)).mono ?_
  rintro e w4 ⟨B, c4, rfl, hI, hb4⟩
  obtain ⟨hc4, hf4⟩ := bcell hb4
  have ht4 : w.heap.size + 1 < w2.heap.size := by omega
  have r0 : w4.cell? ⟨w.heap.size + 1, 0, none⟩ = some (.int .i64 0) := (hc4 _ _ ht4).trans ((hc2 _ _ (by simp)).trans (by simp [go_sem]))
  have r1 : w4.cell? ⟨w.heap.size + 1, 1, none⟩ = some (.int .i64 0) := (hc4 _ _ ht4).trans ((hc2 _ _ (by simp)).trans (by simp [go_sem]))
  have r2 : w4.cell? ⟨w.heap.size + 1, 2, none⟩ = some (.slice none 0 0) := (hc4 _ _ ht4).trans ((hc2 _ _ (by simp)).trans (by simp [go_sem]))
  have z0 : ∀ o, w4.frozen? ⟨w.heap.size + 1, o, none⟩ = false := fun o => (hf4 _ _ ht4).trans ((hf2 _ _ (by simp)).trans (World.frozen?_alloc_at _ _ _ _ (by simp)))
  have hb04 : Below w.heap.size w w4 := b2.trans (hb4.mono (by omega))
  have HI := Lib.hid hI
  clear hc4 hf4 hc2 hf2 hI hwa hwb
  go_wp2_with fail
  have hlen : (cutP ⟨a, b, cs⟩ x y wd hg).c.length = wd * hg := by simp [cutP, rel]
  refine bodyPost_ret (v := .tuple #[.agg #[.int .i64 (wd : Int), .int .i64 (hg : Int), .slice B (wd * hg) c4], .int .i64 0]) (by simp [results, Tryz.results10, go_sem, r0, r1, r2]) rfl ?_
  have HI2 := HI.out
  rw [HQ.out] at HI2
  refine ⟨((hb04.setCell (by show w.heap.size ≤ w.heap.size + 1; omega) _).setCell (by show w.heap.size ≤ w.heap.size + 1; omega) _).setCell (by show w.heap.size ≤ w.heap.size + 1; omega) _, B, c4, by rw [hlen]; rfl, ?_⟩
  exact (((HI2.set (p := ⟨w.heap.size + 1, 0, none⟩) (by show w.heap.size + 1 < _; omega) _).set (p := ⟨w.heap.size + 1, 1, none⟩) (by show w.heap.size + 1 < _; omega) _).set (p := ⟨w.heap.size + 1, 2, none⟩) (by show w.heap.size + 1 < _; omega) _).mono (by omega)

theorem rep_noform (a b Wd Hg : Int) (cs : List Int) (A : Option Addr) (n c : Nat) (w : World) (hf : form ⟨a, b, cs⟩ = false) (hn : n = cs.length) (hnl : n ≤ 9223372036854775807) :
    Calls Tryz.prog 11 #[.agg #[.int .i64 a, .int .i64 b, .slice A n c], .int .i64 Wd, .int .i64 Hg] w (IsNoPat 1 w) := by
  have HF := Lib.hid hf
  have HN := Lib.hid hn
  clear hf hn
  go_enter Tryz.func11, Tryz.ntmps11
  go_wp2_with fail
  refine (hasForm_pat a b cs false A n c _ HN.out HF.out hnl).mono ?_
  rintro e w2 ⟨rfl, hb2⟩
  obtain ⟨hc2, hf2⟩ := bcell hb2
  have hs2 := hb2.size
  simp at hs2
  have b2 : Below w.heap.size w w2 := (((Below.refl _ _).alloc (Nat.le_refl _) _).alloc (by simp) _).trans (hb2.mono (by simp; omega))
  have ht2 : w.heap.size + 1 < w2.heap.size := by omega
  go_wp2_with fail
  refine bodyPost_ret (v := .tuple #[.agg #[.int .i64 0, .int .i64 0, .slice none 0 0], .int .i64 1]) (by simp [results, Tryz.results11, go_sem, hc2]) rfl ?_
  exact ⟨((b2.setCell (by show w.heap.size ≤ w.heap.size + 1; omega) _).setCell (by show w.heap.size ≤ w.heap.size + 1; omega) _).setCell (by show w.heap.size ≤ w.heap.size + 1; omega) _, rfl⟩
theorem rep_arg (a b Wd Hg : Int) (cs : List Int) (A : Option Addr) (n c : Nat) (w : World) (hf : form ⟨a, b, cs⟩ = true) (hn : n = cs.length) (hnl : n ≤ 9223372036854775807) (hi : Wd < 1 ∨ Hg < 1) :
    Calls Tryz.prog 11 #[.agg #[.int .i64 a, .int .i64 b, .slice A n c], .int .i64 Wd, .int .i64 Hg] w (IsNoPat 2 w) := by
  have HF := Lib.hid hf
  have HN := Lib.hid hn
  clear hf hn
  by_cases h0 : Wd < 1
  · clear hi
    go_enter Tryz.func11, Tryz.ntmps11
    go_wp2_with fail
    refine (hasForm_pat a b cs true A n c _ HN.out HF.out hnl).mono ?_
    rintro e w2 ⟨rfl, hb2⟩
    obtain ⟨hc2, hf2⟩ := bcell hb2
    have hs2 := hb2.size
    simp at hs2
    have b2 : Below w.heap.size w w2 := (((Below.refl _ _).alloc (Nat.le_refl _) _).alloc (by simp) _).trans (hb2.mono (by simp; omega))
    have ht2 : w.heap.size + 1 < w2.heap.size := by omega
    go_wp2_with fail
    refine bodyPost_ret (v := .tuple #[.agg #[.int .i64 0, .int .i64 0, .slice none 0 0], .int .i64 2]) (by simp [results, Tryz.results11, go_sem, hc2]) rfl ?_
    exact ⟨((b2.setCell (by show w.heap.size ≤ w.heap.size + 1; omega) _).setCell (by show w.heap.size ≤ w.heap.size + 1; omega) _).setCell (by show w.heap.size ≤ w.heap.size + 1; omega) _, rfl⟩
  · have h1 : Hg < 1 := by omega
    clear hi
    go_enter Tryz.func11, Tryz.ntmps11
    go_wp2_with fail
    refine (hasForm_pat a b cs true A n c _ HN.out HF.out hnl).mono ?_
    rintro e w2 ⟨rfl, hb2⟩
    obtain ⟨hc2, hf2⟩ := bcell hb2
    have hs2 := hb2.size
    simp at hs2
    have b2 : Below w.heap.size w w2 := (((Below.refl _ _).alloc (Nat.le_refl _) _).alloc (by simp) _).trans (hb2.mono (by simp; omega))
    have ht2 : w.heap.size + 1 < w2.heap.size := by omega
    go_wp2_with fail
    refine bodyPost_ret (v := .tuple #[.agg #[.int .i64 0, .int .i64 0, .slice none 0 0], .int .i64 2]) (by simp [results, Tryz.results11, go_sem, hc2]) rfl ?_
    exact ⟨((b2.setCell (by show w.heap.size ≤ w.heap.size + 1; omega) _).setCell (by show w.heap.size ≤ w.heap.size + 1; omega) _).setCell (by show w.heap.size ≤ w.heap.size + 1; omega) _, rfl⟩
theorem rep_size (a b Wd Hg : Int) (cs : List Int) (A : Option Addr) (n c : Nat) (w : World) (hf : form ⟨a, b, cs⟩ = true) (hn : n = cs.length) (hnl : n ≤ 9223372036854775807) (h0 : 1 ≤ Wd) (h1 : 1 ≤ Hg) (hi : incl Wd Hg = false) :
    Calls Tryz.prog 11 #[.agg #[.int .i64 a, .int .i64 b, .slice A n c], .int .i64 Wd, .int .i64 Hg] w (IsNoPat 4 w) := by
  have HF := Lib.hid hf
  have HN := Lib.hid hn
  have hin := fun (W : World) => inCells_any Wd Hg W
  rw [hi] at hin
  clear hf hn hi
  go_enter Tryz.func11, Tryz.ntmps11
  go_wp2_with fail
  refine (hasForm_pat a b cs true A n c _ HN.out HF.out hnl).mono ?_
  rintro e w2 ⟨rfl, hb2⟩
  obtain ⟨hc2, hf2⟩ := bcell hb2
  have hs2 := hb2.size
  simp at hs2
  have b2 : Below w.heap.size w w2 := (((Below.refl _ _).alloc (Nat.le_refl _) _).alloc (by simp) _).trans (hb2.mono (by simp; omega))
  have ht2 : w.heap.size + 1 < w2.heap.size := by omega
  go_wp2_with fail
  refine (hin _).mono ?_
  rintro e w3 ⟨rfl, rfl⟩
  go_wp2_with fail
  refine bodyPost_ret (v := .tuple #[.agg #[.int .i64 0, .int .i64 0, .slice none 0 0], .int .i64 4]) (by simp [results, Tryz.results11, go_sem, hc2]) rfl ?_
  exact ⟨((b2.setCell (by show w.heap.size ≤ w.heap.size + 1; omega) _).setCell (by show w.heap.size ≤ w.heap.size + 1; omega) _).setCell (by show w.heap.size ≤ w.heap.size + 1; omega) _, rfl⟩
end Go.Proofs.YtmmpdniafmhjpaaGreatDoor

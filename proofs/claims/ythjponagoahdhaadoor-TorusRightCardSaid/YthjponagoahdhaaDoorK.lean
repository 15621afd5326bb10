/-
  tile.Repeat; the small functions of package groutworktop.
-/
import Derived.Test.YthjponagoahdhaaDoorJ
namespace Go.Proofs.YthjponagoahdhaaDoor
open Go.RowKit Go.Maps Go.BigFrame
set_option linter.unusedVariables false

theorem incl_nat {wd hg : Nat} (h1 : 1 ≤ wd) (h2 : 1 ≤ hg) (h3 : wd * hg ≤ 40000) : incl (wd : Int) (hg : Int) = true := by
  unfold incl
  rw [decide_eq_true_eq]
  exact ⟨by omega, by omega, by rw [← Int.natCast_mul]; omega⟩

def IsRep (a b : Nat) (cs : List Int) (wd hg : Nat) (W : World) (e : Ending) (w' : World) : Prop :=
  ∃ B c, e = .returned (.tuple #[.agg #[.int .i64 (wd : Int), .int .i64 (hg : Int), .slice B (wd * hg) c], .int .i64 0]) ∧ IntsNew w' W.heap.size B (win ⟨a, b, cs⟩ 0 0 wd hg).c ∧ Below W.heap.size W w'

set_option maxHeartbeats 1000000 in
theorem repeat_ok (a b : Nat) (cs : List Int) (A : Option Addr) (n c : Nat) (Wd Hg : Int) (wd hg : Nat) (w : World) (hWd : Wd = wd) (hHg : Hg = hg)
    (hf : form ⟨a, b, cs⟩ = true) (hn : n = cs.length) (hnl : n ≤ 9223372036854775807) (hP : IntsIn w w.heap.size A cs) (hw : 1 ≤ wd) (hh : 1 ≤ hg) (hwh : wd * hg ≤ 40000) :
    Calls Tryd.prog 18 #[.agg #[.int .i64 (a : Int), .int .i64 (b : Int), .slice A n c], .int .i64 Wd, .int .i64 Hg] w (IsRep a b cs wd hg w) := by
  subst hWd
  subst hHg
  obtain ⟨a', b', e1, e2, h1, h2, h3, h4⟩ := form_nat hf
  have e1' : a = a' := by have : (a : Int) = a' := e1; omega
  have e2' : b = b' := by have : (b : Int) = b' := e2; omega
  subst e1'
  subst e2'
  clear e1 e2
  have HF := Lib.hid hf
  have HN := Lib.hid hn
  have HL : Hid (cs.length = a * b) := h4
  have HP := Lib.hid hP
  have HI := Lib.hid (incl_nat hw hh hwh)
  clear hf hn hP h4
  have w4 : wd ≤ 40000 := by have := Nat.le_mul_of_pos_right wd (show 0 < hg by omega); omega
  have h4 : hg ≤ 40000 := by have := Nat.le_mul_of_pos_left hg (show 0 < wd by omega); omega
  go_enter Tryd.func18, Tryd.ntmps18
  go_wp2_with (go_at_call 33; refine (hasForm_pat a b cs true A n c _ HN.out HF.out hnl).mono ?_; rintro e w2 ⟨rfl, hb2⟩; obtain ⟨hc2, hf2⟩ := bcell hb2; have hs2 := hb2.size; simp at hs2; have ht2 : w.heap.size < w2.heap.size := by omega)
  have hi := HI.out
  go_wp2_with (go_at_call 34; refine (inCells_any _ _ _).mono ?_; rintro e w3 ⟨rfl, rfl⟩)
  clear hi
  have hb02 : Below w.heap.size w w2 := (((Below.refl _ _).alloc (Nat.le_refl _) _).alloc (by simp) _).trans (hb2.mono (by simp; omega))
  have ht3 : w.heap.size + 1 < w2.heap.size := by omega
  refine (window_any a b cs A n c _ _ _ _ 0 0 wd hg _ rfl rfl rfl rfl h1 h2 h3 HL.out HN.out (HP.out.keep hb02 hb02.size) hw hh hwh (by omega) (by omega)).mono ?_
  rintro e w4 ⟨B, c4, rfl, hI, hb4⟩
  obtain ⟨hc4, hf4⟩ := bcell hb4
  have r0 : w4.cell? ⟨w.heap.size + 1, 0, none⟩ = some (.int .i64 0) := (hc4 _ _ ht3).trans ((hc2 _ _ (by simp)).trans (by simp [go_sem]))
  have r1 : w4.cell? ⟨w.heap.size + 1, 1, none⟩ = some (.int .i64 0) := (hc4 _ _ ht3).trans ((hc2 _ _ (by simp)).trans (by simp [go_sem]))
  have r2 : w4.cell? ⟨w.heap.size + 1, 2, none⟩ = some (.slice none 0 0) := (hc4 _ _ ht3).trans ((hc2 _ _ (by simp)).trans (by simp [go_sem]))
  have z0 : ∀ o, w4.frozen? ⟨w.heap.size + 1, o, none⟩ = false := fun o => (hf4 _ _ ht3).trans ((hf2 _ _ (by simp)).trans (World.frozen?_alloc_at _ _ _ _ (by simp)))
  have hb04 : Below w.heap.size w w4 := hb02.trans (hb4.mono (by omega))
  have hI2 := Lib.hid hI
  clear hc4 hf4 hc2 hf2 hI
  go_wp2
  refine bodyPost_ret (v := .tuple #[.agg #[.int .i64 (wd : Int), .int .i64 (hg : Int), .slice B (wd * hg) c4], .int .i64 0]) (by simp [results, Tryd.results18, go_sem, r0, r1, r2]) rfl ?_
  exact ⟨B, c4, rfl, (((hI2.out.set (p := ⟨w.heap.size + 1, 0, none⟩) (by show w.heap.size + 1 < _; omega) _).set (p := ⟨w.heap.size + 1, 1, none⟩) (by show w.heap.size + 1 < _; omega) _).set (p := ⟨w.heap.size + 1, 2, none⟩) (by show w.heap.size + 1 < _; omega) _).mono (by omega), ((hb04.setCell (by show w.heap.size ≤ w.heap.size + 1; omega) _).setCell (by show w.heap.size ≤ w.heap.size + 1; omega) _).setCell (by show w.heap.size ≤ w.heap.size + 1; omega) _⟩
end Go.Proofs.YthjponagoahdhaaDoor

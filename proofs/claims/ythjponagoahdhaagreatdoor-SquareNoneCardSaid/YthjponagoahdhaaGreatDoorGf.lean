/-
  tile.Fits.
-/
import Derived.Test.YthjponagoahdhaaGreatDoorGI
namespace Go.Proofs.YthjponagoahdhaaGreatDoor
open Go.RowKit Go.Maps Go.BigFrame
set_option linter.unusedVariables false

set_option maxHeartbeats 1000000 in
theorem fits_any (a b : Int) (cs : List Int) (s : List Tl) (A S : Option Addr) (m n c d : Nat) (w : World) (hm : m = s.length) (hn : n = cs.length)
    (hS : SetIn w w.heap.size S s) (hP : IntsIn w w.heap.size A cs) (hwf : ∀ t ∈ s, twf t) (hml : m ≤ 9223372036854775807) (hnl : n ≤ 9223372036854775807) :
    Calls Tryz.prog 9 #[.slice S m d, .agg #[.int .i64 a, .int .i64 b, .slice A n c]] w fun e w' => e = .returned (.bool (fits s ⟨a, b, cs⟩)) ∧ Below w.heap.size w w' := by
  obtain ⟨W1, hW1⟩ : ∃ W1, W1 = w.alloc (.cells #[.int .i64 a, .int .i64 b, .slice A n c] 25) := ⟨_, rfl⟩
  have hz1 : W1.heap.size = w.heap.size + 1 := by rw [hW1]; simp
  have hb1 : Below w.heap.size w W1 := by rw [hW1]; exact (Below.refl _ _).alloc (Nat.le_refl _) _
  have HS := Lib.hid (hS.keep hb1 hb1.size)
  have HP := Lib.hid (hP.keep hb1 hb1.size)
  have HM := Lib.hid hm
  have HN := Lib.hid hn
  have HW := Lib.hid hwf
  clear hS hP hm hn hwf
  subst hW1
  cases hv : vld s
  · have HV := Lib.hid hv
    have HK : Hid (fits s ⟨a, b, cs⟩ = false) := by show _ = _; simp [fits, hv]
    clear hv
    go_enter Tryz.func9, Tryz.ntmps9
    go_wp2_with (go_at_call 20; refine (valid_pat s false S m d _ HM.out HV.out HS.out HW.out hml).mono ?_; rintro e w2 ⟨rfl, hb2⟩)
    go_ret
    exact ⟨ret_bool HK.out.symm, hb1.trans (hb2.mono (by omega))⟩
  have HV := Lib.hid hv
  cases hf : form ⟨a, b, cs⟩
  · have HF := Lib.hid hf
    have HK : Hid (fits s ⟨a, b, cs⟩ = false) := by show _ = _; simp [fits, hf]
    clear hv hf
    go_enter Tryz.func9, Tryz.ntmps9
    go_wp2_with (first | (go_at_call 20; refine (valid_pat s true S m d _ HM.out HV.out HS.out HW.out hml).mono ?_; rintro e w2 ⟨rfl, hb2⟩; obtain ⟨hc2, hf2⟩ := bcell hb2) | (go_at_call 21; refine (hasForm_pat a b cs false A n c _ HN.out HF.out hnl).mono ?_; rintro e w3 ⟨rfl, hb3⟩))
    go_ret
    exact ⟨ret_bool HK.out.symm, hb1.trans ((hb2.mono (by omega)).trans (hb3.mono (by have := hb2.size; omega)))⟩
  have HF := Lib.hid hf
  cases hr : refers s ⟨a, b, cs⟩
  · have HR := Lib.hid hr
    have HK : Hid (fits s ⟨a, b, cs⟩ = false) := by show _ = _; simp [fits, hr]
    clear hv hf hr
    go_enter Tryz.func9, Tryz.ntmps9
    go_wp2_with (first | (go_at_call 20; refine (valid_pat s true S m d _ HM.out HV.out HS.out HW.out hml).mono ?_; rintro e w2 ⟨rfl, hb2⟩; obtain ⟨hc2, hf2⟩ := bcell hb2; have hs2 := hb2.size; simp at hs2; have ht2 : w.heap.size < w2.heap.size := by omega) | (go_at_call 21; refine (hasForm_pat a b cs true A n c _ HN.out HF.out hnl).mono ?_; rintro e w3 ⟨rfl, hb3⟩; obtain ⟨hc3, hf3⟩ := bcell hb3; have hs3 := hb3.size; have ht3 : w.heap.size < w3.heap.size := by omega) | (go_at_call 22; refine (refers_pat s a b cs false A S m n c d _ HM.out HN.out HR.out (HP.out.keep (hb2.trans (hb3.mono hb2.size)) (hb2.trans (hb3.mono hb2.size)).size) hnl hml).mono ?_; rintro e w4 ⟨rfl, hb4⟩))
    go_ret
    exact ⟨ret_bool HK.out.symm, hb1.trans ((hb2.trans ((hb3.mono hb2.size).trans (hb4.mono (Nat.le_trans hb2.size hb3.size)))).mono (by omega))⟩
  · have HR := Lib.hid hr
    have HK : Hid (fits s ⟨a, b, cs⟩ = agrs s ⟨a, b, cs⟩ (a - 1) (b - 1)) := by show _ = _; simp [fits, hv, hf, hr]
    obtain ⟨a', b', e1, e2, h1, h2, h3, h4⟩ := form_nat hf
    have e1' : a = a' := e1
    have e2' : b = b' := e2
    have h5 : a' ≤ 40000 := by have := Nat.le_mul_of_pos_right a' (show 0 < b' by omega); omega
    have h6 : b' ≤ 40000 := by have := Nat.le_mul_of_pos_left b' (show 0 < a' by omega); omega
    clear hv hf hr e1 e2 h3 h4
    subst e1'
    subst e2'
    go_enter Tryz.func9, Tryz.ntmps9
    go_wp2_with (first | (go_at_call 20; refine (valid_pat s true S m d _ HM.out HV.out HS.out HW.out hml).mono ?_; rintro e w2 ⟨rfl, hb2⟩; obtain ⟨hc2, hf2⟩ := bcell hb2; have hs2 := hb2.size; simp at hs2; have ht2 : w.heap.size < w2.heap.size := by omega) | (go_at_call 21; refine (hasForm_pat a' b' cs true A n c _ HN.out HF.out hnl).mono ?_; rintro e w3 ⟨rfl, hb3⟩; obtain ⟨hc3, hf3⟩ := bcell hb3; have hs3 := hb3.size; have ht3 : w.heap.size < w3.heap.size := by omega) | (go_at_call 22; refine (refers_pat s a' b' cs true A S m n c d _ HM.out HN.out HR.out (HP.out.keep (hb2.trans (hb3.mono hb2.size)) (hb2.trans (hb3.mono hb2.size)).size) hnl hml).mono ?_; rintro e w4 ⟨rfl, hb4⟩; obtain ⟨hc4, hf4⟩ := bcell hb4; have hs4 := hb4.size; have ht4 : w.heap.size < w4.heap.size := by omega) | (go_at_call 23; refine (agrees_pat a' b' cs s _ _ _ A S m n c d _ HF.out HR.out HM.out HN.out rfl (HS.out.keep (hb2.trans ((hb3.mono hb2.size).trans (hb4.mono (Nat.le_trans hb2.size hb3.size)))) (Nat.le_trans hb2.size (Nat.le_trans hb3.size hb4.size))) (HP.out.keep (hb2.trans ((hb3.mono hb2.size).trans (hb4.mono (Nat.le_trans hb2.size hb3.size)))) (Nat.le_trans hb2.size (Nat.le_trans hb3.size hb4.size))) hml).mono ?_; rintro e w5 ⟨rfl, hb5⟩))
    go_ret
    exact ⟨ret_bool HK.out.symm, hb1.trans ((hb2.trans ((hb3.mono hb2.size).trans ((hb4.mono (Nat.le_trans hb2.size hb3.size)).trans (hb5.mono (Nat.le_trans hb2.size (Nat.le_trans hb3.size hb4.size)))))).mono (by omega))⟩

end Go.Proofs.YthjponagoahdhaaGreatDoor

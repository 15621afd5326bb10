/-
  groutworkref01: Fits.
-/
import Derived.Test.YtloodijkfoinnaaDoorRb
namespace Go.Proofs.YtloodijkfoinnaaDoor
open Go.RowKit Go.Maps Go.BigFrame
set_option linter.unusedVariables false
set_option maxRecDepth 100000

theorem fits_ofr (s : List Tl) (a b : Int) (cs : List Int) : fits s ⟨a, b, cs⟩ = (vld s && ofr (a - 1) (b - 1) s ⟨a, b, cs⟩) := rfl
theorem reps_ofr (s : List Tl) (a b : Int) (cs : List Int) : reps s ⟨a, b, cs⟩ = (vld s && ofr a b s ⟨a, b, cs⟩) := rfl
theorem rfits_any (a b : Int) (cs : List Int) (s : List Tl) (A S : Option Addr) (m n c d : Nat) (r : Bool) (w : World) (hm : m = s.length) (hn : n = cs.length) (hmd : m ≤ d) (hr : fits s ⟨a, b, cs⟩ = r)
    (hS : SetIn w w.heap.size S s) (hP : IntsIn w w.heap.size A cs) (hml : d ≤ 9223372036854775807) (hnl : n ≤ 9223372036854775807) :
    Calls Tryd.prog 19 #[.slice S m d, .agg #[.int .i64 a, .int .i64 b, .slice A n c]] w fun e w' => e = .returned (.bool r) ∧ Below w.heap.size w w' := by
  have HM := Lib.hid hm
  have HN := Lib.hid hn
  have HRR := Lib.hid hr
  clear hm hn hr
  obtain ⟨W0, hW0⟩ : ∃ W0, W0 = w.alloc (.cells #[.int .i64 a, .int .i64 b, .slice A n c] 36) := ⟨_, rfl⟩
  have hb0 : Below w.heap.size w W0 := by rw [hW0]; exact (Below.refl _ _).alloc (Nat.le_refl _) _
  have hval := rvalid_any s S m d W0 HM.out hmd hml (hS.keep hb0 hb0.size)
  have q0 : W0.cell? ⟨w.heap.size, 0, none⟩ = some (.int .i64 a) := by rw [hW0]; simp
  have q1 : W0.cell? ⟨w.heap.size, 1, none⟩ = some (.int .i64 b) := by rw [hW0]; simp
  have q2 : W0.cell? ⟨w.heap.size, 2, none⟩ = some (.slice A n c) := by rw [hW0]; simp
  have hz : w.heap.size < W0.heap.size := by rw [hW0]; simp
  have HS := Lib.hid hS
  have HPI := Lib.hid hP
  clear hS hP
  cases hv : vld s
  · have HK : Hid (r = false) := by show _ = _; rw [← HRR.out, fits_ofr, hv]; rfl
    rw [hv] at hval
    clear hv
    go_enter Tryd.func19, Tryd.ntmps19
    go_wp2_with fail
    rw [← hW0]
    clear hW0
    refine hval.mono ?_
    rintro e w3 ⟨rfl, hb3⟩
    go_wp2_with fail
    go_ret
    exact ⟨ret_bool HK.out.symm, hb0.trans (hb3.mono hb0.size)⟩
  · have HK : Hid (ofr (a - 1) (b - 1) s ⟨a, b, cs⟩ = r) := by show _ = _; rw [← HRR.out, fits_ofr, hv]; rfl
    rw [hv] at hval
    clear hv
    go_enter Tryd.func19, Tryd.ntmps19
    go_wp2_with fail
    rw [← hW0]
    clear hW0
    refine hval.mono ?_
    rintro e w3 ⟨rfl, hb3⟩
    have p0 := (hb3.cell (p := ⟨w.heap.size, 0, none⟩) hz).trans q0
    have p1 := (hb3.cell (p := ⟨w.heap.size, 1, none⟩) hz).trans q1
    have p2 := (hb3.cell (p := ⟨w.heap.size, 2, none⟩) hz).trans q2
    have hb03 : Below w.heap.size w w3 := hb0.trans (hb3.mono hb0.size)
    clear q0 q1 q2
    go_wp2_with fail
    refine (rof_any a b cs s A S m n c d r _ HM.out HN.out HK.out (HS.out.keep hb03 hb03.size) (HPI.out.keep hb03 hb03.size) (by omega) hnl).mono ?_
    rintro e w4 ⟨rfl, hb4⟩
    go_wp2_with fail
    go_ret
    exact ⟨rfl, hb03.trans (hb4.mono hb03.size)⟩
end Go.Proofs.YtloodijkfoinnaaDoor

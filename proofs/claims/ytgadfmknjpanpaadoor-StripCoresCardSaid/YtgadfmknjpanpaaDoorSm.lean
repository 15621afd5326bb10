/-
  groutworkref01: Same, SamePattern, of equal lists.
-/
import Derived.Test.YtgadfmknjpanpaaDoorAE
import Derived.Test.YtgadfmknjpanpaaDoorFg
namespace Go.Proofs.YtgadfmknjpanpaaDoor
open Go.RowKit Go.Maps Go.BigFrame
set_option linter.unusedVariables false
set_option maxRecDepth 100000

theorem ints_at {w : World} {B : Nat} {A : Option Addr} {cs : List Int} (h : IntsIn w B A cs) {w' : World} (hb : Below B w w') {k : Nat} (hk : k < cs.length) : ∃ bk off, A = some ⟨bk, off, none⟩ ∧ bk < B ∧ w'.cell? ⟨bk, off + k, none⟩ = some (.int .i64 (cs.getD k 0)) := by
  obtain ⟨bk, off, hA, hlt, hc⟩ := h (ne_nil_of_lt hk)
  exact ⟨bk, off, hA, hlt, (hb.cell (p := ⟨bk, _, none⟩) hlt).trans (hc k hk)⟩
set_option maxHeartbeats 2000000 in
theorem rsameI_any (cs : List Int) (A C : Option Addr) (m n c d : Nat) (w : World) (hm : m = cs.length) (hn : n = cs.length) (hml : m ≤ 9223372036854775807)
    (hA : IntsIn w w.heap.size A cs) (hC : IntsIn w w.heap.size C cs) :
    Calls Tryd.prog 11 #[.slice A m c, .slice C n d] w fun e w' => e = .returned (.bool true) ∧ Below w.heap.size w w' := by
  obtain rfl : m = n := by omega
  have HM := Lib.hid hm
  have HA := Lib.hid hA
  have HC := Lib.hid hC
  clear hm hn hA hC
  go_enter Tryd.func11, Tryd.ntmps11
  go_wp2
  go_loopw [5] (fun i wr => ∃ j : Nat, j ≤ m ∧ i = .int .i64 j ∧ Below w.heap.size w wr) (fun i _ => m - (intOf i).toNat)
  case atStart => exact ⟨0, Nat.zero_le _, rfl, Below.refl _ _⟩
  case round =>
    obtain ⟨j, hj, rfl, hbj⟩ := hrel
    obtain ⟨wi, rfl⟩ : ∃ wi : World, wi = wr := ⟨_, rfl⟩
    by_cases hlj : j < m
    · have hjs : j < cs.length := by rw [← HM.out]; exact hlj
      obtain ⟨sb, so, rfl, hsb, x0⟩ := ints_at HA.out hbj hjs
      obtain ⟨tb, to, rfl, htb, y0⟩ := ints_at HC.out hbj hjs
      obtain ⟨u, hu⟩ : ∃ u, u = cs.getD j 0 := ⟨_, rfl⟩
      rw [← hu] at x0 y0
      have d0 := ext_cell x0
      have d1 := ext_cell y0
      clear x0 y0 hu hjs
      go_wp2
      refine wp_region_ext (by kernel_rfl) (by kernel_rfl) ?_
      repeat (go_big_quiet_step (fail))
      refine wpQuiet_nil ?_
      intro _ hw'
      obtain ⟨xq, rfl⟩ := hw'
      obtain ⟨W4, hbW4, heW4⟩ : ∃ W4, Below wi.heap.size wi W4 ∧ ext wi xq = W4 := ⟨_, ext_below _, rfl⟩
      rw [heW4]
      clear heW4 xq d0 d1
      have hb4 : Below w.heap.size w W4 := hbj.trans (hbW4.mono hbj.size)
      go_wp2
      go_roundw
      case rel => exact ⟨j + 1, by omega, by go_num, hb4⟩
      case measure => simp [intOf]; omega
    · go_wp2
      go_ret
      exact ⟨rfl, hbj⟩

end Go.Proofs.YtgadfmknjpanpaaDoor

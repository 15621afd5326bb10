/-
  groutworkref01: SameSet.
-/
import Derived.Test.YtmmpdniafmhjpaaGreatDoorRa
namespace Go.Proofs.YtmmpdniafmhjpaaGreatDoor
open Go.RowKit Go.Maps Go.BigFrame
set_option linter.unusedVariables false
set_option maxRecDepth 100000

theorem tile_neqb (t u : Tl) (w : World) : (binOp .neq 62 (.agg #[.int .i64 t.n, .int .i64 t.e, .int .i64 t.s, .int .i64 t.w]) (.agg #[.int .i64 u.n, .int .i64 u.e, .int .i64 u.s, .int .i64 u.w])).run Tryz.prog w = .ok (.bool (!(t.n == u.n && (t.e == u.e && (t.s == u.s && t.w == u.w))))) w := by
  simp only [binOp]
  simp only [Op.equal, Op.maxDepth]
  have h := fun d => run_equalIn_struct (P := Tryz.prog) w d 62 #[.int .i64 t.n, .int .i64 t.e, .int .i64 t.s, .int .i64 t.w] #[.int .i64 u.n, .int .i64 u.e, .int .i64 u.s, .int .i64 u.w] tile_fields tile_stood
  cases h0 : (t.n == u.n) <;> cases h1 : (t.e == u.e) <;> cases h2 : (t.s == u.s) <;> cases h3 : (t.w == u.w) <;>
    simp [h 9999, go_sem, Program.fieldsOf, Tryz.underlying62, Tryz.underlying3, h0, h1, h2, h3]
theorem tile_neq (t u : Tl) (w : World) (r : Bool) (h : decide (t = u) = !r) : (binOp .neq 62 (.agg #[.int .i64 t.n, .int .i64 t.e, .int .i64 t.s, .int .i64 t.w]) (.agg #[.int .i64 u.n, .int .i64 u.e, .int .i64 u.s, .int .i64 u.w])).run Tryz.prog w = .ok (.bool r) w := by
  rw [tile_neqb]
  have e : (t.n == u.n && (t.e == u.e && (t.s == u.s && t.w == u.w))) = decide (t = u) := by
    obtain ⟨a, b, c, d⟩ := t
    obtain ⟨a', b', c', d'⟩ := u
    rw [Bool.eq_iff_iff]
    simp
  rw [e, h, Bool.not_not]
def upto (s u : List Tl) (k : Nat) : Prop := ∀ i, i < k → s.getD i ⟨0, 0, 0, 0⟩ = u.getD i ⟨0, 0, 0, 0⟩
theorem upto_eq {s u : List Tl} (hl : s.length = u.length) (h : upto s u s.length) : s = u := by
  apply List.ext_getElem hl
  intro i h1 h2
  have := h i h1
  rw [List.getD_eq_getElem?_getD, List.getD_eq_getElem?_getD, List.getElem?_eq_getElem h1, List.getElem?_eq_getElem h2] at this
  exact this
set_option maxHeartbeats 2000000 in
theorem rsame_any (s u : List Tl) (A C : Option Addr) (m n c d : Nat) (r : Bool) (w : World) (hm : m = s.length) (hn : n = u.length) (hr : decide (s = u) = r) (hml : m ≤ 9223372036854775807) (hnl : n ≤ 9223372036854775807)
    (hS : SetIn w w.heap.size A s) (hU : SetIn w w.heap.size C u) :
    Calls Tryz.prog 23 #[.slice A m c, .slice C n d] w fun e w' => e = .returned (.bool r) ∧ Below w.heap.size w w' := by
  have HM := Lib.hid hm
  have HN := Lib.hid hn
  have HRR := Lib.hid hr
  clear hm hn hr
  by_cases hmn : m = n
  rotate_left
  · have HK : Hid (r = false) := by show _ = _; rw [← HRR.out]; exact decide_eq_false (fun e => hmn (by rw [HM.out, HN.out, e]))
    clear hS hU
    go_enter Tryz.func23, Tryz.ntmps23
    go_wp2
    go_ret
    exact ⟨ret_bool HK.out.symm, Below.refl _ _⟩
  subst hmn
  have HS := Lib.hid hS
  have HU := Lib.hid hU
  clear hS hU
  go_enter Tryz.func23, Tryz.ntmps23
  go_wp2
  go_loopw [5] (fun i wr => ∃ j : Nat, j ≤ m ∧ i = .int .i64 j ∧ Hid (upto s u j) ∧ Below w.heap.size w wr) (fun i _ => m - (intOf i).toNat)
  case atStart => exact ⟨0, Nat.zero_le _, rfl, fun i hi => absurd hi (by omega), Below.refl _ _⟩
  case round =>
    obtain ⟨j, hj, rfl, hno, hbj⟩ := hrel
    obtain ⟨wi, rfl⟩ : ∃ wi : World, wi = wr := ⟨_, rfl⟩
    by_cases hlj : j < m
    · have hjs : j < s.length := by rw [← HM.out]; exact hlj
      have hju : j < u.length := by rw [← HN.out]; exact hlj
      obtain ⟨sb, so, rfl, hsb, x0, x1, x2, x3⟩ := set_at HS.out hbj hjs
      obtain ⟨ub, uo, rfl, hub, y0, y1, y2, y3⟩ := set_at HU.out hbj hju
      obtain ⟨t, ht⟩ : ∃ t, t = s.getD j ⟨0, 0, 0, 0⟩ := ⟨_, rfl⟩
      obtain ⟨v, hv⟩ : ∃ v, v = u.getD j ⟨0, 0, 0, 0⟩ := ⟨_, rfl⟩
      rw [← ht] at x0 x1 x2 x3
      rw [← hv] at y0 y1 y2 y3
      have d0 := ext_cell x0
      have d1 := ext_cell x1
      have d2 := ext_cell x2
      have d3 := ext_cell x3
      have g0 := ext_cell y0
      have g1 := ext_cell y1
      have g2 := ext_cell y2
      have g3 := ext_cell y3
      clear x0 x1 x2 x3 y0 y1 y2 y3
      by_cases hut : t = v
      · have heq := fun (W : World) => tile_neq t v W false (decide_eq_true hut)
        have HK : Hid (upto s u (j + 1)) := fun i hi => by
          by_cases e : i = j
          · rw [e, ← ht, ← hv]; exact hut
          · exact hno.out i (by omega)
        clear ht hv hut hno hjs hju
        go_wp2
        refine wp_region_ext (by kernel_rfl) (by kernel_rfl) ?_
        repeat (go_big_quiet_step (fail))
        refine wpQuiet_nil ?_
        intro _ hw'
        obtain ⟨xq, rfl⟩ := hw'
        obtain ⟨W4, hbW4, heW4⟩ : ∃ W4, Below wi.heap.size wi W4 ∧ ext wi xq = W4 := ⟨_, ext_below _, rfl⟩
        rw [heW4]
        clear heW4 xq heq d0 d1 d2 d3 g0 g1 g2 g3
        have hb4 : Below w.heap.size w W4 := hbj.trans (hbW4.mono hbj.size)
        go_wp2
        go_roundw
        case rel => exact ⟨j + 1, by omega, by go_num, HK, hb4⟩
        case measure => simp [intOf]; omega
      · have heq := fun (W : World) => tile_neq t v W true (decide_eq_false hut)
        have HK : Hid (r = false) := by show _ = _; rw [← HRR.out]; exact decide_eq_false (fun e => hut (by rw [ht, hv, e]))
        clear ht hv hut hno hjs hju
        go_wp2
        refine wp_region_ext (by kernel_rfl) (by kernel_rfl) ?_
        repeat (go_big_quiet_step (fail))
        refine wpQuiet_nil ?_
        intro _ hw'
        obtain ⟨xq, rfl⟩ := hw'
        obtain ⟨W4, hbW4, heW4⟩ : ∃ W4, Below wi.heap.size wi W4 ∧ ext wi xq = W4 := ⟨_, ext_below _, rfl⟩
        rw [heW4]
        clear heW4 xq heq d0 d1 d2 d3 g0 g1 g2 g3
        have hb4 : Below w.heap.size w W4 := hbj.trans (hbW4.mono hbj.size)
        go_wp2
        go_ret
        exact ⟨ret_bool HK.out.symm, hb4⟩
    · have HK : Hid (r = true) := by
        show _ = _
        rw [← HRR.out]
        refine decide_eq_true (upto_eq (by rw [← HM.out, ← HN.out]) ?_)
        have h := hno.out
        rw [show j = s.length from by rw [← HM.out]; omega] at h
        exact h
      clear hno
      go_wp2
      go_ret
      exact ⟨ret_bool HK.out.symm, hbj⟩

end Go.Proofs.YtmmpdniafmhjpaaGreatDoor

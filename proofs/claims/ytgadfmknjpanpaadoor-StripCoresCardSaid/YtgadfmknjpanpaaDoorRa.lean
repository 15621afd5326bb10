/-
  groutworkref01: colour, Index, Cell, Valid.
-/
import Derived.Test.YtgadfmknjpanpaaDoorGI
import Derived.Test.YtgadfmknjpanpaaDoorTw
namespace Go.Proofs.YtgadfmknjpanpaaDoor
open Go.RowKit Go.Maps Go.BigFrame
set_option linter.unusedVariables false
set_option maxRecDepth 100000

theorem rcolour_any (x : Int) (r : Bool) (h : okc x = r) (w : World) : Calls Tryd.prog 24 #[.int .i64 x] w fun e w' => e = .returned (.bool r) ∧ Below w.heap.size w w' := by
  unfold okc at h
  by_cases h0 : 0 ≤ x
  · by_cases h1 : x < 1000
    · have hr : r = true := by rw [← h]; exact decide_eq_true ⟨h0, h1⟩
      subst hr
      clear h
      go_enter Tryd.func24, Tryd.ntmps24
      go_wp2
      go_ret
      exact ⟨rfl, Below.refl _ _⟩
    · have hr : r = false := by rw [← h]; exact decide_eq_false (by omega)
      subst hr
      clear h
      go_enter Tryd.func24, Tryd.ntmps24
      go_wp2
      go_ret
      exact ⟨rfl, Below.refl _ _⟩
  · have hr : r = false := by rw [← h]; exact decide_eq_false (by omega)
    subst hr
    clear h
    go_enter Tryd.func24, Tryd.ntmps24
    go_wp2
    go_ret
    exact ⟨rfl, Below.refl _ _⟩

/-- the index of a tile: -1 where it is not there -/
def ixOf (s : List Tl) (t : Tl) : Int := if t ∈ s then s.idxOf t else -1
theorem ixOf_at {s : List Tl} {t : Tl} {k : Nat} (hk : k < s.length) (h : noneIs s t k) (e : s.getD k ⟨0, 0, 0, 0⟩ = t) : ixOf s t = k := by
  have hm : t ∈ s := e ▸ getD_mem s k hk _
  unfold ixOf
  rw [if_pos hm]
  have h1 : s.idxOf t ≤ k := by
    refine Nat.le_of_not_lt fun hlt => ?_
    have := List.not_of_lt_findIdx (p := (· == t)) (xs := s) (i := k) hlt
    rw [List.getD_eq_getElem?_getD, List.getElem?_eq_getElem hk] at e
    simp at e this
    exact this e
  have h2 : ¬ s.idxOf t < k := fun hlt => by
    have hl := List.idxOf_lt_length_iff.2 hm
    have := h (s.idxOf t) hlt hl
    rw [List.getD_eq_getElem?_getD, List.getElem?_eq_getElem hl] at this
    exact this (List.getElem_idxOf hl)
  omega
theorem ixOf_none {s : List Tl} {t : Tl} (h : noneIs s t s.length) : ixOf s t = -1 := by
  unfold ixOf
  rw [if_neg]
  intro hm
  obtain ⟨i, hi, e⟩ := List.mem_iff_getElem.1 hm
  refine h i hi hi ?_
  rw [List.getD_eq_getElem?_getD, List.getElem?_eq_getElem hi]
  exact e
theorem ixOf_mem (s : List Tl) (t : Tl) : decide (0 ≤ ixOf s t) = decide (t ∈ s) := by
  unfold ixOf
  by_cases h : t ∈ s
  · rw [if_pos h]; simp [h]
  · rw [if_neg h]; simp [h]

set_option maxHeartbeats 2000000 in
theorem rindex_any (s : List Tl) (t : Tl) (S : Option Addr) (m d : Nat) (w : World) (hm : m = s.length) (hml : m ≤ 9223372036854775807) (hS : SetIn w w.heap.size S s) :
    Calls Tryd.prog 23 #[.slice S m d, .agg #[.int .i64 t.n, .int .i64 t.e, .int .i64 t.s, .int .i64 t.w]] w fun e w' => e = .returned (.int .i64 (ixOf s t)) ∧ Below w.heap.size w w' := by
  have HM := Lib.hid hm
  clear hm
  go_enter Tryd.func23, Tryd.ntmps23
  go_wp2
  obtain ⟨W2, hW2⟩ : ∃ W2, W2 = w.alloc (.cells #[.int .i64 t.n, .int .i64 t.e, .int .i64 t.s, .int .i64 t.w] 53) := ⟨_, rfl⟩
  have hz2 : W2.heap.size = w.heap.size + 1 := by rw [hW2]; simp
  have t0 : W2.cell? ⟨w.heap.size, 0, none⟩ = some (.int .i64 t.n) := by rw [hW2]; simp
  have t1 : W2.cell? ⟨w.heap.size, 1, none⟩ = some (.int .i64 t.e) := by rw [hW2]; simp
  have t2 : W2.cell? ⟨w.heap.size, 2, none⟩ = some (.int .i64 t.s) := by rw [hW2]; simp
  have t3 : W2.cell? ⟨w.heap.size, 3, none⟩ = some (.int .i64 t.w) := by rw [hW2]; simp
  have hb2 : Below w.heap.size w W2 := by rw [hW2]; exact (Below.refl _ _).alloc (Nat.le_refl _) _
  rw [← hW2]
  clear hW2
  have HS := Lib.hid hS
  have HZ2 := Lib.hid hz2
  have HT0 := Lib.hid t0
  have HT1 := Lib.hid t1
  have HT2 := Lib.hid t2
  have HT3 := Lib.hid t3
  clear hz2 t0 t1 t2 t3 hS
  go_loopw [5] (fun i wr => ∃ j : Nat, j ≤ m ∧ i = .int .i64 j ∧ Hid (noneIs s t j) ∧ Below W2.heap.size W2 wr) (fun i _ => m - (intOf i).toNat)
  case atStart => exact ⟨0, Nat.zero_le _, rfl, fun i hi => absurd hi (by omega), Below.refl _ _⟩
  case round =>
    obtain ⟨j, hj, rfl, hno, hbj⟩ := hrel
    obtain ⟨wi, rfl⟩ : ∃ wi : World, wi = wr := ⟨_, rfl⟩
    have hwi : Below w.heap.size w wi := hb2.trans (hbj.mono hb2.size)
    by_cases hlj : j < m
    · have hjs : j < s.length := by rw [← HM.out]; exact hlj
      obtain ⟨sb, so, rfl, hsb, x0, x1, x2, x3⟩ := set_at HS.out hwi hjs
      obtain ⟨u, hu⟩ : ∃ u, u = s.getD j ⟨0, 0, 0, 0⟩ := ⟨_, rfl⟩
      rw [← hu] at x0 x1 x2 x3
      have d0 := ext_cell x0
      have d1 := ext_cell x1
      have d2 := ext_cell x2
      have d3 := ext_cell x3
      have g0 := ext_cell ((hbj.cell (p := ⟨w.heap.size, 0, none⟩) (by show w.heap.size < _; rw [HZ2.out]; omega)).trans HT0.out)
      have g1 := ext_cell ((hbj.cell (p := ⟨w.heap.size, 1, none⟩) (by show w.heap.size < _; rw [HZ2.out]; omega)).trans HT1.out)
      have g2 := ext_cell ((hbj.cell (p := ⟨w.heap.size, 2, none⟩) (by show w.heap.size < _; rw [HZ2.out]; omega)).trans HT2.out)
      have g3 := ext_cell ((hbj.cell (p := ⟨w.heap.size, 3, none⟩) (by show w.heap.size < _; rw [HZ2.out]; omega)).trans HT3.out)
      clear x0 x1 x2 x3
      by_cases hut : u = t
      · have heq := fun (W : World) => tile_eql u t W true (decide_eq_true hut)
        have HK : Hid (ixOf s t = j) := ixOf_at hjs hno.out (by rw [← hu]; exact hut)
        clear hu hut hno hjs
        go_wp2
        refine wp_region_ext (by kernel_rfl) (by kernel_rfl) ?_
        repeat (go_big_quiet_step (fail))
        refine wpQuiet_nil ?_
        intro _ hw'
        obtain ⟨xq, rfl⟩ := hw'
        obtain ⟨W4, hbW4, heW4⟩ : ∃ W4, Below wi.heap.size wi W4 ∧ ext wi xq = W4 := ⟨_, ext_below _, rfl⟩
        rw [heW4]
        clear heW4 xq heq d0 d1 d2 d3 g0 g1 g2 g3
        go_wp2
        go_ret
        exact ⟨by rw [HK.out]; rfl, hwi.trans (hbW4.mono hwi.size)⟩
      · have heq := fun (W : World) => tile_eql u t W false (decide_eq_false hut)
        have HK : Hid (noneIs s t (j + 1)) := noneIs_succ hno.out (by rw [← hu]; exact hut)
        clear hu hut hno hjs
        go_wp2
        refine wp_region_ext (by kernel_rfl) (by kernel_rfl) ?_
        repeat (go_big_quiet_step (fail))
        refine wpQuiet_nil ?_
        intro _ hw'
        obtain ⟨xq, rfl⟩ := hw'
        obtain ⟨W4, hbW4, heW4⟩ : ∃ W4, Below wi.heap.size wi W4 ∧ ext wi xq = W4 := ⟨_, ext_below _, rfl⟩
        rw [heW4]
        clear heW4 xq heq d0 d1 d2 d3 g0 g1 g2 g3
        have hb4 : Below W2.heap.size W2 W4 := hbj.trans (hbW4.mono hbj.size)
        go_wp2
        go_roundw
        case rel => exact ⟨j + 1, by omega, by go_num, HK, hb4⟩
        case measure => simp [intOf]; omega
    · have HK : Hid (ixOf s t = -1) := ixOf_none (by have h := hno.out; have e : j = s.length := (by rw [← HM.out]; omega); rw [e] at h; exact h)
      clear hno
      go_wp2
      go_ret
      exact ⟨by rw [HK.out]; rfl, hwi⟩

theorem take_noneIs {s : List Tl} {t : Tl} {k : Nat} (hk : k ≤ s.length) (h : 0 ≤ ixOf (s.take k) t) : t ∈ s.take k := by
  have := ixOf_mem (s.take k) t
  rw [decide_eq_true h] at this
  exact of_decide_eq_true this.symm
theorem SetIn.take {w : World} {B : Nat} {A : Option Addr} {s : List Tl} (h : SetIn w B A s) (k : Nat) : SetIn w B A (s.take k) := fun hn => by
  obtain ⟨b, off, hA, hlt, hc⟩ := h (fun e => hn (by rw [e]; simp))
  refine ⟨b, off, hA, hlt, fun i hi => ?_⟩
  have hi' : i < s.length := by simp at hi; omega
  have hik : i < k := by simp at hi; omega
  have e : (s.take k).getD i ⟨0, 0, 0, 0⟩ = s.getD i ⟨0, 0, 0, 0⟩ := by
    rw [List.getD_eq_getElem?_getD, List.getD_eq_getElem?_getD, List.getElem?_take_of_lt hik]
  rw [e]
  exact hc i hi'
set_option maxHeartbeats 4000000 in
theorem rvalid_any (s : List Tl) (S : Option Addr) (m d : Nat) (w : World) (hm : m = s.length) (hmd : m ≤ d) (hml : d ≤ 9223372036854775807) (hS : SetIn w w.heap.size S s) :
    Calls Tryd.prog 7 #[.slice S m d] w fun e w' => e = .returned (.bool (vld s)) ∧ Below w.heap.size w w' := by
  have HM := Lib.hid hm
  by_cases c0 : m ≤ 1000
  rotate_left
  · have HK : Hid (vld s = false) := vld_long s (by omega)
    clear hm
    go_enter Tryd.func7, Tryd.ntmps7
    go_wp2
    go_ret
    exact ⟨ret_bool HK.out.symm, Below.refl _ _⟩
  have HP0 : Hid (preOk s 0) := preOk_zero s (by omega)
  have HS := Lib.hid hS
  clear hm hS
  go_enter Tryd.func7, Tryd.ntmps7
  go_wp2
  go_loopw [3] (fun i wr => ∃ k : Nat, k ≤ m ∧ i = .int .i64 k ∧ Hid (preOk s k) ∧ Below w.heap.size w wr) (fun i _ => m - (intOf i).toNat)
  case atStart => exact ⟨0, Nat.zero_le _, rfl, HP0, Below.refl _ _⟩
  case round =>
    clear HP0
    obtain ⟨k, hk, rfl, hpre, hbw⟩ := hrel
    obtain ⟨wo, rfl⟩ : ∃ wo : World, wo = wr := ⟨_, rfl⟩
    by_cases hlt : k < m
    · have hkc : k < s.length := by rw [← HM.out]; exact hlt
      obtain ⟨sb, so, rfl, hsb, d0, d1, d2, d3⟩ := set_at HS.out hbw hkc
      obtain ⟨t, ht⟩ : ∃ t, t = s.getD k ⟨0, 0, 0, 0⟩ := ⟨_, rfl⟩
      rw [← ht] at d0 d1 d2 d3
      have HT := Lib.hid ht
      have HKC := Lib.hid hkc
      clear ht hkc
      have hsz := hbw.size
      have hsw : sb < wo.heap.size := by omega
      go_wp2
      obtain ⟨W2, hW2⟩ : ∃ W2, W2 = wo.alloc (.cells #[.int .i64 t.n, .int .i64 t.e, .int .i64 t.s, .int .i64 t.w] 53) := ⟨_, rfl⟩
      have hz2 : W2.heap.size = wo.heap.size + 1 := by rw [hW2]; simp
      have t0 := ext_cell (show W2.cell? ⟨wo.heap.size, 0, none⟩ = some (.int .i64 t.n) by rw [hW2]; simp)
      have t1 := ext_cell (show W2.cell? ⟨wo.heap.size, 1, none⟩ = some (.int .i64 t.e) by rw [hW2]; simp)
      have t2 := ext_cell (show W2.cell? ⟨wo.heap.size, 2, none⟩ = some (.int .i64 t.s) by rw [hW2]; simp)
      have t3 := ext_cell (show W2.cell? ⟨wo.heap.size, 3, none⟩ = some (.int .i64 t.w) by rw [hW2]; simp)
      have hb2 : Below wo.heap.size wo W2 := by rw [hW2]; exact (Below.refl _ _).alloc (Nat.le_refl _) _
      rw [← hW2]
      clear hW2
      have hw2 : Below w.heap.size w W2 := hbw.trans (hb2.mono hsz)
      have hSE : Hid (∀ x : Ext W2, SetIn (ext W2 x) (ext W2 x).heap.size (some ⟨sb, so, none⟩) (s.take k)) := fun x => (HS.out.keep (hw2.trans ((ext_below x).mono hw2.size)) (hw2.trans ((ext_below x).mono hw2.size)).size).take k
      have hkt : Hid (k = (s.take k).length) := by show _ = _; rw [List.length_take]; have := HKC.out; omega
      have hkd : k ≤ 9223372036854775807 := by omega
      clear d0 d1 d2 d3
      cases k0 : okc t.n
      · have HK : Hid (vld s = false) := vld_bad s k HKC.out t HT.out (by unfold okt; rw [k0]; simp)
        refine wp_region_ext (by kernel_rfl) (by kernel_rfl) ?_
        repeat (go_big_quiet_step (first | (go_at_call 24; with_reducible exact ext_call (rcolour_any t.n false k0 _))))
        refine wpQuiet_nil ?_
        intro _ hw'
        obtain ⟨xq, rfl⟩ := hw'
        obtain ⟨W4, hbW4, heW4⟩ : ∃ W4, Below W2.heap.size W2 W4 ∧ ext W2 xq = W4 := ⟨_, ext_below _, rfl⟩
        rw [heW4]
        clear heW4 xq t0 t1 t2 t3
        have hb4 : Below w.heap.size w W4 := hw2.trans (hbW4.mono hw2.size)
        go_wp2
        go_ret
        exact ⟨ret_bool HK.out.symm, hb4⟩
      cases k1 : okc t.e
      · have HK : Hid (vld s = false) := vld_bad s k HKC.out t HT.out (by unfold okt; rw [k1]; simp)
        refine wp_region_ext (by kernel_rfl) (by kernel_rfl) ?_
        repeat (go_big_quiet_step (first | (go_at_call 24; with_reducible exact ext_call (rcolour_any t.n true k0 _)) | (go_at_call 24; with_reducible exact ext_call (rcolour_any t.e false k1 _))))
        refine wpQuiet_nil ?_
        intro _ hw'
        obtain ⟨xq, rfl⟩ := hw'
        obtain ⟨W4, hbW4, heW4⟩ : ∃ W4, Below W2.heap.size W2 W4 ∧ ext W2 xq = W4 := ⟨_, ext_below _, rfl⟩
        rw [heW4]
        clear heW4 xq t0 t1 t2 t3
        have hb4 : Below w.heap.size w W4 := hw2.trans (hbW4.mono hw2.size)
        go_wp2
        go_ret
        exact ⟨ret_bool HK.out.symm, hb4⟩
      cases k2 : okc t.s
      · have HK : Hid (vld s = false) := vld_bad s k HKC.out t HT.out (by unfold okt; rw [k2]; simp)
        refine wp_region_ext (by kernel_rfl) (by kernel_rfl) ?_
        repeat (go_big_quiet_step (first | (go_at_call 24; with_reducible exact ext_call (rcolour_any t.n true k0 _)) | (go_at_call 24; with_reducible exact ext_call (rcolour_any t.e true k1 _)) | (go_at_call 24; with_reducible exact ext_call (rcolour_any t.s false k2 _))))
        refine wpQuiet_nil ?_
        intro _ hw'
        obtain ⟨xq, rfl⟩ := hw'
        obtain ⟨W4, hbW4, heW4⟩ : ∃ W4, Below W2.heap.size W2 W4 ∧ ext W2 xq = W4 := ⟨_, ext_below _, rfl⟩
        rw [heW4]
        clear heW4 xq t0 t1 t2 t3
        have hb4 : Below w.heap.size w W4 := hw2.trans (hbW4.mono hw2.size)
        go_wp2
        go_ret
        exact ⟨ret_bool HK.out.symm, hb4⟩
      cases k3 : okc t.w
      · have HK : Hid (vld s = false) := vld_bad s k HKC.out t HT.out (by unfold okt; rw [k3]; simp)
        refine wp_region_ext (by kernel_rfl) (by kernel_rfl) ?_
        repeat (go_big_quiet_step (first | (go_at_call 24; with_reducible exact ext_call (rcolour_any t.n true k0 _)) | (go_at_call 24; with_reducible exact ext_call (rcolour_any t.e true k1 _)) | (go_at_call 24; with_reducible exact ext_call (rcolour_any t.s true k2 _)) | (go_at_call 24; with_reducible exact ext_call (rcolour_any t.w false k3 _))))
        refine wpQuiet_nil ?_
        intro _ hw'
        obtain ⟨xq, rfl⟩ := hw'
        obtain ⟨W4, hbW4, heW4⟩ : ∃ W4, Below W2.heap.size W2 W4 ∧ ext W2 xq = W4 := ⟨_, ext_below _, rfl⟩
        rw [heW4]
        clear heW4 xq t0 t1 t2 t3
        have hb4 : Below w.heap.size w W4 := hw2.trans (hbW4.mono hw2.size)
        go_wp2
        go_ret
        exact ⟨ret_bool HK.out.symm, hb4⟩
      have HI := Lib.hid (ixOf_mem (s.take k) t)
      by_cases hin : t ∈ s.take k
      · have hix : decide (0 ≤ ixOf (s.take k) t) = true := by rw [HI.out]; exact decide_eq_true hin
        have HQ := Lib.hid hix
        have HK : Hid (vld s = false) := vld_twice s k HKC.out t HT.out hin
        clear hin
        refine wp_region_ext (by kernel_rfl) (by kernel_rfl) ?_
        repeat (go_big_quiet_step (first | (go_at_call 24; with_reducible exact ext_call (rcolour_any t.n true k0 _)) | (go_at_call 24; with_reducible exact ext_call (rcolour_any t.e true k1 _)) | (go_at_call 24; with_reducible exact ext_call (rcolour_any t.s true k2 _)) | (go_at_call 24; with_reducible exact ext_call (rcolour_any t.w true k3 _)) | (go_at_call 23; with_reducible exact ext_call (rindex_any (s.take k) t (some ⟨sb, so, none⟩) k d _ hkt.out hkd (hSE.out _)))))
        refine wpQuiet_nil ?_
        intro _ hw'
        obtain ⟨xq, rfl⟩ := hw'
        obtain ⟨W4, hbW4, heW4⟩ : ∃ W4, Below W2.heap.size W2 W4 ∧ ext W2 xq = W4 := ⟨_, ext_below _, rfl⟩
        rw [heW4]
        clear heW4 xq t0 t1 t2 t3
        have hb4 : Below w.heap.size w W4 := hw2.trans (hbW4.mono hw2.size)
        go_wp2
        go_ret
        exact ⟨ret_bool HK.out.symm, hb4⟩
      · have hix : decide (0 ≤ ixOf (s.take k) t) = false := by rw [HI.out]; exact decide_eq_false hin
        have HQ := Lib.hid hix
        have HPK : Hid (preOk s (k + 1)) := preOk_succ s k HKC.out t HT.out hpre.out (by unfold okt; rw [k0, k1, k2, k3]; rfl) hin
        clear hin
        refine wp_region_ext (by kernel_rfl) (by kernel_rfl) ?_
        repeat (go_big_quiet_step (first | (go_at_call 24; with_reducible exact ext_call (rcolour_any t.n true k0 _)) | (go_at_call 24; with_reducible exact ext_call (rcolour_any t.e true k1 _)) | (go_at_call 24; with_reducible exact ext_call (rcolour_any t.s true k2 _)) | (go_at_call 24; with_reducible exact ext_call (rcolour_any t.w true k3 _)) | (go_at_call 23; with_reducible exact ext_call (rindex_any (s.take k) t (some ⟨sb, so, none⟩) k d _ hkt.out hkd (hSE.out _)))))
        refine wpQuiet_nil ?_
        intro _ hw'
        obtain ⟨xq, rfl⟩ := hw'
        obtain ⟨W4, hbW4, heW4⟩ : ∃ W4, Below W2.heap.size W2 W4 ∧ ext W2 xq = W4 := ⟨_, ext_below _, rfl⟩
        rw [heW4]
        clear heW4 xq t0 t1 t2 t3
        have hb4 : Below w.heap.size w W4 := hw2.trans (hbW4.mono hw2.size)
        go_wp2
        go_roundw
        case rel => exact ⟨k + 1, by omega, by go_num, HPK, hb4⟩
        case measure => simp [intOf]; omega
    · have HV : Hid (vld s = true) := vld_all s k (by rw [← HM.out]; omega) hpre.out
      clear hpre
      go_wp2
      go_ret
      exact ⟨ret_bool HV.out.symm, hbw⟩
end Go.Proofs.YtgadfmknjpanpaaDoor

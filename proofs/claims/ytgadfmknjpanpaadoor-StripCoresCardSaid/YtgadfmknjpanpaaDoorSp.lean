/-
  strip: pairs of colours as keys of a map: the number of a pair.
-/
import Derived.Test.YtgadfmknjpanpaaDoorFm
import Derived.Test.YtgadfmknjpanpaaDoorSa
import Derived.Maps.OwnSet
import Derived.Deep.Cut
import Derived.Deep.CutRange
namespace Go.Proofs.YtgadfmknjpanpaaDoor
open Go.RowKit Go.Maps Go.BigFrame Go.Sort
set_option linter.unusedVariables false
set_option linter.unusedSimpArgs false
set_option maxRecDepth 100000

/-- what is met joins a list at its end, unless it is there -/
def metP {β : Type} [DecidableEq β] (l : List β) (v : β) : List β := if v ∈ l then l else l ++ [v]
theorem len2 (l : List Int) (h : l.length = 2) : ∃ a b, l = [a, b] := by
  match l, h with
  | [a, b], _ => exact ⟨a, b, rfl⟩
theorem line_row2p : (76 : TypeId) < Tryd.prog.types.size := of_decide_eq_true (by kernel_rfl)
theorem line_cells2p : Tryd.prog.cellsOf 76 = 2 := by kernel_rfl
theorem line_deep2p : Tryd.prog.keyTypeAt (Tryd.prog.types.size + 1) 76 = true := by kernel_rfl
theorem line_wide2p : (match Tryd.prog.underlying 76 with | some (.array _ _) | some (.struct _) => true | _ => false) = true := by kernel_rfl
theorem line_law2p : Keyed Tryd.prog 76 := Keyed.of_law (deep_law_laid tile_laidOut (m := 2) (by omega) line_row2p (by kernel_rfl) line_wide2p)
def lwf2p (l : List Int) : Prop := l.length = 2 ∧ ∀ v ∈ l, (Lit.int .i64 v).wf = true
theorem keyOf_line2p (l : List Int) (h : lwf2p l) : keyOf Tryd.prog 76 (.agg (vals l).toArray) = some (lk l) := by
  obtain ⟨a, b, rfl⟩ := len2 l h.1
  have hw := h.2
  simp only [List.mem_cons, List.not_mem_nil, or_false, forall_eq_or_imp, forall_eq] at hw
  obtain ⟨h0, h1⟩ := hw
  have ht : DataW.Trod (H := Unit) (fun _ => ()) Tryd.prog (default : World) 0 (fun _ => true) true 76 (.agg (vals [a, b]).toArray)
      (.agg [.lit (.int .i64 a), .lit (.int .i64 b)]) [] :=
    ⟨2, by simp [DataW.trod, Tryd.underlying76, Tryd.underlying3, int_cells, line_cells2p, vals, Value.cells, h0, h1, List.range, List.range.loop]⟩
  exact (keyOf_asKey line_deep2p line_wide2p (by simp [Value.formed, Tryd.underlying76, line_cells2p, vals]) ht).1
theorem lk_inj2p {l m : List Int} (h : lwf2p l) (h' : lwf2p m) (e : lk l = lk m) : l = m := by
  have h1 := keyOf_line2p l h
  have h2 := keyOf_line2p m h'
  rw [e] at h1
  have := line_law2p.inj h1 h2
  simp only [vals, Value.agg.injEq] at this
  have h3 : l.map (Value.int .i64) = m.map (Value.int .i64) := by simpa using this
  exact (List.map_inj_right (fun x y hxy => by simpa using hxy)).1 h3
theorem lk_key2p {l : List Int} (h : lwf2p l) : WideAt.IsKeyLit (lk l) := line_law2p.key (keyOf_line2p l h)
/-- a map that numbers the lines of a list by their places in it -/
structure Nv2 (D : DataW Unit) (ks : List (List Int)) : Prop where
  tidy : Maps.Tidy D
  at_ : ∀ l, lwf2p l → l ∈ ks → D.atKey (lk l) (.lit (.int .i64 0)) = .lit (.int .i64 (ks.idxOf l : Nat))
  has_ : ∀ l, lwf2p l → Maps.has D (lk l) = decide (l ∈ ks)
  wfk : ∀ l ∈ ks, lwf2p l
  size : Maps.size D = ks.length
theorem Nv2.empty : Nv2 (.map []) [] where
  tidy := Maps.tidy_empty
  at_ l hl h := by cases h
  has_ l hl := by simp [Maps.has]
  wfk l h := by cases h
  size := rfl
theorem Nv2.add {D : DataW Unit} {ks : List (List Int)} (h : Nv2 D ks) {m : List Int} (hm : lwf2p m) (hn : m ∉ ks) :
    Nv2 (D.put (lk m) (.lit (.int .i64 (ks.length : Nat)))) (ks ++ [m]) where
  tidy := h.tidy.put (lk_key2p hm) _
  at_ l hl hk := by
    by_cases e : l = m
    · subst e
      rw [Maps.atKey_put_same h.tidy.isMap (lk_key2p hl), List.idxOf_append, if_neg hn, List.idxOf_cons_self]
      simp
    · have hk' : l ∈ ks := (List.mem_append.1 hk).resolve_right (by simpa using e)
      rw [Maps.atKey_put_other (fun e' => e (lk_inj2p hl hm e')), h.at_ l hl hk', List.idxOf_append, if_pos hk']
  has_ l hl := by
    by_cases e : l = m
    · subst e
      rw [Maps.has_put_same h.tidy.isMap (lk_key2p hl)]
      simp
    · rw [Maps.has_put_other (fun e' => e (lk_inj2p hl hm e')), h.has_ l hl]
      simp [e]
  wfk l hl := by
    rcases List.mem_append.1 hl with h1 | h1
    · exact h.wfk l h1
    · rw [List.mem_singleton] at h1; rw [h1]; exact hm
  size := by
    rw [Maps.size_put h.tidy, h.has_ m hm, decide_eq_false hn, h.size, List.length_append]
    rfl

/-- what number returns -/
def IsNum2 (ks : List (List Int)) (l : List Int) (b n : Nat) (W : World) (e : Ending) (w' : World) : Prop :=
  ∃ (n' : Nat) (D' : DataW Unit), e = .returned (.int .i64 ((metP ks l).idxOf l : Nat)) ∧ w'.ownsMap Tryd.prog 76 (plainElem Tryd.prog 3) b n' D' ∧ n' ≤ n + 1 ∧ Nv2 D' (metP ks l) ∧ W.grownBy w' (some b)
theorem grown_ext {w W : World} (g : Option Nat) (hb : Below w.heap.size w W) : w.grownBy W g := ⟨hb.os, hb.tape, hb.output, hb.size, fun k hk _ => hb.block k hk⟩
theorem look_ext {w : World} {b n : Nat} {D : DataW Unit} (h : w.ownsMap Tryd.prog 76 (plainElem Tryd.prog 3) b n D) {key : Value} {kl : Lit} (hk : keyOf Tryd.prog 76 key = some kl) :
    ∃ c : Int, D.atKey kl (.lit (.int .i64 0)) = .lit (.int .i64 c) ∧ ∀ x : Ext w, (Instr.lookup 68 (.map (some b)) key true).run Tryd.prog (ext w x) = .ok (.tuple #[.int .i64 c, .bool (Maps.has D kl)]) (ext w x) := by
  have one : ∀ W : World, W.ownsMap Tryd.prog 76 (plainElem Tryd.prog 3) b n D → ∃ c : Int, D.atKey kl (.lit (.int .i64 0)) = .lit (.int .i64 c) ∧ (Instr.lookup 68 (.map (some b)) key true).run Tryd.prog W = .ok (.tuple #[.int .i64 c, .bool (Maps.has D kl)]) W := fun W hW => by
    obtain ⟨v, ps, hrun, hv⟩ := hW.look_ok line_law2p Tryd.underlying68 (zero_int W) (plainElem_int (H := Unit) Tryd.underlying3 (show (Lit.int .i64 0).wf = true by decide)) hk
    obtain ⟨c, rfl, hc, -⟩ := plainElem_int_inv Tryd.underlying3 hv
    simp only [Prod.mk.injEq] at hc
    exact ⟨c, hc.1, hrun⟩
  obtain ⟨c, hc, -⟩ := one w h
  refine ⟨c, hc, fun x => ?_⟩
  obtain ⟨c', hc', hr⟩ := one (ext w x) (h.kept (grown_ext none (ext_below x)) (by simp))
  rw [hc] at hc'
  have : c = c' := by simpa using hc'
  rw [this]; exact hr
set_option maxHeartbeats 4000000 in
theorem snumber_any (Db : Nat) (z0 z1 z3 : Value) (l : List Int) (b n : Nat) (D : DataW Unit) (ks : List (List Int)) (w : World) (hbox : w.heap[Db]? = some (.cells #[z0, z1, .map (some b), z3] 71 (0, 0))) (hDb : Db ≠ b) (hown : w.ownsMap Tryd.prog 76 (plainElem Tryd.prog 3) b n D) (hN : Nv2 D ks) (hl : lwf2p l) (hn : n ≤ 1000000000) :
    Calls Tryd.prog 49 #[.pointer (some ⟨Db, 0, none⟩), .agg (vals l).toArray] w (IsNum2 ks l b n w) := by
  have hkey := keyOf_line2p l hl
  have hhas := hN.has_ l hl
  obtain ⟨a0, a1, hla⟩ := len2 l hl.1
  have hv : (vals l).toArray = #[.int .i64 a0, .int .i64 a1] := by rw [hla]; rfl
  rw [hv] at hkey ⊢
  have hkl : ks.length ≤ n := by rw [← hN.size]; exact hown.size_le
  obtain ⟨W1, hW1⟩ : ∃ W1, W1 = w.alloc (.cells #[.int .i64 a0, .int .i64 a1] 76) := ⟨_, rfl⟩
  have hg1 : w.grownBy W1 (some b) := by rw [hW1]; exact World.grownBy_alloc w _ _
  have hal : W1.ownsMap Tryd.prog 76 (plainElem Tryd.prog 3) b n D := by rw [hW1]; exact hown.kept (World.grownBy_alloc w (.cells #[.int .i64 a0, .int .i64 a1] 76) none) (by simp)
  have hb1 : W1.heap[Db]? = some (.cells #[z0, z1, .map (some b), z3] 71 (0, 0)) := by rw [hW1]; exact heap_kp hbox _
  have hk1 : W1.heap[w.heap.size]? = some (.cells #[.int .i64 a0, .int .i64 a1] 76 (0, 0)) := by rw [hW1]; exact heap_at _ _ _ rfl
  have x0 : W1.cell? ⟨Db, 2, none⟩ = some (.map (some b)) := by simp [World.cell?, hb1]
  have x1 : W1.cell? ⟨w.heap.size, 0, none⟩ = some (.int .i64 a0) := by simp [World.cell?, hk1]
  have x2 : W1.cell? ⟨w.heap.size, 1, none⟩ = some (.int .i64 a1) := by simp [World.cell?, hk1]
  have f0 := ext_cell x0
  have f1 := ext_cell x1
  have f2 := ext_cell x2
  have HX : Hid (W1.cell? ⟨Db, 2, none⟩ = some (.map (some b)) ∧ W1.cell? ⟨w.heap.size, 0, none⟩ = some (.int .i64 a0) ∧ W1.cell? ⟨w.heap.size, 1, none⟩ = some (.int .i64 a1)) := ⟨x0, x1, x2⟩
  have HA := Lib.hid hal
  have HG1 := Lib.hid hg1
  have HNv := Lib.hid hN
  have HL := Lib.hid hl
  have HK := Lib.hid hkey
  have HW1 := Lib.hid hW1
  obtain ⟨lc, hlc, hlr⟩ := look_ext hal hkey
  clear x0 x1 x2 hb1 hk1 hal hg1
  by_cases hm : l ∈ ks
  · have hat := hN.at_ l hl hm
    have hd : Maps.has D (lk l) = true := by rw [hhas]; exact decide_eq_true hm
    have hmet : Hid (metP ks l = ks) := if_pos hm
    obtain ⟨m, hmm⟩ : ∃ m : Nat, m = ks.idxOf l := ⟨_, rfl⟩
    rw [← hmm, hlc] at hat
    obtain rfl : lc = (m : Int) := by simpa using hat
    rw [hd] at hlr
    have HM := Lib.hid hmm
    clear hmm hat hd hm hhas hv hla hN hl hkey hown hW1 hbox hlc
    go_enter Tryd.func49, Tryd.ntmps49
    go_wp2_with fail
    rw [← HW1.out]
    refine wp_region_ext (by kernel_rfl) (by kernel_rfl) ?_
    repeat (go_big_quiet_step (fail))
    refine wpQuiet_nil ?_
    intro _ hw'
    obtain ⟨xq, rfl⟩ := hw'
    obtain ⟨W6, hb6, he6⟩ : ∃ W6, Below W1.heap.size W1 W6 ∧ ext W1 xq = W6 := ⟨_, ext_below _, rfl⟩
    rw [he6]
    have HA6 := Lib.hid (HA.out.kept (grown_ext none hb6) (by simp))
    have HG6 := Lib.hid (HG1.out.trans (grown_ext (some b) hb6))
    clear he6 xq f0 f1 f2
    clear hlr
    go_wp2_with fail
    go_ret
    refine ⟨n, D, ?_, HA6.out, by omega, ?_, HG6.out⟩
    · rw [hmet.out, ← HM.out]
      rfl
    · rw [hmet.out]
      exact HNv.out
  · have hd : Maps.has D (lk l) = false := by rw [hhas]; exact decide_eq_false hm
    have hmet : Hid (metP ks l = ks ++ [l]) := if_neg hm
    have hidx : Hid ((ks ++ [l]).idxOf l = ks.length) := by
      show _ = _
      rw [List.idxOf_append, if_neg hm, List.idxOf_cons_self]
      simp
    have hsz := hN.size
    have hadd := hN.add hl hm
    obtain ⟨m, hmm⟩ : ∃ m : Nat, m = ks.length := ⟨_, rfl⟩
    rw [← hmm] at hsz hadd hkl
    have HADD := Lib.hid hadd
    have HM := Lib.hid hmm
    rw [hd] at hlr
    have HSZ := Lib.hid hsz
    have hDb1 : Db < w.heap.size := (Array.getElem?_eq_some_iff.1 hbox).1
    have hws : w.heap.size < W1.heap.size := by rw [hW1]; simp
    clear hmm hd hm hhas hv hla hN hl hkey hown hsz hadd hW1 hbox hlc
    go_enter Tryd.func49, Tryd.ntmps49
    go_wp2_with fail
    rw [← HW1.out]
    refine wp_region_ext (by kernel_rfl) (by kernel_rfl) ?_
    repeat (go_big_quiet_step (fail))
    refine wpQuiet_nil ?_
    intro _ hw'
    obtain ⟨xq, rfl⟩ := hw'
    obtain ⟨W6, hb6, he6⟩ : ∃ W6, Below W1.heap.size W1 W6 ∧ ext W1 xq = W6 := ⟨_, ext_below _, rfl⟩
    rw [he6]
    have HA6 := Lib.hid (HA.out.kept (grown_ext none hb6) (by simp))
    have HG6 := Lib.hid (HG1.out.trans (grown_ext (some b) hb6))
    have y0 : W6.cell? ⟨Db, 2, none⟩ = some (.map (some b)) := (hb6.cell (p := ⟨Db, 2, none⟩) (by show Db < W1.heap.size; omega)).trans HX.out.1
    have y1 : W6.cell? ⟨w.heap.size, 0, none⟩ = some (.int .i64 a0) := (hb6.cell (p := ⟨w.heap.size, 0, none⟩) hws).trans HX.out.2.1
    have y2 : W6.cell? ⟨w.heap.size, 1, none⟩ = some (.int .i64 a1) := (hb6.cell (p := ⟨w.heap.size, 1, none⟩) hws).trans HX.out.2.2
    have g0 := ext_cell y0
    have g1 := ext_cell y1
    have g2 := ext_cell y2
    clear he6 xq f0 f1 f2
    clear hlr
    go_upto_region 4 with (first
      | (at_len; refine wpList_len_own _ rfl _ 68 rfl 76 3 Tryd.underlying68 _ b n D rfl HA6.out ?_; rw [HSZ.out])
      | fail)
    refine wp_region_ext_tail 6 (by kernel_rfl) (by kernel_rfl) ?_
    simp only [List.take_succ_cons, List.take_zero, List.drop_succ_cons, List.drop_zero]
    repeat (go_big_quiet_step (fail))
    refine wpQuiet_nil ?_
    intro _ hw'
    obtain ⟨xq, rfl⟩ := hw'
    obtain ⟨W7, hb7, he7⟩ : ∃ W7, Below W6.heap.size W6 W7 ∧ ext W6 xq = W7 := ⟨_, ext_below _, rfl⟩
    rw [he7]
    have HA7 := Lib.hid (HA6.out.kept (grown_ext none hb7) (by simp))
    have HG7 := Lib.hid (HG6.out.trans (grown_ext (some b) hb7))
    clear he7 xq g0 g1 g2 y0 y1 y2
    go_wp2_with (first
      | (at_mapUpdate; refine wpList_mapUpdate_own _ rfl _ _ _ 68 rfl 76 3 line_law2p Tryd.underlying68 _ b n _ rfl HA7.out (by unfold maxLen; omega) _ _ _ rfl rfl HK.out _ [] (plainElem_int Tryd.underlying3 (WalkArith.wf_i64 (by omega))) ?_; intro w7 hown7 hgrow7)
      | fail)
    go_ret
    refine ⟨n + 1, _, ?_, hown7, Nat.le_refl _, ?_, HG7.out.trans hgrow7⟩
    · rw [hmet.out, hidx.out, ← HM.out]
      rfl
    · rw [hmet.out]
      exact HADD.out
end Go.Proofs.YtgadfmknjpanpaaDoor

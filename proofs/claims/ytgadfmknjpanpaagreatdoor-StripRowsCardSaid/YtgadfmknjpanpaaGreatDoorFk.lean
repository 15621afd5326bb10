/-
  slices.Equal of two rows of integers; fill.has.
-/
import Derived.Test.YtgadfmknjpanpaaGreatDoorFg
import Derived.Test.YtgadfmknjpanpaaGreatDoorSo
namespace Go.Proofs.YtgadfmknjpanpaaGreatDoor
open Go.RowKit Go.Maps Go.BigFrame Go.Sort
set_option linter.unusedVariables false
set_option linter.unusedSimpArgs false
set_option maxRecDepth 100000

theorem IntsIn.at {w : World} {B : Nat} {A : Option Addr} {cs : List Int} (h : IntsIn w B A cs) {w' : World} (hb : Below B w w') {k : Nat} (hk : k < cs.length) : ∃ bk off, A = some ⟨bk, off, none⟩ ∧ bk < B ∧ w'.cell? ⟨bk, off + k, none⟩ = some (.int .i64 (cs.getD k 0)) := by
  obtain ⟨bk, off, hA, hlt, hc⟩ := h (ne_nil_of_lt hk)
  exact ⟨bk, off, hA, hlt, (hb.cell (p := ⟨bk, _, none⟩) hlt).trans (hc k hk)⟩
theorem take_eq_succ {a b : List Int} {k : Nat} (ha : k < a.length) (hb : k < b.length) (h : a.take k = b.take k) (e : a.getD k 0 = b.getD k 0) : a.take (k + 1) = b.take (k + 1) := by
  rw [List.take_succ_eq_append_getElem ha, List.take_succ_eq_append_getElem hb, h]
  rw [getD_of_lt a k 0 ha, getD_of_lt b k 0 hb] at e
  rw [e]
set_option maxHeartbeats 2000000 in
theorem equal_ints (a b : List Int) (A B : Option Addr) (n c d : Nat) (r : Bool) (w : World) (ha : n = a.length) (hb : n = b.length) (hn : n ≤ 9223372036854775807) (hA : IntsIn w w.heap.size A a) (hB : IntsIn w w.heap.size B b) (hr : decide (a = b) = r) :
    Calls Tryz.prog 66 #[.slice A n c, .slice B n d] w fun e w' => e = .returned (.bool r) ∧ Below w.heap.size w w' := by
  have HA := Lib.hid ha
  have HB := Lib.hid hb
  have HR := Lib.hid hr
  clear ha hb hr
  go_enter Tryz.func66, Tryz.ntmps66
  go_wp2
  go_loopw [13] (fun i wr => ∃ k : Nat, k ≤ n ∧ i = .int .i64 k ∧ Hid (a.take k = b.take k) ∧ Below w.heap.size w wr) (fun i _ => n - (intOf i).toNat)
  case atStart => exact ⟨0, Nat.zero_le _, rfl, by simp [Hid], Below.refl _ _⟩
  case round =>
    obtain ⟨k, hk, rfl, heq, hbr⟩ := hrel
    obtain ⟨wo, rfl⟩ : ∃ wo : World, wo = wr := ⟨_, rfl⟩
    by_cases hlt : k < n
    · have hka : k < a.length := by rw [← HA.out]; exact hlt
      have hkb : k < b.length := by rw [← HB.out]; exact hlt
      obtain ⟨ab, ao, rfl, hab, ca⟩ := hA.at hbr hka
      obtain ⟨bb, bo, rfl, hbb, cb⟩ := hB.at hbr hkb
      have HSA := Lib.hid hA
      have HSB := Lib.hid hB
      obtain ⟨x, hx⟩ : ∃ x, x = a.getD k 0 := ⟨_, rfl⟩
      obtain ⟨y, hy⟩ : ∃ y, y = b.getD k 0 := ⟨_, rfl⟩
      rw [← hx] at ca
      rw [← hy] at cb
      have hk0 : (0 : Int) ≤ (k : Int) := by omega
      have hkn : (k : Int) < (n : Int) := by omega
      by_cases e : x = y
      · have HK : Hid (a.take (k + 1) = b.take (k + 1)) := take_eq_succ hka hkb heq.out (by rw [← hx, ← hy, e])
        have hd : (x != y) = false := by rw [bne_eq_false_iff_eq]; exact e
        clear hx hy e hka hkb hA hB heq
        go_wp2_with fail
        go_region
        go_wp2_with fail
        go_roundw
        case rel => exact ⟨k + 1, by omega, by go_num, HK, hbr.drew⟩
        case measure => simp [intOf]; omega
      · have hr2 : r = false := by
          rw [← HR.out]
          refine decide_eq_false fun h => e ?_
          rw [hx, hy, h]
        have hd : (x != y) = true := by rw [bne_iff_ne]; exact e
        subst hr2
        clear hx hy e hka hkb hA hB heq
        go_wp2_with fail
        go_region
        go_wp2_with fail
        go_ret
        exact ⟨rfl, hbr.drew⟩
    · have hr2 : r = true := by
        rw [← HR.out]
        refine decide_eq_true ?_
        have := heq.out
        rwa [List.take_of_length_le (by rw [← HA.out]; omega), List.take_of_length_le (by rw [← HB.out]; omega)] at this
      subst hr2
      clear heq
      go_wp2_with fail
      go_ret
      exact ⟨rfl, hbr⟩
/-- a row of integers that lies in a block known whole -/
theorem ints_block {w : World} {b : Nat} {l : List Int} {t : TypeId} {m : Nat} (h : w.heap[b]? = some (.cells (vals l).toArray t (0, 0))) (hm : m ≤ l.length) : IntsIn w (b + 1) (some ⟨b, 0, none⟩) (l.take m) := fun hn => by
  refine ⟨b, 0, rfl, by omega, fun i hi => ?_⟩
  have hi' : i < l.length := by rw [List.length_take] at hi; omega
  rw [Nat.zero_add, cell_of_row _ _ _ _ _ _ h, getD_of_lt _ i 0 hi, List.getElem_take]
  simp [vals, List.getElem?_eq_getElem hi']
theorem pad8_take (l : List Int) (n : Nat) (h : l.length = n) : (pad8 l).take n = l := by
  unfold pad8
  exact List.take_left' h
/-- the line of a row has an edge's colours -/
theorem has_any (line ed : List Int) (E : Option Addr) (n c : Nat) (r : Bool) (w : World) (hn : n = ed.length) (hl : ed = [] ∨ line.length = ed.length) (h8 : line.length ≤ 8) (hE : IntsIn w w.heap.size E ed) (hr : hasE ed line = r) :
    Calls Tryz.prog 58 #[.agg (vals (pad8 line)).toArray, .slice E n c] w fun e w' => e = .returned (.bool r) ∧ Below w.heap.size w w' := by
  have hb1 : Below w.heap.size w (w.alloc (.cells (vals (pad8 line)).toArray 65)) := (Below.refl _ _).alloc (Nat.le_refl _) _
  by_cases h0 : ed = []
  · have hr2 : r = true := by rw [← hr]; unfold hasE; simp [h0]
    subst hr2
    have hn0 : n = 0 := by rw [hn, h0]; rfl
    subst hn0
    clear hn hr
    go_enter Tryz.func58, Tryz.ntmps58
    go_wp2_with fail
    go_ret
    exact ⟨rfl, hb1⟩
  · have hll := hl.resolve_left h0
    have hn1 : 0 < n := by rw [hn]; exact List.length_pos_iff.2 h0
    have hn8 : n ≤ 8 := by omega
    have hr2 : decide (line = ed) = r := by rw [← hr]; unfold hasE; simp [h0]
    have hq := ints_block (m := n) (heap_alloc_new w (.cells (vals (pad8 line)).toArray 65)) (by rw [pad8_len line h8]; exact hn8)
    rw [pad8_take line n (by omega)] at hq
    have hc := equal_ints line ed (some ⟨w.heap.size, 0, none⟩) E n 8 c r (w.alloc (.cells (vals (pad8 line)).toArray 65)) (by omega) hn (by omega) (by have := hq; simpa using this) (hE.keep hb1 hb1.size) hr2
    have hd0 : ((n : Int) == 0) = false := by rw [beq_eq_false_iff_ne]; omega
    have i0 : (0 : Int) ≤ (n : Int) := by omega
    have i1 : (n : Int) ≤ 8 := by omega
    have HC := Lib.hid hc
    clear hc hq hn hr hr2 hll hl hE h0
    go_enter Tryz.func58, Tryz.ntmps58
    go_wp2_with fail
    refine HC.out.mono ?_
    rintro e w1 ⟨rfl, hb⟩
    go_wp2_with fail
    go_ret
    exact ⟨rfl, hb1.trans (hb.mono hb1.size)⟩
end Go.Proofs.YtgadfmknjpanpaaGreatDoor

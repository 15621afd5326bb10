/-
  The small functions of package groutworktop: sameInts, chess, cycle.
-/
import Derived.Test.YtnmigjohomdbnaaK
namespace Go.Proofs.Ytnmigjohomdbnaa
open Go.RowKit Go.Maps Go.BigFrame
set_option linter.unusedVariables false

def cyc (i : Int) : Int := (i.tmod 40 + 40) % 40
theorem cyc_lo (i : Int) : 0 ≤ cyc i ∧ cyc i ≤ 39 := by unfold cyc; omega
def chessL : List Tl := [⟨0, 1, 1, 0⟩, ⟨1, 0, 0, 1⟩]
theorem chess_any (w : World) :
    Calls Try.prog 10 #[] w fun e w' => ∃ S, e = .returned (.slice S 2 2) ∧ SetIn w' w'.heap.size S chessL ∧ Below w.heap.size w w' := by
  go_enter Try.func10, Try.ntmps10
  go_wp2
  go_ret
  refine ⟨_, rfl, fun _ => ⟨w.heap.size, 0, rfl, by simp, fun i hi => ?_⟩, (Below.refl _ _).alloc (Nat.le_refl _) _⟩
  have : i = 0 ∨ i = 1 := by simp [chessL] at hi; omega
  rcases this with rfl | rfl <;> simp [chessL]
theorem chess_wf : ∀ t ∈ chessL, twf t := by
  intro t ht
  simp only [chessL, List.mem_cons, List.not_mem_nil, or_false] at ht
  rcases ht with rfl | rfl <;> exact ⟨rfl, rfl, rfl, rfl⟩

/-- the first k numbers are alike -/
def sameK (cs ds : List Int) (k : Nat) : Prop := ∀ i, i < k → cs.getD i 0 = ds.getD i 0
theorem sameK_succ {cs ds : List Int} {k : Nat} (h : sameK cs ds k) (he : cs.getD k 0 = ds.getD k 0) : sameK cs ds (k + 1) := fun i hi => by
  by_cases e : i = k
  · subst e; exact he
  · exact h i (by omega)
theorem sameK_all {cs ds : List Int} (hl : cs.length = ds.length) {k : Nat} (hk : cs.length ≤ k) (h : sameK cs ds k) : cs = ds := by
  refine List.ext_getElem hl (fun i h1 h2 => ?_)
  have := h i (by omega)
  rw [List.getD_eq_getElem?_getD, List.getD_eq_getElem?_getD, List.getElem?_eq_getElem h1, List.getElem?_eq_getElem h2] at this
  exact this

set_option maxHeartbeats 1000000 in
theorem sameInts_any (cs ds : List Int) (A B : Option Addr) (n m c d : Nat) (w : World) (hn : n = cs.length) (hm : m = ds.length) (hA : IntsIn w w.heap.size A cs) (hB : IntsIn w w.heap.size B ds)
    (hnl : n ≤ 9223372036854775807) (hml : m ≤ 9223372036854775807) :
    Calls Try.prog 11 #[.slice A n c, .slice B m d] w fun e w' => e = .returned (.bool (decide (cs = ds))) ∧ Below w.heap.size w w' := by
  have HN := Lib.hid hn
  have HM := Lib.hid hm
  have HA := Lib.hid hA
  have HB := Lib.hid hB
  clear hn hm hA hB
  by_cases hne : n = m
  · subst hne
    have HL : Hid (cs.length = ds.length) := by rw [Hid, ← HN.out]; exact HM.out
    have H0 : Hid (sameK cs ds 0) := fun i hi => absurd hi (by omega)
    go_enter Try.func11, Try.ntmps11
    go_wp2
    go_loopw [5] (fun i wr => ∃ k : Nat, k ≤ n ∧ i = .int .i64 k ∧ Hid (sameK cs ds k) ∧ Below w.heap.size w wr) (fun i _ => n - (intOf i).toNat)
    case atStart => exact ⟨0, Nat.zero_le _, rfl, H0, Below.refl _ _⟩
    case round =>
      clear H0
      obtain ⟨k, hk, rfl, hs, hb⟩ := hrel
      by_cases hlt : k < n
      · have k1 : k < cs.length := by rw [← HN.out]; exact hlt
        have k2 : k < ds.length := by rw [← HM.out]; exact hlt
        obtain ⟨b1, o1, rfl, hb1, hc1⟩ := HA.out (ne_nil_of_lt k1)
        obtain ⟨b2, o2, rfl, hb2, hc2⟩ := HB.out (ne_nil_of_lt k2)
        obtain ⟨u, hu⟩ : ∃ u, u = cs.getD k 0 := ⟨_, rfl⟩
        obtain ⟨v, hv⟩ : ∃ v, v = ds.getD k 0 := ⟨_, rfl⟩
        have x1 := hc1 k k1
        have x2 := hc2 k k2
        rw [← hu] at x1
        rw [← hv] at x2
        have d1 := ext_cell ((hb.cell (p := ⟨b1, o1 + k, none⟩) hb1).trans x1)
        have d2 := ext_cell ((hb.cell (p := ⟨b2, o2 + k, none⟩) hb2).trans x2)
        clear x1 x2 hc1 hc2
        by_cases huv : u = v
        · have j1 : (u == v) = true := by simpa using huv
          have j2 : (u != v) = false := by simpa using huv
          have HK : Hid (sameK cs ds (k + 1)) := sameK_succ hs.out (by rw [← hu, ← hv]; exact huv)
          clear huv hu hv hs k1 k2
          go_wp2
          refine wp_region_ext (by kernel_rfl) (by kernel_rfl) ?_
          repeat (go_big_quiet_step (fail))
          refine wpQuiet_nil ?_
          intro _ hw'
          obtain ⟨xq, rfl⟩ := hw'
          obtain ⟨W4, hbW4, heW4⟩ : ∃ W4, Below wr.heap.size wr W4 ∧ ext wr xq = W4 := ⟨_, ext_below _, rfl⟩
          rw [heW4]
          clear heW4 xq d1 d2
          have hb4 : Below w.heap.size w W4 := hb.trans (hbW4.mono hb.size)
          go_wp2
          go_roundw
          case rel => exact ⟨k + 1, by omega, by go_num, HK, hb4⟩
          case measure => simp [intOf]; omega
        · have j1 : (u == v) = false := by simpa using huv
          have j2 : (u != v) = true := by simpa using huv
          have HK : Hid (decide (cs = ds) = false) := decide_eq_false (fun e => huv (by rw [hu, hv, e]))
          clear huv hu hv hs k1 k2
          go_wp2
          refine wp_region_ext (by kernel_rfl) (by kernel_rfl) ?_
          repeat (go_big_quiet_step (fail))
          refine wpQuiet_nil ?_
          intro _ hw'
          obtain ⟨xq, rfl⟩ := hw'
          obtain ⟨W4, hbW4, heW4⟩ : ∃ W4, Below wr.heap.size wr W4 ∧ ext wr xq = W4 := ⟨_, ext_below _, rfl⟩
          rw [heW4]
          clear heW4 xq d1 d2
          have hb4 : Below w.heap.size w W4 := hb.trans (hbW4.mono hb.size)
          go_wp2
          go_ret
          exact ⟨ret_bool HK.out.symm, hb4⟩
      · have HK : Hid (decide (cs = ds) = true) := decide_eq_true (sameK_all HL.out (by rw [← HN.out]; omega) hs.out)
        clear hs
        go_wp2
        go_ret
        exact ⟨ret_bool HK.out.symm, hb⟩
  · have HK : Hid (decide (cs = ds) = false) := decide_eq_false (fun e => hne (by rw [HN.out, HM.out, e]))
    have j1 : ((n : Int) == (m : Int)) = false := by simp; omega
    have j2 : ((n : Int) != (m : Int)) = true := by simp; omega
    go_enter Try.func11, Try.ntmps11
    go_wp2
    go_ret
    exact ⟨ret_bool HK.out.symm, Below.refl _ _⟩
end Go.Proofs.Ytnmigjohomdbnaa

/-
  groutworklaw05: awake, heavy.
-/
import Derived.Test.YthjponagoahdhaaGreatDoorSg
import Derived.Test.YthjponagoahdhaaGreatDoorAx
import Derived.Test.YthjponagoahdhaaGreatDoorSl
namespace Go.Proofs.YthjponagoahdhaaGreatDoor
open Go.RowKit Go.Maps
set_option linter.unusedVariables false
set_option linter.unusedSimpArgs false
set_option maxRecDepth 100000

theorem heavy5_any (s : List Tl) (S : Option Addr) (m d k : Nat) (w : World) (hm : m = s.length) (hS : SetIn w w.heap.size S s) (hml : m ≤ 1000) (hk : k ≤ 1000) :
    Calls Tryz.prog 6 #[.slice S m d, .int .i64 k] w fun e w' => e = .returned (.bool (decide (60 < m) || !lightB s k)) ∧ Below w.heap.size w w' := by
  obtain ⟨l, hl⟩ : ∃ l, l = lightB s k := ⟨_, rfl⟩
  have hc := fun (W : World) (hb : Below w.heap.size w W) => rlight_any s S m d k l W hm (hS.keep hb hb.size) hml hk hl.symm
  rw [← hl]
  have HC := Lib.hid hc
  clear hc hl hm hS
  go_enter Tryz.func6, Tryz.ntmps6
  by_cases h0 : (60 : Int) < (m : Int)
  · have hd : decide (60 < m) = true := by rw [decide_eq_true_eq]; omega
    rw [hd, Bool.true_or]
    clear hd
    go_wp2_with fail
    go_ret
    exact ⟨rfl, Below.refl _ _⟩
  · have hd : decide (60 < m) = false := by rw [decide_eq_false_iff_not]; omega
    rw [hd, Bool.false_or]
    clear hd
    go_wp2_with (go_at_call 15; refine (HC.out _ (Below.refl _ _)).mono ?_; rintro e w2 ⟨rfl, hb2⟩)
    go_ret
    exact ⟨rfl, hb2⟩

def exA : List Tl := [⟨0, 1, 0, 0⟩]
def exB : List Tl := [⟨0, 0, 1, 0⟩]
theorem lg_a : lgE exA 4 = (1, 0) := by decide +kernel
theorem lg_b : lgE exB 4 = (1, 0) := by decide +kernel
theorem ex_c : exE chessS 5 = (true, 0) := by decide +kernel
theorem lg_c : lgE chessS 5 = (0, 6) := by decide +kernel
theorem exA_wf : ∀ t ∈ exA, twf t := by
  intro t ht
  simp only [exA, List.mem_cons, List.not_mem_nil, or_false] at ht
  subst ht
  exact ⟨by decide, by decide, by decide, by decide⟩
theorem exB_wf : ∀ t ∈ exB, twf t := by
  intro t ht
  simp only [exB, List.mem_cons, List.not_mem_nil, or_false] at ht
  subst ht
  exact ⟨by decide, by decide, by decide, by decide⟩
theorem text5a : sText exA = ⟨#[48, 46, 49, 46, 48, 46, 48]⟩ := by
  simp only [exA, sText, tText, tList, glue, List.map_cons, List.map_nil, dec_one (n := 0) (by decide) (by decide), dec_one (n := 1) (by decide) (by decide)]
  decide
theorem text5b : sText exB = ⟨#[48, 46, 48, 46, 49, 46, 48]⟩ := by
  simp only [exB, sText, tText, tList, glue, List.map_cons, List.map_nil, dec_one (n := 0) (by decide) (by decide), dec_one (n := 1) (by decide) (by decide)]
  decide
theorem parse5a (w : World) (h : Env w) : Calls Tryz.prog 16 #[.string ⟨#[48, 46, 49, 46, 48, 46, 48]⟩] w fun e w' =>
    ∃ A c, e = .returned (.tuple #[.slice A 1 c, .int .i64 0]) ∧ SetNew w' w.heap.size A exA ∧ Below w.heap.size w w' := by
  refine (parse_any _ (by decide) w h).mono ?_
  rintro e w' ⟨hb, hp⟩
  rw [← text5a, parse_text (by decide)] at hp
  obtain ⟨A, c, he, hs⟩ := hp
  exact ⟨A, c, he, hs, hb⟩
theorem parse5b (w : World) (h : Env w) : Calls Tryz.prog 16 #[.string ⟨#[48, 46, 48, 46, 49, 46, 48]⟩] w fun e w' =>
    ∃ A c, e = .returned (.tuple #[.slice A 1 c, .int .i64 0]) ∧ SetNew w' w.heap.size A exB ∧ Below w.heap.size w w' := by
  refine (parse_any _ (by decide) w h).mono ?_
  rintro e w' ⟨hb, hp⟩
  rw [← text5b, parse_text (by decide)] at hp
  obtain ⟨A, c, he, hs⟩ := hp
  exact ⟨A, c, he, hs, hb⟩
theorem lq (s : List Tl) (k x y : Int) (S : Option Addr) (m c : Nat) (w : World) (hm : m = s.length) (h1000 : m ≤ 1000) (hS : SetIn w w.heap.size S s) (hwf : ∀ t ∈ s, twf t) (hr : lgE s k = (x, y)) :
    Calls Tryz.prog 17 #[.slice S m c, .int .i64 k] w fun e w' => e = .returned (.tuple #[.int .i64 x, .int .i64 y]) ∧ Below w.heap.size w w' := by
  have h := largest_any s S m c k w hm hS hwf (by omega)
  rw [hr] at h
  exact h
theorem eq5 (s : List Tl) (k : Int) (x : Bool) (y : Int) (S : Option Addr) (m c : Nat) (w : World) (hm : m = s.length) (h1000 : m ≤ 1000) (hS : SetIn w w.heap.size S s) (hwf : ∀ t ∈ s, twf t) (hr : exE s k = (x, y)) :
    Calls Tryz.prog 8 #[.slice S m c, .int .i64 k] w fun e w' => e = .returned (.tuple #[.bool x, .int .i64 y]) ∧ Below w.heap.size w w' := by
  have h := exists_any s S m c k w hm hS hwf (by omega)
  rw [hr] at h
  exact h
set_option maxHeartbeats 4000000 in
theorem awake5_any (w : World) (h : Env w) :
    Calls Tryz.prog 7 #[] w fun e w' => e = .returned (.bool true) ∧ Below w.heap.size w w' := by
  go_enter Tryz.func7, Tryz.ntmps7
  go_wp2_with fail
  refine (parse5a _ h).mono ?_
  rintro e w1 ⟨S1, c1, rfl, hS1, hb1⟩
  go_wp2_with fail
  refine (parse5b _ (h.keep hb1)).mono ?_
  rintro e w2 ⟨S2, c2, rfl, hS2, hb2⟩
  have hb02 : Below w.heap.size w w2 := hb1.trans (hb2.mono hb1.size)
  have hA2 := (hS1.keep hb2).old
  have hB2 := hS2.old
  clear hS1 hS2
  go_wp2_with fail
  refine (parse_chess _ (h.keep hb02)).mono ?_
  rintro e w3 ⟨S3, c3, rfl, hS3, hb3⟩
  have hb03 : Below w.heap.size w w3 := hb02.trans (hb3.mono hb02.size)
  have hA3 := hA2.keep hb3 hb3.size
  have hB3 := hB2.keep hb3 hb3.size
  have hC3 := hS3.old
  clear hS3 hA2 hB2
  go_wp2_with fail
  refine (lq exA 4 1 0 _ 1 _ _ rfl (by decide) hA3 exA_wf lg_a).mono ?_
  rintro e w4 ⟨rfl, hb4⟩
  have hb04 : Below w.heap.size w w4 := hb03.trans (hb4.mono hb03.size)
  have hB4 := hB3.keep hb4 hb4.size
  have hC4 := hC3.keep hb4 hb4.size
  clear hA3 hB3 hC3
  go_wp2_with fail
  refine (lq exB 4 1 0 _ 1 _ _ rfl (by decide) hB4 exB_wf lg_b).mono ?_
  rintro e w5 ⟨rfl, hb5⟩
  have hb05 : Below w.heap.size w w5 := hb04.trans (hb5.mono hb04.size)
  have hC5 := hC4.keep hb5 hb5.size
  clear hB4 hC4
  go_wp2_with fail
  refine (eq5 chessS 5 true 0 _ 2 _ _ rfl (by decide) hC5 chessS_wf ex_c).mono ?_
  rintro e w6 ⟨rfl, hb6⟩
  have hb06 : Below w.heap.size w w6 := hb05.trans (hb6.mono hb05.size)
  have hC6 := hC5.keep hb6 hb6.size
  clear hC5
  go_wp2_with fail
  refine (lq chessS 5 0 6 _ 2 _ _ rfl (by decide) hC6 chessS_wf lg_c).mono ?_
  rintro e w7 ⟨rfl, hb7⟩
  have hb07 : Below w.heap.size w w7 := hb06.trans (hb7.mono hb06.size)
  clear hC6 hb1 hb2 hb3 hb4 hb5 hb6 hb7 hb02 hb03 hb04 hb05 hb06
  go_wp2_with fail
  go_ret
  exact ⟨rfl, hb07⟩
end Go.Proofs.YthjponagoahdhaaGreatDoor

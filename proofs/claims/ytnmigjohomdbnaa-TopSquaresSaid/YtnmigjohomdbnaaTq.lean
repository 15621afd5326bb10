/-
  groutworktop.TopSquares returns true, for every set, side and pattern.
-/
import Derived.Test.YtnmigjohomdbnaaSe
import Derived.Test.YtnmigjohomdbnaaM
import Derived.Test.YtnmigjohomdbnaaIB
namespace Go.Proofs.Ytnmigjohomdbnaa
open Go.RowKit Go.Maps Go.BigFrame
set_option linter.unusedVariables false
set_option linter.unusedSimpArgs false
set_option maxRecDepth 100000

theorem ofF (a b : Int) (cs : List Int) (s : List Tl) (f : Bool) (A S : Option Addr) (m n c d : Nat) (w : World) (hm : m = s.length) (hn : n = cs.length) (hf : fits s ⟨a, b, cs⟩ = f)
    (hS : SetIn w w.heap.size S s) (hP : IntsIn w w.heap.size A cs) (hwf : ∀ t ∈ s, twf t) (hml : m ≤ 9223372036854775807) (hnl : n ≤ 9223372036854775807) :
    Calls Try.prog 6 #[.slice S m d, .agg #[.int .i64 a, .int .i64 b, .slice A n c], .bool false] w fun e w' => e = .returned (.bool f) ∧ Below w.heap.size w w' := by
  rw [← hf]
  exact of_flat_any a b cs s A S m n c d w hm hn hS hP hwf hml hnl
/-- Exists answers without an error: then the side fits, and First finds what there is -/
theorem ex_ok {s : List Tl} {n : Int} (h : (exE s n).2 = 0) : ∃ k : Nat, n = k ∧ 1 ≤ k ∧ k ≤ 8 ∧ vld s = true ∧ checkE s n n 0 0 0 0 = 0 ∧ (exE s n).1 = sqB s k := by
  have h0 : checkE s n n 0 0 0 0 = 0 := by
    unfold exE at h
    by_cases hc : checkE s n n 0 0 0 0 ≠ 0
    · rw [if_pos hc] at h; exact h
    · exact Classical.not_not.1 hc
  have hs : sideE5 s n = 0 := Classical.not_not.1 fun hne => by
    have := exE_side hne
    rw [this] at h
    exact hne h
  obtain ⟨h1, h2, h3⟩ := side_ok hs
  obtain ⟨k, rfl⟩ := Int.eq_ofNat_of_zero_le (show 0 ≤ n by omega)
  refine ⟨k, rfl, by omega, by omega, h1, h0, ?_⟩
  unfold exE
  rw [if_neg (by rw [h0]; simp), Int.toNat_natCast]
/-- what First finds, where there is a square -/
theorem first_sq {s : List Tl} {k : Nat} {l : List Nat} {W : World} {e : Ending} {w' : World} (h : IsFirstRes s (k : Int) (k : Int) noE W e w') (h0 : checkE s (k : Int) (k : Int) 0 0 0 0 = 0) (hl : firstE s k k noE = some l) :
    ∃ A cc, e = .returned (.tuple #[.agg #[.int .i64 (k : Int), .int .i64 (k : Int), .slice A l.length cc], .int .i64 0]) ∧ IntsIn w' w'.heap.size A (idxI l) ∧ Below W.heap.size W w' ∧ ∀ b, A = some b → W.heap.size ≤ b.block := by
  obtain ⟨hb, h⟩ := h
  have e0 : checkE s (k : Int) (k : Int) noE.n.length noE.e.length noE.s.length noE.w.length = checkE s k k 0 0 0 0 := rfl
  rw [e0, if_neg (by rw [h0]; simp), Int.toNat_natCast, hl] at h
  obtain ⟨v, he, ho⟩ := h
  obtain ⟨A, c', rfl, -, -, -, hi, hp⟩ := own_ints ho
  exact ⟨A, c', he, hi, hb, hp⟩
set_option maxHeartbeats 4000000 in
theorem topsq_any (n a b : Int) (cs : List Int) (s : List Tl) (A S : Option Addr) (m k c d : Nat) (w : World) (hm : m = s.length) (hk : k = cs.length)
    (hS : SetIn w w.heap.size S s) (hP : IntsIn w w.heap.size A cs) (hwf : ∀ t ∈ s, twf t) (hml : m ≤ 9223372036854775807) (hkl : k ≤ 9223372036854775807) :
    Calls Try.prog 3 #[.slice S m d, .int .i64 n, .agg #[.int .i64 a, .int .i64 b, .slice A k c]] w fun e w' => e = .returned (.bool true) ∧ Below w.heap.size w w' := by
  have hb0 : Below w.heap.size w (w.alloc (.cells #[.int .i64 a, .int .i64 b, .slice A k c] 25)) := (Below.refl _ _).alloc (Nat.le_refl _) _
  by_cases c1 : m ≤ 40
  rotate_left
  · clear hm hk hS hP hwf
    go_enter Try.func3, Try.ntmps3
    go_wp2_with (go_at_call 4; refine (lives_any _).mono ?_; rintro e wn ⟨rfl, hn⟩)
    go_ret
    exact ⟨rfl, hb0.trans (hn.mono hb0.size)⟩
  by_cases c2 : k ≤ 5000
  rotate_left
  · clear hm hk hS hP hwf
    go_enter Try.func3, Try.ntmps3
    go_wp2_with (go_at_call 4; refine (lives_any _).mono ?_; rintro e wn ⟨rfl, hn⟩)
    go_ret
    exact ⟨rfl, hb0.trans (hn.mono hb0.size)⟩
  have hex := exists_any s S m d n (w.alloc (.cells #[.int .i64 a, .int .i64 b, .slice A k c] 25)) hm (hS.keep hb0 hb0.size) hwf hml
  obtain ⟨x, hx⟩ : ∃ x, x = (exE s n).1 := ⟨_, rfl⟩
  obtain ⟨y, hy⟩ : ∃ y, y = (exE s n).2 := ⟨_, rfl⟩
  rw [← hx, ← hy] at hex
  have HEX := Lib.hid hex
  clear hex
  by_cases h0 : y = 0
  rotate_left
  · have hd0 : (y != 0) = true := by rw [bne_iff_ne]; exact h0
    clear hm hk hS hP hwf h0 hx hy
    go_enter Try.func3, Try.ntmps3
    go_wp2_with fail
    refine HEX.out.mono ?_
    rintro e w1 ⟨rfl, hb1⟩
    go_wp2_with (go_at_call 4; refine (lives_any _).mono ?_; rintro e wn ⟨rfl, hn⟩)
    go_ret
    exact ⟨rfl, (hb0.trans (hb1.mono hb0.size)).trans (hn.mono (Nat.le_trans hb0.size hb1.size))⟩
  subst h0
  obtain ⟨q, rfl, hq1, hq8, hv, hc0, hxq⟩ := ex_ok hy.symm
  rw [hxq] at hx
  clear hy hxq
  cases x
  · -- there is no square: no pattern is as wide and as high
    have hno : (q : Int) ≤ a → (q : Int) ≤ b → fits s ⟨a, b, cs⟩ = false := fun h1 h2 => by
      cases hf : fits s ⟨a, b, cs⟩
      · rfl
      · have := sqB_fits (p := ⟨a, b, cs⟩) hq1 h1 h2 hf
        rw [this] at hx
        cases hx
    have HOF : Hid (∀ W, Below w.heap.size w W → fits s ⟨a, b, cs⟩ = false → Calls Try.prog 6 #[.slice S m d, .agg #[.int .i64 a, .int .i64 b, .slice A k c], .bool false] W fun e w' => e = .returned (.bool false) ∧ Below W.heap.size W w') := fun W hb hf => ofF a b cs s false A S m k c d W hm hk hf (hS.keep hb hb.size) (hP.keep hb hb.size) hwf hml hkl
    clear hx hm hk hS hP hwf hc0 hv
    by_cases d1 : a < (q : Int)
    · clear hno HOF
      go_enter Try.func3, Try.ntmps3
      go_wp2_with fail
      refine HEX.out.mono ?_
      rintro e w1 ⟨rfl, hb1⟩
      have q0 := (hb1.cell (p := ⟨w.heap.size, 0, none⟩) (by simp)).trans (show _ = some (.int .i64 a) by simp)
      have q1 := (hb1.cell (p := ⟨w.heap.size, 1, none⟩) (by simp)).trans (show _ = some (.int .i64 b) by simp)
      have q2 := (hb1.cell (p := ⟨w.heap.size, 2, none⟩) (by simp)).trans (show _ = some (.slice A k c) by simp)
      have hl1 : w.heap.size < w1.heap.size := Nat.lt_of_lt_of_le (by simp) hb1.size
      go_wp2_with (go_at_call 4; refine (lives_any _).mono ?_; rintro e wn ⟨rfl, hn⟩)
      go_ret
      exact ⟨rfl, (hb0.trans (hb1.mono hb0.size)).trans (hn.mono (Nat.le_trans hb0.size hb1.size))⟩
    by_cases d2 : b < (q : Int)
    · clear hno HOF
      go_enter Try.func3, Try.ntmps3
      go_wp2_with fail
      refine HEX.out.mono ?_
      rintro e w1 ⟨rfl, hb1⟩
      have q0 := (hb1.cell (p := ⟨w.heap.size, 0, none⟩) (by simp)).trans (show _ = some (.int .i64 a) by simp)
      have q1 := (hb1.cell (p := ⟨w.heap.size, 1, none⟩) (by simp)).trans (show _ = some (.int .i64 b) by simp)
      have q2 := (hb1.cell (p := ⟨w.heap.size, 2, none⟩) (by simp)).trans (show _ = some (.slice A k c) by simp)
      have hl1 : w.heap.size < w1.heap.size := Nat.lt_of_lt_of_le (by simp) hb1.size
      go_wp2_with (go_at_call 4; refine (lives_any _).mono ?_; rintro e wn ⟨rfl, hn⟩)
      go_ret
      exact ⟨rfl, (hb0.trans (hb1.mono hb0.size)).trans (hn.mono (Nat.le_trans hb0.size hb1.size))⟩
    have hff := hno (by omega) (by omega)
    have HFF := Lib.hid hff
    clear hno hff
    go_enter Try.func3, Try.ntmps3
    go_wp2_with fail
    refine HEX.out.mono ?_
    rintro e w1 ⟨rfl, hb1⟩
    have hb01 := hb0.trans (hb1.mono hb0.size)
    have q0 := (hb1.cell (p := ⟨w.heap.size, 0, none⟩) (by simp)).trans (show _ = some (.int .i64 a) by simp)
    have q1 := (hb1.cell (p := ⟨w.heap.size, 1, none⟩) (by simp)).trans (show _ = some (.int .i64 b) by simp)
    have q2 := (hb1.cell (p := ⟨w.heap.size, 2, none⟩) (by simp)).trans (show _ = some (.slice A k c) by simp)
    have hl1 : w.heap.size < w1.heap.size := Nat.lt_of_lt_of_le (by simp) hb1.size
    go_wp2_with (first
      | (go_at_call 6; refine (HOF.out w1 hb01 HFF.out).mono ?_; rintro e w2 ⟨rfl, hb2⟩)
      | (go_at_call 4; refine (lives_any _).mono ?_; rintro e wn ⟨rfl, hn⟩))
    go_ret
    exact ⟨rfl, (hb01.trans (hb2.mono hb01.size)).trans (hn.mono (Nat.le_trans hb01.size hb2.size))⟩
  · -- there is one: First finds it
    obtain ⟨l, hl⟩ := Option.isSome_iff_exists.1 (show (firstE s q q noE).isSome = true from hx.symm)
    obtain ⟨hfit, hll⟩ := sq_there hv hq1 hq8 hl
    obtain ⟨ln, hln⟩ : ∃ ln, ln = l.length := ⟨_, rfl⟩
    have hE0 : ∀ (W : World), EdIn W W.heap.size none none none none noE := fun W => ⟨fun h => absurd rfl h, fun h => absurd rfl h, fun h => absurd rfl h, fun h => absurd rfl h⟩
    have HFI : Hid (∀ W, Below w.heap.size w W → Calls Try.prog 7 #[.slice S m d, .int .i64 (q : Int), .int .i64 (q : Int), .agg #[.slice none 0 0, .slice none 0 0, .slice none 0 0, .slice none 0 0]] W fun e w' => ∃ A cc, e = .returned (.tuple #[.agg #[.int .i64 (q : Int), .int .i64 (q : Int), .slice A ln cc], .int .i64 0]) ∧ IntsIn w' w'.heap.size A (idxI l) ∧ Below W.heap.size W w' ∧ ∀ b, A = some b → W.heap.size ≤ b.block) := fun W hb =>
      (first_any s noE S m d q q none none none none 0 0 0 0 W hm (hS.keep hb hb.size) hwf hml (by decide) (by decide) (by decide) (by decide) (hE0 W)).mono fun e w' h => by rw [hln]; exact first_sq h hc0 hl
    have HOF : Hid (∀ W A' c', Below w.heap.size w W → IntsIn W W.heap.size A' (idxI l) → Calls Try.prog 6 #[.slice S m d, .agg #[.int .i64 (q : Int), .int .i64 (q : Int), .slice A' ln c'], .bool false] W fun e w' => e = .returned (.bool true) ∧ Below W.heap.size W w') := fun W A' c' hb hI => ofF q q (idxI l) s true A' S m ln c' d W hm (by rw [hln]; simp [idxI]) hfit (hS.keep hb hb.size) hI hwf hml (by rw [hln, hll]; have := Nat.mul_le_mul hq8 hq8; omega)
    have HB0 := Lib.hid hb0
    clear hx hl hfit hll hln hE0 hm hk hS hP hwf hc0 hv hb0
    go_enter Try.func3, Try.ntmps3
    go_wp2_with fail
    refine HEX.out.mono ?_
    rintro e w1 ⟨rfl, hb1⟩
    have HB1 : Hid (Below w.heap.size w w1) := HB0.out.trans (hb1.mono HB0.out.size)
    have hS1 : Below w1.heap.size w1 w1 := Below.refl _ _
    clear hb1
    go_wp2_with fail
    refine (HFI.out w1 HB1.out).mono ?_
    rintro e w2 ⟨A', c', rfl, hI, hb2, hp2⟩
    obtain ⟨wc, hwc⟩ : ∃ wc, wc = w2.alloc (.cells #[.int .i64 (q : Int), .int .i64 (q : Int), .slice A' ln c'] 25) := ⟨_, rfl⟩
    have hg : wc.heap[w2.heap.size]? = some (.cells #[.int .i64 (q : Int), .int .i64 (q : Int), .slice A' ln c'] 25 (0, 0)) := by rw [hwc]; exact heap_alloc_new _ _
    have hbc : Below w1.heap.size w1 wc := by rw [hwc]; exact be_alloc hb2 _
    have hb2c : Below w2.heap.size w2 wc := by rw [hwc]; exact (Below.refl _ _).alloc (Nat.le_refl _) _
    have HI := Lib.hid (hI.keep hb2c hb2c.size)
    have hlt : w2.heap.size < wc.heap.size := by rw [hwc]; simp
    obtain ⟨y0, y1, y2, y3⟩ := zcells hg
    have hb0c : Below w.heap.size w wc := HB1.out.trans (hbc.mono HB1.out.size)
    clear hI hp2 hb2c hb2 hg
    go_upto_region 9 with fail
    rw [← hwc]
    clear hwc
    go_wp2_with (first
      | (go_at_call 6; refine (HOF.out wc A' c' hb0c HI.out).mono ?_; rintro e w3 ⟨rfl, hb3⟩)
      | (go_at_call 4; refine (lives_any _).mono ?_; rintro e wn ⟨rfl, hn⟩))
    go_ret
    exact ⟨rfl, (hb0c.trans (hb3.mono hb0c.size)).trans (hn.mono (Nat.le_trans hb0c.size hb3.size))⟩
end Go.Proofs.Ytnmigjohomdbnaa

/-
  groutworklaw02.FillStacked.
-/
import Derived.Test.YtloodijkfoinnaaDoorSu
import Derived.Deep.Cut
import Derived.Deep.CutRange
import Derived.Deep.RegionHeld3
namespace Go.Proofs.YtloodijkfoinnaaDoor
open Go.RowKit Go.Maps Go.BigFrame
set_option linter.unusedVariables false
set_option linter.unusedSimpArgs false
set_option maxRecDepth 100000

/-- the cells of edges at block q -/
def EdAt (w : World) (q : Nat) (a b c d : Value) : Prop := w.heap[q]? = some (.cells #[a, b, c, d] 25 (0, 0))
/-- Count's answer in letters -/
theorem countRes_cases {s : List Tl} {wd hg : Int} {d : Ed} {n : Nat} (h : faultE s wd hg d.n.length d.e.length d.s.length d.w.length = 0) (h2 : tooM s.length wd.toNat = false) (hn : n = countE s wd.toNat hg.toNat d) :
    ∃ v f : Int, countRes s wd hg d = .tuple #[.int .i64 v, .int .i64 f] ∧ ((n ≤ 1152921504606846976 ∧ v = (n : Int) ∧ f = 0) ∨ (1152921504606846976 < n ∧ v = 0 ∧ f = 4)) := by
  rw [countRes_ok h h2, ← hn]
  by_cases hb : 1152921504606846976 < n
  · exact ⟨0, 4, by rw [if_pos hb], Or.inr ⟨hb, rfl, rfl⟩⟩
  · exact ⟨n, 0, by rw [if_neg hb], Or.inl ⟨by omega, rfl, rfl⟩⟩
theorem ints_take {w : World} {B : Nat} {A : Option Addr} {l : List Int} (h : IntsIn w B A l) (k : Nat) : IntsIn w B A (l.take k) := fun hn => by
  obtain ⟨b, off, hA, hlt, hc⟩ := h (fun e => hn (by rw [e]; simp))
  refine ⟨b, off, hA, hlt, fun i hi => ?_⟩
  rw [List.length_take] at hi
  rw [take_getD (by omega)]
  exact hc i (by omega)
theorem ints_drop {w : World} {B b off : Nat} {l : List Int} (h : IntsIn w B (some ⟨b, off, none⟩) l) (k : Nat) : IntsIn w B (some ⟨b, off + k, none⟩) (l.drop k) := fun hn => by
  obtain ⟨b', off', hA, hlt, hc⟩ := h (fun e => hn (by rw [e]; simp))
  obtain ⟨rfl, rfl⟩ : b = b' ∧ off = off' := by simpa using hA
  refine ⟨b, off + k, rfl, hlt, fun i hi => ?_⟩
  rw [List.length_drop] at hi
  rw [drop_getD, Nat.add_assoc]
  exact hc (k + i) (by omega)
theorem ed_other {w : World} {q p : Nat} {a b c d : Value} (hne : ¬ p = q) (h : EdAt w q a b c d) {o : Nat} {v : Value} : EdAt (w.setCell ⟨p, o, none⟩ v) q a b c d := by
  unfold EdAt at h ⊢
  rw [Below.heap_setCell _ _ _ _ (fun e => hne e.symm)]
  exact h
theorem ed_set0 {w : World} {q : Nat} {a b c d : Value} (h : EdAt w q a b c d) (v : Value) : EdAt (w.setCell ⟨q, 0, none⟩ v) q v b c d := by
  unfold EdAt at h ⊢
  rw [heap_setCell_same w q 0 _ _ v h]; rfl
theorem ed_set1 {w : World} {q : Nat} {a b c d : Value} (h : EdAt w q a b c d) (v : Value) : EdAt (w.setCell ⟨q, 1, none⟩ v) q a v c d := by
  unfold EdAt at h ⊢
  rw [heap_setCell_same w q 1 _ _ v h]; rfl
theorem ed_set2 {w : World} {q : Nat} {a b c d : Value} (h : EdAt w q a b c d) (v : Value) : EdAt (w.setCell ⟨q, 2, none⟩ v) q a b v d := by
  unfold EdAt at h ⊢
  rw [heap_setCell_same w q 2 _ _ v h]; rfl
theorem ed_set3 {w : World} {q : Nat} {a b c d : Value} (h : EdAt w q a b c d) (v : Value) : EdAt (w.setCell ⟨q, 3, none⟩ v) q a b c v := by
  unfold EdAt at h ⊢
  rw [heap_setCell_same w q 3 _ _ v h]; rfl
/-- two blocks alone have changed -/
structure But2 (w wr : World) (p q : Nat) : Prop where
  os : wr.os = w.os
  tape : wr.tape = w.tape
  output : wr.output = w.output
  size : w.heap.size ≤ wr.heap.size
  block : ∀ k, k < w.heap.size → k ≠ p → k ≠ q → wr.heap[k]? = w.heap[k]?
theorem But2.refl (w : World) (p q : Nat) : But2 w w p q := ⟨rfl, rfl, rfl, Nat.le_refl _, fun _ _ _ _ => rfl⟩
theorem But2.set1 {w wr : World} {p q : Nat} (h : But2 w wr p q) (o : Nat) (v : Value) : But2 w (wr.setCell ⟨p, o, none⟩ v) p q :=
  ⟨h.os, h.tape, h.output, by simpa using h.size, fun k hk h1 h2 => by rw [Below.heap_setCell _ _ _ _ h1]; exact h.block k hk h1 h2⟩
theorem But2.set2 {w wr : World} {p q : Nat} (h : But2 w wr p q) (o : Nat) (v : Value) : But2 w (wr.setCell ⟨q, o, none⟩ v) p q :=
  ⟨h.os, h.tape, h.output, by simpa using h.size, fun k hk h1 h2 => by rw [Below.heap_setCell _ _ _ _ h2]; exact h.block k hk h1 h2⟩
theorem But2.drew {w wr : World} {p q : Nat} (h : But2 w wr p q) : But2 w wr.drew p q := ⟨h.os, h.tape, h.output, h.size, h.block⟩
theorem But2.more {w wr w2 : World} {p q : Nat} (h : But2 w wr p q) (hb : Below wr.heap.size wr w2) : But2 w w2 p q :=
  ⟨hb.os.trans h.os, hb.tape.trans h.tape, hb.output.trans h.output, Nat.le_trans h.size hb.size, fun k hk h1 h2 => (hb.block k (Nat.lt_of_lt_of_le hk h.size)).trans (h.block k hk h1 h2)⟩
theorem But2.below {w0 w wr : World} {p q : Nat} (h : But2 w wr p q) (hb : Below w0.heap.size w0 w) (hp : w0.heap.size ≤ p) (hq : w0.heap.size ≤ q) : Below w0.heap.size w0 wr :=
  hb.trans ⟨h.os, h.tape, h.output, h.size, fun k hk => h.block k (Nat.lt_of_lt_of_le hk hb.size) (by omega) (by omega)⟩
theorem row_still2 {w wr : World} {base p q : Nat} {g : Option Nat} {Z : List (Nat × Nat × List Int)} (h : LOk w base g Z) (hg : But2 w wr p q) (hp : p < base) (hq : q < base) {z : Nat × Nat × List Int} (hz : z ∈ Z) : z.1 < wr.heap.size ∧ wr.rangeAt z.1 0 (vals z.2.2) := by
  obtain ⟨h1, h2, _, h4⟩ := h z hz
  exact ⟨Nat.lt_of_lt_of_le h2 hg.size, fun j v hv => (World.cell?_of_block (hg.block z.1 h2 (by omega) (by omega))).trans (h4 j v hv)⟩
set_option maxHeartbeats 8000000 in
theorem fstacked_any (s : List Tl) (d : Ed) (S : Option Addr) (m cp : Nat) (wd hg : Int) (N E U V : Option Addr) (nc ec uc vc part : Nat) (w : World) (hEnv : Env w) (hm : m = s.length) (hmd : m ≤ cp) (hdl : cp ≤ 9223372036854775807) (hS : SetIn w w.heap.size S s) (hwf : ∀ t ∈ s, twf t) (hml : m ≤ 9223372036854775807)
    (hn : d.n.length ≤ 9223372036854775807) (he : d.e.length ≤ ec ∧ ec ≤ 9223372036854775807) (hu : d.s.length ≤ 9223372036854775807) (hv : d.w.length ≤ vc ∧ vc ≤ 9223372036854775807) (hpart : part < 256) (hE : EdIn w w.heap.size N E U V d) :
    Calls Tryd.prog 7 #[.slice S m cp, .int .i64 wd, .int .i64 hg, .agg #[.slice N d.n.length nc, .slice E d.e.length ec, .slice U d.s.length uc, .slice V d.w.length vc], .int .u8 (part : Int)] w fun e' w' => e' = .returned (.bool true) ∧ Below w.heap.size w w' := by
  obtain ⟨en, hen⟩ : ∃ en, en = d.e.length := ⟨_, rfl⟩
  obtain ⟨un, hun⟩ : ∃ un, un = d.s.length := ⟨_, rfl⟩
  obtain ⟨vn, hvn⟩ : ∃ vn, vn = d.w.length := ⟨_, rfl⟩
  obtain ⟨nn, hnn⟩ : ∃ nn, nn = d.n.length := ⟨_, rfl⟩
  obtain ⟨W1, hW1⟩ : ∃ W1, W1 = w.alloc (.cells #[.slice N nn nc, .slice E en ec, .slice U un uc, .slice V vn vc] 25) := ⟨_, rfl⟩
  have hblk1 : W1.heap[w.heap.size]? = some (.cells #[.slice N nn nc, .slice E en ec, .slice U un uc, .slice V vn vc] 25 (0, 0)) := by rw [hW1]; exact heap_alloc_new w _
  have hb1 : Below w.heap.size w W1 := by rw [hW1]; exact (Below.refl _ _).alloc (Nat.le_refl _) _
  have hz1 : w.heap.size < W1.heap.size := (Array.getElem?_eq_some_iff.1 hblk1).1
  rw [← hen, ← hun, ← hvn, ← hnn]
  have cAw : ∀ W, Below w.heap.size w W → Calls Tryd.prog 9 #[] W fun e w' => e = .returned (.bool true) ∧ Below W.heap.size W w' := fun W hb => awake2_any W (hEnv.keep hb)
  obtain ⟨sb, hsb⟩ : ∃ sb, sb = smallB s wd hg nn en un vn := ⟨_, rfl⟩
  have cSm : ∀ W, Below w.heap.size w W → Calls Tryd.prog 18 #[.slice S m cp, .int .i64 wd, .int .i64 hg, .agg #[.slice N nn nc, .slice E en ec, .slice U un uc, .slice V vn vc]] W fun e w' => e = .returned (.bool sb) ∧ Below W.heap.size W w' := fun W hb => by
    have hh := small_any s S m cp wd hg N E U V nn en un vn nc ec uc vc W hm hmd hdl (hS.keep hb hb.size) hwf hml (by omega) (by omega) (by omega) (by omega)
    rw [← hsb] at hh
    exact hh
  have HW1 := Lib.hid hW1
  have HB1 := Lib.hid hb1
  have HBK := Lib.hid hblk1
  cases sb
  · clear hm hS hwf hE hEnv hblk1 hb1 hW1 hsb hen hun hvn hnn
    go_enter Tryd.func7, Tryd.ntmps7
    go_wp2_with fail
    rw [← HW1.out]
    refine (cSm _ HB1.out).mono ?_
    rintro e2 w2 ⟨rfl, hb2⟩
    have hb02 : Below w.heap.size w w2 := HB1.out.trans (hb2.mono HB1.out.size)
    go_wp2_with fail
    refine (cAw _ hb02).mono ?_
    rintro e3 w3 ⟨rfl, hb3⟩
    go_wp2_with fail
    go_ret
    exact ⟨rfl, hb02.trans (hb3.mono hb02.size)⟩
  obtain ⟨hwide, hf, htm, hhv⟩ := smallB_iff.1 hsb.symm
  obtain ⟨hvl, hrng, hsn, hsu, hsv, hse⟩ := faultE_iff.1 hf
  obtain ⟨a, rfl⟩ := Int.eq_ofNat_of_zero_le (show 0 ≤ wd by omega)
  obtain ⟨b, rfl⟩ := Int.eq_ofNat_of_zero_le (show 0 ≤ hg by omega)
  have ha1 : 1 ≤ a := by omega
  have ha8 : a ≤ 8 := by omega
  have hb60 : b ≤ 60 := by omega
  by_cases hb2' : (b : Int) < 2
  · clear hm hS hwf hE hEnv hblk1 hb1 hW1 hsb hen hun hvn hnn hwide hf htm hhv hvl hrng hsn hsu hsv hse
    go_enter Tryd.func7, Tryd.ntmps7
    go_wp2_with fail
    rw [← HW1.out]
    refine (cSm _ HB1.out).mono ?_
    rintro e2 w2 ⟨rfl, hb2⟩
    have hb02 : Below w.heap.size w w2 := HB1.out.trans (hb2.mono HB1.out.size)
    go_wp2_with fail
    refine (cAw _ hb02).mono ?_
    rintro e3 w3 ⟨rfl, hb3⟩
    go_wp2_with fail
    go_ret
    exact ⟨rfl, hb02.trans (hb3.mono hb02.size)⟩
  have hm60 : m ≤ 60 := by
    unfold heavyB at hhv
    simp at hhv
    omega
  obtain ⟨cn, hcn⟩ : ∃ cn, cn = (colsOf s).length := ⟨_, rfl⟩
  have hcn2 : cn ≤ 120 := by have := cols_len s; omega
  have cCo : ∀ W, Below w.heap.size w W → Calls Tryd.prog 23 #[.slice S m cp] W fun e w' => ∃ V, e = .returned V ∧ w'.ownsRow W.heap.size 3 1 V cn ((colsOf s).map (Value.int .i64)) ∧ Below W.heap.size W w' := fun W hb => by
    have hh := rcolours_any s S m cp W hm (hS.keep hb hb.size) (by omega)
    rw [← hcn] at hh
    exact hh
  obtain ⟨x, hx⟩ : ∃ x, x = pw cn a := ⟨_, rfl⟩
  have cPw : ∀ W, Calls Tryd.prog 22 #[.int .i64 (cn : Int), .int .i64 (a : Int)] W fun e w' => e = .returned (.int .i64 (x : Int)) ∧ W = w' := fun W => by rw [hx]; exact rpower_any cn a W (by omega) (by omega)
  by_cases h300 : (300 : Int) < (x : Int)
  · clear hm hS hwf hE hEnv hblk1 hb1 hW1 hsb hen hun hvn hnn hwide hf htm hhv hvl hrng hcn hx hsn hsu hsv hse
    go_enter Tryd.func7, Tryd.ntmps7
    go_wp2_with fail
    rw [← HW1.out]
    refine (cSm _ HB1.out).mono ?_
    rintro e2 w2 ⟨rfl, hb2⟩
    have hb02 : Below w.heap.size w w2 := HB1.out.trans (hb2.mono HB1.out.size)
    go_wp2_with fail
    refine (cCo _ hb02).mono ?_
    rintro e3 w3 ⟨V3, rfl, hown3, hb3⟩
    obtain ⟨A3, c3, rfl, -, -, -, -, -⟩ := own_ints hown3
    have hb03 : Below w.heap.size w w3 := hb02.trans (hb3.mono hb02.size)
    clear hown3
    go_wp2_with fail
    refine (cPw _).mono ?_
    rintro e4 w4 ⟨rfl, rfl⟩
    go_wp2_with fail
    refine (cAw _ hb03).mono ?_
    rintro e5 w5 ⟨rfl, hb5⟩
    go_wp2_with fail
    go_ret
    exact ⟨rfl, hb03.trans (hb5.mono hb03.size)⟩
  have hf0 : faultE s (a : Int) (b : Int) d.n.length d.e.length d.s.length d.w.length = 0 := by rw [← hf, hen, hun, hvn, hnn]
  have cCt0 : ∀ W, Below w.heap.size w W → Calls Tryd.prog 11 #[.slice S m cp, .int .i64 (a : Int), .int .i64 (b : Int), .agg #[.slice N nn nc, .slice E en ec, .slice U un uc, .slice V vn vc]] W fun e w' => e = .returned (countRes s (a : Int) (b : Int) d) ∧ Below W.heap.size W w' := fun W hb => by
    have hh := count_any s d S m cp (a : Int) (b : Int) N E U V nc ec uc vc W hm (hS.keep hb hb.size) hwf (by omega) hn (by omega) hu (by omega) (hE.keep hb hb.size)
    rw [hen, hun, hvn, hnn]
    exact hh
  have hcr := countRes_ok hf0 htm
  simp only [Int.toNat_natCast] at hcr
  obtain ⟨n, hn'⟩ : ∃ n, n = countE s a b d := ⟨_, rfl⟩
  rw [← hn'] at hcr
  by_cases hbig : 1152921504606846976 < n
  · rw [if_pos hbig] at hcr
    have cCt : ∀ W, Below w.heap.size w W → Calls Tryd.prog 11 #[.slice S m cp, .int .i64 (a : Int), .int .i64 (b : Int), .agg #[.slice N nn nc, .slice E en ec, .slice U un uc, .slice V vn vc]] W fun e w' => e = .returned (.tuple #[.int .i64 0, .int .i64 4]) ∧ Below W.heap.size W w' := fun W hb => by rw [← hcr]; exact cCt0 W hb
    clear hm hS hwf hE hEnv hblk1 hb1 hW1 hsb hen hun hvn hnn hwide hf htm hhv hvl hrng hcn hx cCt0 hcr hf0 hn' hsn hsu hsv hse
    go_enter Tryd.func7, Tryd.ntmps7
    go_wp2_with fail
    rw [← HW1.out]
    refine (cSm _ HB1.out).mono ?_
    rintro e2 w2 ⟨rfl, hb2⟩
    have hb02 : Below w.heap.size w w2 := HB1.out.trans (hb2.mono HB1.out.size)
    go_wp2_with fail
    refine (cCo _ hb02).mono ?_
    rintro e3 w3 ⟨V3, rfl, hown3, hb3⟩
    obtain ⟨A3, c3, rfl, -, -, -, -, -⟩ := own_ints hown3
    have hb03 : Below w.heap.size w w3 := hb02.trans (hb3.mono hb02.size)
    clear hown3
    go_wp2_with fail
    refine (cPw _).mono ?_
    rintro e4 w4 ⟨rfl, rfl⟩
    have q0 := (hb3.block w.heap.size (Nat.lt_of_lt_of_le hz1 hb2.size)).trans ((hb2.block w.heap.size hz1).trans HBK.out)
    obtain ⟨y0, y1, y2, y3, -⟩ := zcells4 q0
    have HQ0 := Lib.hid q0
    have hz3 : w.heap.size < w3.heap.size := Nat.lt_of_lt_of_le hz1 (Nat.le_trans hb2.size hb3.size)
    clear q0
    go_wp2_with fail
    refine (cCt _ hb03).mono ?_
    rintro e5 w5 ⟨rfl, hb5⟩
    have hb05 : Below w.heap.size w w5 := hb03.trans (hb5.mono hb03.size)
    go_wp2_with fail
    refine (cAw _ hb05).mono ?_
    rintro e6 w6 ⟨rfl, hb6⟩
    go_wp2_with fail
    go_ret
    exact ⟨rfl, hb05.trans (hb6.mono hb05.size)⟩
  · rw [if_neg hbig] at hcr
    have cCt : ∀ W, Below w.heap.size w W → Calls Tryd.prog 11 #[.slice S m cp, .int .i64 (a : Int), .int .i64 (b : Int), .agg #[.slice N nn nc, .slice E en ec, .slice U un uc, .slice V vn vc]] W fun e w' => e = .returned (.tuple #[.int .i64 (n : Int), .int .i64 0]) ∧ Below W.heap.size W w' := fun W hb => by rw [← hcr]; exact cCt0 W hb
    obtain ⟨k, hk⟩ : ∃ k, k = 1 + part % (b - 1) := ⟨_, rfl⟩
    have hk1 : 1 ≤ k := by omega
    have hkb : k < b := by rw [hk]; have := Nat.mod_lt part (show 0 < b - 1 by omega); omega
    have hsum := countE_stacked s a b k d ha1 hk1 hkb (edOk_of hf0)
    rw [← hn'] at hsum
    obtain ⟨f, hfd⟩ : ∃ f : List Int → Nat, f = fun l => countE s a k (lowD d k l) * countE s a (b - k) (highD d k l) := ⟨_, rfl⟩
    have hsum2 : n = ((lsts (colsOf s) a).map f).sum := by rw [hsum, hfd]
    have hx300 : pw (colsOf s).length a ≤ 300 := by rw [← hcn, ← hx]; omega
    have cLs : ∀ W A c, IntsIn W W.heap.size A (colsOf s) → Calls Tryd.prog 24 #[.slice A cn c, .int .i64 (a : Int)] W (IsLists (colsOf s) a W) := fun W A c h => lists_any (colsOf s) A cn c a W hcn h (by omega) (by omega) (cols_num s a hx300)
    obtain ⟨L, hL⟩ : ∃ L, L = lsts (colsOf s) a := ⟨_, rfl⟩
    rw [← hL] at hsum2
    have hLl : ∀ l ∈ L, l.length = a := fun l h => by rw [hL] at h; exact ((mem_lsts _ _ _).1 h).1
    have hfk : ∀ k (h : k < L.length), ((L.take (k + 1)).map f).sum = ((L.take k).map f).sum + f L[k] := fun k h => sum_take f L k h
    have hfle : ∀ k, ((L.take k).map f).sum ≤ n := fun k => by rw [hsum2]; exact sum_take_le f L k
    have hL9 : L.length ≤ 1000000 := by rw [hL]; exact cols_num s a hx300 a (Nat.le_refl _)
    obtain ⟨lk, hlk⟩ : ∃ lk, lk = (d.w.take k).length := ⟨_, rfl⟩
    obtain ⟨hk', hhk⟩ : ∃ hk', hk' = (d.w.drop k).length := ⟨_, rfl⟩
    obtain ⟨el, hel⟩ : ∃ el, el = (d.e.take k).length := ⟨_, rfl⟩
    obtain ⟨eh, heh⟩ : ∃ eh, eh = (d.e.drop k).length := ⟨_, rfl⟩
    have hok := edOk_of hf0
    have cLow : ∀ W q A c B c2 l lc, Below w.heap.size w W → l ∈ L → q < W.heap.size → W.rangeAt q 0 (vals l) → IntsIn w w.heap.size A (d.w.take k) → IntsIn w w.heap.size B (d.e.take k) →
        ∃ v f' : Int, Calls Tryd.prog 11 #[.slice S m cp, .int .i64 (a : Int), .int .i64 (k : Int), .agg #[.slice (some ⟨q, 0, none⟩) a lc, .slice B el c2, .slice U un uc, .slice A lk c]] W (fun e w' => e = .returned (.tuple #[.int .i64 v, .int .i64 f']) ∧ Below W.heap.size W w') ∧
          ((countE s a k (lowD d k l) ≤ 1152921504606846976 ∧ v = (countE s a k (lowD d k l) : Nat) ∧ f' = 0) ∨ (1152921504606846976 < countE s a k (lowD d k l) ∧ v = 0 ∧ f' = 4)) := fun W q A c B c2 l lc hb hl hq hr hA hB => by
      have hlo := low_ok (k := k) hok (hLl l hl) (by omega)
      have hff : faultE s (a : Int) (k : Int) (lowD d k l).n.length (lowD d k l).e.length (lowD d k l).s.length (lowD d k l).w.length = 0 := by
        rw [faultE_iff]
        refine ⟨hvl, by omega, hlo.1.imp (fun e => by rw [e]; rfl) (fun e => by rw [e]), hlo.2.2.1.imp (fun e => by rw [e]; rfl) (fun e => by rw [e]), hlo.2.2.2.imp (fun e => by rw [e]; rfl) (fun e => by rw [e]), hlo.2.1.imp (fun e => by rw [e]; rfl) (fun e => by rw [e])⟩
      obtain ⟨v, f', e1, e2⟩ := countRes_cases (n := countE s a k (lowD d k l)) hff htm (by simp only [Int.toNat_natCast])
      refine ⟨v, f', ?_, e2⟩
      have hh := count_any s (lowD d k l) S m cp (a : Int) (k : Int) (some ⟨q, 0, none⟩) B U A lc c2 uc c W hm (hS.keep hb hb.size) hwf (by omega) (by show l.length ≤ _; rw [hLl l hl]; omega) (by show (d.e.take k).length ≤ _; rw [List.length_take]; omega) hu (by show (d.w.take k).length ≤ _; rw [List.length_take]; omega) ⟨ints_range hq hr, hB.keep hb hb.size, hE.s.keep hb hb.size, hA.keep hb hb.size⟩
      rw [e1] at hh
      rw [show (lowD d k l).n.length = a from hLl l hl] at hh
      rw [hel, hlk, hun]
      exact hh
    have cHigh : ∀ W q A c B c2 l lc, Below w.heap.size w W → l ∈ L → q < W.heap.size → W.rangeAt q 0 (vals l) → IntsIn w w.heap.size A (d.w.drop k) → IntsIn w w.heap.size B (d.e.drop k) →
        ∃ v f' : Int, Calls Tryd.prog 11 #[.slice S m cp, .int .i64 (a : Int), .int .i64 ((b : Int) - (k : Int)), .agg #[.slice N nn nc, .slice B eh c2, .slice (some ⟨q, 0, none⟩) a lc, .slice A hk' c]] W (fun e w' => e = .returned (.tuple #[.int .i64 v, .int .i64 f']) ∧ Below W.heap.size W w') ∧
          ((countE s a (b - k) (highD d k l) ≤ 1152921504606846976 ∧ v = (countE s a (b - k) (highD d k l) : Nat) ∧ f' = 0) ∨ (1152921504606846976 < countE s a (b - k) (highD d k l) ∧ v = 0 ∧ f' = 4)) := fun W q A c B c2 l lc hb hl hq hr hA hB => by
      have hhi := high_ok (k := k) hok (hLl l hl)
      have ebk : (b : Int) - (k : Int) = ((b - k : Nat) : Int) := by omega
      have hff : faultE s (a : Int) ((b - k : Nat) : Int) (highD d k l).n.length (highD d k l).e.length (highD d k l).s.length (highD d k l).w.length = 0 := by
        rw [faultE_iff]
        refine ⟨hvl, by omega, hhi.1.imp (fun e => by rw [e]; rfl) (fun e => by rw [e]), hhi.2.2.1.imp (fun e => by rw [e]; rfl) (fun e => by rw [e]), hhi.2.2.2.imp (fun e => by rw [e]; rfl) (fun e => by rw [e]), hhi.2.1.imp (fun e => by rw [e]; rfl) (fun e => by rw [e])⟩
      obtain ⟨v, f', e1, e2⟩ := countRes_cases (n := countE s a (b - k) (highD d k l)) hff htm (by simp only [Int.toNat_natCast])
      refine ⟨v, f', ?_, e2⟩
      have hh := count_any s (highD d k l) S m cp (a : Int) ((b - k : Nat) : Int) N B (some ⟨q, 0, none⟩) A nc c2 lc c W hm (hS.keep hb hb.size) hwf (by omega) hn (by show (d.e.drop k).length ≤ _; rw [List.length_drop]; omega) (by show l.length ≤ _; rw [hLl l hl]; omega) (by show (d.w.drop k).length ≤ _; rw [List.length_drop]; omega) ⟨hE.n.keep hb hb.size, hB.keep hb hb.size, ints_range hq hr, hA.keep hb hb.size⟩
      rw [e1] at hh
      rw [show (highD d k l).s.length = a from hLl l hl] at hh
      rw [heh, hhk, hnn, ebk]
      exact hh
    have hEw := hE.w
    have hEe := hE.e
    have hEv0 : vn = 0 ∨ vn = b := by omega
    have hEe0 : en = 0 ∨ en = b := by omega
    have hvnc : vn ≤ vc := by omega
    have henc : en ≤ ec := by omega
    have hvc9 : vc ≤ 9223372036854775807 := hv.2
    have hec9 : ec ≤ 9223372036854775807 := he.2
    have HL := Lib.hid hL
    have HLl := Lib.hid hLl
    have HFK := Lib.hid hfk
    have HFL := Lib.hid hfle
    have HSUM := Lib.hid hsum2
    have HFD := Lib.hid hfd
    have HK := Lib.hid hk
    have HEW := Lib.hid hEw
    have HEE := Lib.hid hEe
    have HVN := Lib.hid hvn
    have HEN := Lib.hid hen
    have HLK := Lib.hid hlk
    have HHK := Lib.hid hhk
    have HEL := Lib.hid hel
    have HEH := Lib.hid heh
    have CLOW := Lib.hid cLow
    have CHIGH := Lib.hid cHigh
    have CCO := Lib.hid cCo
    clear hm hS hwf hE hEnv hblk1 hb1 hW1 hsb hen hun hvn hnn hwide hf htm hhv hvl hrng hcn hx cCt0 hcr hf0 hn' hsum hsum2 hfd hL hLl hfk hfle hx300 hsn hsu hsv hse hk hEw hEe hlk hhk hel heh hok cLow cHigh
    go_enter Tryd.func7, Tryd.ntmps7
    go_wp2_with fail
    rw [← HW1.out]
    refine (cSm _ HB1.out).mono ?_
    rintro e2 w2 ⟨rfl, hb2⟩
    have hb02 : Below w.heap.size w w2 := HB1.out.trans (hb2.mono HB1.out.size)
    go_wp2_with fail
    refine (cCo _ hb02).mono ?_
    rintro e3 w3 ⟨V3, rfl, hown3, hb3⟩
    obtain ⟨A3, c3, rfl, -, -, -, -, -⟩ := own_ints hown3
    have hb03 : Below w.heap.size w w3 := hb02.trans (hb3.mono hb02.size)
    clear hown3
    go_wp2_with fail
    refine (cPw _).mono ?_
    rintro e4 w4 ⟨rfl, rfl⟩
    have q0 := (hb3.block w.heap.size (Nat.lt_of_lt_of_le hz1 hb2.size)).trans ((hb2.block w.heap.size hz1).trans HBK.out)
    obtain ⟨y0, y1, y2, y3, -⟩ := zcells4 q0
    have HQ0 := Lib.hid q0
    have hz3 : w.heap.size < w3.heap.size := Nat.lt_of_lt_of_le hz1 (Nat.le_trans hb2.size hb3.size)
    clear q0
    go_wp2_with fail
    refine (cCt _ hb03).mono ?_
    rintro e5 w5 ⟨rfl, hb5⟩
    have hb05 : Below w.heap.size w w5 := hb03.trans (hb5.mono hb03.size)
    go_wp2_with fail
    have hblk5 : w5.heap[w.heap.size]? = some (.cells #[.slice N nn nc, .slice E en ec, .slice U un uc, .slice V vn vc] 25 (0, 0)) := (hb5.block w.heap.size hz3).trans HQ0.out
    have hz5 : w.heap.size < w5.heap.size := Nat.lt_of_lt_of_le hz3 hb5.size
    have HB05 := Lib.hid hb05
    have HBK5 := Lib.hid hblk5
    have kc0 : ∀ w', Below w5.heap.size w5 w' → w'.cell? ⟨w.heap.size, 0, none⟩ = some (.slice N nn nc) := fun w' h => (h.cell (p := ⟨w.heap.size, 0, none⟩) hz5).trans (zcells4 HBK5.out).1
    have kc2 : ∀ w', Below w5.heap.size w5 w' → w'.cell? ⟨w.heap.size, 2, none⟩ = some (.slice U un uc) := fun w' h => (h.cell (p := ⟨w.heap.size, 2, none⟩) hz5).trans (zcells4 HBK5.out).2.2.1
    have hkw : wrap64 (1 + (part : Int) % ((b : Int) - 1)) = (k : Int) := by
      have e1 : (part : Int) % ((b : Int) - 1) = ((part % (b - 1) : Nat) : Int) := by rw [show (b : Int) - 1 = ((b - 1 : Nat) : Int) by omega]; exact (Int.natCast_emod _ _).symm
      have h2 := HK.out
      rw [e1, show (1 : Int) + ((part % (b - 1) : Nat) : Int) = (k : Int) by omega]
      exact IntWalk.wrap64_in (k : Int) (by omega)
    clear y0 y1 y2 y3 HQ0 hb2 hb3 hb5 hb02 hb03 hb05 hblk5
    go_cut [13, 14, 15] from 23 (fun t u v wx => t = .int .i64 (k : Int) ∧ ∃ q1 q2 : Nat, u = .pointer (some ⟨q1, 0, none⟩) ∧ v = .pointer (some ⟨q2, 0, none⟩) ∧ q1 ≠ q2 ∧ w5.heap.size ≤ q1 ∧ w5.heap.size ≤ q2 ∧ Hid (EdAt wx q1 (.slice none 0 0) (.slice none 0 0) (.slice U un uc) (.slice none 0 0)) ∧ Hid (EdAt wx q2 (.slice N nn nc) (.slice none 0 0) (.slice none 0 0) (.slice none 0 0)) ∧ Hid (Below w5.heap.size w5 wx))
    case first =>
      have hS0 : Below w5.heap.size w5 w5 := Below.refl _ _
      go_region_held3 (fun w' => Below w5.heap.size w5 w') (first | (with_reducible assumption) | (with_reducible exact (Below.refl _ _).drew) | (refine Below.drew ?_; refine be_alloc ?_ _; with_reducible assumption) | (refine be_alloc ?_ _; with_reducible assumption) | exact be_alloc (be_alloc (Below.refl _ _).drew _) _ | exact be_alloc (Below.refl _ _).drew _) (first | fail)
      all_goals
        go_wp2_with fail
        go_meet
        refine ⟨rfl, _, _, rfl, rfl, by omega, by omega, by omega, ?_, ?_, ?_⟩
        · first | exact heap_kp (heap_at _ _ _ rfl) _ | exact heap_at _ _ _ (by simp)
        · first | exact heap_kp (heap_at _ _ _ rfl) _ | exact heap_at _ _ _ (by simp)
        · exact (be_alloc (be_alloc (Below.refl _ _) _) _).drew
    case rest =>
      obtain ⟨rfl, q1, q2, rfl, rfl, hq12, hq1, hq2, HA1, HA2, HBC⟩ := hcut
      obtain ⟨w6, rfl⟩ : ∃ w6 : World, w6 = wc := ⟨_, rfl⟩
      have z3 : w6.cell? ⟨w.heap.size, 3, none⟩ = some (.slice V vn vc) := (HBC.out.cell (p := ⟨w.heap.size, 3, none⟩) hz5).trans (zcells4 HBK5.out).2.2.2.1
      have hn1 : ¬ w.heap.size = q1 := by omega
      have hn2 : ¬ w.heap.size = q2 := by omega
      have hn3 : ¬ q1 = w.heap.size := by omega
      have hn4 : ¬ q2 = w.heap.size := by omega
      have hn5 : ¬ q2 = q1 := by omega
      obtain ⟨a0, a1, a2, a3, af⟩ := zcells4 HA1.out
      obtain ⟨b0, b1, b2, b3, bf⟩ := zcells4 HA2.out
      have af3 := af 3
      have bf3 := bf 3
      clear kc0 kc2 hkw
      go_upto_if 72 with fail
      go_cut [] from 23 (fun wx => ∃ (AL AH : Option Addr) (cl ch : Nat), Hid (EdAt wx q1 (.slice none 0 0) (.slice none 0 0) (.slice U un uc) (.slice AL lk cl)) ∧ Hid (EdAt wx q2 (.slice N nn nc) (.slice none 0 0) (.slice none 0 0) (.slice AH hk' ch)) ∧ Hid (IntsIn w w.heap.size AL (d.w.take k)) ∧ Hid (IntsIn w w.heap.size AH (d.w.drop k)) ∧ Hid (Below w5.heap.size w5 wx))
      case first =>
        by_cases hv0 : (0 : Int) < (vn : Int)
        · have hvb : vn = b := by omega
          obtain ⟨vb, vo, rfl, hvbl, hvcell⟩ := HEW.out (fun e => by have := HVN.out; rw [e] at this; simp at this; omega)
          have hkv : k ≤ vn := by omega
          have hkc : k ≤ vc := by omega
          clear hvcell
          go_wp2_with fail
          go_region
          go_wp2_with fail
          go_meet
          have hlk1 : lk = k := by have h1 := HLK.out; have h2 := HVN.out; rw [List.length_take] at h1; omega
          have hhk1 : hk' = b - k := by have h1 := HHK.out; have h2 := HVN.out; rw [List.length_drop] at h1; omega
          rw [hlk1, hhk1]
          refine ⟨_, _, _, _, ed_other hn5 (ed_set3 HA1.out _), ed_set3 (ed_other (fun e => hn5 e.symm) HA2.out) _, ints_take HEW.out k, ?_, ?_⟩
          · exact ints_drop HEW.out k
          · exact ((HBC.out.setCell hq1 _).setCell hq2 _).drew
        · go_wp2_with fail
          go_meet
          have hv1 : vn = 0 := by omega
          have hdw : d.w = [] := List.eq_nil_of_length_eq_zero (by rw [← HVN.out]; exact hv1)
          have hlk1 : lk = 0 := by rw [HLK.out, hdw]; simp
          have hhk1 : hk' = 0 := by rw [HHK.out, hdw]; simp
          rw [hlk1, hhk1, hdw]
          exact ⟨none, none, 0, 0, HA1.out, HA2.out, fun h => absurd (by simp) h, fun h => absurd (by simp) h, HBC.out⟩
      case rest =>
        clear HA1 HA2 HBC a0 a1 a2 a3 af b0 b1 b2 b3 bf af3 bf3 z3 w6
        obtain ⟨AL, AH, cl, ch, HA1, HA2, HIL, HIH, HBC⟩ := hcut
        obtain ⟨w7, rfl⟩ : ∃ w7 : World, w7 = wc := ⟨_, rfl⟩
        have z1 : w7.cell? ⟨w.heap.size, 1, none⟩ = some (.slice E en ec) := (HBC.out.cell (p := ⟨w.heap.size, 1, none⟩) hz5).trans (zcells4 HBK5.out).2.1
        obtain ⟨a0, a1, a2, a3, af⟩ := zcells4 HA1.out
        obtain ⟨b0, b1, b2, b3, bf⟩ := zcells4 HA2.out
        have af1 := af 1
        have bf1 := bf 1
        go_upto_if 86 with fail
        go_cut [] from 23 (fun wx => ∃ (BL BH : Option Addr) (dl dh : Nat), Hid (EdAt wx q1 (.slice none 0 0) (.slice BL el dl) (.slice U un uc) (.slice AL lk cl)) ∧ Hid (EdAt wx q2 (.slice N nn nc) (.slice BH eh dh) (.slice none 0 0) (.slice AH hk' ch)) ∧ Hid (IntsIn w w.heap.size BL (d.e.take k)) ∧ Hid (IntsIn w w.heap.size BH (d.e.drop k)) ∧ Hid (Below w5.heap.size w5 wx))
        case first =>
          by_cases he0 : (0 : Int) < (en : Int)
          · have heb : en = b := by omega
            obtain ⟨eb, eo, rfl, hebl, hecell⟩ := HEE.out (fun e => by have := HEN.out; rw [e] at this; simp at this; omega)
            have hke : k ≤ en := by omega
            have hkc : k ≤ ec := by omega
            clear hecell
            go_wp2_with fail
            go_region
            go_wp2_with fail
            go_meet
            have hel1 : el = k := by have h1 := HEL.out; have h2 := HEN.out; rw [List.length_take] at h1; omega
            have heh1 : eh = b - k := by have h1 := HEH.out; have h2 := HEN.out; rw [List.length_drop] at h1; omega
            rw [hel1, heh1]
            refine ⟨_, _, _, _, ed_other hn5 (ed_set1 HA1.out _), ed_set1 (ed_other (fun e => hn5 e.symm) HA2.out) _, ints_take HEE.out k, ?_, ?_⟩
            · exact ints_drop HEE.out k
            · exact ((HBC.out.setCell hq1 _).setCell hq2 _).drew
          · go_wp2_with fail
            go_meet
            have hv1 : en = 0 := by omega
            have hdw : d.e = [] := List.eq_nil_of_length_eq_zero (by rw [← HEN.out]; exact hv1)
            have hlk1 : el = 0 := by rw [HEL.out, hdw]; simp
            have hhk1 : eh = 0 := by rw [HEH.out, hdw]; simp
            rw [hlk1, hhk1, hdw]
            exact ⟨none, none, 0, 0, HA1.out, HA2.out, fun h => absurd (by simp) h, fun h => absurd (by simp) h, HBC.out⟩
        case rest =>
          clear HA1 HA2 HBC a0 a1 a2 a3 af b0 b1 b2 b3 bf af1 bf1 z1 w7
          obtain ⟨BL, BH, dl, dh, HA1, HA2, HJL, HJH, HBC⟩ := hcut
          obtain ⟨w8, rfl⟩ : ∃ w8 : World, w8 = wc := ⟨_, rfl⟩
          have hb08 : Below w.heap.size w w8 := HB05.out.trans (HBC.out.mono HB05.out.size)
          have hq18 : q1 < w8.heap.size := (Array.getElem?_eq_some_iff.1 HA1.out).1
          have hq28 : q2 < w8.heap.size := (Array.getElem?_eq_some_iff.1 HA2.out).1
          go_wp2_with fail
          refine (CCO.out _ hb08).mono ?_
          rintro e9 w9 ⟨V9, rfl, hown9, hb9⟩
          obtain ⟨A9, c9, rfl, -, -, -, hI9, -⟩ := own_ints hown9
          have hb09 : Below w.heap.size w w9 := hb08.trans (hb9.mono hb08.size)
          have hs9 := hb9.size
          clear hown9
          go_wp2_with fail
          refine (cLs _ _ _ hI9).mono ?_
          rintro e10 w10 ⟨V10, Z, rfl, hZ, hown10, hlok10, hb10⟩
          have hb010 : Below w.heap.size w w10 := hb09.trans (hb10.mono hb09.size)
          have hs10 := hb10.size
          obtain ⟨zn, hzn⟩ : ∃ zn, zn = Z.length := ⟨_, rfl⟩
          rw [← hzn] at hown10
          obtain ⟨A10, c10, rfl, hat10⟩ := own_shape hown10
          rw [← HL.out] at hZ
          have hznL : zn = L.length := by rw [hzn, ← hZ, List.length_map]
          have hzle : zn ≤ 9223372036854775807 := by omega
          have hE1 : EdAt w10 q1 (.slice none 0 0) (.slice BL el dl) (.slice U un uc) (.slice AL lk cl) := by
            show _ = _
            rw [hb10.block q1 (by omega), hb9.block q1 hq18]
            exact HA1.out
          have hE2 : EdAt w10 q2 (.slice N nn nc) (.slice BH eh dh) (.slice none 0 0) (.slice AH hk' ch) := by
            show _ = _
            rw [hb10.block q2 (by omega), hb9.block q2 hq28]
            exact HA2.out
          have hq19 : q1 < w9.heap.size := by omega
          have hq29 : q2 < w9.heap.size := by omega
          have hwq1 : w.heap.size ≤ q1 := by omega
          have hwq2 : w.heap.size ≤ q2 := by omega
          have HE1 := Lib.hid hE1
          have HE2 := Lib.hid hE2
          have HZ := Lib.hid hZ
          have HAT := Lib.hid hat10
          have HLOK := Lib.hid hlok10
          have HB010 := Lib.hid hb010
          have HZL := Lib.hid hznL
          have HZN := Lib.hid hzn
          have HN12 : ¬ q1 = q2 := hq12
          clear HA1 HA2 hE1 hE2 hZ hat10 hlok10 hown10 hI9 hb08 hb09 hb010 hb9 hb10 hznL hzn hq18 hq28 hs9 hs10 hq1 hq2 HBC HB05 hn1 hn2 hn3 hn4 CCO cLs
          go_wp2_with fail
          go_loopw [17, 18] (fun su i wr => ∃ kk P : Nat, kk ≤ zn ∧ i = .int .i64 kk ∧ su = .int .i64 (P : Int) ∧ P ≤ 1152921504606846976 ∧ Hid (P = ((L.take kk).map f).sum) ∧ Hid (But2 w10 wr q1 q2) ∧ Hid (∃ z, EdAt wr q1 z (.slice BL el dl) (.slice U un uc) (.slice AL lk cl)) ∧ Hid (∃ z, EdAt wr q2 (.slice N nn nc) (.slice BH eh dh) z (.slice AH hk' ch))) (fun _ i _ => zn - (intOf i).toNat)
          case atStart => exact ⟨0, 0, Nat.zero_le _, rfl, rfl, by omega, by simp [Hid], But2.refl _ _ _, ⟨_, HE1.out⟩, ⟨_, HE2.out⟩⟩
          case round =>
            obtain ⟨kk, P, hkk, rfl, rfl, hPn, hP, hg, hk1', hk2'⟩ := hrel
            obtain ⟨wi, rfl⟩ : ∃ wi : World, wi = wr := ⟨_, rfl⟩
            obtain ⟨u1, hu1⟩ := hk1'.out
            obtain ⟨u2, hu2⟩ := hk2'.out
            have hbw : Below w.heap.size w wi := hg.out.below HB010.out hwq1 hwq2
            by_cases hlt : kk < zn
            · have hkL : kk < L.length := by rw [← HZL.out]; exact hlt
              have hkZ : kk < Z.length := by rw [← HZN.out]; exact hlt
              obtain ⟨g, rfl, hgb, hgl, hcell⟩ := HAT.out kk hlt
              obtain ⟨⟨lb, lc, l⟩, hzq⟩ : ∃ z, Z[kk]? = some z := ⟨_, List.getElem?_eq_getElem hkZ⟩
              have hlm : L[kk]? = some l := by rw [← HZ.out, List.getElem?_map, hzq]; rfl
              have hlL : l ∈ L := List.mem_of_getElem? hlm
              have hLk : L[kk] = l := (List.getElem?_eq_some_iff.1 hlm).2
              have hla := HLl.out l hlL
              rw [List.getElem?_map, hzq] at hcell
              have hcell2 : wi.cell? ⟨g, kk, none⟩ = some (.slice (some ⟨lb, 0, none⟩) a lc) := by
                rw [World.cell?_of_block (a := ⟨g, kk, none⟩) (hg.out.block g hgl (by omega) (by omega)), hcell, ← hla]
                rfl
              obtain ⟨X, hX⟩ : ∃ X, X = countE s a k (lowD d k l) := ⟨_, rfl⟩
              obtain ⟨Y, hY⟩ : ∃ Y, Y = countE s a (b - k) (highD d k l) := ⟨_, rfl⟩
              obtain ⟨G, hG⟩ : ∃ G, G = X * Y := ⟨_, rfl⟩
              have hfl : f l = G := by rw [hG, hX, hY, HFD.out]
              have hstep := HFK.out kk hkL
              rw [hLk, hfl, ← hP.out] at hstep
              have hle := HFL.out (kk + 1)
              rw [hstep] at hle
              obtain ⟨W', hW'⟩ : ∃ W', W' = ((wi.setCell ⟨q1, 0, none⟩ (.slice (some ⟨lb, 0, none⟩) a lc)).setCell ⟨q2, 2, none⟩ (.slice (some ⟨lb, 0, none⟩) a lc)).drew := ⟨_, rfl⟩
              have hd1 : EdAt W' q1 (.slice (some ⟨lb, 0, none⟩) a lc) (.slice BL el dl) (.slice U un uc) (.slice AL lk cl) := by rw [hW']; exact ed_other hn5 (ed_set0 hu1 _)
              have hd2 : EdAt W' q2 (.slice N nn nc) (.slice BH eh dh) (.slice (some ⟨lb, 0, none⟩) a lc) (.slice AH hk' ch) := by rw [hW']; exact ed_set2 (ed_other HN12 hu2) _
              have hg' : But2 w10 W' q1 q2 := by rw [hW']; exact ((hg.out.set1 _ _).set2 _ _).drew
              have hbw' : Below w.heap.size w W' := hg'.below HB010.out hwq1 hwq2
              obtain ⟨s1, s2⟩ := row_still2 HLOK.out hg' hq19 hq29 (List.mem_of_getElem? hzq)
              obtain ⟨v1, f1, cK1, hc1⟩ := CLOW.out W' lb AL cl BL dl l lc hbw' hlL s1 s2 HIL.out HJL.out
              rw [← hX] at hc1
              obtain ⟨a0, -, -, -, af⟩ := zcells4 hu1
              obtain ⟨-, -, b2, -, bf⟩ := zcells4 hu2
              obtain ⟨x0, x1, x2, x3, -⟩ := zcells4 hd1
              have af0 := af 0
              have bf2 := bf 2
              have hst : Hid (P + G = ((L.take (kk + 1)).map f).sum) := hstep.symm
              have hk0 : (0 : Int) ≤ (kk : Int) := by omega
              have hkz : (kk : Int) < (zn : Int) := by omega
              have hPG : P + G ≤ 1152921504606846976 := by omega
              have HW' := Lib.hid hW'
              have HD2 := Lib.hid hd2
              have HD1 := Lib.hid hd1
              have HG' := Lib.hid hg'
              have HBW' := Lib.hid hbw'
              have HCK := Lib.hid cK1
              have HLL := Lib.hid hlL
              have HGE := Lib.hid hG
              have HYE := Lib.hid hY
              have HZQ := Lib.hid (List.mem_of_getElem? hzq)
              have HPP := Lib.hid hP.out
              clear hkL hkZ hcell hzq hlm hlL hLk hla hstep hW' hd1 hd2 hg' hbw' s1 s2 cK1 hG hP hg hk1' hk2' hu1 hu2 af bf hX hY hfl hbw
              go_wp2_with fail
              go_region
              rw [← HW'.out]
              clear a0 b2 af0 bf2 hcell2
              go_wp2_with fail
              refine HCK.out.mono ?_
              rintro e11 w11 ⟨rfl, hb11⟩
              have hg11 := HG'.out.more hb11
              have hbw11 := HBW'.out.trans (hb11.mono HBW'.out.size)
              obtain ⟨s1, s2⟩ := row_still2 HLOK.out hg11 hq19 hq29 HZQ.out
              obtain ⟨v2, f2, cK2, hc2⟩ := CHIGH.out w11 lb AH ch BH dh l lc hbw11 HLL.out s1 s2 HIH.out HJH.out
              rw [← HYE.out] at hc2
              have hl1 : q1 < W'.heap.size := (Array.getElem?_eq_some_iff.1 HD1.out).1
              have hl2 : q2 < W'.heap.size := (Array.getElem?_eq_some_iff.1 HD2.out).1
              have hd1 : EdAt w11 q1 (.slice (some ⟨lb, 0, none⟩) a lc) (.slice BL el dl) (.slice U un uc) (.slice AL lk cl) := (hb11.block q1 hl1).trans HD1.out
              have hd2 : EdAt w11 q2 (.slice N nn nc) (.slice BH eh dh) (.slice (some ⟨lb, 0, none⟩) a lc) (.slice AH hk' ch) := (hb11.block q2 hl2).trans HD2.out
              clear x0 x1 x2 x3
              obtain ⟨x0, x1, x2, x3, -⟩ := zcells4 hd2
              have HCK2 := Lib.hid cK2
              have HC1 := Lib.hid hc1
              have HC2 := Lib.hid hc2
              have HG11 := Lib.hid hg11
              have hl3 := hb11.size
              have HD1' := Lib.hid hd1
              have HD2' := Lib.hid hd2
              clear hb11 hg11 hbw11 s1 s2 cK2 hd1 hd2 HD1 HD2 HG' HBW' hc1 hc2 HCK
              go_wp2_with fail
              refine HCK2.out.mono ?_
              rintro e12 w12 ⟨rfl, hb12⟩
              have HG12 := Lib.hid (HG11.out.more hb12)
              have HU1 : Hid (∃ z, EdAt w12 q1 z (.slice BL el dl) (.slice U un uc) (.slice AL lk cl)) := ⟨_, (hb12.block q1 (by omega)).trans HD1'.out⟩
              have HU2 : Hid (∃ z, EdAt w12 q2 (.slice N nn nc) (.slice BH eh dh) z (.slice AH hk' ch)) := ⟨_, (hb12.block q2 (by omega)).trans HD2'.out⟩
              clear hb12 HCK2 HG11 HD1' HD2' x0 x1 x2 x3
              by_cases hX0 : X = 0
              · obtain ⟨-, rfl, rfl⟩ := HC1.out.resolve_right (fun h => by omega)
                have hG0 : G = 0 := by rw [HGE.out, hX0, Nat.zero_mul]
                have hst' := hst
                subst hX0
                subst hG0
                clear HC1 HC2 HGE HYE
                go_wp2_with fail
                go_roundw
                case rel => exact ⟨kk + 1, P, by omega, by go_num, rfl, hPn, hst, HG12, HU1, HU2⟩
                case measure => simp [intOf]; omega
              by_cases hY0 : Y = 0
              · obtain ⟨-, rfl, rfl⟩ := HC2.out.resolve_right (fun h => by omega)
                have hG0 : G = 0 := by rw [HGE.out, hY0, Nat.mul_zero]
                rcases HC1.out with ⟨hx1, rfl, rfl⟩ | ⟨hx1, rfl, rfl⟩
                · have hxz : ((X : Int) == 0) = false := by rw [beq_eq_false_iff_ne]; omega
                  subst hG0
                  clear HC1 HC2 HGE HYE
                  go_wp2_with fail
                  go_roundw
                  case rel => exact ⟨kk + 1, P, by omega, by go_num, rfl, hPn, hst, HG12, HU1, HU2⟩
                  case measure => simp [intOf]; omega
                · subst hG0
                  clear HC1 HC2 HGE HYE
                  go_wp2_with fail
                  go_roundw
                  case rel => exact ⟨kk + 1, P, by omega, by go_num, rfl, hPn, hst, HG12, HU1, HU2⟩
                  case measure => simp [intOf]; omega
              · have hXY : X ≤ G ∧ Y ≤ G := by
                  rw [HGE.out]
                  exact ⟨Nat.le_mul_of_pos_right X (by omega), Nat.le_mul_of_pos_left Y (by omega)⟩
                obtain ⟨-, rfl, rfl⟩ := HC1.out.resolve_right (fun h => by omega)
                obtain ⟨-, rfl, rfl⟩ := HC2.out.resolve_right (fun h => by omega)
                have hxz : ((X : Int) == 0) = false := by rw [beq_eq_false_iff_ne]; omega
                have hyz : ((Y : Int) == 0) = false := by rw [beq_eq_false_iff_ne]; omega
                have hyn0 : ¬ Y = 0 := hY0
                have hyi0 : ¬ ((Y : Int) = 0) := by omega
                obtain ⟨Q, hQ⟩ : ∃ Q, Q = n / Y := ⟨_, rfl⟩
                have hQ1 : (n : Int).tdiv (Y : Int) = (Q : Int) := by rw [hQ]; exact (Int.ofNat_tdiv n Y).symm
                have hQ2 : (n : Int) / (Y : Int) = (Q : Int) := by rw [hQ]; exact (Int.natCast_ediv n Y).symm
                have hXQ : X ≤ Q := by rw [hQ, Nat.le_div_iff_mul_le (by omega), ← HGE.out]; omega
                have hQn : Q ≤ n := by rw [hQ]; exact Nat.div_le_self _ _
                have hmul : (X : Int) * (Y : Int) = (G : Int) := by rw [HGE.out, Int.natCast_mul]
                have hmin : min ((P : Int) + (G : Int)) 1152921504606846977 = (((P + G : Nat)) : Int) := by omega
                clear HC1 HC2 HGE HYE hQ
                go_wp2_with fail
                go_roundw
                case rel => exact ⟨kk + 1, P + G, by omega, by go_num, by go_num, hPG, hst, HG12, HU1, HU2⟩
                case measure => simp [intOf]; omega
            · have hke : kk = L.length := by rw [← HZL.out]; omega
              have hPe : P = n := by rw [hP.out, hke, List.take_length]; exact HSUM.out.symm
              subst hPe
              have HBW := Lib.hid hbw
              clear hP hg hk1' hk2' hke hbw hu1 hu2
              go_wp2_with fail
              refine (cAw _ HBW.out).mono ?_
              rintro e8 w8 ⟨rfl, hb8⟩
              go_wp2_with fail
              go_ret
              exact ⟨rfl, HBW.out.trans (hb8.mono HBW.out.size)⟩
end Go.Proofs.YtloodijkfoinnaaDoor

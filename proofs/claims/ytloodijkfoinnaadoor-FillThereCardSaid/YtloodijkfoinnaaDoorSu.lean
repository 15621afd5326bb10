/-
  groutworklaw02.FillSum.
-/
import Derived.Test.YtloodijkfoinnaaDoorLs
import Derived.Test.YtloodijkfoinnaaDoorSl
import Derived.Test.YtloodijkfoinnaaDoorAx
namespace Go.Proofs.YtloodijkfoinnaaDoor
open Go.RowKit Go.Maps Go.BigFrame
set_option linter.unusedVariables false
set_option linter.unusedSimpArgs false
set_option maxRecDepth 100000

theorem zcells4 {w : World} {q : Nat} {a b c d : Value} {t : TypeId} (h : w.heap[q]? = some (.cells #[a, b, c, d] t (0, 0))) : w.cell? ⟨q, 0, none⟩ = some a ∧ w.cell? ⟨q, 1, none⟩ = some b ∧ w.cell? ⟨q, 2, none⟩ = some c ∧ w.cell? ⟨q, 3, none⟩ = some d ∧ ∀ o, w.frozen? ⟨q, o, none⟩ = false := by
  refine ⟨?_, ?_, ?_, ?_, fun o => ?_⟩ <;> simp [World.cell?, World.frozen?, h]
theorem set_first {w : World} {q : Nat} {a b c d : Value} {t : TypeId} (h : w.heap[q]? = some (.cells #[a, b, c, d] t (0, 0))) (v : Value) : (w.setCell ⟨q, 0, none⟩ v).heap[q]? = some (.cells #[v, b, c, d] t (0, 0)) := by
  have h1 := heap_setCell_same w q 0 _ t v h
  rw [h1]
  rfl
theorem cols_num (s : List Tl) (a : Nat) (h : pw (colsOf s).length a ≤ 300) : ∀ i, i ≤ a → (lsts (colsOf s) i).length ≤ 1000000 := by
  intro i hi
  rw [lsts_len]
  unfold pw at h
  rcases Nat.eq_zero_or_pos (colsOf s).length with e | e
  · rw [e]
    cases i with
    | zero => simp
    | succ i => rw [Nat.zero_pow (by omega)]; omega
  · have := Nat.pow_le_pow_right e hi
    omega
/-- the lists' rows where block q alone has changed -/
theorem row_still {w5 wr : World} {base q : Nat} {g : Option Nat} {Z : List (Nat × Nat × List Int)} (h : LOk w5 base g Z) (hg : w5.grownBy wr (some q)) (hq : q < base) {z : Nat × Nat × List Int} (hz : z ∈ Z) : z.1 < wr.heap.size ∧ wr.rangeAt z.1 0 (vals z.2.2) := by
  obtain ⟨h1, h2, _, h4⟩ := h z hz
  exact ⟨Nat.lt_of_lt_of_le h2 hg.size, fun j v hv => (World.cell?_of_block (hg.block z.1 h2 (by simp; omega))).trans (h4 j v hv)⟩
theorem ints_range {w : World} {b : Nat} {l : List Int} (hb : b < w.heap.size) (h : w.rangeAt b 0 (vals l)) : IntsIn w w.heap.size (some ⟨b, 0, none⟩) l := fun _ => ⟨b, 0, rfl, hb, fun i hi => h i _ (by rw [vals, List.getElem?_map, List.getElem?_eq_getElem hi, getD_of_lt l i 0 hi]; rfl)⟩
theorem grown_set {w wr : World} {q : Nat} (h : w.grownBy wr (some q)) (o : Nat) (v : Value) : w.grownBy (wr.setCell ⟨q, o, none⟩ v) (some q) := by
  refine ⟨h.os, h.tape, h.output, by simpa using h.size, fun k hk hne => ?_⟩
  rw [Below.heap_setCell _ _ _ _ (by intro e; exact hne (by rw [e]))]
  exact h.block k hk hne
theorem grown_below {w w' w2 : World} {q : Nat} (h : w.grownBy w' (some q)) (hb : Below w'.heap.size w' w2) : w.grownBy w2 (some q) :=
  ⟨hb.os.trans h.os, hb.tape.trans h.tape, hb.output.trans h.output, Nat.le_trans h.size hb.size, fun k hk hne => (hb.block k (Nat.lt_of_lt_of_le hk h.size)).trans (h.block k hk hne)⟩
set_option maxHeartbeats 8000000 in
theorem fsum_any (s : List Tl) (d : Ed) (S : Option Addr) (m cp : Nat) (wd hg : Int) (N E U V : Option Addr) (nc ec uc vc : Nat) (w : World) (hEnv : Env w) (hm : m = s.length) (hmd : m ≤ cp) (hdl : cp ≤ 9223372036854775807) (hS : SetIn w w.heap.size S s) (hwf : ∀ t ∈ s, twf t) (hml : m ≤ 9223372036854775807)
    (hn : d.n.length ≤ 9223372036854775807) (he : d.e.length ≤ 9223372036854775807) (hu : d.s.length ≤ 9223372036854775807) (hv : d.w.length ≤ 9223372036854775807) (hE : EdIn w w.heap.size N E U V d) :
    Calls Tryd.prog 6 #[.slice S m cp, .int .i64 wd, .int .i64 hg, .agg #[.slice N d.n.length nc, .slice E d.e.length ec, .slice U d.s.length uc, .slice V d.w.length vc]] w fun e' w' => e' = .returned (.bool true) ∧ Below w.heap.size w w' := by
  obtain ⟨en, hen⟩ : ∃ en, en = d.e.length := ⟨_, rfl⟩
  obtain ⟨un, hun⟩ : ∃ un, un = d.s.length := ⟨_, rfl⟩
  obtain ⟨vn, hvn⟩ : ∃ vn, vn = d.w.length := ⟨_, rfl⟩
  obtain ⟨nn, hnn⟩ : ∃ nn, nn = d.n.length := ⟨_, rfl⟩
  obtain ⟨W1, hW1⟩ : ∃ W1, W1 = w.alloc (.cells #[.slice none 0 0, .slice E en ec, .slice U un uc, .slice V vn vc] 25) := ⟨_, rfl⟩
  have hblk1 : W1.heap[w.heap.size]? = some (.cells #[.slice none 0 0, .slice E en ec, .slice U un uc, .slice V vn vc] 25 (0, 0)) := by rw [hW1]; exact heap_alloc_new w _
  have hb1 : Below w.heap.size w W1 := by rw [hW1]; exact (Below.refl _ _).alloc (Nat.le_refl _) _
  have hz1 : w.heap.size < W1.heap.size := (Array.getElem?_eq_some_iff.1 hblk1).1
  rw [← hen, ← hun, ← hvn, ← hnn]
  have cAw : ∀ W, Below w.heap.size w W → Calls Tryd.prog 9 #[] W fun e w' => e = .returned (.bool true) ∧ Below W.heap.size W w' := fun W hb => awake2_any W (hEnv.keep hb)
  obtain ⟨sb, hsb⟩ : ∃ sb, sb = smallB s wd hg 0 en un vn := ⟨_, rfl⟩
  have cSm : ∀ W, Below w.heap.size w W → Calls Tryd.prog 18 #[.slice S m cp, .int .i64 wd, .int .i64 hg, .agg #[.slice none 0 0, .slice E en ec, .slice U un uc, .slice V vn vc]] W fun e w' => e = .returned (.bool sb) ∧ Below W.heap.size W w' := fun W hb => by
    have hh := small_any s S m cp wd hg none E U V 0 en un vn 0 ec uc vc W hm hmd hdl (hS.keep hb hb.size) hwf hml (by omega) (by omega) (by omega) (by omega)
    rw [← hsb] at hh
    exact hh
  have HW1 := Lib.hid hW1
  have HB1 := Lib.hid hb1
  have HBK := Lib.hid hblk1
  cases sb
  · clear hm hS hwf hE hEnv hblk1 hb1 hW1 hsb hen hun hvn hnn
    go_enter Tryd.func6, Tryd.ntmps6
    go_wp2_with fail
    rw [← HW1.out]
    refine (cSm _ HB1.out).mono ?_
    rintro e2 w2 ⟨rfl, hb2⟩
    have hb02 : Below w.heap.size w w2 := HB1.out.trans (hb2.mono HB1.out.size)
    go_wp2_with fail
    refine (cAw _ hb02).mono ?_
    rintro e3 w3 ⟨rfl, hb3⟩
    go_wp2_with fail
    go_ret
    exact ⟨rfl, hb02.trans (hb3.mono hb02.size)⟩
  obtain ⟨hwide, hf, htm, hhv⟩ := smallB_iff.1 hsb.symm
  obtain ⟨hvl, hrng, -, -, -, -⟩ := faultE_iff.1 hf
  obtain ⟨a, rfl⟩ := Int.eq_ofNat_of_zero_le (show 0 ≤ wd by omega)
  obtain ⟨b, rfl⟩ := Int.eq_ofNat_of_zero_le (show 0 ≤ hg by omega)
  have ha1 : 1 ≤ a := by omega
  have ha8 : a ≤ 8 := by omega
  have hb1' : 1 ≤ b := by omega
  have hm60 : m ≤ 60 := by
    unfold heavyB at hhv
    simp at hhv
    omega
  obtain ⟨cn, hcn⟩ : ∃ cn, cn = (colsOf s).length := ⟨_, rfl⟩
  have hcn2 : cn ≤ 120 := by have := cols_len s; omega
  have cCo : ∀ W, Below w.heap.size w W → Calls Tryd.prog 23 #[.slice S m cp] W fun e w' => ∃ V, e = .returned V ∧ w'.ownsRow W.heap.size 3 1 V cn ((colsOf s).map (Value.int .i64)) ∧ Below W.heap.size W w' := fun W hb => by
    have hh := rcolours_any s S m cp W hm (hS.keep hb hb.size) (by omega)
    rw [← hcn] at hh
    exact hh
  obtain ⟨x, hx⟩ : ∃ x, x = pw cn a := ⟨_, rfl⟩
  have cPw : ∀ W, Calls Tryd.prog 22 #[.int .i64 (cn : Int), .int .i64 (a : Int)] W fun e w' => e = .returned (.int .i64 (x : Int)) ∧ W = w' := fun W => by rw [hx]; exact rpower_any cn a W (by omega) (by omega)
  by_cases h300 : (300 : Int) < (x : Int)
  · clear hm hS hwf hE hEnv hblk1 hb1 hW1 hsb hen hun hvn hnn hwide hf htm hhv hvl hrng hcn hx
    go_enter Tryd.func6, Tryd.ntmps6
    go_wp2_with fail
    rw [← HW1.out]
    refine (cSm _ HB1.out).mono ?_
    rintro e2 w2 ⟨rfl, hb2⟩
    have hb02 : Below w.heap.size w w2 := HB1.out.trans (hb2.mono HB1.out.size)
    go_wp2_with fail
    refine (cCo _ hb02).mono ?_
    rintro e3 w3 ⟨V3, rfl, hown3, hb3⟩
    obtain ⟨A3, c3, rfl, -, -, -, -, -⟩ := own_ints hown3
    have hb03 : Below w.heap.size w w3 := hb02.trans (hb3.mono hb02.size)
    clear hown3
    go_wp2_with fail
    refine (cPw _).mono ?_
    rintro e4 w4 ⟨rfl, rfl⟩
    go_wp2_with fail
    refine (cAw _ hb03).mono ?_
    rintro e5 w5 ⟨rfl, hb5⟩
    go_wp2_with fail
    go_ret
    exact ⟨rfl, hb03.trans (hb5.mono hb03.size)⟩
  obtain ⟨d0, hd0⟩ : ∃ d0 : Ed, d0 = ⟨[], d.e, d.s, d.w⟩ := ⟨_, rfl⟩
  have hf0 : faultE s (a : Int) (b : Int) d0.n.length d0.e.length d0.s.length d0.w.length = 0 := by rw [hd0, ← hf, hen, hun, hvn]; rfl
  have cCt0 : ∀ W, Below w.heap.size w W → Calls Tryd.prog 11 #[.slice S m cp, .int .i64 (a : Int), .int .i64 (b : Int), .agg #[.slice none 0 0, .slice E en ec, .slice U un uc, .slice V vn vc]] W fun e w' => e = .returned (countRes s (a : Int) (b : Int) d0) ∧ Below W.heap.size W w' := fun W hb => by
    have hh := count_any s d0 S m cp (a : Int) (b : Int) none E U V 0 ec uc vc W hm (hS.keep hb hb.size) hwf (by omega) (by rw [hd0]; simp) (by rw [hd0]; exact he) (by rw [hd0]; exact hu) (by rw [hd0]; exact hv) (by rw [hd0]; exact ⟨fun h => absurd rfl h, hE.e.keep hb hb.size, hE.s.keep hb hb.size, hE.w.keep hb hb.size⟩)
    rw [hd0] at hh ⊢
    rw [hen, hun, hvn]
    exact hh
  have hcr := countRes_ok hf0 htm
  simp only [Int.toNat_natCast] at hcr
  obtain ⟨n, hn'⟩ : ∃ n, n = countE s a b d0 := ⟨_, rfl⟩
  rw [← hn'] at hcr
  by_cases hbig : 1152921504606846976 < n
  · rw [if_pos hbig] at hcr
    have cCt : ∀ W, Below w.heap.size w W → Calls Tryd.prog 11 #[.slice S m cp, .int .i64 (a : Int), .int .i64 (b : Int), .agg #[.slice none 0 0, .slice E en ec, .slice U un uc, .slice V vn vc]] W fun e w' => e = .returned (.tuple #[.int .i64 0, .int .i64 4]) ∧ Below W.heap.size W w' := fun W hb => by rw [← hcr]; exact cCt0 W hb
    clear hm hS hwf hE hEnv hblk1 hb1 hW1 hsb hen hun hvn hnn hwide hf htm hhv hvl hrng hcn hx cCt0 hcr hf0 hd0 hn'
    go_enter Tryd.func6, Tryd.ntmps6
    go_wp2_with fail
    rw [← HW1.out]
    refine (cSm _ HB1.out).mono ?_
    rintro e2 w2 ⟨rfl, hb2⟩
    have hb02 : Below w.heap.size w w2 := HB1.out.trans (hb2.mono HB1.out.size)
    go_wp2_with fail
    refine (cCo _ hb02).mono ?_
    rintro e3 w3 ⟨V3, rfl, hown3, hb3⟩
    obtain ⟨A3, c3, rfl, -, -, -, -, -⟩ := own_ints hown3
    have hb03 : Below w.heap.size w w3 := hb02.trans (hb3.mono hb02.size)
    clear hown3
    go_wp2_with fail
    refine (cPw _).mono ?_
    rintro e4 w4 ⟨rfl, rfl⟩
    have HB2 := Lib.hid hb2
    have q0 := (hb3.block w.heap.size (Nat.lt_of_lt_of_le hz1 hb2.size)).trans ((hb2.block w.heap.size hz1).trans HBK.out)
    obtain ⟨y0, y1, y2, y3, -⟩ := zcells4 q0
    have HQ0 := Lib.hid q0
    have hz3 : w.heap.size < w3.heap.size := Nat.lt_of_lt_of_le hz1 (Nat.le_trans hb2.size hb3.size)
    clear q0
    go_wp2_with fail
    refine (cCt _ hb03).mono ?_
    rintro e5 w5 ⟨rfl, hb5⟩
    have hb05 : Below w.heap.size w w5 := hb03.trans (hb5.mono hb03.size)
    go_wp2_with fail
    refine (cAw _ hb05).mono ?_
    rintro e6 w6 ⟨rfl, hb6⟩
    go_wp2_with fail
    go_ret
    exact ⟨rfl, hb05.trans (hb6.mono hb05.size)⟩
  · rw [if_neg hbig] at hcr
    have cCt : ∀ W, Below w.heap.size w W → Calls Tryd.prog 11 #[.slice S m cp, .int .i64 (a : Int), .int .i64 (b : Int), .agg #[.slice none 0 0, .slice E en ec, .slice U un uc, .slice V vn vc]] W fun e w' => e = .returned (.tuple #[.int .i64 (n : Int), .int .i64 0]) ∧ Below W.heap.size W w' := fun W hb => by rw [← hcr]; exact cCt0 W hb
    have hsum := countE_sum s a b d0 ha1 hb1' (edOk_of hf0) (by rw [hd0])
    rw [← hn'] at hsum
    obtain ⟨f, hfd⟩ : ∃ f : List Int → Nat, f = fun l => countE s a b ⟨l, d.e, d.s, d.w⟩ := ⟨_, rfl⟩
    have hsum2 : n = ((lsts (colsOf s) a).map f).sum := by rw [hsum, hfd, hd0]
    have hx300 : pw (colsOf s).length a ≤ 300 := by rw [← hcn, ← hx]; omega
    have cLs : ∀ W A c, IntsIn W W.heap.size A (colsOf s) → Calls Tryd.prog 24 #[.slice A cn c, .int .i64 (a : Int)] W (IsLists (colsOf s) a W) := fun W A c h => lists_any (colsOf s) A cn c a W hcn h (by omega) (by omega) (cols_num s a hx300)
    obtain ⟨L, hL⟩ : ∃ L, L = lsts (colsOf s) a := ⟨_, rfl⟩
    rw [← hL] at hsum2
    have hLl : ∀ l ∈ L, l.length = a := fun l h => by rw [hL] at h; exact ((mem_lsts _ _ _).1 h).1
    have hfk : ∀ k (h : k < L.length), ((L.take (k + 1)).map f).sum = ((L.take k).map f).sum + f L[k] := fun k h => sum_take f L k h
    have hfle : ∀ k, ((L.take k).map f).sum ≤ n := fun k => by rw [hsum2]; exact sum_take_le f L k
    have hres : ∀ l ∈ L, f l ≤ n → countRes s (a : Int) (b : Int) ⟨l, d.e, d.s, d.w⟩ = .tuple #[.int .i64 (f l : Nat), .int .i64 0] := fun l hl hle => by
      have hff : faultE s (a : Int) (b : Int) (Ed.mk l d.e d.s d.w).n.length (Ed.mk l d.e d.s d.w).e.length (Ed.mk l d.e d.s d.w).s.length (Ed.mk l d.e d.s d.w).w.length = 0 := by
        rw [faultE_iff] at hf0 ⊢
        rw [hd0] at hf0
        obtain ⟨q1, q2, -, q4, q5, q6⟩ := hf0
        exact ⟨q1, q2, Or.inr (by show ((l.length : Nat) : Int) = _; rw [hLl l hl]), q4, q5, q6⟩
      rw [countRes_ok hff htm]
      simp only [Int.toNat_natCast]
      rw [show countE s a b ⟨l, d.e, d.s, d.w⟩ = f l by rw [hfd], if_neg (by omega)]
    have cCk : ∀ W lb lc l, Below w.heap.size w W → l ∈ L → f l ≤ n → lb < W.heap.size → W.rangeAt lb 0 (vals l) → Calls Tryd.prog 11 #[.slice S m cp, .int .i64 (a : Int), .int .i64 (b : Int), .agg #[.slice (some ⟨lb, 0, none⟩) a lc, .slice E en ec, .slice U un uc, .slice V vn vc]] W fun e w' => e = .returned (.tuple #[.int .i64 (f l : Nat), .int .i64 0]) ∧ Below W.heap.size W w' := fun W lb lc l hb hl hle hlb hr => by
      have hh := count_any s ⟨l, d.e, d.s, d.w⟩ S m cp (a : Int) (b : Int) (some ⟨lb, 0, none⟩) E U V lc ec uc vc W hm (hS.keep hb hb.size) hwf (by omega) (by rw [hLl l hl]; omega) he hu hv ⟨ints_range hlb hr, hE.e.keep hb hb.size, hE.s.keep hb hb.size, hE.w.keep hb hb.size⟩
      rw [hres l hl hle] at hh
      simp only [hLl l hl] at hh
      rw [hen, hun, hvn]
      exact hh
    have hL9 : L.length ≤ 1000000 := by rw [hL]; exact cols_num s a hx300 a (Nat.le_refl _)
    have HL := Lib.hid hL
    have HLl := Lib.hid hLl
    have HFK := Lib.hid hfk
    have HFL := Lib.hid hfle
    have HSUM := Lib.hid hsum2
    clear hm hS hwf hE hEnv hblk1 hb1 hW1 hsb hen hun hvn hnn hwide hf htm hhv hvl hrng hcn hx cCt0 hcr hf0 hd0 hn' hsum hsum2 hres hfd hL hLl hfk hfle hx300
    go_enter Tryd.func6, Tryd.ntmps6
    go_wp2_with fail
    rw [← HW1.out]
    refine (cSm _ HB1.out).mono ?_
    rintro e2 w2 ⟨rfl, hb2⟩
    have hb02 : Below w.heap.size w w2 := HB1.out.trans (hb2.mono HB1.out.size)
    go_wp2_with fail
    refine (cCo _ hb02).mono ?_
    rintro e3 w3 ⟨V3, rfl, hown3, hb3⟩
    obtain ⟨A3, c3, rfl, -, -, -, -, -⟩ := own_ints hown3
    have hb03 : Below w.heap.size w w3 := hb02.trans (hb3.mono hb02.size)
    clear hown3
    go_wp2_with fail
    refine (cPw _).mono ?_
    rintro e4 w4 ⟨rfl, rfl⟩
    have HB2 := Lib.hid hb2
    have q0 := (hb3.block w.heap.size (Nat.lt_of_lt_of_le hz1 hb2.size)).trans ((hb2.block w.heap.size hz1).trans HBK.out)
    obtain ⟨y0, y1, y2, y3, -⟩ := zcells4 q0
    have HQ0 := Lib.hid q0
    have hz3 : w.heap.size < w3.heap.size := Nat.lt_of_lt_of_le hz1 (Nat.le_trans hb2.size hb3.size)
    clear q0
    go_wp2_with fail
    refine (cCt _ hb03).mono ?_
    rintro e5 w5 ⟨rfl, hb5⟩
    have hb05 : Below w.heap.size w w5 := hb03.trans (hb5.mono hb03.size)
    go_wp2_with fail
    refine (cCo _ hb05).mono ?_
    rintro e6 w6 ⟨V6, rfl, hown6, hb6⟩
    obtain ⟨A6, c6, rfl, -, -, -, hI6, -⟩ := own_ints hown6
    have hb06 : Below w.heap.size w w6 := hb05.trans (hb6.mono hb05.size)
    clear hown6
    go_wp2_with fail
    refine (cLs _ _ _ hI6).mono ?_
    rintro e7 w7 ⟨V7, Z, rfl, hZ, hown7, hlok7, hb7⟩
    have hb07 : Below w.heap.size w w7 := hb06.trans (hb7.mono hb06.size)
    obtain ⟨zn, hzn⟩ : ∃ zn, zn = Z.length := ⟨_, rfl⟩
    rw [← hzn] at hown7
    obtain ⟨A7, c7, rfl, hat7⟩ := own_shape hown7
    rw [← HL.out] at hZ
    have hznL : zn = L.length := by rw [hzn, ← hZ, List.length_map]
    have hz6 : w.heap.size < w6.heap.size := Nat.lt_of_lt_of_le hz3 (Nat.le_trans hb5.size hb6.size)
    have hblk7 : w7.heap[w.heap.size]? = some (.cells #[.slice none 0 0, .slice E en ec, .slice U un uc, .slice V vn vc] 25 (0, 0)) :=
      (hb7.block w.heap.size hz6).trans ((hb6.block w.heap.size (Nat.lt_of_lt_of_le hz3 hb5.size)).trans ((hb5.block w.heap.size hz3).trans HQ0.out))
    have hzle : zn ≤ 9223372036854775807 := by omega
    have HZ := Lib.hid hZ
    have HAT := Lib.hid hat7
    have HLOK := Lib.hid hlok7
    have HB07 := Lib.hid hb07
    have HBK7 := Lib.hid hblk7
    have HZL := Lib.hid hznL
    have HZN := Lib.hid hzn
    clear hZ hat7 hlok7 hblk7 hown7 hI6 hb2 hb3 hb5 hb6 hb02 hb03 hb05 hb06 hb7 hznL hzn y0 y1 y2 y3 HQ0
    go_wp2_with fail
    go_loopw [12, 13] (fun su i wr => ∃ k P : Nat, k ≤ zn ∧ i = .int .i64 k ∧ su = .int .i64 (P : Int) ∧ P ≤ 1152921504606846976 ∧ Hid (P = ((L.take k).map f).sum) ∧ Hid (w7.grownBy wr (some w.heap.size)) ∧ Hid (∃ z, wr.heap[w.heap.size]? = some (.cells #[z, .slice E en ec, .slice U un uc, .slice V vn vc] 25 (0, 0)))) (fun _ i _ => zn - (intOf i).toNat)
    case atStart => exact ⟨0, 0, Nat.zero_le _, rfl, rfl, by omega, by simp [Hid], World.grownBy.refl _ _, ⟨_, HBK7.out⟩⟩
    case round =>
      obtain ⟨k, P, hk, rfl, rfl, hPn, hP, hg, hbk⟩ := hrel
      obtain ⟨wi, rfl⟩ : ∃ wi : World, wi = wr := ⟨_, rfl⟩
      obtain ⟨z0, hbk⟩ := hbk.out
      have hbw : Below w.heap.size w wi := HB07.out.trans ⟨hg.out.os, hg.out.tape, hg.out.output, hg.out.size, fun j hj => hg.out.block j (Nat.lt_of_lt_of_le hj HB07.out.size) (by simp; omega)⟩
      by_cases hlt : k < zn
      · have hkL : k < L.length := by rw [← HZL.out]; exact hlt
        have hkZ : k < Z.length := by rw [← HZN.out]; exact hlt
        obtain ⟨g, rfl, hgb, hgl, hcell⟩ := HAT.out k hlt
        obtain ⟨⟨lb, lc, l⟩, hzq⟩ : ∃ z, Z[k]? = some z := ⟨_, List.getElem?_eq_getElem hkZ⟩
        have hlm : L[k]? = some l := by rw [← HZ.out, List.getElem?_map, hzq]; rfl
        have hlL : l ∈ L := List.mem_of_getElem? hlm
        have hLk : L[k] = l := (List.getElem?_eq_some_iff.1 hlm).2
        have hla := HLl.out l hlL
        rw [List.getElem?_map, hzq] at hcell
        have hcell2 : wi.cell? ⟨g, k, none⟩ = some (.slice (some ⟨lb, 0, none⟩) a lc) := by
          rw [World.cell?_of_block (a := ⟨g, k, none⟩) (hg.out.block g hgl (by simp; omega)), hcell, ← hla]
          rfl
        obtain ⟨G, hG⟩ : ∃ G, G = f l := ⟨_, rfl⟩
        have hstep := HFK.out k hkL
        rw [hLk, ← hG, ← hP.out] at hstep
        have hle := HFL.out (k + 1)
        rw [hstep] at hle
        obtain ⟨W', hW'⟩ : ∃ W', W' = wi.setCell ⟨w.heap.size, 0, none⟩ (.slice (some ⟨lb, 0, none⟩) a lc) := ⟨_, rfl⟩
        have hblk' := set_first hbk (.slice (some ⟨lb, 0, none⟩) a lc)
        have hbw' : Below w.heap.size w W' := by rw [hW']; exact hbw.setCell (Nat.le_refl _) _
        have hg' : w7.grownBy W' (some w.heap.size) := by rw [hW']; exact grown_set hg.out 0 _
        obtain ⟨s1, s2⟩ := row_still HLOK.out hg' hz6 (List.mem_of_getElem? hzq)
        have cK := cCk W' lb lc l hbw' hlL (by rw [← hG]; omega) s1 s2
        rw [← hG] at cK
        obtain ⟨x0, x1, x2, x3, -⟩ := zcells4 hblk'
        obtain ⟨-, -, -, -, xf⟩ := zcells4 hbk
        have xf0 := xf 0
        have hbs : (wi.cell? ⟨w.heap.size, 0, none⟩) = some z0 := (zcells4 hbk).1
        rw [← hW'] at hblk'
        have hzW : w.heap.size < W'.heap.size := (Array.getElem?_eq_some_iff.1 hblk').1
        have hst : Hid (P + G = ((L.take (k + 1)).map f).sum) := hstep.symm
        have hk0 : (0 : Int) ≤ (k : Int) := by omega
        have hkz : (k : Int) < (zn : Int) := by omega
        have hmin : min ((P : Int) + (G : Int)) 1152921504606846977 = (((P + G : Nat)) : Int) := by omega
        have hPG : P + G ≤ 1152921504606846976 := by omega
        have HW' := Lib.hid hW'
        have HBLK' := Lib.hid hblk'
        have HG' := Lib.hid hg'
        have HCK := Lib.hid cK
        clear hkL hkZ hcell hzq hlm hlL hLk hla hstep hW' hblk' hbw' hg' s1 s2 cK hG hP hg hbk xf cCk
        go_wp2_with fail
        rw [← HW'.out]
        refine HCK.out.mono ?_
        rintro e8 w8 ⟨rfl, hb8⟩
        have hg8 := Lib.hid (grown_below HG'.out hb8)
        have hbk8 : Hid (∃ z, w8.heap[w.heap.size]? = some (.cells #[z, .slice E en ec, .slice U un uc, .slice V vn vc] 25 (0, 0))) := ⟨_, (hb8.block w.heap.size hzW).trans HBLK'.out⟩
        clear hb8 HG' HBLK'
        go_wp2_with fail
        go_roundw
        case rel => exact ⟨k + 1, P + G, by omega, by go_num, by go_num, hPG, hst, hg8, hbk8⟩
        case measure => simp [intOf]; omega
      · have hke : k = L.length := by rw [← HZL.out]; omega
        have hPe : P = n := by rw [hP.out, hke, List.take_length]; exact HSUM.out.symm
        subst hPe
        have HBW := Lib.hid hbw
        clear hP hg hbk hke hbw
        go_wp2_with fail
        refine (cAw _ HBW.out).mono ?_
        rintro e8 w8 ⟨rfl, hb8⟩
        go_wp2_with fail
        go_ret
        exact ⟨rfl, HBW.out.trans (hb8.mono HBW.out.size)⟩
end Go.Proofs.YtloodijkfoinnaaDoor

/-
  groutworkref02: has, fits: may a row be row y of a rectangle with these edges?
-/
import Derived.Test.YtfepgemopcpgmaaDoorFl
import Derived.Test.YtfepgemopcpgmaaDoorFi
import Derived.Test.YtfepgemopcpgmaaDoorAE
import Derived.Test.YtfepgemopcpgmaaDoorSo
namespace Go.Proofs.YtfepgemopcpgmaaDoor
open Go.RowKit Go.Maps Go.BigFrame
set_option linter.unusedVariables false
set_option linter.unusedSimpArgs false
set_option maxRecDepth 100000

/-- a colour that an edge asks for -/
def cond1 (l : List Int) (x : Nat) (v : Int) : Bool := decide (l = [] ∨ l.getD x 0 = v)
theorem rhasB_any (l : List Int) (A : Option Addr) (n c k : Nat) (v : Int) (w : World) (r : Bool) (hn : n = l.length) (hl : n ≤ 9223372036854775807) (hI : IntsIn w w.heap.size A l) (hk : l = [] ∨ k < l.length) (hr : cond1 l k v = r) :
    Calls Tryd.prog 50 #[.slice A n c, .int .i64 (k : Int), .int .i64 v] w fun e w' => e = .returned (.bool r) ∧ Below w.heap.size w w' := by
  by_cases h0 : n = 0
  · have hr1 : r = true := by rw [← hr]; exact decide_eq_true (Or.inl (List.length_eq_zero_iff.1 (by omega)))
    subst hr1
    subst h0
    clear hn hI hk hr
    go_enter Tryd.func50, Tryd.ntmps50
    go_wp2_with fail
    go_ret
    exact ⟨rfl, Below.refl _ _⟩
  · have h1 := hk.resolve_left (fun e => h0 (by rw [hn, e]; rfl))
    obtain ⟨b, off, rfl, hb, hc⟩ := hI (ne_nil_of_lt h1)
    obtain ⟨u, hu⟩ : ∃ u, u = l.getD k 0 := ⟨_, rfl⟩
    have hcell := hc k h1
    rw [← hu] at hcell
    have hkn : k < n := by omega
    have hd0 : ((n : Int) == 0) = false := by rw [beq_eq_false_iff_ne]; omega
    have hr2 : decide (u = v) = r := by
      rw [← hr, hu]
      unfold cond1
      rw [decide_eq_decide]
      exact ⟨Or.inr, fun h => h.resolve_left (ne_nil_of_lt h1)⟩
    have HR := Lib.hid hr2
    clear hc h1 hn hI hk hr hr2 hu
    go_enter Tryd.func50, Tryd.ntmps50
    go_wp2_with fail
    go_ret
    exact ⟨by rw [← HR.out]; first | rfl | simp, Below.refl _ _⟩
theorem hasE_iff {s : List Tl} {r : List Nat} {wd : Nat} (f : Tl → Int) {l : List Int} (hr : r.length = wd) (hl : l = [] ∨ l.length = wd) : hasE l (r.map fun i => f (ti s i)) = true ↔ ∀ x, x < wd → cond1 l x (f (ti s (r.getD x 0))) = true := by
  unfold hasE cond1
  simp only [decide_eq_true_eq]
  rcases hl with e | e
  · simp [e]
  · by_cases h0 : l = []
    · simp [h0]
    · rw [line_edge f l hr e]
      constructor
      · rintro (h | h)
        · exact absurd h h0
        · exact fun x hx => Or.inr (h x hx).symm
      · exact fun h => Or.inr fun x hx => ((h x hx).resolve_left h0).symm
theorem zc4c {w : World} {q : Nat} {a b c d : Value} {t : TypeId} (h : w.heap[q]? = some (.cells #[a, b, c, d] t (0, 0))) : w.cell? ⟨q, 0, none⟩ = some a ∧ w.cell? ⟨q, 1, none⟩ = some b ∧ w.cell? ⟨q, 2, none⟩ = some c ∧ w.cell? ⟨q, 3, none⟩ = some d := by
  refine ⟨?_, ?_, ?_, ?_⟩ <;> simp [World.cell?, h]
/-- row y's cell x meets the lower and the upper edge -/
def okx (s : List Tl) (d : Ed) (h y : Nat) (r : List Nat) (x : Nat) : Prop := (y = 0 → cond1 d.s x (ti s (r.getD x 0)).s = true) ∧ (y + 1 = h → cond1 d.n x (ti s (r.getD x 0)).n = true)
theorem admE_iff {s : List Tl} {d : Ed} {wd h y : Nat} {r : List Nat} (hr : r.length = wd) (hd : EdOk wd h d) (hy : y < h) : admE s d h y r = true ↔ (cond1 d.w y (west s r) = true ∧ cond1 d.e y (east s r) = true) ∧ ∀ x, x < wd → okx s d h y r x := by
  unfold admE lineS lineN
  simp only [Bool.and_eq_true, Bool.or_eq_true, decide_eq_true_eq]
  rw [hasE_iff (fun t => t.s) hr hd.2.2.1, hasE_iff (fun t => t.n) hr hd.1]
  unfold sideE cond1 okx
  constructor
  · rintro ⟨⟨h1, h2⟩, h3, h4⟩
    exact ⟨⟨h1, h2⟩, fun x hx => ⟨fun e => (h3.resolve_left (by omega)) x hx, fun e => (h4.resolve_left (by omega)) x hx⟩⟩
  · rintro ⟨⟨h1, h2⟩, h3⟩
    refine ⟨⟨h1, h2⟩, ?_, ?_⟩
    · by_cases e : 0 < y
      · exact Or.inl e
      · exact Or.inr fun x hx => (h3 x hx).1 (by omega)
    · by_cases e : y + 1 < h
      · exact Or.inl e
      · exact Or.inr fun x hx => (h3 x hx).2 (by omega)
set_option maxHeartbeats 8000000 in
theorem rfits2_any (s : List Tl) (S : Option Addr) (m sc : Nat) (d : Ed) (r : List Nat) (wd h y rb rc : Nat) (x1 x2 : Int) (N E U V : Option Addr) (nc ec uc vc : Nat) (res : Bool) (w : World) (hm : m = s.length) (hml : m ≤ 1000) (hS : SetIn w w.heap.size S s)
    (hr : r.length = wd) (hix : ∀ x, x < wd → r.getD x 0 < s.length) (hw1 : 1 ≤ wd) (hw : wd ≤ 8) (hh : h ≤ 60) (hy : y < h) (hd : EdOk wd h d) (hrow : w.rangeAt rb 0 (vals (idxI r))) (hrb : rb < w.heap.size) (hE : EdIn w w.heap.size N E U V d) (hres : admE s d h y r = res) :
    Calls Tryd.prog 30 #[.slice S m sc, .agg #[.slice (some ⟨rb, 0, none⟩) wd rc, .int .i64 x1, .int .i64 x2], .int .i64 (y : Int), .int .i64 (h : Int), .agg #[.slice N d.n.length nc, .slice E d.e.length ec, .slice U d.s.length uc, .slice V d.w.length vc]] w fun e w' => e = .returned (.bool res) ∧ Below w.heap.size w w' := by
  obtain ⟨nn, hnn⟩ : ∃ nn, nn = d.n.length := ⟨_, rfl⟩
  obtain ⟨en, hen⟩ : ∃ en, en = d.e.length := ⟨_, rfl⟩
  obtain ⟨un, hun⟩ : ∃ un, un = d.s.length := ⟨_, rfl⟩
  obtain ⟨vn, hvn⟩ : ∃ vn, vn = d.w.length := ⟨_, rfl⟩
  have hnn9 : nn ≤ 60 := by rw [hnn]; rcases hd.1 with e | e <;> rw [e] <;> first | (simp; done) | omega
  have hen9 : en ≤ 60 := by rw [hen]; rcases hd.2.1 with e | e <;> rw [e] <;> first | (simp; done) | omega
  have hun9 : un ≤ 60 := by rw [hun]; rcases hd.2.2.1 with e | e <;> rw [e] <;> first | (simp; done) | omega
  have hvn9 : vn ≤ 60 := by rw [hvn]; rcases hd.2.2.2 with e | e <;> rw [e] <;> first | (simp; done) | omega
  obtain ⟨sb, so, rfl, hsb, hcl⟩ := hS (ne_nil_of_lt (hix 0 (by omega)))
  have hsc : ∀ W, Below w.heap.size w W → ∀ i, i < s.length → W.cell? ⟨sb, so + i * 4, none⟩ = some (.int .i64 (ti s i).n) ∧ W.cell? ⟨sb, so + i * 4 + 1, none⟩ = some (.int .i64 (ti s i).e) ∧ W.cell? ⟨sb, so + i * 4 + 2, none⟩ = some (.int .i64 (ti s i).s) ∧ W.cell? ⟨sb, so + i * 4 + 3, none⟩ = some (.int .i64 (ti s i).w) := fun W hb i hi => by
    obtain ⟨h0, h1, h2, h3⟩ := hcl i hi
    exact ⟨(hb.cell (p := ⟨sb, _, none⟩) hsb).trans h0, (hb.cell (p := ⟨sb, _, none⟩) hsb).trans h1, (hb.cell (p := ⟨sb, _, none⟩) hsb).trans h2, (hb.cell (p := ⟨sb, _, none⟩) hsb).trans h3⟩
  have hrc : ∀ W, Below w.heap.size w W → ∀ x, x < wd → W.cell? ⟨rb, x, none⟩ = some (.int .i64 ((r.getD x 0 : Nat) : Int)) := fun W hb x hx => by
    have h1 := hrow x (.int .i64 ((r.getD x 0 : Nat) : Int)) (by
      rw [vals, idxI, List.map_map, List.getElem?_map, List.getElem?_eq_getElem (show x < r.length by omega), getD_of_lt r x 0 (by omega)]
      rfl)
    rw [Nat.zero_add] at h1
    exact (hb.cell (p := ⟨rb, x, none⟩) hrb).trans h1
  obtain ⟨fw, hfw⟩ : ∃ fw, cond1 d.w y (west s r) = fw := ⟨_, rfl⟩
  obtain ⟨fe, hfe⟩ : ∃ fe, cond1 d.e y (east s r) = fe := ⟨_, rfl⟩
  have hww : west s r = (ti s (r.getD 0 0)).w := west_getD s r (by omega)
  have hee : east s r = (ti s (r.getD (wd - 1) 0)).e := east_getD s r wd hw1 hr
  have cW : ∀ W, Below w.heap.size w W → Calls Tryd.prog 50 #[.slice V vn vc, .int .i64 (y : Int), .int .i64 (ti s (r.getD 0 0)).w] W fun e w' => e = .returned (.bool fw) ∧ Below W.heap.size W w' := fun W hb =>
    rhasB_any d.w V vn vc y _ W fw hvn (by omega) (hE.w.keep hb hb.size) (hd.2.2.2.imp id fun e => by omega) (by rw [← hww]; exact hfw)
  have cE : ∀ W, Below w.heap.size w W → Calls Tryd.prog 50 #[.slice E en ec, .int .i64 (y : Int), .int .i64 (ti s (r.getD (wd - 1) 0)).e] W fun e w' => e = .returned (.bool fe) ∧ Below W.heap.size W w' := fun W hb =>
    rhasB_any d.e E en ec y _ W fe hen (by omega) (hE.e.keep hb hb.size) (hd.2.1.imp id fun e => by omega) (by rw [← hee]; exact hfe)
  have cS : ∀ W x b, Below w.heap.size w W → x < wd → cond1 d.s x (ti s (r.getD x 0)).s = b → Calls Tryd.prog 50 #[.slice U un uc, .int .i64 (x : Int), .int .i64 (ti s (r.getD x 0)).s] W fun e w' => e = .returned (.bool b) ∧ Below W.heap.size W w' := fun W x b hb hx h1 =>
    rhasB_any d.s U un uc x _ W b hun (by omega) (hE.s.keep hb hb.size) (hd.2.2.1.imp id fun e => by omega) h1
  have cN : ∀ W x b, Below w.heap.size w W → x < wd → cond1 d.n x (ti s (r.getD x 0)).n = b → Calls Tryd.prog 50 #[.slice N nn nc, .int .i64 (x : Int), .int .i64 (ti s (r.getD x 0)).n] W fun e w' => e = .returned (.bool b) ∧ Below W.heap.size W w' := fun W x b hb hx h1 =>
    rhasB_any d.n N nn nc x _ W b hnn (by omega) (hE.n.keep hb hb.size) (hd.1.imp id fun e => by omega) h1
  have hadm := admE_iff (s := s) hr hd hy
  rw [hfw, hfe, hres] at hadm
  obtain ⟨W2, hW2⟩ : ∃ W2, W2 = (w.alloc (.cells #[.slice (some ⟨rb, 0, none⟩) wd rc, .int .i64 x1, .int .i64 x2] 67)).alloc (.cells #[.slice N nn nc, .slice E en ec, .slice U un uc, .slice V vn vc] 25) := ⟨_, rfl⟩
  have hb2 : Below w.heap.size w W2 := by rw [hW2]; exact be_alloc (be_alloc (Below.refl _ _) _) _
  have hz2 : W2.heap.size = w.heap.size + 2 := by rw [hW2]; simp
  have hp2 : W2.heap[w.heap.size]? = some (.cells #[.slice (some ⟨rb, 0, none⟩) wd rc, .int .i64 x1, .int .i64 x2] 67 (0, 0)) := by rw [hW2]; exact heap_kp (heap_at _ _ _ rfl) _
  have he2 : W2.heap[w.heap.size + 1]? = some (.cells #[.slice N nn nc, .slice E en ec, .slice U un uc, .slice V vn vc] 25 (0, 0)) := by rw [hW2]; exact heap_at _ _ _ (by simp)
  have HW2 := Lib.hid hW2
  have HB2 := Lib.hid hb2
  have HP2 := Lib.hid hp2
  have HE2 := Lib.hid he2
  have HM := Lib.hid hm
  have HIX := Lib.hid hix
  have HSC := Lib.hid hsc
  have HRC := Lib.hid hrc
  have CW := Lib.hid cW
  have CE := Lib.hid cE
  have CS := Lib.hid cS
  have CN := Lib.hid cN
  have HADM := Lib.hid hadm
  rw [← hnn, ← hen, ← hun, ← hvn]
  clear hm hS hE hd hrow hnn hen hun hvn hW2 hb2 hp2 he2 cW cE cS cN hix hsc hrc hcl hres hfw hfe hww hee hadm hr
  obtain ⟨p0, -, -, -⟩ := zcells HP2.out
  obtain ⟨e0, e1, e2, e3⟩ := zc4c HE2.out
  obtain ⟨i0, hi0⟩ : ∃ i0, i0 = r.getD 0 0 := ⟨_, rfl⟩
  obtain ⟨i9, hi9⟩ : ∃ i9, i9 = r.getD (wd - 1) 0 := ⟨_, rfl⟩
  have g0 := HRC.out W2 HB2.out 0 (by omega)
  have g9 := HRC.out W2 HB2.out (wd - 1) (by omega)
  have hl0 := HIX.out 0 (by omega)
  have hl9 := HIX.out (wd - 1) (by omega)
  rw [← hi0] at g0 hl0
  rw [← hi9] at g9 hl9
  obtain ⟨-, -, -, t0⟩ := HSC.out W2 HB2.out i0 hl0
  obtain ⟨-, t9, -, -⟩ := HSC.out W2 HB2.out i9 hl9
  obtain ⟨v0, hv0⟩ : ∃ v, v = (ti s i0).w := ⟨_, rfl⟩
  obtain ⟨v9, hv9⟩ : ∃ v, v = (ti s i9).e := ⟨_, rfl⟩
  rw [← hv0] at t0
  rw [← hv9] at t9
  have x0 := ext_cell p0
  have x1' := ext_cell e1
  have x3 := ext_cell e3
  have y0 := ext_cell g0
  have y9 := ext_cell g9
  have z0 := ext_cell t0
  have z9 := ext_cell t9
  have hbx : ∀ z : Ext W2, Below w.heap.size w (ext W2 z) := fun z => HB2.out.trans ((ext_below z).mono HB2.out.size)
  have k1 : ∀ z : Ext W2, Calls Tryd.prog 50 #[.slice V vn vc, .int .i64 (y : Int), .int .i64 v0] (ext W2 z) fun e w'' => e = .returned (.bool fw) ∧ ∃ y, w'' = ext W2 y := fun z => ext_call (by rw [hv0, hi0]; exact CW.out _ (hbx z))
  have k2 : ∀ z : Ext W2, Calls Tryd.prog 50 #[.slice E en ec, .int .i64 (y : Int), .int .i64 v9] (ext W2 z) fun e w'' => e = .returned (.bool fe) ∧ ∃ y, w'' = ext W2 y := fun z => ext_call (by rw [hv9, hi9]; exact CE.out _ (hbx z))
  have hm0 : i0 < m := by rw [HM.out]; exact hl0
  have hm9 : i9 < m := by rw [HM.out]; exact hl9
  have hwr : IntKind.i64.wrap ((wd : Int) - 1) = (wd : Int) - 1 := IntWalk.i64_in _ (by omega)
  have hnt : ((wd : Int) - 1).toNat = wd - 1 := by omega
  have hwn2 : (0 : Int) ≤ (wd : Int) - 1 := by omega
  have hwn3 : (wd : Int) - 1 < (wd : Int) := by omega
  clear hi0 hi9 hv0 hv9 hl0 hl9 hbx g0 g9 t0 t9 e0 e1 e2 e3
  go_enter Tryd.func30, Tryd.ntmps30
  go_wp2_with fail
  rw [← HW2.out]
  clear p0
  cases fw
  · have hres2 : res = false := by
      cases res
      · rfl
      · exact absurd (HADM.out.1 rfl).1.1 (by simp)
    subst hres2
    refine wp_region_ext (by kernel_rfl) (by kernel_rfl) ?_
    repeat (go_big_quiet_step (first | (go_at_call 50; with_reducible exact k1 _) | (go_at_call 50; with_reducible exact k2 _)))
    refine wpQuiet_nil ?_
    intro _ hw'
    obtain ⟨xq, rfl⟩ := hw'
    obtain ⟨W4, hbW4, heW4⟩ : ∃ W4, Below W2.heap.size W2 W4 ∧ ext W2 xq = W4 := ⟨_, ext_below _, rfl⟩
    rw [heW4]
    clear heW4 xq k1 k2 x0 x1' x3 y0 y9 z0 z9
    go_wp2_with fail
    go_ret
    exact ⟨rfl, HB2.out.trans (hbW4.mono HB2.out.size)⟩
  refine wp_region_ext (by kernel_rfl) (by kernel_rfl) ?_
  repeat (go_big_quiet_step (first | (go_at_call 50; with_reducible exact k1 _) | (go_at_call 50; with_reducible exact k2 _)))
  refine wpQuiet_nil ?_
  intro _ hw'
  obtain ⟨xq, rfl⟩ := hw'
  obtain ⟨W4, hbW4, heW4⟩ : ∃ W4, Below W2.heap.size W2 W4 ∧ ext W2 xq = W4 := ⟨_, ext_below _, rfl⟩
  rw [heW4]
  have HB4 := Lib.hid hbW4
  clear heW4 xq k1 k2 x0 x1' x3 y0 y9 z0 z9 hbW4 hm0 hm9
  cases fe
  · have hres2 : res = false := by
      cases res
      · rfl
      · exact absurd (HADM.out.1 rfl).1.2 (by simp)
    subst hres2
    go_wp2_with fail
    go_ret
    exact ⟨rfl, HB2.out.trans (HB4.out.mono HB2.out.size)⟩
  go_wp2_with fail
  go_loopw [12] (fun i wr => ∃ j : Nat, j ≤ wd ∧ i = .int .i64 j ∧ Hid (∀ x, x < j → okx s d h y r x) ∧ Hid (Below W2.heap.size W2 wr)) (fun i _ => wd - (intOf i).toNat)
  case atStart => exact ⟨0, Nat.zero_le _, rfl, fun x hx => by omega, HB4⟩
  case round =>
    clear HB4
    obtain ⟨j, hj, rfl, hokj, hbj⟩ := hrel
    obtain ⟨wi, rfl⟩ : ∃ wi : World, wi = wr := ⟨_, rfl⟩
    have hbw : Below w.heap.size w wi := HB2.out.trans (hbj.out.mono HB2.out.size)
    have HBW := Lib.hid hbw
    clear hbw
    by_cases hlt : j < wd
    · obtain ⟨p0, -, -, -⟩ := zcells ((hbj.out.block w.heap.size (by omega)).trans HP2.out)
      obtain ⟨e0, e1, e2, e3⟩ := zc4c ((hbj.out.block (w.heap.size + 1) (by omega)).trans HE2.out)
      obtain ⟨i0, hi0⟩ : ∃ i0, i0 = r.getD j 0 := ⟨_, rfl⟩
      have g0 := HRC.out wi HBW.out j hlt
      have hl0 := HIX.out j hlt
      rw [← hi0] at g0 hl0
      obtain ⟨t0, t1, t2, t3⟩ := HSC.out wi HBW.out i0 hl0
      obtain ⟨t, ht⟩ : ∃ t, t = ti s i0 := ⟨_, rfl⟩
      rw [← ht] at t0 t1 t2 t3
      obtain ⟨bS, hbS⟩ : ∃ bS, cond1 d.s j (ti s (r.getD j 0)).s = bS := ⟨_, rfl⟩
      obtain ⟨bN, hbN⟩ : ∃ bN, cond1 d.n j (ti s (r.getD j 0)).n = bN := ⟨_, rfl⟩
      have c1 := fun W hb => CS.out W j bS hb hlt hbS
      have c2 := fun W hb => CN.out W j bN hb hlt hbN
      rw [← hi0, ← ht] at c1 c2
      have hox : Hid (okx s d h y r j ↔ (y = 0 → bS = true) ∧ (y + 1 = h → bN = true)) := by show _ ↔ _; unfold okx; rw [hbS, hbN]
      have hm0 : i0 < m := by rw [HM.out]; exact hl0
      have hj0 : (0 : Int) ≤ (j : Int) := by omega
      have hjw : (j : Int) < (wd : Int) := by omega
      have C1 := Lib.hid c1
      have C2 := Lib.hid c2
      have hlw : w.heap.size < wi.heap.size := by have := hbj.out.size; omega
      have hlw1 : w.heap.size + 1 < wi.heap.size := by have := hbj.out.size; omega
      have hwh : IntKind.i64.wrap ((h : Int) - 1) = (h : Int) - 1 := IntWalk.i64_in _ (by omega)
      clear hi0 ht hl0 hbS hbN c1 c2
      obtain ⟨W5, hW5⟩ : ∃ W5, W5 = wi.alloc (.cells #[.int .i64 t.n, .int .i64 t.e, .int .i64 t.s, .int .i64 t.w] 73) := ⟨_, rfl⟩
      have hb5 : Below wi.heap.size wi W5 := by rw [hW5]; exact be_alloc (Below.refl _ _) _
      have hbw5 : Below w.heap.size w W5 := HBW.out.trans (hb5.mono HBW.out.size)
      have hbj5 : Below W2.heap.size W2 W5 := hbj.out.trans (hb5.mono hbj.out.size)
      have HW5 := Lib.hid hW5
      have HBW5 := Lib.hid hbw5
      have HBJ5 := Lib.hid hbj5
      have hl5 : wi.heap.size < W5.heap.size := by rw [hW5]; simp
      have hT5 : W5.heap[wi.heap.size]? = some (.cells #[.int .i64 t.n, .int .i64 t.e, .int .i64 t.s, .int .i64 t.w] 73 (0, 0)) := by rw [hW5]; exact heap_at _ _ _ rfl
      have HT5 := Lib.hid hT5
      clear hW5 hb5 hbw5 hbj5 hT5
      by_cases hy0 : y = 0
      · have dy : ((y : Int) == 0) = true := by rw [beq_iff_eq]; omega
        have hyx := Lib.hid hy0
        clear hy0
        go_wp2_with fail
        rw [← HW5.out]
        refine (C1.out _ HBW5.out).mono ?_
        rintro e6 w6 ⟨rfl, hb6⟩
        have hbw6 : Below w.heap.size w w6 := HBW5.out.trans (hb6.mono HBW5.out.size)
        have HJ : Hid (Below W2.heap.size W2 w6) := HBJ5.out.trans (hb6.mono HBJ5.out.size)
        cases bS
        ·
          have hres2 : res = false := by
            cases res
            · rfl
            · exact absurd (hox.out.1 ((HADM.out.1 rfl).2 j hlt)) (fun hh => by have := hh.1 hyx.out; simp at this)
          subst hres2
          go_wp2_with fail
          go_ret
          exact ⟨rfl, hbw6⟩
        · by_cases hyh : y + 1 = h
          · have dh : ((y : Int) == (h : Int) - 1) = true := by rw [beq_iff_eq]; omega
            obtain ⟨s0, s1, s2, s3⟩ := zc4c ((hb6.block wi.heap.size hl5).trans HT5.out)
            have hE6 := (hb6.block (w.heap.size + 1) (Nat.lt_trans hlw1 hl5)).trans ((show W5.heap[w.heap.size + 1]? = some (.cells #[.slice N nn nc, .slice E en ec, .slice U un uc, .slice V vn vc] 25 (0, 0)) from (by rw [HW5.out]; exact heap_kp ((hbj.out.block (w.heap.size + 1) (by omega)).trans HE2.out) _)))
            obtain ⟨f0, f1, f2, f3⟩ := zc4c hE6
            have HBW6 := Lib.hid hbw6
            have hyhx := Lib.hid hyh
            clear hE6 p0 e0 e1 e2 e3 g0 t0 t1 t2 t3 hb6 hbw6 hyh
            go_wp2_with fail
            refine (C2.out _ HBW6.out).mono ?_
            rintro e7 w7 ⟨rfl, hb7⟩
            have hbN6 : Below w.heap.size w w7 := HBW6.out.trans (hb7.mono HBW6.out.size)
            have hyh := hyhx.out
            cases bN
            ·
              have hres2 : res = false := by
                cases res
                · rfl
                · exact absurd (hox.out.1 ((HADM.out.1 rfl).2 j hlt)) (fun hh => by have := hh.2 hyhx.out; simp at this)
              subst hres2
              go_wp2_with fail
              go_ret
              exact ⟨rfl, hbN6⟩
            ·
              clear hyh
              have HOK : Hid (∀ x, x < j + 1 → okx s d h y r x) := fun x hx => by
                rcases Nat.lt_or_ge x j with h1 | h1
                · exact hokj.out x h1
                · obtain rfl : x = j := by omega
                  exact hox.out.2 ⟨fun _ => by simp, fun _ => by simp⟩
              have HBF : Hid (Below W2.heap.size W2 w7) := HJ.out.trans (hb7.mono HJ.out.size)
              clear hokj hox HADM C1 C2 HT5
              go_wp2_with fail
              go_roundw
              case rel => exact ⟨j + 1, by omega, by go_num, HOK, HBF⟩
              case measure => simp [intOf]; omega
          · have dh : ((y : Int) == (h : Int) - 1) = false := by rw [beq_eq_false_iff_ne]; omega
            have hyhx := Lib.hid hyh
            clear hyh p0 e0 e1 e2 e3 g0 t0 t1 t2 t3 hb6 hbw6
            have HOK : Hid (∀ x, x < j + 1 → okx s d h y r x) := fun x hx => by
              rcases Nat.lt_or_ge x j with h1 | h1
              · exact hokj.out x h1
              · obtain rfl : x = j := by omega
                exact hox.out.2 ⟨fun _ => by simp, fun hh => absurd hh hyhx.out⟩
            have HBF : Hid (Below W2.heap.size W2 w6) := HJ.out
            clear hokj hox HADM C1 C2 HT5
            go_wp2_with fail
            go_roundw
            case rel => exact ⟨j + 1, by omega, by go_num, HOK, HBF⟩
            case measure => simp [intOf]; omega
      · have dy : ((y : Int) == 0) = false := by rw [beq_eq_false_iff_ne]; omega
        have hyx := Lib.hid hy0
        by_cases hyh : y + 1 = h
        · have dh : ((y : Int) == (h : Int) - 1) = true := by rw [beq_iff_eq]; omega
          have hyhx := Lib.hid hyh
          clear hyh hy0
          go_wp2_with fail
          rw [← HW5.out]
          refine (C2.out _ HBW5.out).mono ?_
          rintro e7 w7 ⟨rfl, hb7⟩
          have hbN6 : Below w.heap.size w w7 := HBW5.out.trans (hb7.mono HBW5.out.size)
          cases bN
          ·
            have hres2 : res = false := by
              cases res
              · rfl
              · exact absurd (hox.out.1 ((HADM.out.1 rfl).2 j hlt)) (fun hh => by have := hh.2 hyhx.out; simp at this)
            subst hres2
            go_wp2_with fail
            go_ret
            exact ⟨rfl, hbN6⟩
          ·
            have HOK : Hid (∀ x, x < j + 1 → okx s d h y r x) := fun x hx => by
              rcases Nat.lt_or_ge x j with h1 | h1
              · exact hokj.out x h1
              · obtain rfl : x = j := by omega
                exact hox.out.2 ⟨fun hh => absurd hh hyx.out, fun _ => by simp⟩
            have HBF : Hid (Below W2.heap.size W2 w7) := HBJ5.out.trans (hb7.mono HBJ5.out.size)
            clear hokj hox HADM C1 C2 HT5
            go_wp2_with fail
            go_roundw
            case rel => exact ⟨j + 1, by omega, by go_num, HOK, HBF⟩
            case measure => simp [intOf]; omega
        · have dh : ((y : Int) == (h : Int) - 1) = false := by rw [beq_eq_false_iff_ne]; omega
          have hyhx := Lib.hid hyh
          clear hyh hy0
          have HBF0 : Hid (Below W2.heap.size W2 (wi.alloc (.cells #[.int .i64 t.n, .int .i64 t.e, .int .i64 t.s, .int .i64 t.w] 73))) := by show RowKit.Below _ _ _; rw [← HW5.out]; exact HBJ5.out
          have HOK : Hid (∀ x, x < j + 1 → okx s d h y r x) := fun x hx => by
            rcases Nat.lt_or_ge x j with h1 | h1
            · exact hokj.out x h1
            · obtain rfl : x = j := by omega
              exact hox.out.2 ⟨fun hh => absurd hh hyx.out, fun hh => absurd hh hyhx.out⟩
          have HBF : Hid (Below W2.heap.size W2 (wi.alloc (.cells #[.int .i64 t.n, .int .i64 t.e, .int .i64 t.s, .int .i64 t.w] 73))) := HBF0
          clear hokj hox HADM C1 C2 HT5
          go_wp2_with fail
          go_roundw
          case rel => exact ⟨j + 1, by omega, by go_num, HOK, HBF⟩
          case measure => simp [intOf]; omega
    · have hje : j = wd := by omega
      subst hje
      have hres2 : res = true := HADM.out.2 ⟨by simp, hokj.out⟩
      subst hres2
      go_wp2_with fail
      go_ret
      exact ⟨rfl, HBW.out⟩
end Go.Proofs.YtfepgemopcpgmaaDoor

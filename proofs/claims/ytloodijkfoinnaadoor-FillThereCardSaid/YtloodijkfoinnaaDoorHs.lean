/-
  groutworkref02: has, Has, of a pattern that has these edges.
-/
import Derived.Test.YtloodijkfoinnaaDoorSl
import Derived.Test.YtloodijkfoinnaaDoorRa
import Derived.Test.YtloodijkfoinnaaDoorEt
import Derived.Test.YtloodijkfoinnaaDoorSo
namespace Go.Proofs.YtloodijkfoinnaaDoor
open Go.RowKit Go.Maps Go.BigFrame
set_option linter.unusedVariables false
set_option linter.unusedSimpArgs false
set_option maxRecDepth 100000

theorem rhas1_any (l : List Int) (A : Option Addr) (n c k : Nat) (v : Int) (w : World) (hn : n = l.length) (hl : n ≤ 9223372036854775807) (hI : IntsIn w w.heap.size A l) (hk : l = [] ∨ (k < l.length ∧ l.getD k 0 = v)) :
    Calls Tryd.prog 38 #[.slice A n c, .int .i64 (k : Int), .int .i64 v] w fun e w' => e = .returned (.bool true) ∧ Below w.heap.size w w' := by
  by_cases h0 : n = 0
  · subst h0
    clear hn hI hk
    go_enter Tryd.func38, Tryd.ntmps38
    go_wp2_with fail
    go_ret
    exact ⟨rfl, Below.refl _ _⟩
  · obtain ⟨h1, h2⟩ := hk.resolve_left (fun e => h0 (by rw [hn, e]; rfl))
    obtain ⟨b, off, rfl, hb, hc⟩ := hI (ne_nil_of_lt h1)
    have hcell := hc k h1
    rw [h2] at hcell
    have hkn : k < n := by omega
    have hd0 : ((n : Int) == 0) = false := by rw [beq_eq_false_iff_ne]; omega
    clear hc h1 h2 hn hI hk
    go_enter Tryd.func38, Tryd.ntmps38
    go_wp2_with fail
    go_ret
    exact ⟨by simp, Below.refl _ _⟩
theorem zcells4' {w : World} {q : Nat} {a b c d : Value} {t : TypeId} (h : w.heap[q]? = some (.cells #[a, b, c, d] t (0, 0))) : w.cell? ⟨q, 0, none⟩ = some a ∧ w.cell? ⟨q, 1, none⟩ = some b ∧ w.cell? ⟨q, 2, none⟩ = some c ∧ w.cell? ⟨q, 3, none⟩ = some d ∧ ∀ o, w.frozen? ⟨q, o, none⟩ = false := by
  refine ⟨?_, ?_, ?_, ?_, fun o => ?_⟩ <;> simp [World.cell?, World.frozen?, h]
theorem side_at {l : List Int} {n x : Nat} {P : Nat → Int} (hl : l = [] ∨ l.length = n) (h : l = [] ∨ ∀ x, x < n → P x = l.getD x 0) (hx : x < n) : l = [] ∨ (x < l.length ∧ l.getD x 0 = P x) := by
  rcases hl with e | e
  · exact Or.inl e
  · rcases h with h | h
    · exact Or.inl h
    · exact Or.inr ⟨by omega, (h x hx).symm⟩
set_option maxHeartbeats 8000000 in
theorem rHas_any (s : List Tl) (S : Option Addr) (m sc a b : Nat) (cs : List Int) (A : Option Addr) (n c : Nat) (d : Ed) (N E U V : Option Addr) (nc ec uc vc : Nat) (T : List (List Nat)) (w : World) (hm : m = s.length) (hml : m ≤ 1000) (hS : SetIn w w.heap.size S s)
    (ha1 : 1 ≤ a) (hb1 : 1 ≤ b) (hab : a * b ≤ 40000) (hl : cs.length = a * b) (hn : n = cs.length) (hP : IntsIn w w.heap.size A cs) (hE : EdIn w w.heap.size N E U V d) (hd : EdOk a b d) (hg : Good s a b d (cl T)) (hc : ∀ x y, x < a → y < b → cel ⟨a, b, cs⟩ x y = (cl T x y : Nat)) :
    Calls Tryd.prog 20 #[.slice S m sc, .agg #[.int .i64 (a : Int), .int .i64 (b : Int), .slice A n c], .agg #[.slice N d.n.length nc, .slice E d.e.length ec, .slice U d.s.length uc, .slice V d.w.length vc]] w fun e w' => e = .returned (.bool true) ∧ Below w.heap.size w w' := by
  obtain ⟨nn, hnn⟩ : ∃ nn, nn = d.n.length := ⟨_, rfl⟩
  obtain ⟨en, hen⟩ : ∃ en, en = d.e.length := ⟨_, rfl⟩
  obtain ⟨un, hun⟩ : ∃ un, un = d.s.length := ⟨_, rfl⟩
  obtain ⟨vn, hvn⟩ : ∃ vn, vn = d.w.length := ⟨_, rfl⟩
  have haL : a ≤ a * b := Nat.le_mul_of_pos_right a (by omega)
  have hbL : b ≤ a * b := Nat.le_mul_of_pos_left b (by omega)
  have hnn9 : nn ≤ 40000 := by rw [hnn]; rcases hd.1 with e | e <;> rw [e] <;> first | (simp; done) | omega
  have hen9 : en ≤ 40000 := by rw [hen]; rcases hd.2.1 with e | e <;> rw [e] <;> first | (simp; done) | omega
  have hun9 : un ≤ 40000 := by rw [hun]; rcases hd.2.2.1 with e | e <;> rw [e] <;> first | (simp; done) | omega
  have hvn9 : vn ≤ 40000 := by rw [hvn]; rcases hd.2.2.2 with e | e <;> rw [e] <;> first | (simp; done) | omega
  obtain ⟨W2, hW2⟩ : ∃ W2, W2 = (w.alloc (.cells #[.int .i64 (a : Int), .int .i64 (b : Int), .slice A n c] 36)).alloc (.cells #[.slice N nn nc, .slice E en ec, .slice U un uc, .slice V vn vc] 25) := ⟨_, rfl⟩
  have hb2 : Below w.heap.size w W2 := by rw [hW2]; exact below_two w _ _
  have hz2 : W2.heap.size = w.heap.size + 2 := by rw [hW2]; simp
  have hp2 : W2.heap[w.heap.size]? = some (.cells #[.int .i64 (a : Int), .int .i64 (b : Int), .slice A n c] 36 (0, 0)) := by rw [hW2]; exact heap_kp (heap_alloc_new w _) _
  have he2 : W2.heap[w.heap.size + 1]? = some (.cells #[.slice N nn nc, .slice E en ec, .slice U un uc, .slice V vn vc] 25 (0, 0)) := by
    rw [hW2]
    have := heap_alloc_new (w.alloc (.cells #[.int .i64 (a : Int), .int .i64 (b : Int), .slice A n c] 36)) (.cells #[.slice N nn nc, .slice E en ec, .slice U un uc, .slice V vn vc] 25)
    simpa using this
  have cC : ∀ (W : World) (x y : Nat) (X Y : Int), Below w.heap.size w W → X = x → Y = y → x < a → y < b → Calls Tryd.prog 21 #[.agg #[.int .i64 (a : Int), .int .i64 (b : Int), .slice A n c], .int .i64 X, .int .i64 Y] W fun e w' => e = .returned (.int .i64 ((cl T x y : Nat) : Int)) ∧ Below W.heap.size W w' := fun W x y X Y hb hX hY hx hy =>
    rcell_any a b cs A n c X Y _ x y W hX hY (hc x y hx hy).symm hx hy hab hl hn (hP.keep hb hb.size)
  have cS : ∀ (W : World) (x : Nat), Below w.heap.size w W → x < a → Calls Tryd.prog 38 #[.slice U un uc, .int .i64 (x : Int), .int .i64 (ti s (cl T x 0)).s] W fun e w' => e = .returned (.bool true) ∧ Below W.heap.size W w' := fun W x hb hx =>
    rhas1_any d.s U un uc x _ W hun (by omega) (hE.s.keep hb hb.size) (side_at (P := fun x => (ti s (cl T x 0)).s) hd.2.2.1 hg.so hx)
  have cN : ∀ (W : World) (x : Nat), Below w.heap.size w W → x < a → Calls Tryd.prog 38 #[.slice N nn nc, .int .i64 (x : Int), .int .i64 (ti s (cl T x (b - 1))).n] W fun e w' => e = .returned (.bool true) ∧ Below W.heap.size W w' := fun W x hb hx =>
    rhas1_any d.n N nn nc x _ W hnn (by omega) (hE.n.keep hb hb.size) (side_at (P := fun x => (ti s (cl T x (b - 1))).n) hd.1 hg.no hx)
  have cW : ∀ (W : World) (y : Nat), Below w.heap.size w W → y < b → Calls Tryd.prog 38 #[.slice V vn vc, .int .i64 (y : Int), .int .i64 (ti s (cl T 0 y)).w] W fun e w' => e = .returned (.bool true) ∧ Below W.heap.size W w' := fun W y hb hy =>
    rhas1_any d.w V vn vc y _ W hvn (by omega) (hE.w.keep hb hb.size) (side_at (P := fun y => (ti s (cl T 0 y)).w) hd.2.2.2 hg.we hy)
  have cE : ∀ (W : World) (y : Nat), Below w.heap.size w W → y < b → Calls Tryd.prog 38 #[.slice E en ec, .int .i64 (y : Int), .int .i64 (ti s (cl T (a - 1) y)).e] W fun e w' => e = .returned (.bool true) ∧ Below W.heap.size W w' := fun W y hb hy =>
    rhas1_any d.e E en ec y _ W hen (by omega) (hE.e.keep hb hb.size) (side_at (P := fun y => (ti s (cl T (a - 1) y)).e) hd.2.1 hg.ea hy)
  have hidx : ∀ x y, x < a → y < b → cl T x y < s.length := fun x y => hg.idx x y
  have HW2 := Lib.hid hW2
  have HB2 := Lib.hid hb2
  have HP2 := Lib.hid hp2
  have HE2 := Lib.hid he2
  have HM := Lib.hid hm
  have HIX := Lib.hid hidx
  have CC := Lib.hid cC
  have CS := Lib.hid cS
  have CN := Lib.hid cN
  have CW := Lib.hid cW
  have CE := Lib.hid cE
  have HS := Lib.hid hS
  rw [← hnn, ← hen, ← hun, ← hvn]
  clear hm hS hP hE hd hg hc hl hn hnn hen hun hvn hW2 hb2 hp2 he2 cC cS cN cW cE hidx
  go_enter Tryd.func20, Tryd.ntmps20
  go_wp2_with fail
  rw [← HW2.out]
  go_loopw [7] (fun i wr => ∃ j : Nat, j ≤ a ∧ i = .int .i64 j ∧ Hid (Below W2.heap.size W2 wr)) (fun i _ => a - (intOf i).toNat)
  case atStart => exact ⟨0, Nat.zero_le _, rfl, Below.refl _ _⟩
  case round =>
    obtain ⟨j, hj, rfl, hbj⟩ := hrel
    obtain ⟨wi, rfl⟩ : ∃ wi : World, wi = wr := ⟨_, rfl⟩
    have hbw : Below w.heap.size w wi := HB2.out.trans (hbj.out.mono HB2.out.size)
    obtain ⟨p0, p1, p2, -⟩ := zcells ((hbj.out.block w.heap.size (by omega)).trans HP2.out)
    obtain ⟨e0, e1, e2, e3, -⟩ := zcells4' ((hbj.out.block (w.heap.size + 1) (by omega)).trans HE2.out)
    by_cases hlt : j < a
    · obtain ⟨i1, hi1⟩ : ∃ i1, i1 = cl T j 0 := ⟨_, rfl⟩
      obtain ⟨i2, hi2⟩ : ∃ i2, i2 = cl T j (b - 1) := ⟨_, rfl⟩
      have hl1 := HIX.out j 0 hlt (by omega)
      have hl2 := HIX.out j (b - 1) hlt (by omega)
      rw [← hi1] at hl1
      rw [← hi2] at hl2
      obtain ⟨sb, so, rfl, hsb, -, -, c2, -⟩ := set_at HS.out hbw hl1
      obtain ⟨sb', so', hsame, hsb', d0, -, -, -⟩ := set_at HS.out hbw hl2
      obtain ⟨rfl, rfl⟩ : sb = sb' ∧ so = so' := by simpa using hsame
      obtain ⟨u1, hu1⟩ : ∃ u1, u1 = (ti s i1).s := ⟨_, rfl⟩
      obtain ⟨u2, hu2⟩ : ∃ u2, u2 = (ti s i2).n := ⟨_, rfl⟩
      have c2' : wi.cell? ⟨sb, so + i1 * 4 + 2, none⟩ = some (.int .i64 u1) := by rw [hu1]; exact c2
      have d0' : wi.cell? ⟨sb, so + i2 * 4, none⟩ = some (.int .i64 u2) := by rw [hu2]; exact d0
      have f1 := ext_cell c2'
      have f2 := ext_cell d0'
      have g0 := ext_cell p0
      have g1 := ext_cell p1
      have g2 := ext_cell p2
      have h0 := ext_cell e0
      have h2 := ext_cell e2
      have hbx : ∀ z : Ext wi, Below w.heap.size w (ext wi z) := fun z => hbw.trans ((ext_below z).mono hbw.size)
      have k1 : ∀ z : Ext wi, Calls Tryd.prog 21 #[.agg #[.int .i64 (a : Int), .int .i64 (b : Int), .slice A n c], .int .i64 (j : Int), .int .i64 0] (ext wi z) fun e w'' => e = .returned (.int .i64 (i1 : Int)) ∧ ∃ y, w'' = ext wi y := fun z => ext_call (by rw [hi1]; exact CC.out _ j 0 _ _ (hbx z) rfl rfl hlt (by omega))
      have k2 : ∀ z : Ext wi, Calls Tryd.prog 21 #[.agg #[.int .i64 (a : Int), .int .i64 (b : Int), .slice A n c], .int .i64 (j : Int), .int .i64 ((b : Int) - 1)] (ext wi z) fun e w'' => e = .returned (.int .i64 (i2 : Int)) ∧ ∃ y, w'' = ext wi y := fun z => ext_call (by rw [hi2]; exact CC.out _ j (b - 1) _ _ (hbx z) rfl (by omega) hlt (by omega))
      have k3 : ∀ z : Ext wi, Calls Tryd.prog 38 #[.slice U un uc, .int .i64 (j : Int), .int .i64 u1] (ext wi z) fun e w'' => e = .returned (.bool true) ∧ ∃ y, w'' = ext wi y := fun z => ext_call (by rw [hu1, hi1]; exact CS.out _ j (hbx z) hlt)
      have k4 : ∀ z : Ext wi, Calls Tryd.prog 38 #[.slice N nn nc, .int .i64 (j : Int), .int .i64 u2] (ext wi z) fun e w'' => e = .returned (.bool true) ∧ ∃ y, w'' = ext wi y := fun z => ext_call (by rw [hu2, hi2]; exact CN.out _ j (hbx z) hlt)
      have hm1 : i1 < m := by rw [HM.out]; exact hl1
      have hm2 : i2 < m := by rw [HM.out]; exact hl2
      clear hi1 hi2 hu1 hu2 hl1 hl2 c2 d0 hsame hsb' hbx c2' d0' e0 e1 e2 e3
      go_wp2_with fail
      clear p0 p1 p2
      refine wp_region_ext (by kernel_rfl) (by kernel_rfl) ?_
      repeat (go_big_quiet_step (first | (go_at_call 21; with_reducible exact k1 _) | (go_at_call 21; with_reducible exact k2 _) | (go_at_call 38; with_reducible exact k3 _) | (go_at_call 38; with_reducible exact k4 _)))
      refine wpQuiet_nil ?_
      intro _ hw'
      obtain ⟨xq, rfl⟩ := hw'
      obtain ⟨W4, hbW4, heW4⟩ : ∃ W4, Below wi.heap.size wi W4 ∧ ext wi xq = W4 := ⟨_, ext_below _, rfl⟩
      rw [heW4]
      clear heW4 xq k1 k2 k3 k4 f1 f2 g0 g1 g2 h0 h2
      have hb4 : Hid (Below W2.heap.size W2 W4) := hbj.out.trans (hbW4.mono hbj.out.size)
      go_wp2_with fail
      go_roundw
      case rel => exact ⟨j + 1, by omega, by go_num, hb4⟩
      case measure => simp [intOf]; omega
    · clear e0 e1 e2 e3
      go_wp2_with fail
      clear p0 p1 p2
      go_loopw [8] (fun i wr => ∃ j : Nat, j ≤ b ∧ i = .int .i64 j ∧ Hid (Below W2.heap.size W2 wr)) (fun i _ => b - (intOf i).toNat)
      case atStart => exact ⟨0, Nat.zero_le _, rfl, hbj⟩
      case round =>
        clear hbw hbj hj hlt
        obtain ⟨j, hj, rfl, hbj⟩ := hrel
        obtain ⟨wi, rfl⟩ : ∃ wi : World, wi = wr := ⟨_, rfl⟩
        have hbw : Below w.heap.size w wi := HB2.out.trans (hbj.out.mono HB2.out.size)
        obtain ⟨p0, p1, p2, -⟩ := zcells ((hbj.out.block w.heap.size (by omega)).trans HP2.out)
        obtain ⟨e0, e1, e2, e3, -⟩ := zcells4' ((hbj.out.block (w.heap.size + 1) (by omega)).trans HE2.out)
        by_cases hlt : j < b
        · obtain ⟨i1, hi1⟩ : ∃ i1, i1 = cl T 0 j := ⟨_, rfl⟩
          obtain ⟨i2, hi2⟩ : ∃ i2, i2 = cl T (a - 1) j := ⟨_, rfl⟩
          have hl1 := HIX.out 0 j (by omega) hlt
          have hl2 := HIX.out (a - 1) j (by omega) hlt
          rw [← hi1] at hl1
          rw [← hi2] at hl2
          obtain ⟨sb, so, rfl, hsb, -, -, -, c3⟩ := set_at HS.out hbw hl1
          obtain ⟨sb', so', hsame, hsb', -, d1, -, -⟩ := set_at HS.out hbw hl2
          obtain ⟨rfl, rfl⟩ : sb = sb' ∧ so = so' := by simpa using hsame
          obtain ⟨u1, hu1⟩ : ∃ u1, u1 = (ti s i1).w := ⟨_, rfl⟩
          obtain ⟨u2, hu2⟩ : ∃ u2, u2 = (ti s i2).e := ⟨_, rfl⟩
          have c3' : wi.cell? ⟨sb, so + i1 * 4 + 3, none⟩ = some (.int .i64 u1) := by rw [hu1]; exact c3
          have d1' : wi.cell? ⟨sb, so + i2 * 4 + 1, none⟩ = some (.int .i64 u2) := by rw [hu2]; exact d1
          have f1 := ext_cell c3'
          have f2 := ext_cell d1'
          have g0 := ext_cell p0
          have g1 := ext_cell p1
          have g2 := ext_cell p2
          have h1 := ext_cell e1
          have h3 := ext_cell e3
          have hbx : ∀ z : Ext wi, Below w.heap.size w (ext wi z) := fun z => hbw.trans ((ext_below z).mono hbw.size)
          have k1 : ∀ z : Ext wi, Calls Tryd.prog 21 #[.agg #[.int .i64 (a : Int), .int .i64 (b : Int), .slice A n c], .int .i64 0, .int .i64 (j : Int)] (ext wi z) fun e w'' => e = .returned (.int .i64 (i1 : Int)) ∧ ∃ y, w'' = ext wi y := fun z => ext_call (by rw [hi1]; exact CC.out _ 0 j _ _ (hbx z) rfl rfl (by omega) hlt)
          have k2 : ∀ z : Ext wi, Calls Tryd.prog 21 #[.agg #[.int .i64 (a : Int), .int .i64 (b : Int), .slice A n c], .int .i64 ((a : Int) - 1), .int .i64 (j : Int)] (ext wi z) fun e w'' => e = .returned (.int .i64 (i2 : Int)) ∧ ∃ y, w'' = ext wi y := fun z => ext_call (by rw [hi2]; exact CC.out _ (a - 1) j _ _ (hbx z) (by omega) rfl (by omega) hlt)
          have k3 : ∀ z : Ext wi, Calls Tryd.prog 38 #[.slice V vn vc, .int .i64 (j : Int), .int .i64 u1] (ext wi z) fun e w'' => e = .returned (.bool true) ∧ ∃ y, w'' = ext wi y := fun z => ext_call (by rw [hu1, hi1]; exact CW.out _ j (hbx z) hlt)
          have k4 : ∀ z : Ext wi, Calls Tryd.prog 38 #[.slice E en ec, .int .i64 (j : Int), .int .i64 u2] (ext wi z) fun e w'' => e = .returned (.bool true) ∧ ∃ y, w'' = ext wi y := fun z => ext_call (by rw [hu2, hi2]; exact CE.out _ j (hbx z) hlt)
          have hm1 : i1 < m := by rw [HM.out]; exact hl1
          have hm2 : i2 < m := by rw [HM.out]; exact hl2
          clear hi1 hi2 hu1 hu2 hl1 hl2 c3 d1 hsame hsb' hbx c3' d1' e0 e1 e2 e3
          go_wp2_with fail
          clear p0 p1 p2
          refine wp_region_ext (by kernel_rfl) (by kernel_rfl) ?_
          repeat (go_big_quiet_step (first | (go_at_call 21; with_reducible exact k1 _) | (go_at_call 21; with_reducible exact k2 _) | (go_at_call 38; with_reducible exact k3 _) | (go_at_call 38; with_reducible exact k4 _)))
          refine wpQuiet_nil ?_
          intro _ hw'
          obtain ⟨xq, rfl⟩ := hw'
          obtain ⟨W4, hbW4, heW4⟩ : ∃ W4, Below wi.heap.size wi W4 ∧ ext wi xq = W4 := ⟨_, ext_below _, rfl⟩
          rw [heW4]
          clear heW4 xq k1 k2 k3 k4 f1 f2 g0 g1 g2 h1 h3
          have hb4 : Hid (Below W2.heap.size W2 W4) := hbj.out.trans (hbW4.mono hbj.out.size)
          go_wp2_with fail
          go_roundw
          case rel => exact ⟨j + 1, by omega, by go_num, hb4⟩
          case measure => simp [intOf]; omega
        · clear e0 e1 e2 e3
          go_wp2_with fail
          go_ret
          exact ⟨rfl, hbw⟩
end Go.Proofs.YtloodijkfoinnaaDoor

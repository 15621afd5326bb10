/-
  tile.agrees: neighbours fit.
-/
import Derived.Test.YtgadfmknjpanpaaDoorAE
namespace Go.Proofs.YtgadfmknjpanpaaDoor
open Go.RowKit Go.Maps Go.BigFrame
set_option linter.unusedVariables false

def rowsOk (s : List Tl) (p : Pt) (cols rows : Int) (y : Nat) : Prop := ∀ y', y' < y → ∀ x, x < p.w.toNat → agrAt s p cols rows x y'
def rowOk (s : List Tl) (p : Pt) (cols rows : Int) (y x : Nat) : Prop := ∀ x', x' < x → agrAt s p cols rows x' y
theorem rowsOk_succ {s : List Tl} {p : Pt} {cols rows : Int} {y : Nat} (h : rowsOk s p cols rows y) (hr : rowOk s p cols rows y p.w.toNat) : rowsOk s p cols rows (y + 1) := fun y' hy x hx => by
  by_cases e : y' = y
  · subst e; exact hr x hx
  · exact h y' (by omega) x hx
theorem rowOk_succ {s : List Tl} {p : Pt} {cols rows : Int} {y x : Nat} (h : rowOk s p cols rows y x) (hr : agrAt s p cols rows x y) : rowOk s p cols rows y (x + 1) := fun x' hx => by
  by_cases e : x' = x
  · subst e; exact hr
  · exact h x' (by omega)
theorem agrs_bad {s : List Tl} {p : Pt} {cols rows : Int} (x y : Nat) (hx : x < p.w.toNat) (hy : y < p.h.toNat) (h : ¬ agrAt s p cols rows x y) : agrs s p cols rows = false := by
  rw [Bool.eq_false_iff]; intro ha; exact h (agrs_iff.1 ha y hy x hx)

set_option maxHeartbeats 4000000 in
theorem agrees_any (a b : Nat) (cs : List Int) (s : List Tl) (cols rows : Int) (A S : Option Addr) (c d : Nat) (w : World) (ha : 1 ≤ a) (hb : 1 ≤ b) (hab : a * b ≤ 40000) (hl : cs.length = a * b)
    (hr : refers s ⟨a, b, cs⟩ = true) (hS : SetIn w w.heap.size S s) (hP : IntsIn w w.heap.size A cs) (hm : s.length ≤ 9223372036854775807) :
    Calls Tryd.prog 42 #[.slice S s.length d, .agg #[.int .i64 (a : Int), .int .i64 (b : Int), .slice A cs.length c], .int .i64 cols, .int .i64 rows] w fun e w' =>
      e = .returned (.bool (agrs s ⟨a, b, cs⟩ cols rows)) ∧ Below w.heap.size w w' := by
  have hf : form ⟨a, b, cs⟩ = true := form_iff.2 ⟨by show (1 : Int) ≤ a; omega, by show (1 : Int) ≤ b; omega, by show (a : Int) * b ≤ 40000; rw [← Int.natCast_mul]; omega, by show (cs.length : Int) = (a : Int) * b; rw [hl, Int.natCast_mul]⟩
  have hin : ∀ x y : Nat, x < a → y < b → 0 ≤ cel ⟨a, b, cs⟩ x y ∧ cel ⟨a, b, cs⟩ x y < s.length := fun x y hx hy => refers_cel hf hr x y (by simpa using hx) (by simpa using hy)
  have hsb := (hin 0 0 (by omega) (by omega))
  obtain ⟨sb, so, rfl, hsl, hst⟩ := tl_cell hS hsb.1 hsb.2
  clear hsb
  have ha4 : a ≤ 40000 := by have := Nat.le_mul_of_pos_right a (show 0 < b by omega); omega
  have hb4 : b ≤ 40000 := by have := Nat.le_mul_of_pos_left b (show 0 < a by omega); omega
  obtain ⟨m, hm2⟩ : ∃ m, m = s.length := ⟨_, rfl⟩
  obtain ⟨n, hn2⟩ : ∃ n, n = cs.length := ⟨_, rfl⟩
  have hm3 : m ≤ 9223372036854775807 := by omega
  rw [← hm2, ← hn2]
  have HM := Lib.hid hm2
  have HN := Lib.hid hn2
  have HL := Lib.hid hl
  clear hm2 hn2 hl hm hf hr
  have HIN : Hid (∀ x y : Nat, x < a → y < b → 0 ≤ cel ⟨a, b, cs⟩ x y ∧ cel ⟨a, b, cs⟩ x y < m) := by rw [HM.out]; exact hin
  have HST : Hid (∀ u : Int, 0 ≤ u → u < (m : Int) →
    w.cell? ⟨sb, so + u.toNat * 4, none⟩ = some (.int .i64 (tl s u).n) ∧ w.cell? ⟨sb, so + u.toNat * 4 + 1, none⟩ = some (.int .i64 (tl s u).e) ∧
    w.cell? ⟨sb, so + u.toNat * 4 + 2, none⟩ = some (.int .i64 (tl s u).s) ∧ w.cell? ⟨sb, so + u.toNat * 4 + 3, none⟩ = some (.int .i64 (tl s u).w)) := by rw [HM.out]; exact hst
  clear hin hst hS
  have HP := Lib.hid hP
  clear hP
  go_enter Tryd.func42, Tryd.ntmps42
  go_wp2
  obtain ⟨W1, hW1⟩ : ∃ W1, W1 = w.alloc (.cells #[.int .i64 (a : Int), .int .i64 (b : Int), .slice A n c] 47) := ⟨_, rfl⟩
  have hz1 : W1.heap.size = w.heap.size + 1 := by rw [hW1]; simp
  have p0 : W1.cell? ⟨w.heap.size, 0, none⟩ = some (.int .i64 (a : Int)) := by rw [hW1]; simp
  have p1 : W1.cell? ⟨w.heap.size, 1, none⟩ = some (.int .i64 (b : Int)) := by rw [hW1]; simp
  have p2 : W1.cell? ⟨w.heap.size, 2, none⟩ = some (.slice A n c) := by rw [hW1]; simp
  have hb1 : Below w.heap.size w W1 := by rw [hW1]; exact (Below.refl _ _).alloc (Nat.le_refl _) _
  rw [← hW1]
  clear hW1
  have HZ := Lib.hid hz1
  have HP0 := Lib.hid p0
  have HP1 := Lib.hid p1
  have HP2 := Lib.hid p2
  clear hz1 p0 p1 p2
  go_loopw [14] (fun i wr => ∃ y : Nat, y ≤ b ∧ i = .int .i64 y ∧ Hid (rowsOk s ⟨a, b, cs⟩ cols rows y) ∧ Below W1.heap.size W1 wr) (fun i _ => b - (intOf i).toNat)
  case atStart => exact ⟨0, Nat.zero_le _, rfl, fun y' h => absurd h (by omega), Below.refl _ _⟩
  case round =>
    obtain ⟨y, hy, rfl, hrows, hbw⟩ := hrel
    obtain ⟨wo, rfl⟩ : ∃ wo : World, wo = wr := ⟨_, rfl⟩
    by_cases hlt : y < b
    · have q0 := (hbw.cell (p := ⟨w.heap.size, 0, none⟩) (by show w.heap.size < _; rw [HZ.out]; omega)).trans HP0.out
      go_wp2
      clear q0
      go_loopw [19] (fun i wr => ∃ x : Nat, x ≤ a ∧ i = .int .i64 x ∧ Hid (rowOk s ⟨a, b, cs⟩ cols rows y x) ∧ Below W1.heap.size W1 wr) (fun i _ => a - (intOf i).toNat)
      case atStart => exact ⟨0, Nat.zero_le _, rfl, fun x' h => absurd h (by omega), hbw⟩
      case round =>
        clear hbw
        obtain ⟨x, hx, rfl, hrow, hbr⟩ := hrel
        obtain ⟨wi, rfl⟩ : ∃ wi : World, wi = wr := ⟨_, rfl⟩
        by_cases hltx : x < a
        · have hw : Below w.heap.size w wi := hb1.trans (hbr.mono (by rw [HZ.out]; omega))
          obtain ⟨v0, hv0⟩ : ∃ v, v = cel ⟨a, b, cs⟩ x y := ⟨_, rfl⟩
          obtain ⟨v1, hv1⟩ : ∃ v, v = cel ⟨a, b, cs⟩ ((x + 1) % a) y := ⟨_, rfl⟩
          obtain ⟨v2, hv2⟩ : ∃ v, v = cel ⟨a, b, cs⟩ x ((y + 1) % b) := ⟨_, rfl⟩
          obtain ⟨a0, b0⟩ : 0 ≤ v0 ∧ v0 < (m : Int) := by rw [hv0]; exact HIN.out x y hltx hlt
          obtain ⟨a1, b1⟩ : 0 ≤ v1 ∧ v1 < (m : Int) := by rw [hv1]; exact HIN.out _ y (Nat.mod_lt _ (by omega)) hlt
          obtain ⟨a2, b2⟩ : 0 ≤ v2 ∧ v2 < (m : Int) := by rw [hv2]; exact HIN.out x _ hltx (Nat.mod_lt _ (by omega))
          obtain ⟨s0, s1, s2, s3⟩ := HST.out v0 a0 b0
          obtain ⟨-, -, -, z1⟩ := HST.out v1 a1 b1
          obtain ⟨-, -, z2, -⟩ := HST.out v2 a2 b2
          obtain ⟨n0, hn0⟩ : ∃ q, q = (tl s v0).n := ⟨_, rfl⟩
          obtain ⟨e0, he0⟩ : ∃ q, q = (tl s v0).e := ⟨_, rfl⟩
          obtain ⟨u0, hu0⟩ : ∃ q, q = (tl s v0).s := ⟨_, rfl⟩
          obtain ⟨r0, hr0⟩ : ∃ q, q = (tl s v0).w := ⟨_, rfl⟩
          obtain ⟨r1, hr1⟩ : ∃ q, q = (tl s v1).w := ⟨_, rfl⟩
          obtain ⟨u2, hu2⟩ : ∃ q, q = (tl s v2).s := ⟨_, rfl⟩
          have HAG : Hid (agrAt s ⟨a, b, cs⟩ cols rows x y ↔ ((x : Int) < cols → e0 = r1) ∧ ((y : Int) < rows → n0 = u2)) := by
            show _ ↔ _
            unfold agrAt
            rw [Int.toNat_natCast, Int.toNat_natCast, ← hv0, ← hv1, ← hv2, ← he0, ← hr1, ← hn0, ← hu2]
          have Hv0 : Hid (v0 = cel ⟨a, b, cs⟩ (x % a) (y % b)) := by rw [Nat.mod_eq_of_lt hltx, Nat.mod_eq_of_lt hlt]; exact hv0
          have Hv1 : Hid (v1 = cel ⟨a, b, cs⟩ ((x + 1) % a) (y % b)) := by rw [Nat.mod_eq_of_lt hlt]; exact hv1
          have Hv2 : Hid (v2 = cel ⟨a, b, cs⟩ (x % a) ((y + 1) % b)) := by rw [Nat.mod_eq_of_lt hltx]; exact hv2
          have HOK : Hid (((x : Int) < cols → e0 = r1) → ((y : Int) < rows → n0 = u2) → rowOk s ⟨a, b, cs⟩ cols rows y (x + 1)) := fun g1 g2 => rowOk_succ hrow.out (HAG.out.2 ⟨g1, g2⟩)
          have HBAD : Hid (¬ (((x : Int) < cols → e0 = r1) ∧ ((y : Int) < rows → n0 = u2)) → agrs s ⟨a, b, cs⟩ cols rows = false) := fun g => agrs_bad x y (by simpa using hltx) (by simpa using hlt) (fun h => g (HAG.out.1 h))
          rw [← hn0] at s0
          rw [← he0] at s1
          rw [← hu0] at s2
          rw [← hr0] at s3
          rw [← hr1] at z1
          rw [← hu2] at z2
          clear hn0 he0 hu0 hr0 hr1 hu2 hv0 hv1 hv2 HAG
          have t0 := (hw.cell (p := ⟨sb, so + v0.toNat * 4, none⟩) hsl).trans s0
          have t1 := (hw.cell (p := ⟨sb, so + v0.toNat * 4 + 1, none⟩) hsl).trans s1
          have t2 := (hw.cell (p := ⟨sb, so + v0.toNat * 4 + 2, none⟩) hsl).trans s2
          have t3 := (hw.cell (p := ⟨sb, so + v0.toNat * 4 + 3, none⟩) hsl).trans s3
          have y1 := (hw.cell (p := ⟨sb, so + v1.toNat * 4 + 3, none⟩) hsl).trans z1
          have y2 := (hw.cell (p := ⟨sb, so + v2.toNat * 4 + 2, none⟩) hsl).trans z2
          have q0 := (hbr.cell (p := ⟨w.heap.size, 0, none⟩) (by show w.heap.size < _; rw [HZ.out]; omega)).trans HP0.out
          have q1 := (hbr.cell (p := ⟨w.heap.size, 1, none⟩) (by show w.heap.size < _; rw [HZ.out]; omega)).trans HP1.out
          have q2 := (hbr.cell (p := ⟨w.heap.size, 2, none⟩) (by show w.heap.size < _; rw [HZ.out]; omega)).trans HP2.out
          have hsz : W1.heap.size ≤ wi.heap.size := hbr.size
          have hws : w.heap.size < wi.heap.size := by rw [HZ.out] at hsz; omega
          have hsw : sb < wi.heap.size := by omega
          clear s0 s1 s2 s3 z1 z2 hrow hsz
          go_wp2_with (go_at_call 53; refine (cell_pat a b cs A n c _ _ v0 x y _ rfl rfl Hv0.out ha hb hab HL.out HN.out (HP.out.keep hw hw.size)).mono ?_; rintro e w2 ⟨rfl, hb2⟩; obtain ⟨hc2, hf2⟩ := bcell hb2)
          obtain ⟨W3, hW3⟩ : ∃ W3, W3 = w2.alloc (.cells #[.int .i64 n0, .int .i64 e0, .int .i64 u0, .int .i64 r0] 53) := ⟨_, rfl⟩
          have hz2 : wi.heap.size ≤ w2.heap.size := hb2.size
          have hz3 : W3.heap.size = w2.heap.size + 1 := by rw [hW3]; simp
          have g0 : W3.cell? ⟨w2.heap.size, 0, none⟩ = some (.int .i64 n0) := by rw [hW3]; simp
          have g1 : W3.cell? ⟨w2.heap.size, 1, none⟩ = some (.int .i64 e0) := by rw [hW3]; simp
          have hb3 : Below wi.heap.size wi W3 := by rw [hW3]; exact hb2.alloc hz2 _
          rw [← hW3]
          clear hW3 hc2 hf2 t0 t1 t2 t3
          have q0' := (hb3.cell (p := ⟨w.heap.size, 0, none⟩) hws).trans q0
          have q1' := (hb3.cell (p := ⟨w.heap.size, 1, none⟩) hws).trans q1
          have q2' := (hb3.cell (p := ⟨w.heap.size, 2, none⟩) hws).trans q2
          have y1' := (hb3.cell (p := ⟨sb, so + v1.toNat * 4 + 3, none⟩) hsw).trans y1
          have y2' := (hb3.cell (p := ⟨sb, so + v2.toNat * 4 + 2, none⟩) hsw).trans y2
          have hwb3 : Below w.heap.size w W3 := hw.trans (hb3.mono (by omega))
          have hr3 : Below W1.heap.size W1 W3 := hbr.trans (hb3.mono hbr.size)
          have IW3 := Lib.hid (HP.out.keep hwb3 hwb3.size)
          clear q0 q1 q2 y1 y2
          have hsw3 : sb < W3.heap.size := by omega
          have hws3 : w.heap.size < W3.heap.size := by omega
          have hg3 : w2.heap.size < W3.heap.size := by omega
          have Z2 := Lib.hid hb2
          clear hb2 hz3
          by_cases h1 : (x : Int) < cols
          · have d1 : decide ((x : Int) < cols) = true := decide_eq_true h1
            by_cases k1 : e0 = r1
            · have j1 : (e0 == r1) = true := by simpa using k1
              have j2 : (e0 != r1) = false := by simpa using k1
              have G1 : (x : Int) < cols → e0 = r1 := fun _ => k1
              have HG1 := Lib.hid G1
              clear k1 G1
              have f1 := ext_cell g1
              have f2 := ext_cell q0'
              have f3 := ext_cell q1'
              have f4 := ext_cell q2'
              have f5 := ext_cell y1'
              refine wp_region_ext (by kernel_rfl) (by kernel_rfl) ?_
              repeat (go_big_quiet_step ((go_at_call 53; exact ext_call (cell_pat a b cs A n c _ _ v1 (x + 1) y _ (by omega) rfl Hv1.out ha hb hab HL.out HN.out (IW3.out.keep (ext_below _) (ext_below _).size)))))
              refine wpQuiet_nil ?_
              intro _ hw'
              obtain ⟨xq, rfl⟩ := hw'
              obtain ⟨W5, hbW5, heW5⟩ : ∃ W5, Below W3.heap.size W3 W5 ∧ ext W3 xq = W5 := ⟨_, ext_below _, rfl⟩
              rw [heW5]
              clear heW5 xq
              clear f1 f2 f3 f4 f5 j1 j2
              have hwb5 : Below w.heap.size w W5 := hwb3.trans (hbW5.mono hwb3.size)
              have hrW5 : Below W1.heap.size W1 W5 := hr3.trans (hbW5.mono hr3.size)
              have IW5 := Lib.hid (HP.out.keep hwb5 hwb5.size)
              replace g0 := (hbW5.cell (p := ⟨w2.heap.size, 0, none⟩) hg3).trans g0
              replace q0' := (hbW5.cell (p := ⟨w.heap.size, 0, none⟩) hws3).trans q0'
              replace q1' := (hbW5.cell (p := ⟨w.heap.size, 1, none⟩) hws3).trans q1'
              replace q2' := (hbW5.cell (p := ⟨w.heap.size, 2, none⟩) hws3).trans q2'
              replace y2' := (hbW5.cell (p := ⟨sb, so + v2.toNat * 4 + 2, none⟩) hsw3).trans y2'
              clear y1' g1
              go_wp2
              have G1 := HG1.out
              by_cases h2 : (y : Int) < rows
              · have d2 : decide ((y : Int) < rows) = true := decide_eq_true h2
                by_cases k2 : n0 = u2
                · have j1 : (n0 == u2) = true := by simpa using k2
                  have j2 : (n0 != u2) = false := by simpa using k2
                  have HK : Hid (rowOk s ⟨a, b, cs⟩ cols rows y (x + 1)) := HOK.out G1 (fun _ => k2)
                  clear k2 HBAD HOK
                  have f1 := ext_cell g0
                  have f2 := ext_cell q0'
                  have f3 := ext_cell q1'
                  have f4 := ext_cell q2'
                  have f5 := ext_cell y2'
                  refine wp_region_ext (by kernel_rfl) (by kernel_rfl) ?_
                  repeat (go_big_quiet_step ((go_at_call 53; exact ext_call (cell_pat a b cs A n c _ _ v2 x (y + 1) _ rfl (by omega) Hv2.out ha hb hab HL.out HN.out (IW5.out.keep (ext_below _) (ext_below _).size)))))
                  refine wpQuiet_nil ?_
                  intro _ hw'
                  obtain ⟨xq, rfl⟩ := hw'
                  obtain ⟨W6, hbW6, heW6⟩ : ∃ W6, Below W5.heap.size W5 W6 ∧ ext W5 xq = W6 := ⟨_, ext_below _, rfl⟩
                  rw [heW6]
                  clear heW6 xq
                  clear f1 f2 f3 f4 f5
                  have hr6 : Below W1.heap.size W1 W6 := hrW5.trans (hbW6.mono hrW5.size)
                  go_wp2
                  go_roundw
                  case rel => exact ⟨x + 1, by omega, by go_num, HK, hr6⟩
                  case measure => simp [intOf]; omega
                · have j1 : (n0 == u2) = false := by simpa using k2
                  have j2 : (n0 != u2) = true := by simpa using k2
                  have HK : Hid (agrs s ⟨a, b, cs⟩ cols rows = false) := HBAD.out (fun g => k2 (g.2 h2))
                  clear k2 HBAD HOK
                  have f1 := ext_cell g0
                  have f2 := ext_cell q0'
                  have f3 := ext_cell q1'
                  have f4 := ext_cell q2'
                  have f5 := ext_cell y2'
                  refine wp_region_ext (by kernel_rfl) (by kernel_rfl) ?_
                  repeat (go_big_quiet_step ((go_at_call 53; exact ext_call (cell_pat a b cs A n c _ _ v2 x (y + 1) _ rfl (by omega) Hv2.out ha hb hab HL.out HN.out (IW5.out.keep (ext_below _) (ext_below _).size)))))
                  refine wpQuiet_nil ?_
                  intro _ hw'
                  obtain ⟨xq, rfl⟩ := hw'
                  obtain ⟨W6, hbW6, heW6⟩ : ∃ W6, Below W5.heap.size W5 W6 ∧ ext W5 xq = W6 := ⟨_, ext_below _, rfl⟩
                  rw [heW6]
                  clear heW6 xq
                  clear f1 f2 f3 f4 f5
                  have hr6 : Below W1.heap.size W1 W6 := hrW5.trans (hbW6.mono hrW5.size)
                  go_wp2
                  go_ret
                  exact ⟨ret_bool HK.out.symm, hb1.trans (hr6.mono (by rw [HZ.out]; omega))⟩
              · have d2 : decide ((y : Int) < rows) = false := decide_eq_false h2
                have HK : Hid (rowOk s ⟨a, b, cs⟩ cols rows y (x + 1)) := HOK.out G1 (fun h => absurd h h2)
                clear HBAD HOK
                refine wp_region_ext (by kernel_rfl) (by kernel_rfl) ?_
                repeat (go_big_quiet_step ((go_at_call 53; exact ext_call (cell_pat a b cs A n c _ _ v2 x (y + 1) _ rfl (by omega) Hv2.out ha hb hab HL.out HN.out (IW5.out.keep (ext_below _) (ext_below _).size)))))
                refine wpQuiet_nil ?_
                intro _ hw'
                obtain ⟨xq, rfl⟩ := hw'
                obtain ⟨W6, hbW6, heW6⟩ : ∃ W6, Below W5.heap.size W5 W6 ∧ ext W5 xq = W6 := ⟨_, ext_below _, rfl⟩
                rw [heW6]
                clear heW6 xq
                have hr6 : Below W1.heap.size W1 W6 := hrW5.trans (hbW6.mono hrW5.size)
                go_wp2
                go_roundw
                case rel => exact ⟨x + 1, by omega, by go_num, HK, hr6⟩
                case measure => simp [intOf]; omega
            · have j1 : (e0 == r1) = false := by simpa using k1
              have j2 : (e0 != r1) = true := by simpa using k1
              have HK : Hid (agrs s ⟨a, b, cs⟩ cols rows = false) := HBAD.out (fun g => k1 (g.1 h1))
              clear k1 HBAD HOK
              have f1 := ext_cell g1
              have f2 := ext_cell q0'
              have f3 := ext_cell q1'
              have f4 := ext_cell q2'
              have f5 := ext_cell y1'
              refine wp_region_ext (by kernel_rfl) (by kernel_rfl) ?_
              repeat (go_big_quiet_step ((go_at_call 53; exact ext_call (cell_pat a b cs A n c _ _ v1 (x + 1) y _ (by omega) rfl Hv1.out ha hb hab HL.out HN.out (IW3.out.keep (ext_below _) (ext_below _).size)))))
              refine wpQuiet_nil ?_
              intro _ hw'
              obtain ⟨xq, rfl⟩ := hw'
              obtain ⟨W5, hbW5, heW5⟩ : ∃ W5, Below W3.heap.size W3 W5 ∧ ext W3 xq = W5 := ⟨_, ext_below _, rfl⟩
              rw [heW5]
              clear heW5 xq
              clear f1 f2 f3 f4 f5
              have hr5 : Below W1.heap.size W1 W5 := hr3.trans (hbW5.mono hr3.size)
              go_wp2
              go_ret
              exact ⟨ret_bool HK.out.symm, hb1.trans (hr5.mono (by rw [HZ.out]; omega))⟩
          · have d1 : decide ((x : Int) < cols) = false := decide_eq_false h1
            have G1 : (x : Int) < cols → e0 = r1 := fun h => absurd h h1
            have HG1 := Lib.hid G1
            clear G1
            refine wp_region_ext (by kernel_rfl) (by kernel_rfl) ?_
            repeat (go_big_quiet_step ((go_at_call 53; exact ext_call (cell_pat a b cs A n c _ _ v1 (x + 1) y _ (by omega) rfl Hv1.out ha hb hab HL.out HN.out (IW3.out.keep (ext_below _) (ext_below _).size)))))
            refine wpQuiet_nil ?_
            intro _ hw'
            obtain ⟨xq, rfl⟩ := hw'
            obtain ⟨W5, hbW5, heW5⟩ : ∃ W5, Below W3.heap.size W3 W5 ∧ ext W3 xq = W5 := ⟨_, ext_below _, rfl⟩
            rw [heW5]
            clear heW5 xq
            have hwb5 : Below w.heap.size w W5 := hwb3.trans (hbW5.mono hwb3.size)
            have hrW5 : Below W1.heap.size W1 W5 := hr3.trans (hbW5.mono hr3.size)
            have IW5 := Lib.hid (HP.out.keep hwb5 hwb5.size)
            replace g0 := (hbW5.cell (p := ⟨w2.heap.size, 0, none⟩) hg3).trans g0
            replace q0' := (hbW5.cell (p := ⟨w.heap.size, 0, none⟩) hws3).trans q0'
            replace q1' := (hbW5.cell (p := ⟨w.heap.size, 1, none⟩) hws3).trans q1'
            replace q2' := (hbW5.cell (p := ⟨w.heap.size, 2, none⟩) hws3).trans q2'
            replace y2' := (hbW5.cell (p := ⟨sb, so + v2.toNat * 4 + 2, none⟩) hsw3).trans y2'
            clear y1' g1
            go_wp2
            have G1 := HG1.out
            by_cases h2 : (y : Int) < rows
            · have d2 : decide ((y : Int) < rows) = true := decide_eq_true h2
              by_cases k2 : n0 = u2
              · have j1 : (n0 == u2) = true := by simpa using k2
                have j2 : (n0 != u2) = false := by simpa using k2
                have HK : Hid (rowOk s ⟨a, b, cs⟩ cols rows y (x + 1)) := HOK.out G1 (fun _ => k2)
                clear k2 HBAD HOK
                have f1 := ext_cell g0
                have f2 := ext_cell q0'
                have f3 := ext_cell q1'
                have f4 := ext_cell q2'
                have f5 := ext_cell y2'
                refine wp_region_ext (by kernel_rfl) (by kernel_rfl) ?_
                repeat (go_big_quiet_step ((go_at_call 53; exact ext_call (cell_pat a b cs A n c _ _ v2 x (y + 1) _ rfl (by omega) Hv2.out ha hb hab HL.out HN.out (IW5.out.keep (ext_below _) (ext_below _).size)))))
                refine wpQuiet_nil ?_
                intro _ hw'
                obtain ⟨xq, rfl⟩ := hw'
                obtain ⟨W6, hbW6, heW6⟩ : ∃ W6, Below W5.heap.size W5 W6 ∧ ext W5 xq = W6 := ⟨_, ext_below _, rfl⟩
                rw [heW6]
                clear heW6 xq
                clear f1 f2 f3 f4 f5
                have hr6 : Below W1.heap.size W1 W6 := hrW5.trans (hbW6.mono hrW5.size)
                go_wp2
                go_roundw
                case rel => exact ⟨x + 1, by omega, by go_num, HK, hr6⟩
                case measure => simp [intOf]; omega
              · have j1 : (n0 == u2) = false := by simpa using k2
                have j2 : (n0 != u2) = true := by simpa using k2
                have HK : Hid (agrs s ⟨a, b, cs⟩ cols rows = false) := HBAD.out (fun g => k2 (g.2 h2))
                clear k2 HBAD HOK
                have f1 := ext_cell g0
                have f2 := ext_cell q0'
                have f3 := ext_cell q1'
                have f4 := ext_cell q2'
                have f5 := ext_cell y2'
                refine wp_region_ext (by kernel_rfl) (by kernel_rfl) ?_
                repeat (go_big_quiet_step ((go_at_call 53; exact ext_call (cell_pat a b cs A n c _ _ v2 x (y + 1) _ rfl (by omega) Hv2.out ha hb hab HL.out HN.out (IW5.out.keep (ext_below _) (ext_below _).size)))))
                refine wpQuiet_nil ?_
                intro _ hw'
                obtain ⟨xq, rfl⟩ := hw'
                obtain ⟨W6, hbW6, heW6⟩ : ∃ W6, Below W5.heap.size W5 W6 ∧ ext W5 xq = W6 := ⟨_, ext_below _, rfl⟩
                rw [heW6]
                clear heW6 xq
                clear f1 f2 f3 f4 f5
                have hr6 : Below W1.heap.size W1 W6 := hrW5.trans (hbW6.mono hrW5.size)
                go_wp2
                go_ret
                exact ⟨ret_bool HK.out.symm, hb1.trans (hr6.mono (by rw [HZ.out]; omega))⟩
            · have d2 : decide ((y : Int) < rows) = false := decide_eq_false h2
              have HK : Hid (rowOk s ⟨a, b, cs⟩ cols rows y (x + 1)) := HOK.out G1 (fun h => absurd h h2)
              clear HBAD HOK
              refine wp_region_ext (by kernel_rfl) (by kernel_rfl) ?_
              repeat (go_big_quiet_step ((go_at_call 53; exact ext_call (cell_pat a b cs A n c _ _ v2 x (y + 1) _ rfl (by omega) Hv2.out ha hb hab HL.out HN.out (IW5.out.keep (ext_below _) (ext_below _).size)))))
              refine wpQuiet_nil ?_
              intro _ hw'
              obtain ⟨xq, rfl⟩ := hw'
              obtain ⟨W6, hbW6, heW6⟩ : ∃ W6, Below W5.heap.size W5 W6 ∧ ext W5 xq = W6 := ⟨_, ext_below _, rfl⟩
              rw [heW6]
              clear heW6 xq
              have hr6 : Below W1.heap.size W1 W6 := hrW5.trans (hbW6.mono hrW5.size)
              go_wp2
              go_roundw
              case rel => exact ⟨x + 1, by omega, by go_num, HK, hr6⟩
              case measure => simp [intOf]; omega
        · have HR : Hid (rowsOk s ⟨a, b, cs⟩ cols rows (y + 1)) := rowsOk_succ hrows.out (fun x' hx' => hrow.out x' (by simp at hx'; omega))
          clear hrow hrows
          go_wp2
          go_roundw
          case rel => exact ⟨y + 1, by omega, by go_num, HR, hbr⟩
          case measure => simp [intOf]; omega
    · have HK : Hid (agrs s ⟨a, b, cs⟩ cols rows = true) := agrs_iff.2 (fun y' hy' x hx => hrows.out y' (by simp at hy'; omega) x hx)
      clear hrows
      go_wp2
      go_ret
      exact ⟨ret_bool HK.out.symm, hb1.trans (hbw.mono (by rw [HZ.out]; omega))⟩
end Go.Proofs.YtgadfmknjpanpaaDoor

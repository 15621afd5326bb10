/-
  groutworkref01: Repeat.
-/
import Derived.Test.YtmmpdniafmhjpaaGreatDoorPs
import Derived.Deep.RegionLaw
import Derived.Maps.AppendAt
import Derived.IntWalk
namespace Go.Proofs.YtmmpdniafmhjpaaGreatDoor
open Go.RowKit Go.Maps Go.BigFrame
set_option linter.unusedVariables false
set_option maxRecDepth 100000

set_option maxHeartbeats 8000000 in
theorem rrep_any (a b : Nat) (cs : List Int) (A : Option Addr) (n c wd hg : Nat) (w : World) (hf : form ⟨a, b, cs⟩ = true) (hn : n = cs.length) (hP : IntsIn w w.heap.size A cs) (hw1 : 1 ≤ wd) (hh1 : 1 ≤ hg) (hwh : wd * hg ≤ 40000) :
    Calls Tryz.prog 18 #[.agg #[.int .i64 (a : Int), .int .i64 (b : Int), .slice A n c], .int .i64 (wd : Int), .int .i64 (hg : Int)] w (IsRPat (win ⟨a, b, cs⟩ 0 0 wd hg) w) := by
  obtain ⟨a', b', e1, e2, h1, h2, h3, h4⟩ := form_nat hf
  have e1' : a = a' := by have : (a : Int) = a' := e1; omega
  have e2' : b = b' := by have : (b : Int) = b' := e2; omega
  subst e1'
  subst e2'
  clear e1 e2
  have a40 : a ≤ 40000 := by have := Nat.le_mul_of_pos_right a (show 0 < b by omega); omega
  have b40 : b ≤ 40000 := by have := Nat.le_mul_of_pos_left b (show 0 < a by omega); omega
  have wd40 : wd ≤ 40000 := by have := Nat.le_mul_of_pos_right wd (show 0 < hg by omega); omega
  have hg40 : hg ≤ 40000 := by have := Nat.le_mul_of_pos_left hg (show 0 < wd by omega); omega
  have HN := Lib.hid hn
  have HL : Hid (cs.length = a * b) := h4
  have HP := Lib.hid hP
  obtain ⟨i0, hi, hz0, hz1, hz2⟩ := info_parts int_info
  clear hn hP h4 hf
  obtain ⟨W2, hW2⟩ : ∃ W2, W2 = ((w.alloc (.cells #[.int .i64 (a : Int), .int .i64 (b : Int), .slice A n c] 24)).alloc (.cells #[.int .i64 0, .int .i64 0, .slice none 0 0] 24)).alloc (.cells #[.int .i64 (wd : Int), .int .i64 (hg : Int), .slice none 0 0] 24) := ⟨_, rfl⟩
  have hz2' : W2.heap.size = w.heap.size + 3 := by rw [hW2]; simp
  have b2 : Below w.heap.size w W2 := by rw [hW2]; exact (((Below.refl _ _).alloc (Nat.le_refl _) _).alloc (by simp) _).alloc (by simp; omega) _
  have HB : Hid ((W2.cell? ⟨w.heap.size, 0, none⟩ = some (.int .i64 (a : Int)) ∧ W2.cell? ⟨w.heap.size, 1, none⟩ = some (.int .i64 (b : Int)) ∧ W2.cell? ⟨w.heap.size, 2, none⟩ = some (.slice A n c)) ∧ (W2.cell? ⟨w.heap.size + 1, 0, none⟩ = some (.int .i64 0) ∧ W2.cell? ⟨w.heap.size + 1, 1, none⟩ = some (.int .i64 0) ∧ W2.cell? ⟨w.heap.size + 1, 2, none⟩ = some (.slice none 0 0)) ∧ ∀ o, W2.frozen? ⟨w.heap.size + 1, o, none⟩ = false) := by
    rw [hW2]
    refine ⟨⟨?_, ?_, ?_⟩, ⟨?_, ?_, ?_⟩, fun o => ?_⟩
    all_goals simp [go_sem]
  have HO : Hid ((W2.cell? ⟨w.heap.size + 2, 0, none⟩ = some (.int .i64 (wd : Int)) ∧ W2.cell? ⟨w.heap.size + 2, 1, none⟩ = some (.int .i64 (hg : Int)) ∧ W2.cell? ⟨w.heap.size + 2, 2, none⟩ = some (.slice none 0 0)) ∧ ∀ o, W2.frozen? ⟨w.heap.size + 2, o, none⟩ = false) := by
    rw [hW2]
    refine ⟨⟨?_, ?_, ?_⟩, fun o => ?_⟩
    all_goals simp [go_sem]
  go_enter Tryz.func18, Tryz.ntmps18
  go_wp2_with fail
  rw [← hW2]
  clear hW2
  go_loopw [8] (fun i wr => ∃ (r : Nat) (v : Value), r ≤ hg ∧ i = .int .i64 r ∧ wr.ownsRow (w.heap.size + 3) 3 1 v (r * wd) ((winL ⟨a, b, cs⟩ 0 0 wd (r * wd)).map (.int .i64)) ∧ Hid ((wr.cell? ⟨w.heap.size + 2, 0, none⟩ = some (.int .i64 (wd : Int)) ∧ wr.cell? ⟨w.heap.size + 2, 1, none⟩ = some (.int .i64 (hg : Int)) ∧ wr.cell? ⟨w.heap.size + 2, 2, none⟩ = some v) ∧ ∀ o, wr.frozen? ⟨w.heap.size + 2, o, none⟩ = false) ∧ Below (w.heap.size + 2) W2 wr) (fun i _ => hg - (intOf i).toNat)
  case atStart => exact ⟨0, .slice none 0 0, Nat.zero_le _, rfl, by simpa [winL] using World.ownsRow_nil W2 _ _ 1, HO, Below.refl _ _⟩
  case round =>
    clear HO
    obtain ⟨r, v0, hr, rfl, hown, hbx, hbr⟩ := hrel
    obtain ⟨wo, rfl⟩ : ∃ wo : World, wo = wr := ⟨_, rfl⟩
    by_cases hlt : r < hg
    · go_wp2_with fail
      go_loopw [9] (fun i wr => ∃ (q : Nat) (v : Value), q ≤ wd ∧ i = .int .i64 q ∧ wr.ownsRow (w.heap.size + 3) 3 1 v (r * wd + q) ((winL ⟨a, b, cs⟩ 0 0 wd (r * wd + q)).map (.int .i64)) ∧ Hid ((wr.cell? ⟨w.heap.size + 2, 0, none⟩ = some (.int .i64 (wd : Int)) ∧ wr.cell? ⟨w.heap.size + 2, 1, none⟩ = some (.int .i64 (hg : Int)) ∧ wr.cell? ⟨w.heap.size + 2, 2, none⟩ = some v) ∧ ∀ o, wr.frozen? ⟨w.heap.size + 2, o, none⟩ = false) ∧ Below (w.heap.size + 2) W2 wr) (fun i _ => wd - (intOf i).toNat)
      case atStart => exact ⟨0, v0, Nat.zero_le _, rfl, hown, hbx, hbr⟩
      case round =>
        clear hown hbx hbr
        obtain ⟨q, v1, hq, rfl, hown, hbx, hbr⟩ := hrel
        obtain ⟨wi, rfl⟩ : ∃ wi : World, wi = wr := ⟨_, rfl⟩
        have hszi := hbr.size
        by_cases hlq : q < wd
        · have hwi : Below w.heap.size w wi := b2.trans (hbr.mono (by omega))
          have q0 := (hbr.cell (p := ⟨w.heap.size, 0, none⟩) (by show w.heap.size < _; omega)).trans HB.out.1.1
          have q1 := (hbr.cell (p := ⟨w.heap.size, 1, none⟩) (by show w.heap.size < _; omega)).trans HB.out.1.2.1
          have q2 := (hbr.cell (p := ⟨w.heap.size, 2, none⟩) (by show w.heap.size < _; omega)).trans HB.out.1.2.2
          have o2 := hbx.out.1.2.2
          have oz := hbx.out.2
          have hlw : w.heap.size < wi.heap.size := by omega
          have hlo : w.heap.size + 2 < wi.heap.size := by omega
          have hrq : r * wd + q < wd * hg := idx_lt hlq hlt
          obtain ⟨u, hu⟩ : ∃ u, u = cel ⟨a, b, cs⟩ (q % a) (r % b) := ⟨_, rfl⟩
          have HST := Lib.hid (winL_succ ⟨a, b, cs⟩ 0 0 wd r q hlq)
          rw [Nat.zero_add, Nat.zero_add, Int.toNat_natCast, Int.toNat_natCast, ← hu] at HST
          obtain ⟨Xq, hXq⟩ : ∃ Xq, Xq = q % a := ⟨_, rfl⟩
          obtain ⟨Yr, hYr⟩ : ∃ Yr, Yr = r % b := ⟨_, rfl⟩
          have hxq : Xq < a := by rw [hXq]; exact Nat.mod_lt _ (by omega)
          have hyr : Yr < b := by rw [hYr]; exact Nat.mod_lt _ (by omega)
          have k1 : ¬ a = 0 := by omega
          have k2 : ¬ b = 0 := by omega
          have k3 : (q : Int).tmod (a : Int) = (Xq : Int) := by rw [hXq, Int.tmod_eq_emod_of_nonneg (by omega), Int.natCast_emod]
          have k4 : (r : Int).tmod (b : Int) = (Yr : Int) := by rw [hYr, Int.tmod_eq_emod_of_nonneg (by omega), Int.natCast_emod]
          have k5 : (q : Int) % (a : Int) = (Xq : Int) := by rw [hXq, Int.natCast_emod]
          have k6 : (r : Int) % (b : Int) = (Yr : Int) := by rw [hYr, Int.natCast_emod]
          rw [← hXq, ← hYr] at hu
          have HU := Lib.hid hu
          have cC : ∀ W : World, Below wi.heap.size wi W → Calls Tryz.prog 39 #[.agg #[.int .i64 (a : Int), .int .i64 (b : Int), .slice A n c], .int .i64 (Xq : Int), .int .i64 (Yr : Int)] W fun e w' => e = .returned (.int .i64 u) ∧ Below W.heap.size W w' := fun W hW => by
            have hww := hwi.trans (hW.mono hwi.size)
            exact rcell_any a b cs A n c _ _ u Xq Yr W rfl rfl HU.out hxq hyr h3 HL.out HN.out (HP.out.keep hww hww.size)
          have HOWN : Hid (∀ W : World, Below wi.heap.size wi W → W.ownsRow (w.heap.size + 3) 3 1 v1 (r * wd + q) ((winL ⟨a, b, cs⟩ 0 0 wd (r * wd + q)).map (.int .i64))) := fun W hW => own_keep hown hW
          have HLTV : Hid (∀ g, v1.ownBlock = some g → w.heap.size + 3 ≤ g) := fun g hg => (hown.lt g hg).1
          clear hu hown hXq hYr
          go_wp2_with fail
          go_region_law (first
            | ((rw [if_pos (by simp [Region.wanted])]); go_simp; (go_at_call 39); (with_reducible refine (cC _ ?_).mono ?_); (focus exact (Below.refl _ _).drew); rintro e wn ⟨rfl, hn⟩; have hnlw : w.heap.size + 2 < wn.heap.size := (Nat.lt_of_lt_of_le hlo (be_drew' hn).size); have p2 := ((be_drew' hn).cell (p := ⟨w.heap.size + 2, 2, none⟩) hlo).trans o2; have pz : ∀ o, wn.frozen? ⟨w.heap.size + 2, o, none⟩ = false := fun o => ((be_drew' hn).frozen (p := ⟨w.heap.size + 2, o, none⟩) hlo).trans (oz o))
            | ((with_reducible refine step_append_own rfl (.tmp 24) (.tmp 35) 22 rfl (w.heap.size + 3) 3 i0 (.int .i64 0) 1 8 Tryz.underlying22 hi hz0 hz1 hz2 rfl (by decide) v1 (r * wd + q) ((winL ⟨a, b, cs⟩ 0 0 wd (r * wd + q)).map (.int .i64)) ?_ ?_ ⟨wn.heap.size, 0, none⟩ 1 1 [.int .i64 u] ?_ rfl (cell_one_new _ _ _) (one_int u) ?_ ?_ ?_ ?_); (focus (first | rfl | simp [Act.eval, Act.put])); (focus exact HOWN.out _ ((be_drew' hn).alloc (be_drew' hn).size _)); (focus (first | rfl | simp [Act.eval, Act.put])); (focus (simp only [maxLen]; omega)); (focus omega); (focus (have := (be_drew' hn).size; simp; omega)); intro v' w3 hown3 hgrow3; rw [HST.out] at hown3; obtain ⟨B3, c3, rfl, -, -, -⟩ := own_ints hown3; have hk3 := grown_at hgrow3 (w.heap.size + 2) hnlw (fun g hg => by have := HLTV.out g hg; omega); have z3 := (hk3.1 2).trans p2; have zf : ∀ o, w3.frozen? ⟨w.heap.size + 2, o, none⟩ = false := fun o => (hk3.2 o).trans (pz o)))
          all_goals
            have hbW : Below (w.heap.size + 2) W2 w3 := ((hbr.trans ((be_drew' hn).mono (by omega))).alloc (by omega) _).grown hgrow3 (by simp; omega) (fun g hg => by have := HLTV.out g hg; omega)
            have g0 := (hk3.1 0).trans (((be_drew' hn).cell (p := ⟨w.heap.size + 2, 0, none⟩) hlo).trans hbx.out.1.1)
            have g1 := (hk3.1 1).trans (((be_drew' hn).cell (p := ⟨w.heap.size + 2, 1, none⟩) hlo).trans hbx.out.1.2.1)
            have HF : Hid (((w3.setCell ⟨w.heap.size + 2, 2, none⟩ (.slice B3 (r * wd + q + 1) c3)).cell? ⟨w.heap.size + 2, 0, none⟩ = some (.int .i64 (wd : Int)) ∧ (w3.setCell ⟨w.heap.size + 2, 2, none⟩ (.slice B3 (r * wd + q + 1) c3)).cell? ⟨w.heap.size + 2, 1, none⟩ = some (.int .i64 (hg : Int)) ∧ (w3.setCell ⟨w.heap.size + 2, 2, none⟩ (.slice B3 (r * wd + q + 1) c3)).cell? ⟨w.heap.size + 2, 2, none⟩ = some (.slice B3 (r * wd + q + 1) c3)) ∧ ∀ o, (w3.setCell ⟨w.heap.size + 2, 2, none⟩ (.slice B3 (r * wd + q + 1) c3)).frozen? ⟨w.heap.size + 2, o, none⟩ = false) :=
              ⟨⟨(World.cell?_setCell_other _ _ _ _ (fun e => by injection e with _ e2; omega)).trans g0, (World.cell?_setCell_other _ _ _ _ (fun e => by injection e with _ e2; omega)).trans g1, World.cell?_setCell_same _ _ _ z3⟩, fun o => (World.frozen?_setCell _ _ _ _).trans (zf o)⟩
            have HOW : Hid ((w3.setCell ⟨w.heap.size + 2, 2, none⟩ (.slice B3 (r * wd + q + 1) c3)).ownsRow (w.heap.size + 3) 3 1 (.slice B3 (r * wd + q + 1) c3) (r * wd + (q + 1)) ((winL ⟨a, b, cs⟩ 0 0 wd (r * wd + (q + 1))).map (.int .i64))) := ownsRow_setCell_below hown3 (a := ⟨w.heap.size + 2, 2, none⟩) (by show w.heap.size + 2 < w.heap.size + 3; omega) _
            have HBW : Hid (Below (w.heap.size + 2) W2 (w3.setCell ⟨w.heap.size + 2, 2, none⟩ (.slice B3 (r * wd + q + 1) c3))) := hbW.setCell (by show w.heap.size + 2 ≤ w.heap.size + 2; omega) _
            clear hbW g0 g1 z3 zf hk3 hgrow3 hown3 p2 pz q0 q1 q2 o2 oz cC
            go_wp2_with fail
            go_roundw
            case rel => exact ⟨q + 1, .slice B3 (r * wd + q + 1) c3, by omega, by go_num, HOW.out, HF, HBW.out⟩
            case measure => simp [intOf]; omega
        · have e : q = wd := by omega
          subst e
          rw [show r * q + q = (r + 1) * q from (by rw [Nat.add_mul, Nat.one_mul])] at hown
          go_wp2_with fail
          go_roundw
          case rel => exact ⟨r + 1, v1, by omega, by go_num, hown, hbx, hbr⟩
          case measure => simp [intOf]; omega
    · have e : r = hg := by omega
      subst e
      rw [Nat.mul_comm r wd] at hown
      obtain ⟨B, cc, rfl, hlen, -, hI⟩ := own_ints hown
      have hl2 : (win ⟨a, b, cs⟩ 0 0 wd r).c.length = wd * r := by simp [win]
      have HQ : Hid (winL ⟨a, b, cs⟩ 0 0 wd (wd * r) = (win ⟨a, b, cs⟩ 0 0 wd r).c) := rfl
      rw [HQ.out] at hI
      have HI := Lib.hid hI
      have HL2 := Lib.hid hl2
      have o0 := hbx.out.1.1
      have o1 := hbx.out.1.2.1
      have o2 := hbx.out.1.2.2
      have r0 := (hbr.cell (p := ⟨w.heap.size + 1, 0, none⟩) (by show w.heap.size + 1 < _; omega)).trans HB.out.2.1.1
      have r1 := (hbr.cell (p := ⟨w.heap.size + 1, 1, none⟩) (by show w.heap.size + 1 < _; omega)).trans HB.out.2.1.2.1
      have r2 := (hbr.cell (p := ⟨w.heap.size + 1, 2, none⟩) (by show w.heap.size + 1 < _; omega)).trans HB.out.2.1.2.2
      have z0 : ∀ o, wo.frozen? ⟨w.heap.size + 1, o, none⟩ = false := fun o => (hbr.frozen (p := ⟨w.heap.size + 1, o, none⟩) (by show w.heap.size + 1 < _; omega)).trans (HB.out.2.2 o)
      have hwo : Below w.heap.size w wo := b2.trans (hbr.mono (by omega))
      have hszo := hbr.size
      clear hown hI hl2 hlen
      go_wp2_with fail
      refine bodyPost_ret (v := .agg #[.int .i64 (wd : Int), .int .i64 (r : Int), .slice B (wd * r) cc]) (by simp [results, Tryz.results18, go_sem, r0, r1, r2]) rfl ?_
      refine ⟨((hwo.setCell (by show w.heap.size ≤ w.heap.size + 1; omega) _).setCell (by show w.heap.size ≤ w.heap.size + 1; omega) _).setCell (by show w.heap.size ≤ w.heap.size + 1; omega) _, B, cc, by rw [HL2.out]; rfl, ?_⟩
      exact (((HI.out.set (p := ⟨w.heap.size + 1, 0, none⟩) (by show w.heap.size + 1 < _; omega) _).set (p := ⟨w.heap.size + 1, 1, none⟩) (by show w.heap.size + 1 < _; omega) _).set (p := ⟨w.heap.size + 1, 2, none⟩) (by show w.heap.size + 1 < _; omega) _).mono (by omega)
end Go.Proofs.YtmmpdniafmhjpaaGreatDoor

/-
  groutworkref01: Blank, MirrorPattern, UpturnPattern, TurnPattern.
-/
import Derived.Test.YtmmpdniafmhjpaaGreatDoorCp
import Derived.Test.YtmmpdniafmhjpaaGreatDoorRb
import Derived.Test.YtmmpdniafmhjpaaGreatDoorEt
namespace Go.Proofs.YtmmpdniafmhjpaaGreatDoor
open Go.RowKit Go.Maps Go.BigFrame
set_option linter.unusedVariables false
set_option maxRecDepth 100000

def IsBlank (a b N : Nat) (W : World) (e : Ending) (w' : World) : Prop := Below W.heap.size W w' ∧ ∃ X, W.heap.size ≤ X ∧ X < w'.heap.size ∧ e = .returned (.agg #[.int .i64 (a : Int), .int .i64 (b : Int), .slice (some ⟨X, 0, none⟩) N N]) ∧
  (∀ j, j < N → w'.cell? ⟨X, j, none⟩ = some (.int .i64 0)) ∧ ∀ o, w'.frozen? ⟨X, o, none⟩ = false
set_option maxHeartbeats 1000000 in
theorem rblank_any (a b N : Nat) (w : World) (hN : N = a * b) (h : N ≤ 40000) (ha : a ≤ 40000) (hb : b ≤ 40000) : Calls Tryz.prog 38 #[.int .i64 (a : Int), .int .i64 (b : Int)] w (IsBlank a b N w) := by
  obtain ⟨i0, hi, hz0, hz1, hz2⟩ := info_parts int_info
  have hby : i0.bytes * N ≤ 281474976710656 := by rw [hz2]; omega
  have m1 : (0 : Int) ≤ (a : Int) * b := by rw [← Int.natCast_mul]; omega
  have m2 : (a : Int) * b ≤ 40000 := by rw [← Int.natCast_mul]; omega
  have HN : Hid ((a : Int) * b = (N : Int)) := by show _ = _; rw [hN, Int.natCast_mul]
  unfold IsBlank
  clear hN
  go_enter Tryz.func38, Tryz.ntmps38
  go_wp2_with (at_make; refine wpList_make_full _ rfl _ _ 22 rfl (w.heap.size + 1) 3 i0 (.int .i64 0) 1 Tryz.underlying22 hi hz0 hz1 .i64 .i64 _ _ N rfl rfl HN.out HN.out hby (by simp only [maxLen]; omega) (by simp) ?_; intro w5 hown5 hgrow5; have b5 : Below (w.alloc (.cells #[.int .i64 0, .int .i64 0, .slice none 0 0] 24)).heap.size (w.alloc (.cells #[.int .i64 0, .int .i64 0, .slice none 0 0] 24)) w5 := ⟨hgrow5.os, hgrow5.tape, hgrow5.output, hgrow5.size, fun k hk => hgrow5.block k hk (by simp)⟩; have t0 := (b5.cell (p := ⟨w.heap.size, 0, none⟩) (by simp)).trans (show _ = some (.int .i64 0) by simp); have t1 := (b5.cell (p := ⟨w.heap.size, 1, none⟩) (by simp)).trans (show _ = some (.int .i64 0) by simp); have t2 := (b5.cell (p := ⟨w.heap.size, 2, none⟩) (by simp)).trans (show _ = some (.slice none 0 0) by simp); have tz : ∀ o, w5.frozen? ⟨w.heap.size, o, none⟩ = false := fun o => (b5.frozen (p := ⟨w.heap.size, o, none⟩) (by simp)).trans (World.frozen?_alloc_at _ _ _ _ (by simp)))
  have eW : (w.alloc (.cells #[.int .i64 0, .int .i64 0, .slice none 0 0] 24)).heap.size = w.heap.size + 1 := by simp
  rw [eW] at hown5 b5
  obtain ⟨hlt5, hcw5, hfz5⟩ := own_words hown5
  have b05 : Below w.heap.size w w5 := ((Below.refl _ _).alloc (Nat.le_refl _) _).trans (b5.mono (by omega))
  refine bodyPost_ret (v := .agg #[.int .i64 (a : Int), .int .i64 (b : Int), .slice (some ⟨w.heap.size + 1, 0, none⟩) N N]) (by simp [results, Tryz.results38, go_sem, t0, t1, t2]) rfl ?_
  have ne : ∀ x y : Nat, (⟨w.heap.size, x, none⟩ : Addr) ≠ ⟨w.heap.size + 1, y, none⟩ := fun x y h => by injection h with h1; omega
  refine ⟨((b05.setCell (by show w.heap.size ≤ w.heap.size; omega) _).setCell (by show w.heap.size ≤ w.heap.size; omega) _).setCell (by show w.heap.size ≤ w.heap.size; omega) _, w.heap.size + 1, by omega, by simpa [World.setCell] using hlt5, rfl, fun j hj => ?_, fun o => ?_⟩
  · rw [World.cell?_setCell_other _ _ _ _ (ne _ _), World.cell?_setCell_other _ _ _ _ (ne _ _), World.cell?_setCell_other _ _ _ _ (ne _ _), hcw5 j hj]
    exact made_at (.int .i64 0) (N * 1) j (by rw [Nat.mul_one]; exact hj)
  · rw [World.frozen?_setCell, World.frozen?_setCell, World.frozen?_setCell]
    exact hfz5 o

def IsRPat (q : Pt) (W : World) (e : Ending) (w' : World) : Prop := Below W.heap.size W w' ∧ ∃ B c, e = .returned (.agg #[.int .i64 q.w, .int .i64 q.h, .slice B q.c.length c]) ∧ IntsNew w' W.heap.size B q.c

set_option maxHeartbeats 4000000 in
theorem rmirP_any (a b : Nat) (cs : List Int) (A : Option Addr) (n c : Nat) (w : World) (hf : form ⟨a, b, cs⟩ = true) (hn : n = cs.length) (hP : IntsIn w w.heap.size A cs) :
    Calls Tryz.prog 14 #[.agg #[.int .i64 (a : Int), .int .i64 (b : Int), .slice A n c]] w (IsRPat (mirP ⟨a, b, cs⟩) w) := by
  obtain ⟨a', b', e1, e2, h1, h2, h3, h4⟩ := form_nat hf
  have e1' : a = a' := by have : (a : Int) = a' := e1; omega
  have e2' : b = b' := by have : (b : Int) = b' := e2; omega
  subst e1'
  subst e2'
  clear e1 e2
  have a40 : a ≤ 40000 := by have := Nat.le_mul_of_pos_right a (show 0 < b by omega); omega
  have b40 : b ≤ 40000 := by have := Nat.le_mul_of_pos_left b (show 0 < a by omega); omega
  obtain ⟨pos, hps⟩ : ∃ pos : Nat → Nat, pos = fun i => i / a * a + (a - 1 - i % a) := ⟨_, rfl⟩
  have HG : Hid (Goes pos cs (mirP ⟨a, b, cs⟩).c) := by rw [hps]; exact mir_goes hf rfl rfl
  have HPS : Hid (∀ i, pos i = i / a * a + (a - 1 - i % a)) := fun i => by rw [hps]
  clear hps
  have HWH : Hid ((mirP ⟨a, b, cs⟩).w = (a : Int) ∧ (mirP ⟨a, b, cs⟩).h = (b : Int)) := mirP_w hf
  obtain ⟨T, hT⟩ : ∃ T, T = (mirP ⟨a, b, cs⟩).c := ⟨_, rfl⟩
  rw [← hT] at HG
  have HN := Lib.hid hn
  have HL : Hid (cs.length = a * b) := h4
  have HP := Lib.hid hP
  have HT := Lib.hid hT
  clear hn hP h4 hT hf
  go_enter Tryz.func14, Tryz.ntmps14
  go_wp2_with fail
  obtain ⟨N, hN⟩ : ∃ N, N = a * b := ⟨_, rfl⟩
  have HNN := Lib.hid hN
  have hN4 : N ≤ 40000 := by omega
  clear hN
  refine (rblank_any a b N _ HNN.out hN4 a40 b40).mono ?_
  rintro e w2 ⟨hb2, X, hX1, hX2, rfl, hX3, hX4⟩
  obtain ⟨hc2, hf2⟩ := bcell hb2
  have hs2 := hb2.size
  simp at hs2 hX1
  have b2 : Below w.heap.size w w2 := (((Below.refl _ _).alloc (Nat.le_refl _) _).alloc (by simp) _).trans (hb2.mono (by simp; omega))
  have hl2 : w.heap.size < (((w.alloc (.cells #[.int .i64 (a : Int), .int .i64 (b : Int), .slice A n c] 24)).alloc (.cells #[.int .i64 0, .int .i64 0, .slice none 0 0] 24))).heap.size := by simp; omega
  have hl2' : w.heap.size + 1 < (((w.alloc (.cells #[.int .i64 (a : Int), .int .i64 (b : Int), .slice A n c] 24)).alloc (.cells #[.int .i64 0, .int .i64 0, .slice none 0 0] 24))).heap.size := by simp
  obtain ⟨W3, hW3⟩ : ∃ W3, W3 = w2.alloc (.cells #[.int .i64 (a : Int), .int .i64 (b : Int), .slice (some ⟨X, 0, none⟩) N N] 24) := ⟨_, rfl⟩
  have b3 : Below w2.heap.size w2 W3 := by rw [hW3]; exact (Below.refl _ _).alloc (Nat.le_refl _) _
  have z3 : W3.heap.size = w2.heap.size + 1 := by rw [hW3]; simp
  have o0 : W3.cell? ⟨w2.heap.size, 0, none⟩ = some (.int .i64 (a : Int)) := by rw [hW3]; simp
  have o1 : W3.cell? ⟨w2.heap.size, 1, none⟩ = some (.int .i64 (b : Int)) := by rw [hW3]; simp
  have o2 : W3.cell? ⟨w2.heap.size, 2, none⟩ = some (.slice (some ⟨X, 0, none⟩) N N) := by rw [hW3]; simp
  have q0 : W3.cell? ⟨w.heap.size, 0, none⟩ = some (.int .i64 (a : Int)) := (b3.cell (p := ⟨w.heap.size, 0, none⟩) (by show w.heap.size < _; omega)).trans ((hc2 _ _ hl2).trans (by simp [go_sem]))
  have q1 : W3.cell? ⟨w.heap.size, 1, none⟩ = some (.int .i64 (b : Int)) := (b3.cell (p := ⟨w.heap.size, 1, none⟩) (by show w.heap.size < _; omega)).trans ((hc2 _ _ hl2).trans (by simp [go_sem]))
  have q2 : W3.cell? ⟨w.heap.size, 2, none⟩ = some (.slice A n c) := (b3.cell (p := ⟨w.heap.size, 2, none⟩) (by show w.heap.size < _; omega)).trans ((hc2 _ _ hl2).trans (by simp [go_sem]))
  have r0 : W3.cell? ⟨w.heap.size + 1, 0, none⟩ = some (.int .i64 0) := (b3.cell (p := ⟨w.heap.size + 1, 0, none⟩) (by show w.heap.size + 1 < _; omega)).trans ((hc2 _ _ hl2').trans (by simp [go_sem]))
  have r1 : W3.cell? ⟨w.heap.size + 1, 1, none⟩ = some (.int .i64 0) := (b3.cell (p := ⟨w.heap.size + 1, 1, none⟩) (by show w.heap.size + 1 < _; omega)).trans ((hc2 _ _ hl2').trans (by simp [go_sem]))
  have r2 : W3.cell? ⟨w.heap.size + 1, 2, none⟩ = some (.slice none 0 0) := (b3.cell (p := ⟨w.heap.size + 1, 2, none⟩) (by show w.heap.size + 1 < _; omega)).trans ((hc2 _ _ hl2').trans (by simp [go_sem]))
  have rz : ∀ o, W3.frozen? ⟨w.heap.size + 1, o, none⟩ = false := fun o => (b3.frozen (p := ⟨w.heap.size + 1, o, none⟩) (by show w.heap.size + 1 < _; omega)).trans ((hf2 _ _ hl2').trans (World.frozen?_alloc_at _ _ _ _ (by simp)))
  have HX3 : Hid (Filled W3 X N pos T 0) := fun j hj => ⟨0, (b3.cell (p := ⟨X, j, none⟩) hX2).trans (hX3 j hj), fun i hi => absurd hi (by omega)⟩
  have HX4 : Hid (∀ o, W3.frozen? ⟨X, o, none⟩ = false) := fun o => (b3.frozen (p := ⟨X, o, none⟩) hX2).trans (hX4 o)
  have b03 : Below w.heap.size w W3 := b2.trans (b3.mono (by omega))
  have HC : Hid ((W3.cell? ⟨w.heap.size, 0, none⟩ = some (.int .i64 (a : Int)) ∧ W3.cell? ⟨w.heap.size, 1, none⟩ = some (.int .i64 (b : Int)) ∧ W3.cell? ⟨w.heap.size, 2, none⟩ = some (.slice A n c)) ∧ (W3.cell? ⟨w2.heap.size, 0, none⟩ = some (.int .i64 (a : Int)) ∧ W3.cell? ⟨w2.heap.size, 1, none⟩ = some (.int .i64 (b : Int)) ∧ W3.cell? ⟨w2.heap.size, 2, none⟩ = some (.slice (some ⟨X, 0, none⟩) N N))) := ⟨⟨q0, q1, q2⟩, o0, o1, o2⟩
  have HR : Hid ((W3.cell? ⟨w.heap.size + 1, 0, none⟩ = some (.int .i64 0) ∧ W3.cell? ⟨w.heap.size + 1, 1, none⟩ = some (.int .i64 0) ∧ W3.cell? ⟨w.heap.size + 1, 2, none⟩ = some (.slice none 0 0)) ∧ ∀ o, W3.frozen? ⟨w.heap.size + 1, o, none⟩ = false) := ⟨⟨r0, r1, r2⟩, rz⟩
  clear hc2 hf2 hl2 hl2' hb2 hX3 hX4 q0 q1 q2 o0 o1 o2 r0 r1 r2 rz
  go_wp2_with fail
  rw [← hW3]
  clear hW3
  have HO : Hid (W3.cell? ⟨w2.heap.size, 0, none⟩ = some (.int .i64 (a : Int)) ∧ W3.cell? ⟨w2.heap.size, 1, none⟩ = some (.int .i64 (b : Int)) ∧ W3.cell? ⟨w2.heap.size, 2, none⟩ = some (.slice (some ⟨X, 0, none⟩) N N)) := HC.out.2
  go_loopw [4] (fun i wr => ∃ y : Nat, y ≤ b ∧ i = .int .i64 y ∧ Hid (Filled wr X N pos T (y * a)) ∧ Hid (∀ o, wr.frozen? ⟨X, o, none⟩ = false) ∧ Hid (wr.cell? ⟨w2.heap.size, 0, none⟩ = some (.int .i64 (a : Int)) ∧ wr.cell? ⟨w2.heap.size, 1, none⟩ = some (.int .i64 (b : Int)) ∧ wr.cell? ⟨w2.heap.size, 2, none⟩ = some (.slice (some ⟨X, 0, none⟩) N N)) ∧ W3.heap.size ≤ wr.heap.size ∧ Below X W3 wr) (fun i _ => b - (intOf i).toNat)
  case atStart => exact ⟨0, Nat.zero_le _, rfl, by rw [Nat.zero_mul]; exact HX3, HX4, HO, Nat.le_refl _, Below.refl _ _⟩
  case round =>
    clear HO HX3 HX4
    obtain ⟨y, hy, rfl, hfl, hfz, hko, hsr, hbr⟩ := hrel
    obtain ⟨wo, rfl⟩ : ∃ wo : World, wo = wr := ⟨_, rfl⟩
    have q1 := (hbr.cell (p := ⟨w.heap.size, 1, none⟩) (by show w.heap.size < _; omega)).trans HC.out.1.2.1
    by_cases hlt : y < b
    · go_wp2_with fail
      clear q1
      go_loopw [5] (fun i wr => ∃ x : Nat, x ≤ a ∧ i = .int .i64 x ∧ Hid (Filled wr X N pos T (y * a + x)) ∧ Hid (∀ o, wr.frozen? ⟨X, o, none⟩ = false) ∧ Hid (wr.cell? ⟨w2.heap.size, 0, none⟩ = some (.int .i64 (a : Int)) ∧ wr.cell? ⟨w2.heap.size, 1, none⟩ = some (.int .i64 (b : Int)) ∧ wr.cell? ⟨w2.heap.size, 2, none⟩ = some (.slice (some ⟨X, 0, none⟩) N N)) ∧ W3.heap.size ≤ wr.heap.size ∧ Below X W3 wr) (fun i _ => a - (intOf i).toNat)
      case atStart => exact ⟨0, Nat.zero_le _, rfl, hfl, hfz, hko, hsr, hbr⟩
      case round =>
        clear hfl hfz hko hsr hbr
        obtain ⟨x, hx, rfl, hfl, hfz, hko, hsr, hbr⟩ := hrel
        obtain ⟨wi, rfl⟩ : ∃ wi : World, wi = wr := ⟨_, rfl⟩
        have q0 := (hbr.cell (p := ⟨w.heap.size, 0, none⟩) (by show w.heap.size < _; omega)).trans HC.out.1.1
        by_cases hlx : x < a
        · have q1 := (hbr.cell (p := ⟨w.heap.size, 1, none⟩) (by show w.heap.size < _; omega)).trans HC.out.1.2.1
          have q2 := (hbr.cell (p := ⟨w.heap.size, 2, none⟩) (by show w.heap.size < _; omega)).trans HC.out.1.2.2
          have o2 := hko.out.2.2
          have hwi : Below w.heap.size w wi := b03.trans (hbr.mono (by omega))
          have hkk : y * a + x < a * b := idx_lt hlx hlt
          obtain ⟨v, hv⟩ : ∃ v, v = cs.getD (y * a + x) 0 := ⟨_, rfl⟩
          have hgk := HG.out.at_ (y * a + x) (by rw [HL.out]; exact hkk)
          have hpk : pos (y * a + x) = y * a + (a - 1 - x) := by
            have e2 : (y * a + x) % a = x := by rw [Nat.mul_comm, Nat.mul_add_mod]; exact Nat.mod_eq_of_lt hlx
            have e3 : (y * a + x) / a = y := by rw [Nat.mul_comm, Nat.mul_add_div (by omega), Nat.div_eq_of_lt hlx]; rfl
            rw [HPS.out, e2, e3]
          rw [hpk, HL.out, ← hv] at hgk
          have hpn : y * a + (a - 1 - x) < N := by rw [HNN.out]; exact hgk.1
          have HTK := Lib.hid hgk.2
          have HPK := Lib.hid hpk
          obtain ⟨K, hK⟩ : ∃ K, K = y * a + (a - 1 - x) := ⟨_, rfl⟩
          rw [← hK] at hpn HTK HPK
          have HV : Hid (v = cel ⟨a, b, cs⟩ x y) := by show _ = _; rw [hv]; simp [cel]
          have m1 : (0 : Int) ≤ (y : Int) * (a : Int) := by rw [← Int.natCast_mul]; omega
          have m2 : (y : Int) * (a : Int) ≤ 40000 := by
            rw [← Int.natCast_mul]
            have : y * a ≤ a * b := by omega
            omega
          have hya : ((y * a : Nat) : Int) = (y : Int) * (a : Int) := Int.natCast_mul _ _
          have e5 : (y : Int) * (a : Int) + (a : Int) - 1 - (x : Int) = (K : Int) := by omega
          have m3 : (K : Int) < (N : Int) := by omega
          clear hgk hpk hv hK hya
          go_wp2_with fail
          have f0 := ext_cell q0
          have f1 := ext_cell q1
          have f2 := ext_cell q2
          have f3 := ext_cell o2
          have cF : ∀ z : Ext wi, Calls Tryz.prog 39 #[.agg #[.int .i64 (a : Int), .int .i64 (b : Int), .slice A n c], .int .i64 (x : Int), .int .i64 (y : Int)] (ext wi z) fun e w'' => e = .returned (.int .i64 v) ∧ ∃ y, w'' = ext wi y := fun z => ext_call (by
            have hww := hwi.trans ((ext_below z).mono hwi.size)
            exact rcell_any a b cs A n c _ _ v x y (ext wi z) rfl rfl HV.out hlx hlt h3 HL.out HN.out (HP.out.keep hww hww.size))
          refine wp_region_ext_tail 17 (by kernel_rfl) (by kernel_rfl) ?_
          simp only [List.take_succ_cons, List.take_zero, List.drop_succ_cons, List.drop_zero]
          repeat (go_big_quiet_step (first | (go_at_call 39; with_reducible exact cF _)))
          refine wpQuiet_nil ?_
          intro _ hw'
          obtain ⟨xq, rfl⟩ := hw'
          obtain ⟨W6, hb6, he6⟩ : ∃ W6, Below wi.heap.size wi W6 ∧ ext wi xq = W6 := ⟨_, ext_below _, rfl⟩
          rw [he6]
          clear he6 xq f0 f1 f2 f3 cF
          obtain ⟨vo, hvo, -⟩ := (hfl.out.keep hb6 (by omega)) K hpn
          have az : ∀ o, W6.frozen? ⟨X, o, none⟩ = false := fun o => (hb6.frozen (p := ⟨X, o, none⟩) (by show X < _; omega)).trans (hfz.out o)
          have HST : Hid (∀ W : World, Filled W X N pos T (y * a + x) → Filled (W.setCell ⟨X, K, none⟩ (.int .i64 v)) X N pos T (y * a + x + 1)) := fun W hW => by
            have := hW.step v (by rw [HPK.out]; exact HTK.out)
            rw [HPK.out] at this
            exact this
          go_wp2_with fail
          go_roundw
          case rel =>
            have hxl : X < w2.heap.size := hX2
            have ko : ∀ j u, W6.cell? ⟨w2.heap.size, j, none⟩ = some u → (W6.setCell ⟨X, K, none⟩ (.int .i64 v)).cell? ⟨w2.heap.size, j, none⟩ = some u := fun j u h => (World.cell?_setCell_other _ _ _ _ (fun h => by injection h with h1; omega)).trans h
            have kp := fun (j : Nat) (u : Value) (h : wi.cell? ⟨w2.heap.size, j, none⟩ = some u) => ko j u ((hb6.cell (p := ⟨w2.heap.size, j, none⟩) (by show w2.heap.size < _; omega)).trans h)
            refine ⟨x + 1, by omega, by go_num, HST.out _ (hfl.out.keep hb6 (by omega)), ?_, ⟨kp _ _ hko.out.1, kp _ _ hko.out.2.1, kp _ _ hko.out.2.2⟩, ?_, ?_⟩
            · exact fun o => by
                rw [World.frozen?_setCell]
                exact az o
            · exact Nat.le_trans hsr (by simpa [World.setCell] using hb6.size)
            · exact (hbr.trans (hb6.mono (by omega))).setCell (Nat.le_refl _) _
          case measure => simp [intOf]; omega
        · have e : x = a := by omega
          subst e
          have HF1 : Hid (Filled wi X N pos T ((y + 1) * x)) := by
            show Filled wi X N pos T ((y + 1) * x)
            rw [Nat.add_mul, Nat.one_mul]
            exact hfl.out
          clear hfl
          go_wp2_with fail
          go_roundw
          case rel => exact ⟨y + 1, by omega, by go_num, HF1, hfz, hko, hsr, hbr⟩
          case measure => simp [intOf]; omega
    · have e : y = b := by omega
      subst e
      have HI : Hid (IntsNew wo X (some ⟨X, 0, none⟩) T) := by
        have h := hfl.out
        rw [HNN.out, Nat.mul_comm y a, ← HL.out] at h
        exact Filled.ints HG.out h (Nat.le_refl _) (by omega)
      have HLT : Hid (N = T.length) := by show _ = _; rw [HG.out.len, HL.out]; exact HNN.out
      have o0 := hko.out.1
      have o1 := hko.out.2.1
      have o2 := hko.out.2.2
      have r0 := (hbr.cell (p := ⟨w.heap.size + 1, 0, none⟩) (by show w.heap.size + 1 < _; omega)).trans HR.out.1.1
      have r1 := (hbr.cell (p := ⟨w.heap.size + 1, 1, none⟩) (by show w.heap.size + 1 < _; omega)).trans HR.out.1.2.1
      have r2 := (hbr.cell (p := ⟨w.heap.size + 1, 2, none⟩) (by show w.heap.size + 1 < _; omega)).trans HR.out.1.2.2
      have z0 : ∀ o, wo.frozen? ⟨w.heap.size + 1, o, none⟩ = false := fun o => (hbr.frozen (p := ⟨w.heap.size + 1, o, none⟩) (by show w.heap.size + 1 < _; omega)).trans (HR.out.2 o)
      have hwo : Below w.heap.size w wo := b03.trans (hbr.mono (by omega))
      clear hfl hfz
      go_wp2_with fail
      refine bodyPost_ret (v := .agg #[.int .i64 (a : Int), .int .i64 (y : Int), .slice (some ⟨X, 0, none⟩) N N]) (by simp [results, Tryz.results14, go_sem, r0, r1, r2]) rfl ?_
      refine ⟨((hwo.setCell (by show w.heap.size ≤ w.heap.size + 1; omega) _).setCell (by show w.heap.size ≤ w.heap.size + 1; omega) _).setCell (by show w.heap.size ≤ w.heap.size + 1; omega) _, some ⟨X, 0, none⟩, N, ?_, ?_⟩
      · rw [HWH.out.1, HWH.out.2, ← HT.out, ← HLT.out]
      · rw [← HT.out]
        exact (((HI.out.set (p := ⟨w.heap.size + 1, 0, none⟩) (by show w.heap.size + 1 < _; omega) _).set (p := ⟨w.heap.size + 1, 1, none⟩) (by show w.heap.size + 1 < _; omega) _).set (p := ⟨w.heap.size + 1, 2, none⟩) (by show w.heap.size + 1 < _; omega) _).mono (by omega)
set_option maxHeartbeats 4000000 in
theorem rupP_any (a b : Nat) (cs : List Int) (A : Option Addr) (n c : Nat) (w : World) (hf : form ⟨a, b, cs⟩ = true) (hn : n = cs.length) (hP : IntsIn w w.heap.size A cs) :
    Calls Tryz.prog 15 #[.agg #[.int .i64 (a : Int), .int .i64 (b : Int), .slice A n c]] w (IsRPat (upP ⟨a, b, cs⟩) w) := by
  obtain ⟨a', b', e1, e2, h1, h2, h3, h4⟩ := form_nat hf
  have e1' : a = a' := by have : (a : Int) = a' := e1; omega
  have e2' : b = b' := by have : (b : Int) = b' := e2; omega
  subst e1'
  subst e2'
  clear e1 e2
  have a40 : a ≤ 40000 := by have := Nat.le_mul_of_pos_right a (show 0 < b by omega); omega
  have b40 : b ≤ 40000 := by have := Nat.le_mul_of_pos_left b (show 0 < a by omega); omega
  obtain ⟨pos, hps⟩ : ∃ pos : Nat → Nat, pos = fun i => (b - 1 - i / a) * a + i % a := ⟨_, rfl⟩
  have HG : Hid (Goes pos cs (upP ⟨a, b, cs⟩).c) := by rw [hps]; exact up_goes hf rfl rfl
  have HPS : Hid (∀ i, pos i = (b - 1 - i / a) * a + i % a) := fun i => by rw [hps]
  clear hps
  have HWH : Hid ((upP ⟨a, b, cs⟩).w = (a : Int) ∧ (upP ⟨a, b, cs⟩).h = (b : Int)) := upP_w hf
  obtain ⟨T, hT⟩ : ∃ T, T = (upP ⟨a, b, cs⟩).c := ⟨_, rfl⟩
  rw [← hT] at HG
  have HN := Lib.hid hn
  have HL : Hid (cs.length = a * b) := h4
  have HP := Lib.hid hP
  have HT := Lib.hid hT
  clear hn hP h4 hT hf
  go_enter Tryz.func15, Tryz.ntmps15
  go_wp2_with fail
  obtain ⟨N, hN⟩ : ∃ N, N = a * b := ⟨_, rfl⟩
  have HNN := Lib.hid hN
  have hN4 : N ≤ 40000 := by omega
  clear hN
  refine (rblank_any a b N _ HNN.out hN4 a40 b40).mono ?_
  rintro e w2 ⟨hb2, X, hX1, hX2, rfl, hX3, hX4⟩
  obtain ⟨hc2, hf2⟩ := bcell hb2
  have hs2 := hb2.size
  simp at hs2 hX1
  have b2 : Below w.heap.size w w2 := (((Below.refl _ _).alloc (Nat.le_refl _) _).alloc (by simp) _).trans (hb2.mono (by simp; omega))
  have hl2 : w.heap.size < (((w.alloc (.cells #[.int .i64 (a : Int), .int .i64 (b : Int), .slice A n c] 24)).alloc (.cells #[.int .i64 0, .int .i64 0, .slice none 0 0] 24))).heap.size := by simp; omega
  have hl2' : w.heap.size + 1 < (((w.alloc (.cells #[.int .i64 (a : Int), .int .i64 (b : Int), .slice A n c] 24)).alloc (.cells #[.int .i64 0, .int .i64 0, .slice none 0 0] 24))).heap.size := by simp
  obtain ⟨W3, hW3⟩ : ∃ W3, W3 = w2.alloc (.cells #[.int .i64 (a : Int), .int .i64 (b : Int), .slice (some ⟨X, 0, none⟩) N N] 24) := ⟨_, rfl⟩
  have b3 : Below w2.heap.size w2 W3 := by rw [hW3]; exact (Below.refl _ _).alloc (Nat.le_refl _) _
  have z3 : W3.heap.size = w2.heap.size + 1 := by rw [hW3]; simp
  have o0 : W3.cell? ⟨w2.heap.size, 0, none⟩ = some (.int .i64 (a : Int)) := by rw [hW3]; simp
  have o1 : W3.cell? ⟨w2.heap.size, 1, none⟩ = some (.int .i64 (b : Int)) := by rw [hW3]; simp
  have o2 : W3.cell? ⟨w2.heap.size, 2, none⟩ = some (.slice (some ⟨X, 0, none⟩) N N) := by rw [hW3]; simp
  have q0 : W3.cell? ⟨w.heap.size, 0, none⟩ = some (.int .i64 (a : Int)) := (b3.cell (p := ⟨w.heap.size, 0, none⟩) (by show w.heap.size < _; omega)).trans ((hc2 _ _ hl2).trans (by simp [go_sem]))
  have q1 : W3.cell? ⟨w.heap.size, 1, none⟩ = some (.int .i64 (b : Int)) := (b3.cell (p := ⟨w.heap.size, 1, none⟩) (by show w.heap.size < _; omega)).trans ((hc2 _ _ hl2).trans (by simp [go_sem]))
  have q2 : W3.cell? ⟨w.heap.size, 2, none⟩ = some (.slice A n c) := (b3.cell (p := ⟨w.heap.size, 2, none⟩) (by show w.heap.size < _; omega)).trans ((hc2 _ _ hl2).trans (by simp [go_sem]))
  have r0 : W3.cell? ⟨w.heap.size + 1, 0, none⟩ = some (.int .i64 0) := (b3.cell (p := ⟨w.heap.size + 1, 0, none⟩) (by show w.heap.size + 1 < _; omega)).trans ((hc2 _ _ hl2').trans (by simp [go_sem]))
  have r1 : W3.cell? ⟨w.heap.size + 1, 1, none⟩ = some (.int .i64 0) := (b3.cell (p := ⟨w.heap.size + 1, 1, none⟩) (by show w.heap.size + 1 < _; omega)).trans ((hc2 _ _ hl2').trans (by simp [go_sem]))
  have r2 : W3.cell? ⟨w.heap.size + 1, 2, none⟩ = some (.slice none 0 0) := (b3.cell (p := ⟨w.heap.size + 1, 2, none⟩) (by show w.heap.size + 1 < _; omega)).trans ((hc2 _ _ hl2').trans (by simp [go_sem]))
  have rz : ∀ o, W3.frozen? ⟨w.heap.size + 1, o, none⟩ = false := fun o => (b3.frozen (p := ⟨w.heap.size + 1, o, none⟩) (by show w.heap.size + 1 < _; omega)).trans ((hf2 _ _ hl2').trans (World.frozen?_alloc_at _ _ _ _ (by simp)))
  have HX3 : Hid (Filled W3 X N pos T 0) := fun j hj => ⟨0, (b3.cell (p := ⟨X, j, none⟩) hX2).trans (hX3 j hj), fun i hi => absurd hi (by omega)⟩
  have HX4 : Hid (∀ o, W3.frozen? ⟨X, o, none⟩ = false) := fun o => (b3.frozen (p := ⟨X, o, none⟩) hX2).trans (hX4 o)
  have b03 : Below w.heap.size w W3 := b2.trans (b3.mono (by omega))
  have HC : Hid ((W3.cell? ⟨w.heap.size, 0, none⟩ = some (.int .i64 (a : Int)) ∧ W3.cell? ⟨w.heap.size, 1, none⟩ = some (.int .i64 (b : Int)) ∧ W3.cell? ⟨w.heap.size, 2, none⟩ = some (.slice A n c)) ∧ (W3.cell? ⟨w2.heap.size, 0, none⟩ = some (.int .i64 (a : Int)) ∧ W3.cell? ⟨w2.heap.size, 1, none⟩ = some (.int .i64 (b : Int)) ∧ W3.cell? ⟨w2.heap.size, 2, none⟩ = some (.slice (some ⟨X, 0, none⟩) N N))) := ⟨⟨q0, q1, q2⟩, o0, o1, o2⟩
  have HR : Hid ((W3.cell? ⟨w.heap.size + 1, 0, none⟩ = some (.int .i64 0) ∧ W3.cell? ⟨w.heap.size + 1, 1, none⟩ = some (.int .i64 0) ∧ W3.cell? ⟨w.heap.size + 1, 2, none⟩ = some (.slice none 0 0)) ∧ ∀ o, W3.frozen? ⟨w.heap.size + 1, o, none⟩ = false) := ⟨⟨r0, r1, r2⟩, rz⟩
  clear hc2 hf2 hl2 hl2' hb2 hX3 hX4 q0 q1 q2 o0 o1 o2 r0 r1 r2 rz
  go_wp2_with fail
  rw [← hW3]
  clear hW3
  have HO : Hid (W3.cell? ⟨w2.heap.size, 0, none⟩ = some (.int .i64 (a : Int)) ∧ W3.cell? ⟨w2.heap.size, 1, none⟩ = some (.int .i64 (b : Int)) ∧ W3.cell? ⟨w2.heap.size, 2, none⟩ = some (.slice (some ⟨X, 0, none⟩) N N)) := HC.out.2
  go_loopw [4] (fun i wr => ∃ y : Nat, y ≤ b ∧ i = .int .i64 y ∧ Hid (Filled wr X N pos T (y * a)) ∧ Hid (∀ o, wr.frozen? ⟨X, o, none⟩ = false) ∧ Hid (wr.cell? ⟨w2.heap.size, 0, none⟩ = some (.int .i64 (a : Int)) ∧ wr.cell? ⟨w2.heap.size, 1, none⟩ = some (.int .i64 (b : Int)) ∧ wr.cell? ⟨w2.heap.size, 2, none⟩ = some (.slice (some ⟨X, 0, none⟩) N N)) ∧ W3.heap.size ≤ wr.heap.size ∧ Below X W3 wr) (fun i _ => b - (intOf i).toNat)
  case atStart => exact ⟨0, Nat.zero_le _, rfl, by rw [Nat.zero_mul]; exact HX3, HX4, HO, Nat.le_refl _, Below.refl _ _⟩
  case round =>
    clear HO HX3 HX4
    obtain ⟨y, hy, rfl, hfl, hfz, hko, hsr, hbr⟩ := hrel
    obtain ⟨wo, rfl⟩ : ∃ wo : World, wo = wr := ⟨_, rfl⟩
    have q1 := (hbr.cell (p := ⟨w.heap.size, 1, none⟩) (by show w.heap.size < _; omega)).trans HC.out.1.2.1
    by_cases hlt : y < b
    · go_wp2_with fail
      clear q1
      go_loopw [5] (fun i wr => ∃ x : Nat, x ≤ a ∧ i = .int .i64 x ∧ Hid (Filled wr X N pos T (y * a + x)) ∧ Hid (∀ o, wr.frozen? ⟨X, o, none⟩ = false) ∧ Hid (wr.cell? ⟨w2.heap.size, 0, none⟩ = some (.int .i64 (a : Int)) ∧ wr.cell? ⟨w2.heap.size, 1, none⟩ = some (.int .i64 (b : Int)) ∧ wr.cell? ⟨w2.heap.size, 2, none⟩ = some (.slice (some ⟨X, 0, none⟩) N N)) ∧ W3.heap.size ≤ wr.heap.size ∧ Below X W3 wr) (fun i _ => a - (intOf i).toNat)
      case atStart => exact ⟨0, Nat.zero_le _, rfl, hfl, hfz, hko, hsr, hbr⟩
      case round =>
        clear hfl hfz hko hsr hbr
        obtain ⟨x, hx, rfl, hfl, hfz, hko, hsr, hbr⟩ := hrel
        obtain ⟨wi, rfl⟩ : ∃ wi : World, wi = wr := ⟨_, rfl⟩
        have q0 := (hbr.cell (p := ⟨w.heap.size, 0, none⟩) (by show w.heap.size < _; omega)).trans HC.out.1.1
        by_cases hlx : x < a
        · have q1 := (hbr.cell (p := ⟨w.heap.size, 1, none⟩) (by show w.heap.size < _; omega)).trans HC.out.1.2.1
          have q2 := (hbr.cell (p := ⟨w.heap.size, 2, none⟩) (by show w.heap.size < _; omega)).trans HC.out.1.2.2
          have o2 := hko.out.2.2
          have hwi : Below w.heap.size w wi := b03.trans (hbr.mono (by omega))
          have hkk : y * a + x < a * b := idx_lt hlx hlt
          obtain ⟨v, hv⟩ : ∃ v, v = cs.getD (y * a + x) 0 := ⟨_, rfl⟩
          have hgk := HG.out.at_ (y * a + x) (by rw [HL.out]; exact hkk)
          have hpk : pos (y * a + x) = (b - 1 - y) * a + x := by
            have e2 : (y * a + x) % a = x := by rw [Nat.mul_comm, Nat.mul_add_mod]; exact Nat.mod_eq_of_lt hlx
            have e3 : (y * a + x) / a = y := by rw [Nat.mul_comm, Nat.mul_add_div (by omega), Nat.div_eq_of_lt hlx]; rfl
            rw [HPS.out, e2, e3]
          rw [hpk, HL.out, ← hv] at hgk
          have hpn : (b - 1 - y) * a + x < N := by rw [HNN.out]; exact hgk.1
          have HTK := Lib.hid hgk.2
          have HPK := Lib.hid hpk
          obtain ⟨K, hK⟩ : ∃ K, K = (b - 1 - y) * a + x := ⟨_, rfl⟩
          rw [← hK] at hpn HTK HPK
          have HV : Hid (v = cel ⟨a, b, cs⟩ x y) := by show _ = _; rw [hv]; simp [cel]
          have hr : (b : Int) - 1 - (y : Int) = ((b - 1 - y : Nat) : Int) := by omega
          have hya : (((b - 1 - y) * a : Nat) : Int) = ((b : Int) - 1 - (y : Int)) * (a : Int) := by rw [hr]; exact Int.natCast_mul _ _
          have m1 : (0 : Int) ≤ ((b : Int) - 1 - (y : Int)) * (a : Int) := by rw [← hya]; omega
          have m2 : ((b : Int) - 1 - (y : Int)) * (a : Int) ≤ 40000 := by rw [← hya]; omega
          have e5 : ((b : Int) - 1 - (y : Int)) * (a : Int) + (x : Int) = (K : Int) := by rw [← hya]; omega
          have m3 : (K : Int) < (N : Int) := by omega
          clear hgk hpk hv hK hya hr
          go_wp2_with fail
          have f0 := ext_cell q0
          have f1 := ext_cell q1
          have f2 := ext_cell q2
          have f3 := ext_cell o2
          have cF : ∀ z : Ext wi, Calls Tryz.prog 39 #[.agg #[.int .i64 (a : Int), .int .i64 (b : Int), .slice A n c], .int .i64 (x : Int), .int .i64 (y : Int)] (ext wi z) fun e w'' => e = .returned (.int .i64 v) ∧ ∃ y, w'' = ext wi y := fun z => ext_call (by
            have hww := hwi.trans ((ext_below z).mono hwi.size)
            exact rcell_any a b cs A n c _ _ v x y (ext wi z) rfl rfl HV.out hlx hlt h3 HL.out HN.out (HP.out.keep hww hww.size))
          refine wp_region_ext_tail 17 (by kernel_rfl) (by kernel_rfl) ?_
          simp only [List.take_succ_cons, List.take_zero, List.drop_succ_cons, List.drop_zero]
          repeat (go_big_quiet_step (first | (go_at_call 39; with_reducible exact cF _)))
          refine wpQuiet_nil ?_
          intro _ hw'
          obtain ⟨xq, rfl⟩ := hw'
          obtain ⟨W6, hb6, he6⟩ : ∃ W6, Below wi.heap.size wi W6 ∧ ext wi xq = W6 := ⟨_, ext_below _, rfl⟩
          rw [he6]
          clear he6 xq f0 f1 f2 f3 cF
          obtain ⟨vo, hvo, -⟩ := (hfl.out.keep hb6 (by omega)) K hpn
          have az : ∀ o, W6.frozen? ⟨X, o, none⟩ = false := fun o => (hb6.frozen (p := ⟨X, o, none⟩) (by show X < _; omega)).trans (hfz.out o)
          have HST : Hid (∀ W : World, Filled W X N pos T (y * a + x) → Filled (W.setCell ⟨X, K, none⟩ (.int .i64 v)) X N pos T (y * a + x + 1)) := fun W hW => by
            have := hW.step v (by rw [HPK.out]; exact HTK.out)
            rw [HPK.out] at this
            exact this
          go_wp2_with fail
          go_roundw
          case rel =>
            have hxl : X < w2.heap.size := hX2
            have ko : ∀ j u, W6.cell? ⟨w2.heap.size, j, none⟩ = some u → (W6.setCell ⟨X, K, none⟩ (.int .i64 v)).cell? ⟨w2.heap.size, j, none⟩ = some u := fun j u h => (World.cell?_setCell_other _ _ _ _ (fun h => by injection h with h1; omega)).trans h
            have kp := fun (j : Nat) (u : Value) (h : wi.cell? ⟨w2.heap.size, j, none⟩ = some u) => ko j u ((hb6.cell (p := ⟨w2.heap.size, j, none⟩) (by show w2.heap.size < _; omega)).trans h)
            refine ⟨x + 1, by omega, by go_num, HST.out _ (hfl.out.keep hb6 (by omega)), ?_, ⟨kp _ _ hko.out.1, kp _ _ hko.out.2.1, kp _ _ hko.out.2.2⟩, ?_, ?_⟩
            · exact fun o => by
                rw [World.frozen?_setCell]
                exact az o
            · exact Nat.le_trans hsr (by simpa [World.setCell] using hb6.size)
            · exact (hbr.trans (hb6.mono (by omega))).setCell (Nat.le_refl _) _
          case measure => simp [intOf]; omega
        · have e : x = a := by omega
          subst e
          have HF1 : Hid (Filled wi X N pos T ((y + 1) * x)) := by
            show Filled wi X N pos T ((y + 1) * x)
            rw [Nat.add_mul, Nat.one_mul]
            exact hfl.out
          clear hfl
          go_wp2_with fail
          go_roundw
          case rel => exact ⟨y + 1, by omega, by go_num, HF1, hfz, hko, hsr, hbr⟩
          case measure => simp [intOf]; omega
    · have e : y = b := by omega
      subst e
      have HI : Hid (IntsNew wo X (some ⟨X, 0, none⟩) T) := by
        have h := hfl.out
        rw [HNN.out, Nat.mul_comm y a, ← HL.out] at h
        exact Filled.ints HG.out h (Nat.le_refl _) (by omega)
      have HLT : Hid (N = T.length) := by show _ = _; rw [HG.out.len, HL.out]; exact HNN.out
      have o0 := hko.out.1
      have o1 := hko.out.2.1
      have o2 := hko.out.2.2
      have r0 := (hbr.cell (p := ⟨w.heap.size + 1, 0, none⟩) (by show w.heap.size + 1 < _; omega)).trans HR.out.1.1
      have r1 := (hbr.cell (p := ⟨w.heap.size + 1, 1, none⟩) (by show w.heap.size + 1 < _; omega)).trans HR.out.1.2.1
      have r2 := (hbr.cell (p := ⟨w.heap.size + 1, 2, none⟩) (by show w.heap.size + 1 < _; omega)).trans HR.out.1.2.2
      have z0 : ∀ o, wo.frozen? ⟨w.heap.size + 1, o, none⟩ = false := fun o => (hbr.frozen (p := ⟨w.heap.size + 1, o, none⟩) (by show w.heap.size + 1 < _; omega)).trans (HR.out.2 o)
      have hwo : Below w.heap.size w wo := b03.trans (hbr.mono (by omega))
      clear hfl hfz
      go_wp2_with fail
      refine bodyPost_ret (v := .agg #[.int .i64 (a : Int), .int .i64 (y : Int), .slice (some ⟨X, 0, none⟩) N N]) (by simp [results, Tryz.results15, go_sem, r0, r1, r2]) rfl ?_
      refine ⟨((hwo.setCell (by show w.heap.size ≤ w.heap.size + 1; omega) _).setCell (by show w.heap.size ≤ w.heap.size + 1; omega) _).setCell (by show w.heap.size ≤ w.heap.size + 1; omega) _, some ⟨X, 0, none⟩, N, ?_, ?_⟩
      · rw [HWH.out.1, HWH.out.2, ← HT.out, ← HLT.out]
      · rw [← HT.out]
        exact (((HI.out.set (p := ⟨w.heap.size + 1, 0, none⟩) (by show w.heap.size + 1 < _; omega) _).set (p := ⟨w.heap.size + 1, 1, none⟩) (by show w.heap.size + 1 < _; omega) _).set (p := ⟨w.heap.size + 1, 2, none⟩) (by show w.heap.size + 1 < _; omega) _).mono (by omega)
set_option maxHeartbeats 4000000 in
theorem rturP_any (a b : Nat) (cs : List Int) (A : Option Addr) (n c : Nat) (w : World) (hf : form ⟨a, b, cs⟩ = true) (hn : n = cs.length) (hP : IntsIn w w.heap.size A cs) :
    Calls Tryz.prog 16 #[.agg #[.int .i64 (a : Int), .int .i64 (b : Int), .slice A n c]] w (IsRPat (turP ⟨a, b, cs⟩) w) := by
  obtain ⟨a', b', e1, e2, h1, h2, h3, h4⟩ := form_nat hf
  have e1' : a = a' := by have : (a : Int) = a' := e1; omega
  have e2' : b = b' := by have : (b : Int) = b' := e2; omega
  subst e1'
  subst e2'
  clear e1 e2
  have a40 : a ≤ 40000 := by have := Nat.le_mul_of_pos_right a (show 0 < b by omega); omega
  have b40 : b ≤ 40000 := by have := Nat.le_mul_of_pos_left b (show 0 < a by omega); omega
  obtain ⟨pos, hps⟩ : ∃ pos : Nat → Nat, pos = fun i => (a - 1 - i % a) * b + i / a := ⟨_, rfl⟩
  have HG : Hid (Goes pos cs (turP ⟨a, b, cs⟩).c) := by rw [hps]; exact tur_goes hf rfl rfl
  have HPS : Hid (∀ i, pos i = (a - 1 - i % a) * b + i / a) := fun i => by rw [hps]
  clear hps
  have HWH : Hid ((turP ⟨a, b, cs⟩).w = (b : Int) ∧ (turP ⟨a, b, cs⟩).h = (a : Int)) := turP_w hf
  obtain ⟨T, hT⟩ : ∃ T, T = (turP ⟨a, b, cs⟩).c := ⟨_, rfl⟩
  rw [← hT] at HG
  have HN := Lib.hid hn
  have HL : Hid (cs.length = a * b) := h4
  have HP := Lib.hid hP
  have HT := Lib.hid hT
  clear hn hP h4 hT hf
  go_enter Tryz.func16, Tryz.ntmps16
  go_wp2_with fail
  obtain ⟨N, hN⟩ : ∃ N, N = a * b := ⟨_, rfl⟩
  have HNN := Lib.hid hN
  have hN4 : N ≤ 40000 := by omega
  clear hN
  refine (rblank_any b a N _ (by rw [HNN.out, Nat.mul_comm]) hN4 b40 a40).mono ?_
  rintro e w2 ⟨hb2, X, hX1, hX2, rfl, hX3, hX4⟩
  obtain ⟨hc2, hf2⟩ := bcell hb2
  have hs2 := hb2.size
  simp at hs2 hX1
  have b2 : Below w.heap.size w w2 := (((Below.refl _ _).alloc (Nat.le_refl _) _).alloc (by simp) _).trans (hb2.mono (by simp; omega))
  have hl2 : w.heap.size < (((w.alloc (.cells #[.int .i64 (a : Int), .int .i64 (b : Int), .slice A n c] 24)).alloc (.cells #[.int .i64 0, .int .i64 0, .slice none 0 0] 24))).heap.size := by simp; omega
  have hl2' : w.heap.size + 1 < (((w.alloc (.cells #[.int .i64 (a : Int), .int .i64 (b : Int), .slice A n c] 24)).alloc (.cells #[.int .i64 0, .int .i64 0, .slice none 0 0] 24))).heap.size := by simp
  obtain ⟨W3, hW3⟩ : ∃ W3, W3 = w2.alloc (.cells #[.int .i64 (b : Int), .int .i64 (a : Int), .slice (some ⟨X, 0, none⟩) N N] 24) := ⟨_, rfl⟩
  have b3 : Below w2.heap.size w2 W3 := by rw [hW3]; exact (Below.refl _ _).alloc (Nat.le_refl _) _
  have z3 : W3.heap.size = w2.heap.size + 1 := by rw [hW3]; simp
  have o0 : W3.cell? ⟨w2.heap.size, 0, none⟩ = some (.int .i64 (b : Int)) := by rw [hW3]; simp
  have o1 : W3.cell? ⟨w2.heap.size, 1, none⟩ = some (.int .i64 (a : Int)) := by rw [hW3]; simp
  have o2 : W3.cell? ⟨w2.heap.size, 2, none⟩ = some (.slice (some ⟨X, 0, none⟩) N N) := by rw [hW3]; simp
  have q0 : W3.cell? ⟨w.heap.size, 0, none⟩ = some (.int .i64 (a : Int)) := (b3.cell (p := ⟨w.heap.size, 0, none⟩) (by show w.heap.size < _; omega)).trans ((hc2 _ _ hl2).trans (by simp [go_sem]))
  have q1 : W3.cell? ⟨w.heap.size, 1, none⟩ = some (.int .i64 (b : Int)) := (b3.cell (p := ⟨w.heap.size, 1, none⟩) (by show w.heap.size < _; omega)).trans ((hc2 _ _ hl2).trans (by simp [go_sem]))
  have q2 : W3.cell? ⟨w.heap.size, 2, none⟩ = some (.slice A n c) := (b3.cell (p := ⟨w.heap.size, 2, none⟩) (by show w.heap.size < _; omega)).trans ((hc2 _ _ hl2).trans (by simp [go_sem]))
  have r0 : W3.cell? ⟨w.heap.size + 1, 0, none⟩ = some (.int .i64 0) := (b3.cell (p := ⟨w.heap.size + 1, 0, none⟩) (by show w.heap.size + 1 < _; omega)).trans ((hc2 _ _ hl2').trans (by simp [go_sem]))
  have r1 : W3.cell? ⟨w.heap.size + 1, 1, none⟩ = some (.int .i64 0) := (b3.cell (p := ⟨w.heap.size + 1, 1, none⟩) (by show w.heap.size + 1 < _; omega)).trans ((hc2 _ _ hl2').trans (by simp [go_sem]))
  have r2 : W3.cell? ⟨w.heap.size + 1, 2, none⟩ = some (.slice none 0 0) := (b3.cell (p := ⟨w.heap.size + 1, 2, none⟩) (by show w.heap.size + 1 < _; omega)).trans ((hc2 _ _ hl2').trans (by simp [go_sem]))
  have rz : ∀ o, W3.frozen? ⟨w.heap.size + 1, o, none⟩ = false := fun o => (b3.frozen (p := ⟨w.heap.size + 1, o, none⟩) (by show w.heap.size + 1 < _; omega)).trans ((hf2 _ _ hl2').trans (World.frozen?_alloc_at _ _ _ _ (by simp)))
  have HX3 : Hid (Filled W3 X N pos T 0) := fun j hj => ⟨0, (b3.cell (p := ⟨X, j, none⟩) hX2).trans (hX3 j hj), fun i hi => absurd hi (by omega)⟩
  have HX4 : Hid (∀ o, W3.frozen? ⟨X, o, none⟩ = false) := fun o => (b3.frozen (p := ⟨X, o, none⟩) hX2).trans (hX4 o)
  have b03 : Below w.heap.size w W3 := b2.trans (b3.mono (by omega))
  have HC : Hid ((W3.cell? ⟨w.heap.size, 0, none⟩ = some (.int .i64 (a : Int)) ∧ W3.cell? ⟨w.heap.size, 1, none⟩ = some (.int .i64 (b : Int)) ∧ W3.cell? ⟨w.heap.size, 2, none⟩ = some (.slice A n c)) ∧ (W3.cell? ⟨w2.heap.size, 0, none⟩ = some (.int .i64 (b : Int)) ∧ W3.cell? ⟨w2.heap.size, 1, none⟩ = some (.int .i64 (a : Int)) ∧ W3.cell? ⟨w2.heap.size, 2, none⟩ = some (.slice (some ⟨X, 0, none⟩) N N))) := ⟨⟨q0, q1, q2⟩, o0, o1, o2⟩
  have HR : Hid ((W3.cell? ⟨w.heap.size + 1, 0, none⟩ = some (.int .i64 0) ∧ W3.cell? ⟨w.heap.size + 1, 1, none⟩ = some (.int .i64 0) ∧ W3.cell? ⟨w.heap.size + 1, 2, none⟩ = some (.slice none 0 0)) ∧ ∀ o, W3.frozen? ⟨w.heap.size + 1, o, none⟩ = false) := ⟨⟨r0, r1, r2⟩, rz⟩
  clear hc2 hf2 hl2 hl2' hb2 hX3 hX4 q0 q1 q2 o0 o1 o2 r0 r1 r2 rz
  go_wp2_with fail
  rw [← hW3]
  clear hW3
  have HO : Hid (W3.cell? ⟨w2.heap.size, 0, none⟩ = some (.int .i64 (b : Int)) ∧ W3.cell? ⟨w2.heap.size, 1, none⟩ = some (.int .i64 (a : Int)) ∧ W3.cell? ⟨w2.heap.size, 2, none⟩ = some (.slice (some ⟨X, 0, none⟩) N N)) := HC.out.2
  go_loopw [4] (fun i wr => ∃ y : Nat, y ≤ b ∧ i = .int .i64 y ∧ Hid (Filled wr X N pos T (y * a)) ∧ Hid (∀ o, wr.frozen? ⟨X, o, none⟩ = false) ∧ Hid (wr.cell? ⟨w2.heap.size, 0, none⟩ = some (.int .i64 (b : Int)) ∧ wr.cell? ⟨w2.heap.size, 1, none⟩ = some (.int .i64 (a : Int)) ∧ wr.cell? ⟨w2.heap.size, 2, none⟩ = some (.slice (some ⟨X, 0, none⟩) N N)) ∧ W3.heap.size ≤ wr.heap.size ∧ Below X W3 wr) (fun i _ => b - (intOf i).toNat)
  case atStart => exact ⟨0, Nat.zero_le _, rfl, by rw [Nat.zero_mul]; exact HX3, HX4, HO, Nat.le_refl _, Below.refl _ _⟩
  case round =>
    clear HO HX3 HX4
    obtain ⟨y, hy, rfl, hfl, hfz, hko, hsr, hbr⟩ := hrel
    obtain ⟨wo, rfl⟩ : ∃ wo : World, wo = wr := ⟨_, rfl⟩
    have q1 := (hbr.cell (p := ⟨w.heap.size, 1, none⟩) (by show w.heap.size < _; omega)).trans HC.out.1.2.1
    by_cases hlt : y < b
    · go_wp2_with fail
      clear q1
      go_loopw [5] (fun i wr => ∃ x : Nat, x ≤ a ∧ i = .int .i64 x ∧ Hid (Filled wr X N pos T (y * a + x)) ∧ Hid (∀ o, wr.frozen? ⟨X, o, none⟩ = false) ∧ Hid (wr.cell? ⟨w2.heap.size, 0, none⟩ = some (.int .i64 (b : Int)) ∧ wr.cell? ⟨w2.heap.size, 1, none⟩ = some (.int .i64 (a : Int)) ∧ wr.cell? ⟨w2.heap.size, 2, none⟩ = some (.slice (some ⟨X, 0, none⟩) N N)) ∧ W3.heap.size ≤ wr.heap.size ∧ Below X W3 wr) (fun i _ => a - (intOf i).toNat)
      case atStart => exact ⟨0, Nat.zero_le _, rfl, hfl, hfz, hko, hsr, hbr⟩
      case round =>
        clear hfl hfz hko hsr hbr
        obtain ⟨x, hx, rfl, hfl, hfz, hko, hsr, hbr⟩ := hrel
        obtain ⟨wi, rfl⟩ : ∃ wi : World, wi = wr := ⟨_, rfl⟩
        have q0 := (hbr.cell (p := ⟨w.heap.size, 0, none⟩) (by show w.heap.size < _; omega)).trans HC.out.1.1
        by_cases hlx : x < a
        · have q1 := (hbr.cell (p := ⟨w.heap.size, 1, none⟩) (by show w.heap.size < _; omega)).trans HC.out.1.2.1
          have q2 := (hbr.cell (p := ⟨w.heap.size, 2, none⟩) (by show w.heap.size < _; omega)).trans HC.out.1.2.2
          have o2 := hko.out.2.2
          have hwi : Below w.heap.size w wi := b03.trans (hbr.mono (by omega))
          have hkk : y * a + x < a * b := idx_lt hlx hlt
          obtain ⟨v, hv⟩ : ∃ v, v = cs.getD (y * a + x) 0 := ⟨_, rfl⟩
          have hgk := HG.out.at_ (y * a + x) (by rw [HL.out]; exact hkk)
          have hpk : pos (y * a + x) = (a - 1 - x) * b + y := by
            have e2 : (y * a + x) % a = x := by rw [Nat.mul_comm, Nat.mul_add_mod]; exact Nat.mod_eq_of_lt hlx
            have e3 : (y * a + x) / a = y := by rw [Nat.mul_comm, Nat.mul_add_div (by omega), Nat.div_eq_of_lt hlx]; rfl
            rw [HPS.out, e2, e3]
          rw [hpk, HL.out, ← hv] at hgk
          have hpn : (a - 1 - x) * b + y < N := by rw [HNN.out]; exact hgk.1
          have HTK := Lib.hid hgk.2
          have HPK := Lib.hid hpk
          obtain ⟨K, hK⟩ : ∃ K, K = (a - 1 - x) * b + y := ⟨_, rfl⟩
          rw [← hK] at hpn HTK HPK
          have HV : Hid (v = cel ⟨a, b, cs⟩ x y) := by show _ = _; rw [hv]; simp [cel]
          have hr : (a : Int) - 1 - (x : Int) = ((a - 1 - x : Nat) : Int) := by omega
          have hya : (((a - 1 - x) * b : Nat) : Int) = ((a : Int) - 1 - (x : Int)) * (b : Int) := by rw [hr]; exact Int.natCast_mul _ _
          have m1 : (0 : Int) ≤ ((a : Int) - 1 - (x : Int)) * (b : Int) := by rw [← hya]; omega
          have m2 : ((a : Int) - 1 - (x : Int)) * (b : Int) ≤ 40000 := by rw [← hya]; omega
          have e5 : ((a : Int) - 1 - (x : Int)) * (b : Int) + (y : Int) = (K : Int) := by rw [← hya]; omega
          have m3 : (K : Int) < (N : Int) := by omega
          clear hgk hpk hv hK hya hr
          go_wp2_with fail
          have f0 := ext_cell q0
          have f1 := ext_cell q1
          have f2 := ext_cell q2
          have f3 := ext_cell o2
          have cF : ∀ z : Ext wi, Calls Tryz.prog 39 #[.agg #[.int .i64 (a : Int), .int .i64 (b : Int), .slice A n c], .int .i64 (x : Int), .int .i64 (y : Int)] (ext wi z) fun e w'' => e = .returned (.int .i64 v) ∧ ∃ y, w'' = ext wi y := fun z => ext_call (by
            have hww := hwi.trans ((ext_below z).mono hwi.size)
            exact rcell_any a b cs A n c _ _ v x y (ext wi z) rfl rfl HV.out hlx hlt h3 HL.out HN.out (HP.out.keep hww hww.size))
          refine wp_region_ext_tail 17 (by kernel_rfl) (by kernel_rfl) ?_
          simp only [List.take_succ_cons, List.take_zero, List.drop_succ_cons, List.drop_zero]
          repeat (go_big_quiet_step (first | (go_at_call 39; with_reducible exact cF _)))
          refine wpQuiet_nil ?_
          intro _ hw'
          obtain ⟨xq, rfl⟩ := hw'
          obtain ⟨W6, hb6, he6⟩ : ∃ W6, Below wi.heap.size wi W6 ∧ ext wi xq = W6 := ⟨_, ext_below _, rfl⟩
          rw [he6]
          clear he6 xq f0 f1 f2 f3 cF
          obtain ⟨vo, hvo, -⟩ := (hfl.out.keep hb6 (by omega)) K hpn
          have az : ∀ o, W6.frozen? ⟨X, o, none⟩ = false := fun o => (hb6.frozen (p := ⟨X, o, none⟩) (by show X < _; omega)).trans (hfz.out o)
          have HST : Hid (∀ W : World, Filled W X N pos T (y * a + x) → Filled (W.setCell ⟨X, K, none⟩ (.int .i64 v)) X N pos T (y * a + x + 1)) := fun W hW => by
            have := hW.step v (by rw [HPK.out]; exact HTK.out)
            rw [HPK.out] at this
            exact this
          go_wp2_with fail
          go_roundw
          case rel =>
            have hxl : X < w2.heap.size := hX2
            have ko : ∀ j u, W6.cell? ⟨w2.heap.size, j, none⟩ = some u → (W6.setCell ⟨X, K, none⟩ (.int .i64 v)).cell? ⟨w2.heap.size, j, none⟩ = some u := fun j u h => (World.cell?_setCell_other _ _ _ _ (fun h => by injection h with h1; omega)).trans h
            have kp := fun (j : Nat) (u : Value) (h : wi.cell? ⟨w2.heap.size, j, none⟩ = some u) => ko j u ((hb6.cell (p := ⟨w2.heap.size, j, none⟩) (by show w2.heap.size < _; omega)).trans h)
            refine ⟨x + 1, by omega, by go_num, HST.out _ (hfl.out.keep hb6 (by omega)), ?_, ⟨kp _ _ hko.out.1, kp _ _ hko.out.2.1, kp _ _ hko.out.2.2⟩, ?_, ?_⟩
            · exact fun o => by
                rw [World.frozen?_setCell]
                exact az o
            · exact Nat.le_trans hsr (by simpa [World.setCell] using hb6.size)
            · exact (hbr.trans (hb6.mono (by omega))).setCell (Nat.le_refl _) _
          case measure => simp [intOf]; omega
        · have e : x = a := by omega
          subst e
          have HF1 : Hid (Filled wi X N pos T ((y + 1) * x)) := by
            show Filled wi X N pos T ((y + 1) * x)
            rw [Nat.add_mul, Nat.one_mul]
            exact hfl.out
          clear hfl
          go_wp2_with fail
          go_roundw
          case rel => exact ⟨y + 1, by omega, by go_num, HF1, hfz, hko, hsr, hbr⟩
          case measure => simp [intOf]; omega
    · have e : y = b := by omega
      subst e
      have HI : Hid (IntsNew wo X (some ⟨X, 0, none⟩) T) := by
        have h := hfl.out
        rw [HNN.out, Nat.mul_comm y a, ← HL.out] at h
        exact Filled.ints HG.out h (Nat.le_refl _) (by omega)
      have HLT : Hid (N = T.length) := by show _ = _; rw [HG.out.len, HL.out]; exact HNN.out
      have o0 := hko.out.1
      have o1 := hko.out.2.1
      have o2 := hko.out.2.2
      have r0 := (hbr.cell (p := ⟨w.heap.size + 1, 0, none⟩) (by show w.heap.size + 1 < _; omega)).trans HR.out.1.1
      have r1 := (hbr.cell (p := ⟨w.heap.size + 1, 1, none⟩) (by show w.heap.size + 1 < _; omega)).trans HR.out.1.2.1
      have r2 := (hbr.cell (p := ⟨w.heap.size + 1, 2, none⟩) (by show w.heap.size + 1 < _; omega)).trans HR.out.1.2.2
      have z0 : ∀ o, wo.frozen? ⟨w.heap.size + 1, o, none⟩ = false := fun o => (hbr.frozen (p := ⟨w.heap.size + 1, o, none⟩) (by show w.heap.size + 1 < _; omega)).trans (HR.out.2 o)
      have hwo : Below w.heap.size w wo := b03.trans (hbr.mono (by omega))
      clear hfl hfz
      go_wp2_with fail
      refine bodyPost_ret (v := .agg #[.int .i64 (y : Int), .int .i64 (a : Int), .slice (some ⟨X, 0, none⟩) N N]) (by simp [results, Tryz.results16, go_sem, r0, r1, r2]) rfl ?_
      refine ⟨((hwo.setCell (by show w.heap.size ≤ w.heap.size + 1; omega) _).setCell (by show w.heap.size ≤ w.heap.size + 1; omega) _).setCell (by show w.heap.size ≤ w.heap.size + 1; omega) _, some ⟨X, 0, none⟩, N, ?_, ?_⟩
      · rw [HWH.out.1, HWH.out.2, ← HT.out, ← HLT.out]
      · rw [← HT.out]
        exact (((HI.out.set (p := ⟨w.heap.size + 1, 0, none⟩) (by show w.heap.size + 1 < _; omega) _).set (p := ⟨w.heap.size + 1, 1, none⟩) (by show w.heap.size + 1 < _; omega) _).set (p := ⟨w.heap.size + 1, 2, none⟩) (by show w.heap.size + 1 < _; omega) _).mono (by omega)
end Go.Proofs.YtmmpdniafmhjpaaGreatDoor

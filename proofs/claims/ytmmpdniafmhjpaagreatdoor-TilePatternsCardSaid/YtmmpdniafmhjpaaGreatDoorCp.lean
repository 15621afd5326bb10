/-
  tile.changePattern; MirrorPattern, UpturnPattern, TurnPattern.
-/
import Derived.Test.YtmmpdniafmhjpaaGreatDoorK
import Derived.Test.YtmmpdniafmhjpaaGreatDoorCs
import Derived.Test.YtmmpdniafmhjpaaGreatDoorPu
namespace Go.Proofs.YtmmpdniafmhjpaaGreatDoor
open Go.RowKit Go.Maps Go.BigFrame
set_option linter.unusedVariables false
set_option maxRecDepth 100000

/-- cells at block b that are written one by one, each to its place; k of them are written -/
def Filled (w : World) (b n : Nat) (pos : Nat → Nat) (T : List Int) (k : Nat) : Prop := ∀ j, j < n → ∃ v, w.cell? ⟨b, j, none⟩ = some (.int .i64 v) ∧ ∀ i, i < k → pos i = j → v = T.getD j 0
theorem Filled.keep {w w' : World} {b n k : Nat} {pos : Nat → Nat} {T : List Int} (h : Filled w b n pos T k) (hb : Below w.heap.size w w') (hlt : b < w.heap.size) : Filled w' b n pos T k := fun j hj => by
  obtain ⟨v, h1, h2⟩ := h j hj
  exact ⟨v, (hb.cell (p := ⟨b, j, none⟩) hlt).trans h1, h2⟩
theorem Filled.step {w : World} {b n k : Nat} {pos : Nat → Nat} {T : List Int} (h : Filled w b n pos T k) (v : Int) (hv : T.getD (pos k) 0 = v) : Filled (w.setCell ⟨b, pos k, none⟩ (.int .i64 v)) b n pos T (k + 1) := fun j hj => by
  obtain ⟨u, h1, h2⟩ := h j hj
  by_cases e : pos k = j
  · subst e
    exact ⟨v, World.cell?_setCell_same _ _ _ h1, fun i _ _ => hv.symm⟩
  · refine ⟨u, (World.cell?_setCell_other _ _ _ _ (fun h => e (by injection h))).trans h1, fun i hi hp => h2 i ?_ hp⟩
    rcases Nat.lt_succ_iff_lt_or_eq.1 hi with h3 | h3
    · exact h3
    · rw [h3] at hp; exact absurd hp e
theorem Filled.ints {w : World} {b lo : Nat} {pos : Nat → Nat} {cs T : List Int} (hg : Goes pos cs T) (h : Filled w b cs.length pos T cs.length) (hlo : lo ≤ b) (hlt : b < w.heap.size) : IntsNew w lo (some ⟨b, 0, none⟩) T := fun _ => by
  refine ⟨b, 0, rfl, hlo, hlt, fun j hj => ?_⟩
  rw [hg.len] at hj
  obtain ⟨v, h1, h2⟩ := h j hj
  obtain ⟨i, hi, hp⟩ := hg.all j hj
  rw [Nat.zero_add, h1, h2 i hi hp]

def IsPat (q : Pt) (W : World) (e : Ending) (w' : World) : Prop := Below W.heap.size W w' ∧ ∃ B c, e = .returned (.tuple #[.agg #[.int .i64 q.w, .int .i64 q.h, .slice B q.c.length c], .int .i64 0]) ∧ IntsNew w' W.heap.size B q.c
def IsNoPat (k : Int) (W : World) (e : Ending) (w' : World) : Prop := Below W.heap.size W w' ∧ e = .returned (.tuple #[.agg #[.int .i64 0, .int .i64 0, .slice none 0 0], .int .i64 k])

theorem mir_sd (a b : Nat) (A : Option Addr) (n c : Nat) (w : World) : Calls Tryz.prog 80 #[.agg #[.int .i64 (a : Int), .int .i64 (b : Int), .slice A n c]] w fun e w' => e = .returned (.tuple #[.int .i64 (a : Int), .int .i64 (b : Int)]) ∧ Below w.heap.size w w' := by
  go_enter Tryz.func80, Tryz.ntmps80
  go_wp2
  first
  | (go_ret2
     exact ⟨rfl, (Below.refl _ _).alloc (Nat.le_refl _) _⟩)
  | (go_quiet (fail)
     go_wp2
     go_ret2
     exact ⟨rfl, ((Below.refl _ _).alloc (Nat.le_refl _) _).trans ⟨rfl, rfl, rfl, by simp, fun _ _ => rfl⟩⟩)
theorem mir_pl (a b : Nat) (A : Option Addr) (n c : Nat) (X Y : Int) (x y C R : Nat) (w : World) (hX : X = x) (hY : Y = y) (hx : x < a) (hy : y < b) (ha : a ≤ 40000) (hb : b ≤ 40000) (hC : C = a - 1 - x) (hR : R = y) :
    Calls Tryz.prog 81 #[.agg #[.int .i64 (a : Int), .int .i64 (b : Int), .slice A n c], .int .i64 X, .int .i64 Y] w fun e w' => e = .returned (.tuple #[.int .i64 (C : Int), .int .i64 (R : Int)]) ∧ Below w.heap.size w w' := by
  subst hX
  subst hY
  have e1 : (C : Int) = (a : Int) - 1 - x := by omega
  have e2 : (R : Int) = y := by omega
  rw [e1, e2]
  clear e1 e2 hC hR
  go_enter Tryz.func81, Tryz.ntmps81
  go_wp2
  first
  | (go_ret2
     exact ⟨rfl, (Below.refl _ _).alloc (Nat.le_refl _) _⟩)
  | (go_quiet (fail)
     go_wp2
     go_ret2
     exact ⟨rfl, ((Below.refl _ _).alloc (Nat.le_refl _) _).trans ⟨rfl, rfl, rfl, by simp, fun _ _ => rfl⟩⟩)

theorem cp_mir_bad (a b : Int) (cs : List Int) (A : Option Addr) (n c : Nat) (w : World) (hf : form ⟨a, b, cs⟩ = false) (hn : n = cs.length) (hnl : n ≤ 9223372036854775807) :
    Calls Tryz.prog 33 #[.agg #[.int .i64 a, .int .i64 b, .slice A n c], .int .i64 0] w (IsNoPat 1 w) := by
  have HF := Lib.hid hf
  have HN := Lib.hid hn
  clear hf hn
  go_enter Tryz.func33, Tryz.ntmps33
  go_wp2_with (go_at_call 34; refine (hasForm_pat a b cs false A n c _ HN.out HF.out hnl).mono ?_; rintro e w2 ⟨rfl, hb2⟩; obtain ⟨hc2, hf2⟩ := bcell hb2; have hs2 := hb2.size; simp at hs2; have ht2 : w.heap.size + 1 < w2.heap.size := by omega)
  refine bodyPost_ret (v := .tuple #[.agg #[.int .i64 0, .int .i64 0, .slice none 0 0], .int .i64 1]) (by simp [results, Tryz.results33, go_sem, hc2]) rfl ?_
  exact ⟨((((((Below.refl _ _).alloc (Nat.le_refl _) _).alloc (by simp) _).trans (hb2.mono (by simp; omega))).setCell (by show w.heap.size ≤ w.heap.size + 1; omega) _).setCell (by show w.heap.size ≤ w.heap.size + 1; omega) _).setCell (by show w.heap.size ≤ w.heap.size + 1; omega) _, rfl⟩
set_option maxHeartbeats 4000000 in
theorem cp_mir_ok (a b : Nat) (cs : List Int) (A : Option Addr) (n c : Nat) (w : World) (hf : form ⟨a, b, cs⟩ = true) (hn : n = cs.length) (hP : IntsIn w w.heap.size A cs) :
    Calls Tryz.prog 33 #[.agg #[.int .i64 (a : Int), .int .i64 (b : Int), .slice A n c], .int .i64 0] w (IsPat (mirP ⟨a, b, cs⟩) w) := by
  obtain ⟨a', b', e1, e2, h1, h2, h3, h4⟩ := form_nat hf
  have e1' : a = a' := by have : (a : Int) = a' := e1; omega
  have e2' : b = b' := by have : (b : Int) = b' := e2; omega
  subst e1'
  subst e2'
  clear e1 e2
  have a40 : a ≤ 40000 := by have := Nat.le_mul_of_pos_right a (show 0 < b by omega); omega
  have b40 : b ≤ 40000 := by have := Nat.le_mul_of_pos_left b (show 0 < a by omega); omega
  have n4 : n ≤ 40000 := by have h4' : cs.length = a * b := h4; omega
  obtain ⟨pos, hps⟩ : ∃ pos : Nat → Nat, pos = fun i => i / a * a + (a - 1 - i % a) := ⟨_, rfl⟩
  have HG : Hid (Goes pos cs (mirP ⟨a, b, cs⟩).c) := by rw [hps]; exact mir_goes hf rfl rfl
  have HPS : Hid (∀ i, pos i = i / a * a + (a - 1 - i % a)) := fun i => by rw [hps]
  clear hps
  have HWH : Hid ((mirP ⟨a, b, cs⟩).w = (a : Int) ∧ (mirP ⟨a, b, cs⟩).h = (b : Int)) := mirP_w hf
  obtain ⟨T, hT⟩ : ∃ T, T = (mirP ⟨a, b, cs⟩).c := ⟨_, rfl⟩
  rw [← hT] at HG
  have HF := Lib.hid hf
  have HN := Lib.hid hn
  have HL : Hid (cs.length = a * b) := h4
  have HP := Lib.hid hP
  have HT := Lib.hid hT
  obtain ⟨i0, hi, hz0, hz1, hz2⟩ := info_parts int_info
  have hby : i0.bytes * n ≤ 281474976710656 := by rw [hz2]; omega
  clear hf hn hP h4 hT
  have hch := fun (W : World) => changes_any W
  have hix : ∀ W : World, (Instr.index 89 chV (.int .i64 0)).run Tryz.prog W = .ok (.agg #[.func (.func 79) #[] #[], .func (.func 80) #[] #[], .func (.func 81) #[] #[]]) W := fun W => by kernel_rfl
  simp only [chV] at hch hix
  go_enter Tryz.func33, Tryz.ntmps33
  go_wp2_with fail
  refine (hasForm_pat a b cs true A n c _ HN.out HF.out (by omega)).mono ?_
  rintro e w2 ⟨rfl, hb2⟩
  obtain ⟨hc2, hf2⟩ := bcell hb2
  have hs2 := hb2.size
  simp at hs2
  have b2 : Below w.heap.size w w2 := (((Below.refl _ _).alloc (Nat.le_refl _) _).alloc (by simp) _).trans (hb2.mono (by simp; omega))
  have hl2 : w.heap.size < (((w.alloc (.cells #[.int .i64 (a : Int), .int .i64 (b : Int), .slice A n c] 24)).alloc (.cells #[.int .i64 0, .int .i64 0, .slice none 0 0] 24))).heap.size := by simp; omega
  have hl2' : w.heap.size + 1 < (((w.alloc (.cells #[.int .i64 (a : Int), .int .i64 (b : Int), .slice A n c] 24)).alloc (.cells #[.int .i64 0, .int .i64 0, .slice none 0 0] 24))).heap.size := by simp
  have q0 : w2.cell? ⟨w.heap.size, 0, none⟩ = some (.int .i64 (a : Int)) := (hc2 _ _ hl2).trans (by simp [go_sem])
  have q1 : w2.cell? ⟨w.heap.size, 1, none⟩ = some (.int .i64 (b : Int)) := (hc2 _ _ hl2).trans (by simp [go_sem])
  have q2 : w2.cell? ⟨w.heap.size, 2, none⟩ = some (.slice A n c) := (hc2 _ _ hl2).trans (by simp [go_sem])
  have r0 : w2.cell? ⟨w.heap.size + 1, 0, none⟩ = some (.int .i64 0) := (hc2 _ _ hl2').trans (by simp [go_sem])
  have r1 : w2.cell? ⟨w.heap.size + 1, 1, none⟩ = some (.int .i64 0) := (hc2 _ _ hl2').trans (by simp [go_sem])
  have r2 : w2.cell? ⟨w.heap.size + 1, 2, none⟩ = some (.slice none 0 0) := (hc2 _ _ hl2').trans (by simp [go_sem])
  have z2 : ∀ o, w2.frozen? ⟨w.heap.size + 1, o, none⟩ = false := fun o => (hf2 _ _ hl2').trans (World.frozen?_alloc_at _ _ _ _ (by simp))
  have HQR : Hid ((w2.cell? ⟨w.heap.size, 0, none⟩ = some (.int .i64 (a : Int)) ∧ w2.cell? ⟨w.heap.size, 1, none⟩ = some (.int .i64 (b : Int)) ∧ w2.cell? ⟨w.heap.size, 2, none⟩ = some (.slice A n c)) ∧ (w2.cell? ⟨w.heap.size + 1, 0, none⟩ = some (.int .i64 0) ∧ w2.cell? ⟨w.heap.size + 1, 1, none⟩ = some (.int .i64 0) ∧ w2.cell? ⟨w.heap.size + 1, 2, none⟩ = some (.slice none 0 0)) ∧ ∀ o, w2.frozen? ⟨w.heap.size + 1, o, none⟩ = false) := ⟨⟨q0, q1, q2⟩, ⟨r0, r1, r2⟩, z2⟩
  clear hc2 hf2 r0 r1 r2 z2 hb2 hl2 hl2'
  go_wp2_with fail
  refine (hch _).mono ?_
  rintro e w3 ⟨rfl, hb3⟩
  have hs3 := hb3.size
  have p0 := (hb3.cell (p := ⟨w.heap.size, 0, none⟩) (by show w.heap.size < _; omega)).trans q0
  have p1 := (hb3.cell (p := ⟨w.heap.size, 1, none⟩) (by show w.heap.size < _; omega)).trans q1
  have p2 := (hb3.cell (p := ⟨w.heap.size, 2, none⟩) (by show w.heap.size < _; omega)).trans q2
  have hl3 : w.heap.size < w3.heap.size := by omega
  clear q0 q1 q2
  go_wp2_with fail
  refine (mir_sd a b A n c _).mono ?_
  rintro e w4 ⟨rfl, hb4⟩
  have hs4 := hb4.size
  simp at hs4
  have b3 : Below w2.heap.size w2 (w3.alloc (.cells #[.func (.func 79) #[] #[], .func (.func 80) #[] #[], .func (.func 81) #[] #[]] 88)) := hb3.alloc hb3.size _
  have b4 : Below w2.heap.size w2 w4 := b3.trans (hb4.mono b3.size)
  have g4 : w4.cell? ⟨w3.heap.size, 2, none⟩ = some (.func (.func 81) #[] #[]) := (hb4.cell (p := ⟨w3.heap.size, 2, none⟩) (by simp)).trans (by simp)
  have l4 : w3.heap.size < w4.heap.size := by omega
  have s0 := (b4.cell (p := ⟨w.heap.size, 0, none⟩) (by show w.heap.size < _; omega)).trans HQR.out.1.1
  have s1 := (b4.cell (p := ⟨w.heap.size, 1, none⟩) (by show w.heap.size < _; omega)).trans HQR.out.1.2.1
  have s2 := (b4.cell (p := ⟨w.heap.size, 2, none⟩) (by show w.heap.size < _; omega)).trans HQR.out.1.2.2
  have HG4 := Lib.hid g4
  clear p0 p1 p2 hb3 hb4 b3 hl3 g4
  go_wp2_with (at_make; refine wpList_make_full _ rfl _ _ 22 rfl w4.heap.size 3 i0 (.int .i64 0) 1 Tryz.underlying22 hi hz0 hz1 .i64 .i64 _ _ n rfl rfl rfl rfl hby (by simp only [maxLen]; omega) (by simp) ?_; intro w5 hown5 hgrow5; have b5 : Below w4.heap.size w4 w5 := ⟨hgrow5.os, hgrow5.tape, hgrow5.output, hgrow5.size, fun k hk => hgrow5.block k hk (by simp)⟩; have t2 := (b5.cell (p := ⟨w.heap.size, 2, none⟩) (by show w.heap.size < _; omega)).trans s2)
  obtain ⟨hlt5, hcw5, hfz5⟩ := own_words hown5
  have t0 := (b5.cell (p := ⟨w.heap.size, 0, none⟩) (by show w.heap.size < _; omega)).trans s0
  have t1 := (b5.cell (p := ⟨w.heap.size, 1, none⟩) (by show w.heap.size < _; omega)).trans s1
  have g5 := (b5.cell (p := ⟨w3.heap.size, 2, none⟩) l4).trans HG4.out
  have hw0 : Hid (Filled w5 w4.heap.size n pos T 0) := fun j hj => ⟨0, by
    rw [hcw5 j hj]
    exact made_at (.int .i64 0) (n * 1) j (by rw [Nat.mul_one]; exact hj), fun i hi => absurd hi (by omega)⟩
  have b25 : Below w2.heap.size w2 w5 := b4.trans (b5.mono b4.size)
  have b15 : Below w.heap.size w w5 := b2.trans (b25.mono (by omega))
  have HC : Hid ((w5.cell? ⟨w.heap.size, 0, none⟩ = some (.int .i64 (a : Int)) ∧ w5.cell? ⟨w.heap.size, 1, none⟩ = some (.int .i64 (b : Int)) ∧ w5.cell? ⟨w.heap.size, 2, none⟩ = some (.slice A n c)) ∧ w5.cell? ⟨w3.heap.size, 2, none⟩ = some (.func (.func 81) #[] #[])) := ⟨⟨t0, t1, t2⟩, g5⟩
  clear hown5 hgrow5 hcw5 t0 t1 t2 g5 s0 s1 s2 hix hch
  go_loopw [35] (fun i wr => ∃ k : Nat, k ≤ n ∧ i = .int .i64 k ∧ Hid (Filled wr w4.heap.size n pos T k) ∧ Hid (∀ o, wr.frozen? ⟨w4.heap.size, o, none⟩ = false) ∧ w4.heap.size < wr.heap.size ∧ Below w4.heap.size w5 wr) (fun i _ => n - (intOf i).toNat)
  case atStart => exact ⟨0, Nat.zero_le _, rfl, hw0, hfz5, hlt5, Below.refl _ _⟩
  case round =>
    clear hw0 hfz5 hlt5
    obtain ⟨k, hk, rfl, hfl, hfz, hsr, hbr⟩ := hrel
    obtain ⟨wi, rfl⟩ : ∃ wi : World, wi = wr := ⟨_, rfl⟩
    have hbw : Below w.heap.size w wi := b15.trans (hbr.mono (by omega))
    have l3 : w3.heap.size < wi.heap.size := by omega
    have l1 : w.heap.size < wi.heap.size := by omega
    by_cases hlt : k < n
    · have hkc : k < cs.length := by rw [← HN.out]; exact hlt
      obtain ⟨bk, off, rfl, hbk, hcc⟩ := HP.out (ne_nil_of_lt hkc)
      obtain ⟨v, hv⟩ : ∃ v, v = cs.getD k 0 := ⟨_, rfl⟩
      have cv := (hbw.cell (p := ⟨bk, off + k, none⟩) hbk).trans (hcc k hkc)
      rw [← hv] at cv
      have q0 := (hbr.cell (p := ⟨w.heap.size, 0, none⟩) (by show w.heap.size < _; omega)).trans HC.out.1.1
      have q1 := (hbr.cell (p := ⟨w.heap.size, 1, none⟩) (by show w.heap.size < _; omega)).trans HC.out.1.2.1
      have q2 := (hbr.cell (p := ⟨w.heap.size, 2, none⟩) (by show w.heap.size < _; omega)).trans HC.out.1.2.2
      have g2 := (hbr.cell (p := ⟨w3.heap.size, 2, none⟩) (by show w3.heap.size < _; omega)).trans HC.out.2
      obtain ⟨C, hC⟩ : ∃ C, C = a - 1 - k % a := ⟨_, rfl⟩
      obtain ⟨R, hR⟩ : ∃ R, R = k / a := ⟨_, rfl⟩
      have x1 : k % a < a := Nat.mod_lt _ (by omega)
      have x2 : k / a < b := Nat.div_lt_of_lt_mul (by rw [← HL.out]; exact hkc)
      have hpk : pos k = R * a + C := by rw [HPS.out k, hC, hR]
      have hgk := HG.out.at_ k hkc
      rw [hpk, ← HN.out, ← hv] at hgk
      have hpn : R * a + C < n := hgk.1
      have HTK := Lib.hid hgk.2
      have HPK := Lib.hid hpk
      have hfn := fun (W : World) => mir_pl a b (some ⟨bk, off, none⟩) n c ((k : Int) % (a : Int)) ((k : Int) / (a : Int)) (k % a) (k / a) C R W (by rw [Int.natCast_emod]) (by rw [Int.natCast_ediv]) x1 x2 a40 b40 hC hR
      have m0 : (0 : Int) ≤ (k : Int) % (a : Int) := Int.emod_nonneg _ (by omega)
      have m1 : (0 : Int) ≤ (k : Int) / (a : Int) := Int.ediv_nonneg (by omega) (by omega)
      have m2 : (k : Int) / (a : Int) ≤ 40000 := by have := Int.ediv_le_self (b := (a : Int)) (a := (k : Int)) (by omega); omega
      clear hcc hv hC hR x1 x2 hgk hkc hpk
      go_wp2_with fail
      have f0 := ext_cell q0
      have f1 := ext_cell q1
      have f2 := ext_cell q2
      have f3 := ext_cell g2
      have cF : ∀ x : Ext wi, Calls Tryz.prog 81 #[.agg #[.int .i64 (a : Int), .int .i64 (b : Int), .slice (some ⟨bk, off, none⟩) n c], .int .i64 ((k : Int) % (a : Int)), .int .i64 ((k : Int) / (a : Int))] (ext wi x) fun e w'' => e = .returned (.tuple #[.int .i64 (C : Int), .int .i64 (R : Int)]) ∧ ∃ y, w'' = ext wi y := fun x => ext_call (hfn _)
      refine wp_region_ext (by kernel_rfl) (by kernel_rfl) ?_
      repeat (go_big_quiet_step (first | (go_at_call 81; with_reducible exact cF _)))
      refine wpQuiet_nil ?_
      intro _ hw'
      obtain ⟨xq, rfl⟩ := hw'
      obtain ⟨W6, hb6, he6⟩ : ∃ W6, Below wi.heap.size wi W6 ∧ ext wi xq = W6 := ⟨_, ext_below _, rfl⟩
      rw [he6]
      clear he6 xq f0 f1 f2 f3 hfn q0 q1 q2 g2 cv cF m0 m1 m2
      obtain ⟨vo, hvo, -⟩ := (hfl.out.keep hb6 hsr) _ hpn
      have az : ∀ o, W6.frozen? ⟨w4.heap.size, o, none⟩ = false := fun o => (hb6.frozen (p := ⟨w4.heap.size, o, none⟩) hsr).trans (hfz.out o)
      have n0 : (0 : Int) ≤ (R : Int) * (a : Int) := by rw [← Int.natCast_mul]; omega
      have n1 : (R : Int) * (a : Int) + (C : Int) < n := by rw [← Int.natCast_mul]; omega
      have n2 : ((R : Int) * (a : Int) + (C : Int)).toNat = R * a + C := by rw [← Int.natCast_mul]; omega
      have n3 : (R : Int) * (a : Int) ≤ 40000 := by rw [← Int.natCast_mul]; omega
      have HST : Hid (∀ W : World, Filled W w4.heap.size n pos T k → Filled (W.setCell ⟨w4.heap.size, R * a + C, none⟩ (.int .i64 v)) w4.heap.size n pos T (k + 1)) := fun W hW => by
        have := hW.step v (by rw [HPK.out]; exact HTK.out)
        rw [HPK.out] at this
        exact this
      go_wp2_with fail
      go_roundw
      case rel =>
        refine ⟨k + 1, by omega, by go_num, HST.out _ (hfl.out.keep hb6 hsr), ?_, ?_, ?_⟩
        · exact fun o => by
            rw [World.frozen?_setCell]
            exact az o
        · exact Nat.lt_of_lt_of_le hsr (by simpa [World.setCell] using hb6.size)
        · exact (hbr.trans (hb6.mono (Nat.le_of_lt hsr))).setCell (Nat.le_refl _) _
      case measure => simp [intOf]; omega
    · have e : k = n := by omega
      subst e
      have r0 := (hbr.cell (p := ⟨w.heap.size + 1, 0, none⟩) (by show w.heap.size + 1 < _; omega)).trans ((b25.cell (p := ⟨w.heap.size + 1, 0, none⟩) (by show w.heap.size + 1 < _; omega)).trans HQR.out.2.1.1)
      have r1 := (hbr.cell (p := ⟨w.heap.size + 1, 1, none⟩) (by show w.heap.size + 1 < _; omega)).trans ((b25.cell (p := ⟨w.heap.size + 1, 1, none⟩) (by show w.heap.size + 1 < _; omega)).trans HQR.out.2.1.2.1)
      have r2 := (hbr.cell (p := ⟨w.heap.size + 1, 2, none⟩) (by show w.heap.size + 1 < _; omega)).trans ((b25.cell (p := ⟨w.heap.size + 1, 2, none⟩) (by show w.heap.size + 1 < _; omega)).trans HQR.out.2.1.2.2)
      have z0 : ∀ o, wi.frozen? ⟨w.heap.size + 1, o, none⟩ = false := fun o => (hbr.frozen (p := ⟨w.heap.size + 1, o, none⟩) (by show w.heap.size + 1 < _; omega)).trans ((b25.frozen (p := ⟨w.heap.size + 1, o, none⟩) (by show w.heap.size + 1 < _; omega)).trans (HQR.out.2.2 o))
      have HI : Hid (IntsNew wi w4.heap.size (some ⟨w4.heap.size, 0, none⟩) T) := by
        have h := hfl.out
        rw [HN.out] at h
        exact Filled.ints HG.out h (Nat.le_refl _) hsr
      have HLT : Hid (k = T.length) := by show _ = _; rw [HG.out.len]; exact HN.out
      clear hfl hfz
      go_wp2
      refine bodyPost_ret (v := .tuple #[.agg #[.int .i64 (a : Int), .int .i64 (b : Int), .slice (some ⟨w4.heap.size, 0, none⟩) k k], .int .i64 0]) (by simp [results, Tryz.results33, go_sem, r0, r1, r2]) rfl ?_
      refine ⟨((hbw.setCell (by show w.heap.size ≤ w.heap.size + 1; omega) _).setCell (by show w.heap.size ≤ w.heap.size + 1; omega) _).setCell (by show w.heap.size ≤ w.heap.size + 1; omega) _, some ⟨w4.heap.size, 0, none⟩, k, ?_, ?_⟩
      · rw [HWH.out.1, HWH.out.2, ← HT.out, ← HLT.out]
      · rw [← HT.out]
        exact (((HI.out.set (p := ⟨w.heap.size + 1, 0, none⟩) (by show w.heap.size + 1 < _; omega) _).set (p := ⟨w.heap.size + 1, 1, none⟩) (by show w.heap.size + 1 < _; omega) _).set (p := ⟨w.heap.size + 1, 2, none⟩) (by show w.heap.size + 1 < _; omega) _).mono (by omega)
theorem mirP_bad (a b : Int) (cs : List Int) (A : Option Addr) (n c : Nat) (w : World) (hf : form ⟨a, b, cs⟩ = false) (hn : n = cs.length) (hnl : n ≤ 9223372036854775807) :
    Calls Tryz.prog 7 #[.agg #[.int .i64 a, .int .i64 b, .slice A n c]] w (IsNoPat 1 w) := by
  have hc := fun (W : World) => cp_mir_bad a b cs A n c W hf hn hnl
  clear hf hn
  go_enter Tryz.func7, Tryz.ntmps7
  go_wp2_with fail
  refine (hc _).mono ?_
  rintro e w3 ⟨hb3, rfl⟩
  obtain ⟨hc3, hf3⟩ := bcell hb3
  have hs3 := hb3.size
  simp at hs3
  have b3 : Below w.heap.size w w3 := (((Below.refl _ _).alloc (Nat.le_refl _) _).alloc (by simp) _).trans (hb3.mono (by simp; omega))
  go_wp2_with fail
  refine bodyPost_ret (v := .tuple #[.agg #[.int .i64 0, .int .i64 0, .slice none 0 0], .int .i64 1]) (by simp [results, Tryz.results7, go_sem, hc3]) rfl ?_
  exact ⟨((b3.setCell (by show w.heap.size ≤ w.heap.size + 1; omega) _).setCell (by show w.heap.size ≤ w.heap.size + 1; omega) _).setCell (by show w.heap.size ≤ w.heap.size + 1; omega) _, rfl⟩
theorem mirP_ok (a b : Nat) (cs : List Int) (A : Option Addr) (n c : Nat) (w : World) (hf : form ⟨a, b, cs⟩ = true) (hn : n = cs.length) (hP : IntsIn w w.heap.size A cs) :
    Calls Tryz.prog 7 #[.agg #[.int .i64 (a : Int), .int .i64 (b : Int), .slice A n c]] w (IsPat (mirP ⟨a, b, cs⟩) w) := by
  have hc := fun (W : World) (hW : Below w.heap.size w W) => cp_mir_ok a b cs A n c W hf hn (hP.keep hW hW.size)
  obtain ⟨Q, hQ⟩ : ∃ Q, Q = mirP ⟨a, b, cs⟩ := ⟨_, rfl⟩
  rw [← hQ] at hc ⊢
  clear hf hn hP hQ
  go_enter Tryz.func7, Tryz.ntmps7
  go_wp2_with fail
  refine (hc _ (((Below.refl _ _).alloc (Nat.le_refl _) _).alloc (by simp) _)).mono ?_
  rintro e w3 ⟨hb3, B, d, rfl, hI⟩
  obtain ⟨hc3, hf3⟩ := bcell hb3
  have hs3 := hb3.size
  simp at hs3
  have b3 : Below w.heap.size w w3 := (((Below.refl _ _).alloc (Nat.le_refl _) _).alloc (by simp) _).trans (hb3.mono (by simp; omega))
  have HI := Lib.hid hI
  clear hI hc
  go_wp2_with fail
  refine bodyPost_ret (v := .tuple #[.agg #[.int .i64 Q.w, .int .i64 Q.h, .slice B Q.c.length d], .int .i64 0]) (by simp [results, Tryz.results7, go_sem, hc3]) rfl ?_
  refine ⟨((b3.setCell (by show w.heap.size ≤ w.heap.size + 1; omega) _).setCell (by show w.heap.size ≤ w.heap.size + 1; omega) _).setCell (by show w.heap.size ≤ w.heap.size + 1; omega) _, B, d, rfl, ?_⟩
  exact (((HI.out.set (p := ⟨w.heap.size + 1, 0, none⟩) (by simp) _).set (p := ⟨w.heap.size + 1, 1, none⟩) (by simp) _).set (p := ⟨w.heap.size + 1, 2, none⟩) (by simp) _).mono (by simp; omega)

theorem up_sd (a b : Nat) (A : Option Addr) (n c : Nat) (w : World) : Calls Tryz.prog 83 #[.agg #[.int .i64 (a : Int), .int .i64 (b : Int), .slice A n c]] w fun e w' => e = .returned (.tuple #[.int .i64 (a : Int), .int .i64 (b : Int)]) ∧ Below w.heap.size w w' := by
  go_enter Tryz.func83, Tryz.ntmps83
  go_wp2
  first
  | (go_ret2
     exact ⟨rfl, (Below.refl _ _).alloc (Nat.le_refl _) _⟩)
  | (go_quiet (fail)
     go_wp2
     go_ret2
     exact ⟨rfl, ((Below.refl _ _).alloc (Nat.le_refl _) _).trans ⟨rfl, rfl, rfl, by simp, fun _ _ => rfl⟩⟩)
theorem up_pl (a b : Nat) (A : Option Addr) (n c : Nat) (X Y : Int) (x y C R : Nat) (w : World) (hX : X = x) (hY : Y = y) (hx : x < a) (hy : y < b) (ha : a ≤ 40000) (hb : b ≤ 40000) (hC : C = x) (hR : R = b - 1 - y) :
    Calls Tryz.prog 84 #[.agg #[.int .i64 (a : Int), .int .i64 (b : Int), .slice A n c], .int .i64 X, .int .i64 Y] w fun e w' => e = .returned (.tuple #[.int .i64 (C : Int), .int .i64 (R : Int)]) ∧ Below w.heap.size w w' := by
  subst hX
  subst hY
  have e1 : (C : Int) = x := by omega
  have e2 : (R : Int) = (b : Int) - 1 - y := by omega
  rw [e1, e2]
  clear e1 e2 hC hR
  go_enter Tryz.func84, Tryz.ntmps84
  go_wp2
  first
  | (go_ret2
     exact ⟨rfl, (Below.refl _ _).alloc (Nat.le_refl _) _⟩)
  | (go_quiet (fail)
     go_wp2
     go_ret2
     exact ⟨rfl, ((Below.refl _ _).alloc (Nat.le_refl _) _).trans ⟨rfl, rfl, rfl, by simp, fun _ _ => rfl⟩⟩)

theorem cp_up_bad (a b : Int) (cs : List Int) (A : Option Addr) (n c : Nat) (w : World) (hf : form ⟨a, b, cs⟩ = false) (hn : n = cs.length) (hnl : n ≤ 9223372036854775807) :
    Calls Tryz.prog 33 #[.agg #[.int .i64 a, .int .i64 b, .slice A n c], .int .i64 1] w (IsNoPat 1 w) := by
  have HF := Lib.hid hf
  have HN := Lib.hid hn
  clear hf hn
  go_enter Tryz.func33, Tryz.ntmps33
  go_wp2_with (go_at_call 34; refine (hasForm_pat a b cs false A n c _ HN.out HF.out hnl).mono ?_; rintro e w2 ⟨rfl, hb2⟩; obtain ⟨hc2, hf2⟩ := bcell hb2; have hs2 := hb2.size; simp at hs2; have ht2 : w.heap.size + 1 < w2.heap.size := by omega)
  refine bodyPost_ret (v := .tuple #[.agg #[.int .i64 0, .int .i64 0, .slice none 0 0], .int .i64 1]) (by simp [results, Tryz.results33, go_sem, hc2]) rfl ?_
  exact ⟨((((((Below.refl _ _).alloc (Nat.le_refl _) _).alloc (by simp) _).trans (hb2.mono (by simp; omega))).setCell (by show w.heap.size ≤ w.heap.size + 1; omega) _).setCell (by show w.heap.size ≤ w.heap.size + 1; omega) _).setCell (by show w.heap.size ≤ w.heap.size + 1; omega) _, rfl⟩
set_option maxHeartbeats 4000000 in
theorem cp_up_ok (a b : Nat) (cs : List Int) (A : Option Addr) (n c : Nat) (w : World) (hf : form ⟨a, b, cs⟩ = true) (hn : n = cs.length) (hP : IntsIn w w.heap.size A cs) :
    Calls Tryz.prog 33 #[.agg #[.int .i64 (a : Int), .int .i64 (b : Int), .slice A n c], .int .i64 1] w (IsPat (upP ⟨a, b, cs⟩) w) := by
  obtain ⟨a', b', e1, e2, h1, h2, h3, h4⟩ := form_nat hf
  have e1' : a = a' := by have : (a : Int) = a' := e1; omega
  have e2' : b = b' := by have : (b : Int) = b' := e2; omega
  subst e1'
  subst e2'
  clear e1 e2
  have a40 : a ≤ 40000 := by have := Nat.le_mul_of_pos_right a (show 0 < b by omega); omega
  have b40 : b ≤ 40000 := by have := Nat.le_mul_of_pos_left b (show 0 < a by omega); omega
  have n4 : n ≤ 40000 := by have h4' : cs.length = a * b := h4; omega
  obtain ⟨pos, hps⟩ : ∃ pos : Nat → Nat, pos = fun i => (b - 1 - i / a) * a + i % a := ⟨_, rfl⟩
  have HG : Hid (Goes pos cs (upP ⟨a, b, cs⟩).c) := by rw [hps]; exact up_goes hf rfl rfl
  have HPS : Hid (∀ i, pos i = (b - 1 - i / a) * a + i % a) := fun i => by rw [hps]
  clear hps
  have HWH : Hid ((upP ⟨a, b, cs⟩).w = (a : Int) ∧ (upP ⟨a, b, cs⟩).h = (b : Int)) := upP_w hf
  obtain ⟨T, hT⟩ : ∃ T, T = (upP ⟨a, b, cs⟩).c := ⟨_, rfl⟩
  rw [← hT] at HG
  have HF := Lib.hid hf
  have HN := Lib.hid hn
  have HL : Hid (cs.length = a * b) := h4
  have HP := Lib.hid hP
  have HT := Lib.hid hT
  obtain ⟨i0, hi, hz0, hz1, hz2⟩ := info_parts int_info
  have hby : i0.bytes * n ≤ 281474976710656 := by rw [hz2]; omega
  clear hf hn hP h4 hT
  have hch := fun (W : World) => changes_any W
  have hix : ∀ W : World, (Instr.index 89 chV (.int .i64 1)).run Tryz.prog W = .ok (.agg #[.func (.func 82) #[] #[], .func (.func 83) #[] #[], .func (.func 84) #[] #[]]) W := fun W => by kernel_rfl
  simp only [chV] at hch hix
  go_enter Tryz.func33, Tryz.ntmps33
  go_wp2_with fail
  refine (hasForm_pat a b cs true A n c _ HN.out HF.out (by omega)).mono ?_
  rintro e w2 ⟨rfl, hb2⟩
  obtain ⟨hc2, hf2⟩ := bcell hb2
  have hs2 := hb2.size
  simp at hs2
  have b2 : Below w.heap.size w w2 := (((Below.refl _ _).alloc (Nat.le_refl _) _).alloc (by simp) _).trans (hb2.mono (by simp; omega))
  have hl2 : w.heap.size < (((w.alloc (.cells #[.int .i64 (a : Int), .int .i64 (b : Int), .slice A n c] 24)).alloc (.cells #[.int .i64 0, .int .i64 0, .slice none 0 0] 24))).heap.size := by simp; omega
  have hl2' : w.heap.size + 1 < (((w.alloc (.cells #[.int .i64 (a : Int), .int .i64 (b : Int), .slice A n c] 24)).alloc (.cells #[.int .i64 0, .int .i64 0, .slice none 0 0] 24))).heap.size := by simp
  have q0 : w2.cell? ⟨w.heap.size, 0, none⟩ = some (.int .i64 (a : Int)) := (hc2 _ _ hl2).trans (by simp [go_sem])
  have q1 : w2.cell? ⟨w.heap.size, 1, none⟩ = some (.int .i64 (b : Int)) := (hc2 _ _ hl2).trans (by simp [go_sem])
  have q2 : w2.cell? ⟨w.heap.size, 2, none⟩ = some (.slice A n c) := (hc2 _ _ hl2).trans (by simp [go_sem])
  have r0 : w2.cell? ⟨w.heap.size + 1, 0, none⟩ = some (.int .i64 0) := (hc2 _ _ hl2').trans (by simp [go_sem])
  have r1 : w2.cell? ⟨w.heap.size + 1, 1, none⟩ = some (.int .i64 0) := (hc2 _ _ hl2').trans (by simp [go_sem])
  have r2 : w2.cell? ⟨w.heap.size + 1, 2, none⟩ = some (.slice none 0 0) := (hc2 _ _ hl2').trans (by simp [go_sem])
  have z2 : ∀ o, w2.frozen? ⟨w.heap.size + 1, o, none⟩ = false := fun o => (hf2 _ _ hl2').trans (World.frozen?_alloc_at _ _ _ _ (by simp))
  have HQR : Hid ((w2.cell? ⟨w.heap.size, 0, none⟩ = some (.int .i64 (a : Int)) ∧ w2.cell? ⟨w.heap.size, 1, none⟩ = some (.int .i64 (b : Int)) ∧ w2.cell? ⟨w.heap.size, 2, none⟩ = some (.slice A n c)) ∧ (w2.cell? ⟨w.heap.size + 1, 0, none⟩ = some (.int .i64 0) ∧ w2.cell? ⟨w.heap.size + 1, 1, none⟩ = some (.int .i64 0) ∧ w2.cell? ⟨w.heap.size + 1, 2, none⟩ = some (.slice none 0 0)) ∧ ∀ o, w2.frozen? ⟨w.heap.size + 1, o, none⟩ = false) := ⟨⟨q0, q1, q2⟩, ⟨r0, r1, r2⟩, z2⟩
  clear hc2 hf2 r0 r1 r2 z2 hb2 hl2 hl2'
  go_wp2_with fail
  refine (hch _).mono ?_
  rintro e w3 ⟨rfl, hb3⟩
  have hs3 := hb3.size
  have p0 := (hb3.cell (p := ⟨w.heap.size, 0, none⟩) (by show w.heap.size < _; omega)).trans q0
  have p1 := (hb3.cell (p := ⟨w.heap.size, 1, none⟩) (by show w.heap.size < _; omega)).trans q1
  have p2 := (hb3.cell (p := ⟨w.heap.size, 2, none⟩) (by show w.heap.size < _; omega)).trans q2
  have hl3 : w.heap.size < w3.heap.size := by omega
  clear q0 q1 q2
  go_wp2_with fail
  refine (up_sd a b A n c _).mono ?_
  rintro e w4 ⟨rfl, hb4⟩
  have hs4 := hb4.size
  simp at hs4
  have b3 : Below w2.heap.size w2 (w3.alloc (.cells #[.func (.func 82) #[] #[], .func (.func 83) #[] #[], .func (.func 84) #[] #[]] 88)) := hb3.alloc hb3.size _
  have b4 : Below w2.heap.size w2 w4 := b3.trans (hb4.mono b3.size)
  have g4 : w4.cell? ⟨w3.heap.size, 2, none⟩ = some (.func (.func 84) #[] #[]) := (hb4.cell (p := ⟨w3.heap.size, 2, none⟩) (by simp)).trans (by simp)
  have l4 : w3.heap.size < w4.heap.size := by omega
  have s0 := (b4.cell (p := ⟨w.heap.size, 0, none⟩) (by show w.heap.size < _; omega)).trans HQR.out.1.1
  have s1 := (b4.cell (p := ⟨w.heap.size, 1, none⟩) (by show w.heap.size < _; omega)).trans HQR.out.1.2.1
  have s2 := (b4.cell (p := ⟨w.heap.size, 2, none⟩) (by show w.heap.size < _; omega)).trans HQR.out.1.2.2
  have HG4 := Lib.hid g4
  clear p0 p1 p2 hb3 hb4 b3 hl3 g4
  go_wp2_with (at_make; refine wpList_make_full _ rfl _ _ 22 rfl w4.heap.size 3 i0 (.int .i64 0) 1 Tryz.underlying22 hi hz0 hz1 .i64 .i64 _ _ n rfl rfl rfl rfl hby (by simp only [maxLen]; omega) (by simp) ?_; intro w5 hown5 hgrow5; have b5 : Below w4.heap.size w4 w5 := ⟨hgrow5.os, hgrow5.tape, hgrow5.output, hgrow5.size, fun k hk => hgrow5.block k hk (by simp)⟩; have t2 := (b5.cell (p := ⟨w.heap.size, 2, none⟩) (by show w.heap.size < _; omega)).trans s2)
  obtain ⟨hlt5, hcw5, hfz5⟩ := own_words hown5
  have t0 := (b5.cell (p := ⟨w.heap.size, 0, none⟩) (by show w.heap.size < _; omega)).trans s0
  have t1 := (b5.cell (p := ⟨w.heap.size, 1, none⟩) (by show w.heap.size < _; omega)).trans s1
  have g5 := (b5.cell (p := ⟨w3.heap.size, 2, none⟩) l4).trans HG4.out
  have hw0 : Hid (Filled w5 w4.heap.size n pos T 0) := fun j hj => ⟨0, by
    rw [hcw5 j hj]
    exact made_at (.int .i64 0) (n * 1) j (by rw [Nat.mul_one]; exact hj), fun i hi => absurd hi (by omega)⟩
  have b25 : Below w2.heap.size w2 w5 := b4.trans (b5.mono b4.size)
  have b15 : Below w.heap.size w w5 := b2.trans (b25.mono (by omega))
  have HC : Hid ((w5.cell? ⟨w.heap.size, 0, none⟩ = some (.int .i64 (a : Int)) ∧ w5.cell? ⟨w.heap.size, 1, none⟩ = some (.int .i64 (b : Int)) ∧ w5.cell? ⟨w.heap.size, 2, none⟩ = some (.slice A n c)) ∧ w5.cell? ⟨w3.heap.size, 2, none⟩ = some (.func (.func 84) #[] #[])) := ⟨⟨t0, t1, t2⟩, g5⟩
  clear hown5 hgrow5 hcw5 t0 t1 t2 g5 s0 s1 s2 hix hch
  go_loopw [35] (fun i wr => ∃ k : Nat, k ≤ n ∧ i = .int .i64 k ∧ Hid (Filled wr w4.heap.size n pos T k) ∧ Hid (∀ o, wr.frozen? ⟨w4.heap.size, o, none⟩ = false) ∧ w4.heap.size < wr.heap.size ∧ Below w4.heap.size w5 wr) (fun i _ => n - (intOf i).toNat)
  case atStart => exact ⟨0, Nat.zero_le _, rfl, hw0, hfz5, hlt5, Below.refl _ _⟩
  case round =>
    clear hw0 hfz5 hlt5
    obtain ⟨k, hk, rfl, hfl, hfz, hsr, hbr⟩ := hrel
    obtain ⟨wi, rfl⟩ : ∃ wi : World, wi = wr := ⟨_, rfl⟩
    have hbw : Below w.heap.size w wi := b15.trans (hbr.mono (by omega))
    have l3 : w3.heap.size < wi.heap.size := by omega
    have l1 : w.heap.size < wi.heap.size := by omega
    by_cases hlt : k < n
    · have hkc : k < cs.length := by rw [← HN.out]; exact hlt
      obtain ⟨bk, off, rfl, hbk, hcc⟩ := HP.out (ne_nil_of_lt hkc)
      obtain ⟨v, hv⟩ : ∃ v, v = cs.getD k 0 := ⟨_, rfl⟩
      have cv := (hbw.cell (p := ⟨bk, off + k, none⟩) hbk).trans (hcc k hkc)
      rw [← hv] at cv
      have q0 := (hbr.cell (p := ⟨w.heap.size, 0, none⟩) (by show w.heap.size < _; omega)).trans HC.out.1.1
      have q1 := (hbr.cell (p := ⟨w.heap.size, 1, none⟩) (by show w.heap.size < _; omega)).trans HC.out.1.2.1
      have q2 := (hbr.cell (p := ⟨w.heap.size, 2, none⟩) (by show w.heap.size < _; omega)).trans HC.out.1.2.2
      have g2 := (hbr.cell (p := ⟨w3.heap.size, 2, none⟩) (by show w3.heap.size < _; omega)).trans HC.out.2
      obtain ⟨C, hC⟩ : ∃ C, C = k % a := ⟨_, rfl⟩
      obtain ⟨R, hR⟩ : ∃ R, R = b - 1 - k / a := ⟨_, rfl⟩
      have x1 : k % a < a := Nat.mod_lt _ (by omega)
      have x2 : k / a < b := Nat.div_lt_of_lt_mul (by rw [← HL.out]; exact hkc)
      have hpk : pos k = R * a + C := by rw [HPS.out k, hC, hR]
      have hgk := HG.out.at_ k hkc
      rw [hpk, ← HN.out, ← hv] at hgk
      have hpn : R * a + C < n := hgk.1
      have HTK := Lib.hid hgk.2
      have HPK := Lib.hid hpk
      have hfn := fun (W : World) => up_pl a b (some ⟨bk, off, none⟩) n c ((k : Int) % (a : Int)) ((k : Int) / (a : Int)) (k % a) (k / a) C R W (by rw [Int.natCast_emod]) (by rw [Int.natCast_ediv]) x1 x2 a40 b40 hC hR
      have m0 : (0 : Int) ≤ (k : Int) % (a : Int) := Int.emod_nonneg _ (by omega)
      have m1 : (0 : Int) ≤ (k : Int) / (a : Int) := Int.ediv_nonneg (by omega) (by omega)
      have m2 : (k : Int) / (a : Int) ≤ 40000 := by have := Int.ediv_le_self (b := (a : Int)) (a := (k : Int)) (by omega); omega
      clear hcc hv hC hR x1 x2 hgk hkc hpk
      go_wp2_with fail
      have f0 := ext_cell q0
      have f1 := ext_cell q1
      have f2 := ext_cell q2
      have f3 := ext_cell g2
      have cF : ∀ x : Ext wi, Calls Tryz.prog 84 #[.agg #[.int .i64 (a : Int), .int .i64 (b : Int), .slice (some ⟨bk, off, none⟩) n c], .int .i64 ((k : Int) % (a : Int)), .int .i64 ((k : Int) / (a : Int))] (ext wi x) fun e w'' => e = .returned (.tuple #[.int .i64 (C : Int), .int .i64 (R : Int)]) ∧ ∃ y, w'' = ext wi y := fun x => ext_call (hfn _)
      refine wp_region_ext (by kernel_rfl) (by kernel_rfl) ?_
      repeat (go_big_quiet_step (first | (go_at_call 84; with_reducible exact cF _)))
      refine wpQuiet_nil ?_
      intro _ hw'
      obtain ⟨xq, rfl⟩ := hw'
      obtain ⟨W6, hb6, he6⟩ : ∃ W6, Below wi.heap.size wi W6 ∧ ext wi xq = W6 := ⟨_, ext_below _, rfl⟩
      rw [he6]
      clear he6 xq f0 f1 f2 f3 hfn q0 q1 q2 g2 cv cF m0 m1 m2
      obtain ⟨vo, hvo, -⟩ := (hfl.out.keep hb6 hsr) _ hpn
      have az : ∀ o, W6.frozen? ⟨w4.heap.size, o, none⟩ = false := fun o => (hb6.frozen (p := ⟨w4.heap.size, o, none⟩) hsr).trans (hfz.out o)
      have n0 : (0 : Int) ≤ (R : Int) * (a : Int) := by rw [← Int.natCast_mul]; omega
      have n1 : (R : Int) * (a : Int) + (C : Int) < n := by rw [← Int.natCast_mul]; omega
      have n2 : ((R : Int) * (a : Int) + (C : Int)).toNat = R * a + C := by rw [← Int.natCast_mul]; omega
      have n3 : (R : Int) * (a : Int) ≤ 40000 := by rw [← Int.natCast_mul]; omega
      have HST : Hid (∀ W : World, Filled W w4.heap.size n pos T k → Filled (W.setCell ⟨w4.heap.size, R * a + C, none⟩ (.int .i64 v)) w4.heap.size n pos T (k + 1)) := fun W hW => by
        have := hW.step v (by rw [HPK.out]; exact HTK.out)
        rw [HPK.out] at this
        exact this
      go_wp2_with fail
      go_roundw
      case rel =>
        refine ⟨k + 1, by omega, by go_num, HST.out _ (hfl.out.keep hb6 hsr), ?_, ?_, ?_⟩
        · exact fun o => by
            rw [World.frozen?_setCell]
            exact az o
        · exact Nat.lt_of_lt_of_le hsr (by simpa [World.setCell] using hb6.size)
        · exact (hbr.trans (hb6.mono (Nat.le_of_lt hsr))).setCell (Nat.le_refl _) _
      case measure => simp [intOf]; omega
    · have e : k = n := by omega
      subst e
      have r0 := (hbr.cell (p := ⟨w.heap.size + 1, 0, none⟩) (by show w.heap.size + 1 < _; omega)).trans ((b25.cell (p := ⟨w.heap.size + 1, 0, none⟩) (by show w.heap.size + 1 < _; omega)).trans HQR.out.2.1.1)
      have r1 := (hbr.cell (p := ⟨w.heap.size + 1, 1, none⟩) (by show w.heap.size + 1 < _; omega)).trans ((b25.cell (p := ⟨w.heap.size + 1, 1, none⟩) (by show w.heap.size + 1 < _; omega)).trans HQR.out.2.1.2.1)
      have r2 := (hbr.cell (p := ⟨w.heap.size + 1, 2, none⟩) (by show w.heap.size + 1 < _; omega)).trans ((b25.cell (p := ⟨w.heap.size + 1, 2, none⟩) (by show w.heap.size + 1 < _; omega)).trans HQR.out.2.1.2.2)
      have z0 : ∀ o, wi.frozen? ⟨w.heap.size + 1, o, none⟩ = false := fun o => (hbr.frozen (p := ⟨w.heap.size + 1, o, none⟩) (by show w.heap.size + 1 < _; omega)).trans ((b25.frozen (p := ⟨w.heap.size + 1, o, none⟩) (by show w.heap.size + 1 < _; omega)).trans (HQR.out.2.2 o))
      have HI : Hid (IntsNew wi w4.heap.size (some ⟨w4.heap.size, 0, none⟩) T) := by
        have h := hfl.out
        rw [HN.out] at h
        exact Filled.ints HG.out h (Nat.le_refl _) hsr
      have HLT : Hid (k = T.length) := by show _ = _; rw [HG.out.len]; exact HN.out
      clear hfl hfz
      go_wp2
      refine bodyPost_ret (v := .tuple #[.agg #[.int .i64 (a : Int), .int .i64 (b : Int), .slice (some ⟨w4.heap.size, 0, none⟩) k k], .int .i64 0]) (by simp [results, Tryz.results33, go_sem, r0, r1, r2]) rfl ?_
      refine ⟨((hbw.setCell (by show w.heap.size ≤ w.heap.size + 1; omega) _).setCell (by show w.heap.size ≤ w.heap.size + 1; omega) _).setCell (by show w.heap.size ≤ w.heap.size + 1; omega) _, some ⟨w4.heap.size, 0, none⟩, k, ?_, ?_⟩
      · rw [HWH.out.1, HWH.out.2, ← HT.out, ← HLT.out]
      · rw [← HT.out]
        exact (((HI.out.set (p := ⟨w.heap.size + 1, 0, none⟩) (by show w.heap.size + 1 < _; omega) _).set (p := ⟨w.heap.size + 1, 1, none⟩) (by show w.heap.size + 1 < _; omega) _).set (p := ⟨w.heap.size + 1, 2, none⟩) (by show w.heap.size + 1 < _; omega) _).mono (by omega)
theorem upP_bad (a b : Int) (cs : List Int) (A : Option Addr) (n c : Nat) (w : World) (hf : form ⟨a, b, cs⟩ = false) (hn : n = cs.length) (hnl : n ≤ 9223372036854775807) :
    Calls Tryz.prog 8 #[.agg #[.int .i64 a, .int .i64 b, .slice A n c]] w (IsNoPat 1 w) := by
  have hc := fun (W : World) => cp_up_bad a b cs A n c W hf hn hnl
  clear hf hn
  go_enter Tryz.func8, Tryz.ntmps8
  go_wp2_with fail
  refine (hc _).mono ?_
  rintro e w3 ⟨hb3, rfl⟩
  obtain ⟨hc3, hf3⟩ := bcell hb3
  have hs3 := hb3.size
  simp at hs3
  have b3 : Below w.heap.size w w3 := (((Below.refl _ _).alloc (Nat.le_refl _) _).alloc (by simp) _).trans (hb3.mono (by simp; omega))
  go_wp2_with fail
  refine bodyPost_ret (v := .tuple #[.agg #[.int .i64 0, .int .i64 0, .slice none 0 0], .int .i64 1]) (by simp [results, Tryz.results8, go_sem, hc3]) rfl ?_
  exact ⟨((b3.setCell (by show w.heap.size ≤ w.heap.size + 1; omega) _).setCell (by show w.heap.size ≤ w.heap.size + 1; omega) _).setCell (by show w.heap.size ≤ w.heap.size + 1; omega) _, rfl⟩
theorem upP_ok (a b : Nat) (cs : List Int) (A : Option Addr) (n c : Nat) (w : World) (hf : form ⟨a, b, cs⟩ = true) (hn : n = cs.length) (hP : IntsIn w w.heap.size A cs) :
    Calls Tryz.prog 8 #[.agg #[.int .i64 (a : Int), .int .i64 (b : Int), .slice A n c]] w (IsPat (upP ⟨a, b, cs⟩) w) := by
  have hc := fun (W : World) (hW : Below w.heap.size w W) => cp_up_ok a b cs A n c W hf hn (hP.keep hW hW.size)
  obtain ⟨Q, hQ⟩ : ∃ Q, Q = upP ⟨a, b, cs⟩ := ⟨_, rfl⟩
  rw [← hQ] at hc ⊢
  clear hf hn hP hQ
  go_enter Tryz.func8, Tryz.ntmps8
  go_wp2_with fail
  refine (hc _ (((Below.refl _ _).alloc (Nat.le_refl _) _).alloc (by simp) _)).mono ?_
  rintro e w3 ⟨hb3, B, d, rfl, hI⟩
  obtain ⟨hc3, hf3⟩ := bcell hb3
  have hs3 := hb3.size
  simp at hs3
  have b3 : Below w.heap.size w w3 := (((Below.refl _ _).alloc (Nat.le_refl _) _).alloc (by simp) _).trans (hb3.mono (by simp; omega))
  have HI := Lib.hid hI
  clear hI hc
  go_wp2_with fail
  refine bodyPost_ret (v := .tuple #[.agg #[.int .i64 Q.w, .int .i64 Q.h, .slice B Q.c.length d], .int .i64 0]) (by simp [results, Tryz.results8, go_sem, hc3]) rfl ?_
  refine ⟨((b3.setCell (by show w.heap.size ≤ w.heap.size + 1; omega) _).setCell (by show w.heap.size ≤ w.heap.size + 1; omega) _).setCell (by show w.heap.size ≤ w.heap.size + 1; omega) _, B, d, rfl, ?_⟩
  exact (((HI.out.set (p := ⟨w.heap.size + 1, 0, none⟩) (by simp) _).set (p := ⟨w.heap.size + 1, 1, none⟩) (by simp) _).set (p := ⟨w.heap.size + 1, 2, none⟩) (by simp) _).mono (by simp; omega)

theorem tur_sd (a b : Nat) (A : Option Addr) (n c : Nat) (w : World) : Calls Tryz.prog 86 #[.agg #[.int .i64 (a : Int), .int .i64 (b : Int), .slice A n c]] w fun e w' => e = .returned (.tuple #[.int .i64 (b : Int), .int .i64 (a : Int)]) ∧ Below w.heap.size w w' := by
  go_enter Tryz.func86, Tryz.ntmps86
  go_wp2
  first
  | (go_ret2
     exact ⟨rfl, (Below.refl _ _).alloc (Nat.le_refl _) _⟩)
  | (go_quiet (fail)
     go_wp2
     go_ret2
     exact ⟨rfl, ((Below.refl _ _).alloc (Nat.le_refl _) _).trans ⟨rfl, rfl, rfl, by simp, fun _ _ => rfl⟩⟩)
theorem tur_pl (a b : Nat) (A : Option Addr) (n c : Nat) (X Y : Int) (x y C R : Nat) (w : World) (hX : X = x) (hY : Y = y) (hx : x < a) (hy : y < b) (ha : a ≤ 40000) (hb : b ≤ 40000) (hC : C = y) (hR : R = a - 1 - x) :
    Calls Tryz.prog 87 #[.agg #[.int .i64 (a : Int), .int .i64 (b : Int), .slice A n c], .int .i64 X, .int .i64 Y] w fun e w' => e = .returned (.tuple #[.int .i64 (C : Int), .int .i64 (R : Int)]) ∧ Below w.heap.size w w' := by
  subst hX
  subst hY
  have e1 : (C : Int) = y := by omega
  have e2 : (R : Int) = (a : Int) - 1 - x := by omega
  rw [e1, e2]
  clear e1 e2 hC hR
  go_enter Tryz.func87, Tryz.ntmps87
  go_wp2
  first
  | (go_ret2
     exact ⟨rfl, (Below.refl _ _).alloc (Nat.le_refl _) _⟩)
  | (go_quiet (fail)
     go_wp2
     go_ret2
     exact ⟨rfl, ((Below.refl _ _).alloc (Nat.le_refl _) _).trans ⟨rfl, rfl, rfl, by simp, fun _ _ => rfl⟩⟩)

theorem cp_tur_bad (a b : Int) (cs : List Int) (A : Option Addr) (n c : Nat) (w : World) (hf : form ⟨a, b, cs⟩ = false) (hn : n = cs.length) (hnl : n ≤ 9223372036854775807) :
    Calls Tryz.prog 33 #[.agg #[.int .i64 a, .int .i64 b, .slice A n c], .int .i64 2] w (IsNoPat 1 w) := by
  have HF := Lib.hid hf
  have HN := Lib.hid hn
  clear hf hn
  go_enter Tryz.func33, Tryz.ntmps33
  go_wp2_with (go_at_call 34; refine (hasForm_pat a b cs false A n c _ HN.out HF.out hnl).mono ?_; rintro e w2 ⟨rfl, hb2⟩; obtain ⟨hc2, hf2⟩ := bcell hb2; have hs2 := hb2.size; simp at hs2; have ht2 : w.heap.size + 1 < w2.heap.size := by omega)
  refine bodyPost_ret (v := .tuple #[.agg #[.int .i64 0, .int .i64 0, .slice none 0 0], .int .i64 1]) (by simp [results, Tryz.results33, go_sem, hc2]) rfl ?_
  exact ⟨((((((Below.refl _ _).alloc (Nat.le_refl _) _).alloc (by simp) _).trans (hb2.mono (by simp; omega))).setCell (by show w.heap.size ≤ w.heap.size + 1; omega) _).setCell (by show w.heap.size ≤ w.heap.size + 1; omega) _).setCell (by show w.heap.size ≤ w.heap.size + 1; omega) _, rfl⟩
set_option maxHeartbeats 4000000 in
theorem cp_tur_ok (a b : Nat) (cs : List Int) (A : Option Addr) (n c : Nat) (w : World) (hf : form ⟨a, b, cs⟩ = true) (hn : n = cs.length) (hP : IntsIn w w.heap.size A cs) :
    Calls Tryz.prog 33 #[.agg #[.int .i64 (a : Int), .int .i64 (b : Int), .slice A n c], .int .i64 2] w (IsPat (turP ⟨a, b, cs⟩) w) := by
  obtain ⟨a', b', e1, e2, h1, h2, h3, h4⟩ := form_nat hf
  have e1' : a = a' := by have : (a : Int) = a' := e1; omega
  have e2' : b = b' := by have : (b : Int) = b' := e2; omega
  subst e1'
  subst e2'
  clear e1 e2
  have a40 : a ≤ 40000 := by have := Nat.le_mul_of_pos_right a (show 0 < b by omega); omega
  have b40 : b ≤ 40000 := by have := Nat.le_mul_of_pos_left b (show 0 < a by omega); omega
  have n4 : n ≤ 40000 := by have h4' : cs.length = a * b := h4; omega
  obtain ⟨pos, hps⟩ : ∃ pos : Nat → Nat, pos = fun i => (a - 1 - i % a) * b + i / a := ⟨_, rfl⟩
  have HG : Hid (Goes pos cs (turP ⟨a, b, cs⟩).c) := by rw [hps]; exact tur_goes hf rfl rfl
  have HPS : Hid (∀ i, pos i = (a - 1 - i % a) * b + i / a) := fun i => by rw [hps]
  clear hps
  have HWH : Hid ((turP ⟨a, b, cs⟩).w = (b : Int) ∧ (turP ⟨a, b, cs⟩).h = (a : Int)) := turP_w hf
  obtain ⟨T, hT⟩ : ∃ T, T = (turP ⟨a, b, cs⟩).c := ⟨_, rfl⟩
  rw [← hT] at HG
  have HF := Lib.hid hf
  have HN := Lib.hid hn
  have HL : Hid (cs.length = a * b) := h4
  have HP := Lib.hid hP
  have HT := Lib.hid hT
  obtain ⟨i0, hi, hz0, hz1, hz2⟩ := info_parts int_info
  have hby : i0.bytes * n ≤ 281474976710656 := by rw [hz2]; omega
  clear hf hn hP h4 hT
  have hch := fun (W : World) => changes_any W
  have hix : ∀ W : World, (Instr.index 89 chV (.int .i64 2)).run Tryz.prog W = .ok (.agg #[.func (.func 85) #[] #[], .func (.func 86) #[] #[], .func (.func 87) #[] #[]]) W := fun W => by kernel_rfl
  simp only [chV] at hch hix
  go_enter Tryz.func33, Tryz.ntmps33
  go_wp2_with fail
  refine (hasForm_pat a b cs true A n c _ HN.out HF.out (by omega)).mono ?_
  rintro e w2 ⟨rfl, hb2⟩
  obtain ⟨hc2, hf2⟩ := bcell hb2
  have hs2 := hb2.size
  simp at hs2
  have b2 : Below w.heap.size w w2 := (((Below.refl _ _).alloc (Nat.le_refl _) _).alloc (by simp) _).trans (hb2.mono (by simp; omega))
  have hl2 : w.heap.size < (((w.alloc (.cells #[.int .i64 (a : Int), .int .i64 (b : Int), .slice A n c] 24)).alloc (.cells #[.int .i64 0, .int .i64 0, .slice none 0 0] 24))).heap.size := by simp; omega
  have hl2' : w.heap.size + 1 < (((w.alloc (.cells #[.int .i64 (a : Int), .int .i64 (b : Int), .slice A n c] 24)).alloc (.cells #[.int .i64 0, .int .i64 0, .slice none 0 0] 24))).heap.size := by simp
  have q0 : w2.cell? ⟨w.heap.size, 0, none⟩ = some (.int .i64 (a : Int)) := (hc2 _ _ hl2).trans (by simp [go_sem])
  have q1 : w2.cell? ⟨w.heap.size, 1, none⟩ = some (.int .i64 (b : Int)) := (hc2 _ _ hl2).trans (by simp [go_sem])
  have q2 : w2.cell? ⟨w.heap.size, 2, none⟩ = some (.slice A n c) := (hc2 _ _ hl2).trans (by simp [go_sem])
  have r0 : w2.cell? ⟨w.heap.size + 1, 0, none⟩ = some (.int .i64 0) := (hc2 _ _ hl2').trans (by simp [go_sem])
  have r1 : w2.cell? ⟨w.heap.size + 1, 1, none⟩ = some (.int .i64 0) := (hc2 _ _ hl2').trans (by simp [go_sem])
  have r2 : w2.cell? ⟨w.heap.size + 1, 2, none⟩ = some (.slice none 0 0) := (hc2 _ _ hl2').trans (by simp [go_sem])
  have z2 : ∀ o, w2.frozen? ⟨w.heap.size + 1, o, none⟩ = false := fun o => (hf2 _ _ hl2').trans (World.frozen?_alloc_at _ _ _ _ (by simp))
  have HQR : Hid ((w2.cell? ⟨w.heap.size, 0, none⟩ = some (.int .i64 (a : Int)) ∧ w2.cell? ⟨w.heap.size, 1, none⟩ = some (.int .i64 (b : Int)) ∧ w2.cell? ⟨w.heap.size, 2, none⟩ = some (.slice A n c)) ∧ (w2.cell? ⟨w.heap.size + 1, 0, none⟩ = some (.int .i64 0) ∧ w2.cell? ⟨w.heap.size + 1, 1, none⟩ = some (.int .i64 0) ∧ w2.cell? ⟨w.heap.size + 1, 2, none⟩ = some (.slice none 0 0)) ∧ ∀ o, w2.frozen? ⟨w.heap.size + 1, o, none⟩ = false) := ⟨⟨q0, q1, q2⟩, ⟨r0, r1, r2⟩, z2⟩
  clear hc2 hf2 r0 r1 r2 z2 hb2 hl2 hl2'
  go_wp2_with fail
  refine (hch _).mono ?_
  rintro e w3 ⟨rfl, hb3⟩
  have hs3 := hb3.size
  have p0 := (hb3.cell (p := ⟨w.heap.size, 0, none⟩) (by show w.heap.size < _; omega)).trans q0
  have p1 := (hb3.cell (p := ⟨w.heap.size, 1, none⟩) (by show w.heap.size < _; omega)).trans q1
  have p2 := (hb3.cell (p := ⟨w.heap.size, 2, none⟩) (by show w.heap.size < _; omega)).trans q2
  have hl3 : w.heap.size < w3.heap.size := by omega
  clear q0 q1 q2
  go_wp2_with fail
  refine (tur_sd a b A n c _).mono ?_
  rintro e w4 ⟨rfl, hb4⟩
  have hs4 := hb4.size
  simp at hs4
  have b3 : Below w2.heap.size w2 (w3.alloc (.cells #[.func (.func 85) #[] #[], .func (.func 86) #[] #[], .func (.func 87) #[] #[]] 88)) := hb3.alloc hb3.size _
  have b4 : Below w2.heap.size w2 w4 := b3.trans (hb4.mono b3.size)
  have g4 : w4.cell? ⟨w3.heap.size, 2, none⟩ = some (.func (.func 87) #[] #[]) := (hb4.cell (p := ⟨w3.heap.size, 2, none⟩) (by simp)).trans (by simp)
  have l4 : w3.heap.size < w4.heap.size := by omega
  have s0 := (b4.cell (p := ⟨w.heap.size, 0, none⟩) (by show w.heap.size < _; omega)).trans HQR.out.1.1
  have s1 := (b4.cell (p := ⟨w.heap.size, 1, none⟩) (by show w.heap.size < _; omega)).trans HQR.out.1.2.1
  have s2 := (b4.cell (p := ⟨w.heap.size, 2, none⟩) (by show w.heap.size < _; omega)).trans HQR.out.1.2.2
  have HG4 := Lib.hid g4
  clear p0 p1 p2 hb3 hb4 b3 hl3 g4
  go_wp2_with (at_make; refine wpList_make_full _ rfl _ _ 22 rfl w4.heap.size 3 i0 (.int .i64 0) 1 Tryz.underlying22 hi hz0 hz1 .i64 .i64 _ _ n rfl rfl rfl rfl hby (by simp only [maxLen]; omega) (by simp) ?_; intro w5 hown5 hgrow5; have b5 : Below w4.heap.size w4 w5 := ⟨hgrow5.os, hgrow5.tape, hgrow5.output, hgrow5.size, fun k hk => hgrow5.block k hk (by simp)⟩; have t2 := (b5.cell (p := ⟨w.heap.size, 2, none⟩) (by show w.heap.size < _; omega)).trans s2)
  obtain ⟨hlt5, hcw5, hfz5⟩ := own_words hown5
  have t0 := (b5.cell (p := ⟨w.heap.size, 0, none⟩) (by show w.heap.size < _; omega)).trans s0
  have t1 := (b5.cell (p := ⟨w.heap.size, 1, none⟩) (by show w.heap.size < _; omega)).trans s1
  have g5 := (b5.cell (p := ⟨w3.heap.size, 2, none⟩) l4).trans HG4.out
  have hw0 : Hid (Filled w5 w4.heap.size n pos T 0) := fun j hj => ⟨0, by
    rw [hcw5 j hj]
    exact made_at (.int .i64 0) (n * 1) j (by rw [Nat.mul_one]; exact hj), fun i hi => absurd hi (by omega)⟩
  have b25 : Below w2.heap.size w2 w5 := b4.trans (b5.mono b4.size)
  have b15 : Below w.heap.size w w5 := b2.trans (b25.mono (by omega))
  have HC : Hid ((w5.cell? ⟨w.heap.size, 0, none⟩ = some (.int .i64 (a : Int)) ∧ w5.cell? ⟨w.heap.size, 1, none⟩ = some (.int .i64 (b : Int)) ∧ w5.cell? ⟨w.heap.size, 2, none⟩ = some (.slice A n c)) ∧ w5.cell? ⟨w3.heap.size, 2, none⟩ = some (.func (.func 87) #[] #[])) := ⟨⟨t0, t1, t2⟩, g5⟩
  clear hown5 hgrow5 hcw5 t0 t1 t2 g5 s0 s1 s2 hix hch
  go_loopw [35] (fun i wr => ∃ k : Nat, k ≤ n ∧ i = .int .i64 k ∧ Hid (Filled wr w4.heap.size n pos T k) ∧ Hid (∀ o, wr.frozen? ⟨w4.heap.size, o, none⟩ = false) ∧ w4.heap.size < wr.heap.size ∧ Below w4.heap.size w5 wr) (fun i _ => n - (intOf i).toNat)
  case atStart => exact ⟨0, Nat.zero_le _, rfl, hw0, hfz5, hlt5, Below.refl _ _⟩
  case round =>
    clear hw0 hfz5 hlt5
    obtain ⟨k, hk, rfl, hfl, hfz, hsr, hbr⟩ := hrel
    obtain ⟨wi, rfl⟩ : ∃ wi : World, wi = wr := ⟨_, rfl⟩
    have hbw : Below w.heap.size w wi := b15.trans (hbr.mono (by omega))
    have l3 : w3.heap.size < wi.heap.size := by omega
    have l1 : w.heap.size < wi.heap.size := by omega
    by_cases hlt : k < n
    · have hkc : k < cs.length := by rw [← HN.out]; exact hlt
      obtain ⟨bk, off, rfl, hbk, hcc⟩ := HP.out (ne_nil_of_lt hkc)
      obtain ⟨v, hv⟩ : ∃ v, v = cs.getD k 0 := ⟨_, rfl⟩
      have cv := (hbw.cell (p := ⟨bk, off + k, none⟩) hbk).trans (hcc k hkc)
      rw [← hv] at cv
      have q0 := (hbr.cell (p := ⟨w.heap.size, 0, none⟩) (by show w.heap.size < _; omega)).trans HC.out.1.1
      have q1 := (hbr.cell (p := ⟨w.heap.size, 1, none⟩) (by show w.heap.size < _; omega)).trans HC.out.1.2.1
      have q2 := (hbr.cell (p := ⟨w.heap.size, 2, none⟩) (by show w.heap.size < _; omega)).trans HC.out.1.2.2
      have g2 := (hbr.cell (p := ⟨w3.heap.size, 2, none⟩) (by show w3.heap.size < _; omega)).trans HC.out.2
      obtain ⟨C, hC⟩ : ∃ C, C = k / a := ⟨_, rfl⟩
      obtain ⟨R, hR⟩ : ∃ R, R = a - 1 - k % a := ⟨_, rfl⟩
      have x1 : k % a < a := Nat.mod_lt _ (by omega)
      have x2 : k / a < b := Nat.div_lt_of_lt_mul (by rw [← HL.out]; exact hkc)
      have hpk : pos k = R * b + C := by rw [HPS.out k, hC, hR]
      have hgk := HG.out.at_ k hkc
      rw [hpk, ← HN.out, ← hv] at hgk
      have hpn : R * b + C < n := hgk.1
      have HTK := Lib.hid hgk.2
      have HPK := Lib.hid hpk
      have hfn := fun (W : World) => tur_pl a b (some ⟨bk, off, none⟩) n c ((k : Int) % (a : Int)) ((k : Int) / (a : Int)) (k % a) (k / a) C R W (by rw [Int.natCast_emod]) (by rw [Int.natCast_ediv]) x1 x2 a40 b40 hC hR
      have m0 : (0 : Int) ≤ (k : Int) % (a : Int) := Int.emod_nonneg _ (by omega)
      have m1 : (0 : Int) ≤ (k : Int) / (a : Int) := Int.ediv_nonneg (by omega) (by omega)
      have m2 : (k : Int) / (a : Int) ≤ 40000 := by have := Int.ediv_le_self (b := (a : Int)) (a := (k : Int)) (by omega); omega
      clear hcc hv hC hR x1 x2 hgk hkc hpk
      go_wp2_with fail
      have f0 := ext_cell q0
      have f1 := ext_cell q1
      have f2 := ext_cell q2
      have f3 := ext_cell g2
      have cF : ∀ x : Ext wi, Calls Tryz.prog 87 #[.agg #[.int .i64 (a : Int), .int .i64 (b : Int), .slice (some ⟨bk, off, none⟩) n c], .int .i64 ((k : Int) % (a : Int)), .int .i64 ((k : Int) / (a : Int))] (ext wi x) fun e w'' => e = .returned (.tuple #[.int .i64 (C : Int), .int .i64 (R : Int)]) ∧ ∃ y, w'' = ext wi y := fun x => ext_call (hfn _)
      refine wp_region_ext (by kernel_rfl) (by kernel_rfl) ?_
      repeat (go_big_quiet_step (first | (go_at_call 87; with_reducible exact cF _)))
      refine wpQuiet_nil ?_
      intro _ hw'
      obtain ⟨xq, rfl⟩ := hw'
      obtain ⟨W6, hb6, he6⟩ : ∃ W6, Below wi.heap.size wi W6 ∧ ext wi xq = W6 := ⟨_, ext_below _, rfl⟩
      rw [he6]
      clear he6 xq f0 f1 f2 f3 hfn q0 q1 q2 g2 cv cF m0 m1 m2
      obtain ⟨vo, hvo, -⟩ := (hfl.out.keep hb6 hsr) _ hpn
      have az : ∀ o, W6.frozen? ⟨w4.heap.size, o, none⟩ = false := fun o => (hb6.frozen (p := ⟨w4.heap.size, o, none⟩) hsr).trans (hfz.out o)
      have n0 : (0 : Int) ≤ (R : Int) * (b : Int) := by rw [← Int.natCast_mul]; omega
      have n1 : (R : Int) * (b : Int) + (C : Int) < n := by rw [← Int.natCast_mul]; omega
      have n2 : ((R : Int) * (b : Int) + (C : Int)).toNat = R * b + C := by rw [← Int.natCast_mul]; omega
      have n3 : (R : Int) * (b : Int) ≤ 40000 := by rw [← Int.natCast_mul]; omega
      have HST : Hid (∀ W : World, Filled W w4.heap.size n pos T k → Filled (W.setCell ⟨w4.heap.size, R * b + C, none⟩ (.int .i64 v)) w4.heap.size n pos T (k + 1)) := fun W hW => by
        have := hW.step v (by rw [HPK.out]; exact HTK.out)
        rw [HPK.out] at this
        exact this
      go_wp2_with fail
      go_roundw
      case rel =>
        refine ⟨k + 1, by omega, by go_num, HST.out _ (hfl.out.keep hb6 hsr), ?_, ?_, ?_⟩
        · exact fun o => by
            rw [World.frozen?_setCell]
            exact az o
        · exact Nat.lt_of_lt_of_le hsr (by simpa [World.setCell] using hb6.size)
        · exact (hbr.trans (hb6.mono (Nat.le_of_lt hsr))).setCell (Nat.le_refl _) _
      case measure => simp [intOf]; omega
    · have e : k = n := by omega
      subst e
      have r0 := (hbr.cell (p := ⟨w.heap.size + 1, 0, none⟩) (by show w.heap.size + 1 < _; omega)).trans ((b25.cell (p := ⟨w.heap.size + 1, 0, none⟩) (by show w.heap.size + 1 < _; omega)).trans HQR.out.2.1.1)
      have r1 := (hbr.cell (p := ⟨w.heap.size + 1, 1, none⟩) (by show w.heap.size + 1 < _; omega)).trans ((b25.cell (p := ⟨w.heap.size + 1, 1, none⟩) (by show w.heap.size + 1 < _; omega)).trans HQR.out.2.1.2.1)
      have r2 := (hbr.cell (p := ⟨w.heap.size + 1, 2, none⟩) (by show w.heap.size + 1 < _; omega)).trans ((b25.cell (p := ⟨w.heap.size + 1, 2, none⟩) (by show w.heap.size + 1 < _; omega)).trans HQR.out.2.1.2.2)
      have z0 : ∀ o, wi.frozen? ⟨w.heap.size + 1, o, none⟩ = false := fun o => (hbr.frozen (p := ⟨w.heap.size + 1, o, none⟩) (by show w.heap.size + 1 < _; omega)).trans ((b25.frozen (p := ⟨w.heap.size + 1, o, none⟩) (by show w.heap.size + 1 < _; omega)).trans (HQR.out.2.2 o))
      have HI : Hid (IntsNew wi w4.heap.size (some ⟨w4.heap.size, 0, none⟩) T) := by
        have h := hfl.out
        rw [HN.out] at h
        exact Filled.ints HG.out h (Nat.le_refl _) hsr
      have HLT : Hid (k = T.length) := by show _ = _; rw [HG.out.len]; exact HN.out
      clear hfl hfz
      go_wp2
      refine bodyPost_ret (v := .tuple #[.agg #[.int .i64 (b : Int), .int .i64 (a : Int), .slice (some ⟨w4.heap.size, 0, none⟩) k k], .int .i64 0]) (by simp [results, Tryz.results33, go_sem, r0, r1, r2]) rfl ?_
      refine ⟨((hbw.setCell (by show w.heap.size ≤ w.heap.size + 1; omega) _).setCell (by show w.heap.size ≤ w.heap.size + 1; omega) _).setCell (by show w.heap.size ≤ w.heap.size + 1; omega) _, some ⟨w4.heap.size, 0, none⟩, k, ?_, ?_⟩
      · rw [HWH.out.1, HWH.out.2, ← HT.out, ← HLT.out]
      · rw [← HT.out]
        exact (((HI.out.set (p := ⟨w.heap.size + 1, 0, none⟩) (by show w.heap.size + 1 < _; omega) _).set (p := ⟨w.heap.size + 1, 1, none⟩) (by show w.heap.size + 1 < _; omega) _).set (p := ⟨w.heap.size + 1, 2, none⟩) (by show w.heap.size + 1 < _; omega) _).mono (by omega)
theorem turP_bad (a b : Int) (cs : List Int) (A : Option Addr) (n c : Nat) (w : World) (hf : form ⟨a, b, cs⟩ = false) (hn : n = cs.length) (hnl : n ≤ 9223372036854775807) :
    Calls Tryz.prog 9 #[.agg #[.int .i64 a, .int .i64 b, .slice A n c]] w (IsNoPat 1 w) := by
  have hc := fun (W : World) => cp_tur_bad a b cs A n c W hf hn hnl
  clear hf hn
  go_enter Tryz.func9, Tryz.ntmps9
  go_wp2_with fail
  refine (hc _).mono ?_
  rintro e w3 ⟨hb3, rfl⟩
  obtain ⟨hc3, hf3⟩ := bcell hb3
  have hs3 := hb3.size
  simp at hs3
  have b3 : Below w.heap.size w w3 := (((Below.refl _ _).alloc (Nat.le_refl _) _).alloc (by simp) _).trans (hb3.mono (by simp; omega))
  go_wp2_with fail
  refine bodyPost_ret (v := .tuple #[.agg #[.int .i64 0, .int .i64 0, .slice none 0 0], .int .i64 1]) (by simp [results, Tryz.results9, go_sem, hc3]) rfl ?_
  exact ⟨((b3.setCell (by show w.heap.size ≤ w.heap.size + 1; omega) _).setCell (by show w.heap.size ≤ w.heap.size + 1; omega) _).setCell (by show w.heap.size ≤ w.heap.size + 1; omega) _, rfl⟩
theorem turP_ok (a b : Nat) (cs : List Int) (A : Option Addr) (n c : Nat) (w : World) (hf : form ⟨a, b, cs⟩ = true) (hn : n = cs.length) (hP : IntsIn w w.heap.size A cs) :
    Calls Tryz.prog 9 #[.agg #[.int .i64 (a : Int), .int .i64 (b : Int), .slice A n c]] w (IsPat (turP ⟨a, b, cs⟩) w) := by
  have hc := fun (W : World) (hW : Below w.heap.size w W) => cp_tur_ok a b cs A n c W hf hn (hP.keep hW hW.size)
  obtain ⟨Q, hQ⟩ : ∃ Q, Q = turP ⟨a, b, cs⟩ := ⟨_, rfl⟩
  rw [← hQ] at hc ⊢
  clear hf hn hP hQ
  go_enter Tryz.func9, Tryz.ntmps9
  go_wp2_with fail
  refine (hc _ (((Below.refl _ _).alloc (Nat.le_refl _) _).alloc (by simp) _)).mono ?_
  rintro e w3 ⟨hb3, B, d, rfl, hI⟩
  obtain ⟨hc3, hf3⟩ := bcell hb3
  have hs3 := hb3.size
  simp at hs3
  have b3 : Below w.heap.size w w3 := (((Below.refl _ _).alloc (Nat.le_refl _) _).alloc (by simp) _).trans (hb3.mono (by simp; omega))
  have HI := Lib.hid hI
  clear hI hc
  go_wp2_with fail
  refine bodyPost_ret (v := .tuple #[.agg #[.int .i64 Q.w, .int .i64 Q.h, .slice B Q.c.length d], .int .i64 0]) (by simp [results, Tryz.results9, go_sem, hc3]) rfl ?_
  refine ⟨((b3.setCell (by show w.heap.size ≤ w.heap.size + 1; omega) _).setCell (by show w.heap.size ≤ w.heap.size + 1; omega) _).setCell (by show w.heap.size ≤ w.heap.size + 1; omega) _, B, d, rfl, ?_⟩
  exact (((HI.out.set (p := ⟨w.heap.size + 1, 0, none⟩) (by simp) _).set (p := ⟨w.heap.size + 1, 1, none⟩) (by simp) _).set (p := ⟨w.heap.size + 1, 2, none⟩) (by simp) _).mono (by simp; omega)
end Go.Proofs.YtmmpdniafmhjpaaGreatDoor

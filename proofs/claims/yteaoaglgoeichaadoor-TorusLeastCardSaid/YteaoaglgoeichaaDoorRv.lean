/-
  groutworkref03.from: the first torus whose lowest row is one of the rings: walked.
-/
import Derived.Test.YteaoaglgoeichaaDoorRp
import Derived.OneCell
namespace Go.Proofs.YteaoaglgoeichaaDoor
open Go.RowKit Go.Maps Go.BigFrame Go.Sort
set_option linter.unusedVariables false
set_option linter.unusedSimpArgs false
set_option maxRecDepth 100000

theorem bool_infoQ : (Tryd.prog.info? 4).map (fun i => (i.zero, i.size, i.bytes)) = some (some (.bool false), 1, 1) := by kernel_rfl
theorem bools_infoQ : (Tryd.prog.info? 77).map (fun i => (i.zero, i.size, i.bytes)) = some (some (.slice none 0 0), 1, 24) := by kernel_rfl
/-- rows in memory -/
structure ZIn (s : List Tl) (w : World) (g : Nat) (Z : List (Nat × Nat × List Nat)) : Prop where
  lt : g < w.heap.size
  row : ∀ k z, Z[k]? = some z → w.rangeAt g (k * 3) (rz s z)
  cells : ∀ z ∈ Z, z.1 < w.heap.size ∧ w.rangeAt z.1 0 (vals (idxI z.2.2))
theorem ZIn.keep {s : List Tl} {w w' : World} {g : Nat} {Z : List (Nat × Nat × List Nat)} (h : ZIn s w g Z) (hb : Below w.heap.size w w') : ZIn s w' g Z :=
  ⟨Nat.lt_of_lt_of_le h.lt hb.size, fun k z hz => rangeAt_keep (h.row k z hz) hb h.lt, fun z hz => ⟨Nat.lt_of_lt_of_le (h.cells z hz).1 hb.size, rangeAt_keep (h.cells z hz).2 hb (h.cells z hz).1⟩⟩
theorem ZIn.at {s : List Tl} {w : World} {g : Nat} {Z : List (Nat × Nat × List Nat)} (h : ZIn s w g Z) {k rb rc a : Nat} {r : List Nat} (hz : Z[k]? = some (rb, rc, r)) (ha : r.length = a) :
    w.cell? ⟨g, k * 3, none⟩ = some (.slice (some ⟨rb, 0, none⟩) a rc) ∧ w.cell? ⟨g, k * 3 + 1, none⟩ = some (.int .i64 (numS s r)) ∧ w.cell? ⟨g, k * 3 + 2, none⟩ = some (.int .i64 (numN s r)) := by
  have hr := h.row k _ hz
  refine ⟨hr 0 _ ?_, hr 1 _ rfl, hr 2 _ rfl⟩
  simp [rz, ha]
/-- what from returns -/
def IsFromR (s : List Tl) (a h : Nat) (R : List (List Nat)) (r0 : List Nat) (W : World) (e : Ending) (w' : World) : Prop :=
  Below W.heap.size W w' ∧ match fromN R (numS s) (numN s) h r0 with
    | none => e = .returned (.tuple #[.agg #[.int .i64 0, .int .i64 0, .slice none 0 0], .bool false])
    | some t => ∃ A cc, e = .returned (.tuple #[.agg #[.int .i64 (a : Int), .int .i64 (h : Int), .slice A t.flatten.length cc], .bool true]) ∧ IntsIn w' w'.heap.size A (idxI t.flatten) ∧ ∀ q, A = some q → W.heap.size ≤ q.block
set_option maxHeartbeats 16000000 in
theorem rfrom_any (s : List Tl) (g zn zc f x a b : Nat) (Z : List (Nat × Nat × List Nat)) (R : List (List Nat)) (rb0 rc0 : Nat) (r0 : List Nat) (w : World) (hzn : zn = Z.length) (hZ : Z.map (·.2.2) = R) (hin : ZIn s w g Z) (hf : Z[f]? = some (rb0, rc0, r0))
    (hRl : ∀ r ∈ R, r.length = a) (hSr : ∀ r ∈ R, 0 ≤ numS s r ∧ numS s r < (x : Int)) (hNr : ∀ r ∈ R, 0 ≤ numN s r ∧ numN s r < (x : Int)) (hx : x ≤ 1000000) (ha1 : 1 ≤ a) (ha8 : a ≤ 8) (hb1 : 1 ≤ b) (hb60 : b ≤ 60) (hzm : zn ≤ 1000000000) :
    Calls Tryd.prog 26 #[.slice (some ⟨g, 0, none⟩) zn zc, .int .i64 (f : Int), .int .i64 (x : Int), .int .i64 (a : Int), .int .i64 (b : Int)] w (IsFromR s a b R r0 w) := by
  obtain ⟨i0, hi, hz0, hz1, hz2⟩ := info_parts bool_infoQ
  obtain ⟨i2, ji, jz0, jz1, jz2⟩ := info_parts bools_infoQ
  have hby : i0.bytes * x ≤ 281474976710656 := by rw [hz2]; omega
  have hby2 : i2.bytes * (b + 1) ≤ 281474976710656 := by rw [jz2]; omega
  obtain ⟨fS, hfS⟩ : ∃ fS, fS = numS s := ⟨_, rfl⟩
  obtain ⟨fN, hfN⟩ : ∃ fN, fN = numN s := ⟨_, rfl⟩
  have hfz : f < zn := by rw [hzn]; exact (List.getElem?_eq_some_iff.1 hf).1
  have hr0R : r0 ∈ R := by rw [← hZ]; exact List.mem_map_of_mem (f := fun z : Nat × Nat × List Nat => z.2.2) (List.mem_of_getElem? hf)
  obtain ⟨K0, hK0⟩ := Int.eq_ofNat_of_zero_le (hSr r0 hr0R).1
  obtain ⟨M0, hM0⟩ := Int.eq_ofNat_of_zero_le (hNr r0 hr0R).1
  have hK0x : K0 < x := by have := (hSr r0 hr0R).2; omega
  have hM0x : M0 < x := by have := (hNr r0 hr0R).2; omega
  have hla0 := hRl r0 hr0R
  rw [← hfS] at hSr hK0
  rw [← hfN] at hNr hM0
  obtain ⟨W1, hW1⟩ : ∃ W1, W1 = w.alloc (.cells #[.int .i64 0, .int .i64 0, .slice none 0 0] 27) := ⟨_, rfl⟩
  have hres1 : W1.heap[w.heap.size]? = some (.cells #[.int .i64 0, .int .i64 0, .slice none 0 0] 27 (0, 0)) := by rw [hW1]; exact heap_at _ _ _ rfl
  have hb1' : Below w.heap.size w W1 := by rw [hW1]; exact (Below.refl _ _).alloc (Nat.le_refl _) _
  have hin1 := hin.keep hb1'
  have hzz1 : w.heap.size < W1.heap.size := (Array.getElem?_eq_some_iff.1 hres1).1
  obtain ⟨b1, hbb1⟩ : ∃ b1, b1 = b + 1 := ⟨_, rfl⟩
  have mb1 : IntKind.i64.wrap ((b : Int) + 1) = (b1 : Int) := by rw [IntWalk.i64_in _ (by omega)]; omega
  rw [← hbb1] at hby2
  have hb161 : b1 ≤ 61 := by omega
  have HW1 := Lib.hid hW1
  have HB1 := Lib.hid hb1'
  have HRS := Lib.hid hres1
  have HIN := Lib.hid hin1
  have HZ := Lib.hid hZ
  have HZN := Lib.hid hzn
  have HF := Lib.hid hf
  have HRL := Lib.hid hRl
  have HSR := Lib.hid hSr
  have HNR := Lib.hid hNr
  have HFS := Lib.hid hfS
  have HFN := Lib.hid hfN
  have HK0 := Lib.hid hK0
  have HM0 := Lib.hid hM0
  have HLA := Lib.hid hla0
  have HBB := Lib.hid hbb1
  clear hW1 hb1' hres1 hin1 hin hZ hzn hf hRl hSr hNr hfS hfN hK0 hM0 hla0 hr0R hbb1
  go_enter Tryd.func26, Tryd.ntmps26
  go_upto_region 1 with fail
  rw [← HW1.out]
  obtain ⟨mb, hmb⟩ : ∃ mb, mb = W1.heap.size := ⟨_, rfl⟩
  go_upto_region 2 with (at_make; refine wpList_make_full _ rfl _ _ 76 rfl W1.heap.size 77 i2 (.slice none 0 0) 1 Tryd.underlying76 ji jz0 jz1 .i64 .i64 _ _ b1 rfl rfl rfl rfl hby2 (by simp only [maxLen]; omega) (by omega) ?_; intro w5 hown5 hgrow5)
  have hb15 : Below W1.heap.size W1 w5 := ⟨hgrow5.os, hgrow5.tape, hgrow5.output, hgrow5.size, fun k hk => hgrow5.block k hk (by simp)⟩
  have hmay5 : MayT w5 mb x b (b + 1) (mayR R fS fN b (K0 : Int)) := by
    rw [hmb]
    refine ⟨(hown5.lt _ rfl).2, fun y hy => ⟨.slice none 0 0, ?_⟩, fun o => hown5.frozenAt o, fun y h1 h2 => by omega⟩
    have hyb : y < b1 := by rw [HBB.out]; omega
    rw [hown5.cellAt y (by omega), Nat.mul_one, show (madeCells (Value.slice none 0 0).cells b1).toList[y]? = some (.slice none 0 0) from made_at _ _ _ hyb]
  rw [← hmb]
  have hmb3 : W1.heap.size ≤ mb := by omega
  have c5 := hown5.cellAt b (by rw [HBB.out]; omega)
  rw [Nat.mul_one, show (madeCells (Value.slice none 0 0).cells b1).toList[b]? = some (.slice none 0 0) from made_at _ _ _ (by rw [HBB.out]; omega), ← hmb] at c5
  have z5 := hmay5.fr b
  have hs15 := hb15.size
  obtain ⟨qb, hqb⟩ : ∃ qb, qb = w5.heap.size := ⟨_, rfl⟩
  have hbi0 : (0 : Int) ≤ (b : Int) := by omega
  have hbi1 : (b : Int) < (b1 : Int) := by rw [HBB.out]; omega
  have HM5 := Lib.hid hmay5
  have HB15 := Lib.hid hb15
  have HMB := Lib.hid hmb
  clear hown5 hgrow5 hmay5 hb15 hmb
  go_upto_region 3 with (at_make; refine wpList_make_full _ rfl _ _ 77 rfl w5.heap.size 4 i0 (.bool false) 1 Tryd.underlying77 hi hz0 hz1 .i64 .i64 _ _ x rfl rfl rfl rfl hby (by simp only [maxLen]; omega) (by omega) ?_; intro w6 hown6 hgrow6; have hb56 : Below w5.heap.size w5 w6 := ⟨hgrow6.os, hgrow6.tape, hgrow6.output, hgrow6.size, fun k hk => hgrow6.block k hk (by simp)⟩; obtain ⟨c6, z6⟩ := later_cellO hb56 c5 z5)
  have hs56 := hb56.size
  rw [← hqb]
  have hmq : mb ≠ qb := fun e => by have := (World.block_lt_of_cell? w5 _ c5); simp at this; omega
  obtain ⟨W7, hW7⟩ : ∃ W7, W7 = w6.setCell ⟨mb, b, none⟩ (.slice (some ⟨qb, 0, none⟩) x x) := ⟨_, rfl⟩
  have hT7 : BTab W7 qb x (fun _ => false) := by
    have h6 : BTab w6 qb x (fun _ => false) := by
      rw [hqb]
      refine ⟨(hown6.lt _ rfl).2, fun L hL => ?_, fun o => hown6.frozenAt o⟩
      rw [hown6.cellAt L (by omega), Nat.mul_one, show (madeCells (Value.bool false).cells x).toList[L]? = some (.bool false) from made_at _ _ _ hL]
    rw [hW7]
    exact h6.grown (grown_set (World.grownBy.refl w6 (some mb)) b _) (by simpa using fun e => hmq e.symm)
  have hM7 : MayT W7 mb x b (b + 1) (mayR R fS fN b (K0 : Int)) := by rw [hW7]; exact (HM5.out.keep hb56).low (Nat.lt_succ_self b) (Nat.le_refl _) _
  have hc7 : W7.cell? ⟨mb, b, none⟩ = some (.slice (some ⟨qb, 0, none⟩) x x) := by rw [hW7]; exact World.cell?_setCell_same _ _ _ c6
  have hb17 : Below W1.heap.size W1 W7 := by rw [hW7]; exact (HB15.out.trans (hb56.mono HB15.out.size)).setCell (p := ⟨mb, b, none⟩) hmb3 _
  have hq3 : W1.heap.size ≤ qb := by omega
  have cK := hT7.2.1 K0 hK0x
  have zK := hT7.2.2 K0
  have hin7 := HIN.out.keep hb17
  obtain ⟨k0, k1, k2⟩ := hin7.at HF.out HLA.out
  rw [← HFS.out, HK0.out] at k1
  rw [← HFN.out, HM0.out] at k2
  have hf0 : (0 : Int) ≤ (f : Int) := by omega
  have hfz' : (f : Int) < (zn : Int) := by omega
  have hk00 : (0 : Int) ≤ (K0 : Int) := by omega
  have hk0x : (K0 : Int) < (x : Int) := by omega
  have hm00 : (0 : Int) ≤ (M0 : Int) := by omega
  have hm0x : (M0 : Int) < (x : Int) := by omega
  have hGo : Hid (∀ W, W = W7.setCell ⟨qb, K0, none⟩ (.bool true) → MayT W mb x b b (mayR R fS fN b (K0 : Int)) ∧ Below W1.heap.size W1 W) := fun W e => by
    have hT8 : BTab W qb x (mayR R fS fN b (K0 : Int) b) := by
      rw [e]
      refine hT7.set K0 hK0x true ?_ fun L hL hne => ?_
      · rw [mayR_top]; exact (decide_eq_true rfl).symm
      · rw [mayR_top]; exact (decide_eq_false (by omega)).symm
    have hg8 : W7.grownBy W (some qb) := by rw [e]; exact grown_set (World.grownBy.refl W7 (some qb)) K0 _
    have hc8 : W.cell? ⟨mb, b, none⟩ = some (.slice (some ⟨qb, 0, none⟩) x x) := (World.cell?_of_block (hg8.block mb hM7.lt (by simpa using hmq))).trans hc7
    exact ⟨(hM7.grown hg8 hmq fun y h1 h2 => by omega).down hc8 (fun e => hmq e.symm) hT8, hb17.trans ⟨hg8.os, hg8.tape, hg8.output, hg8.size, fun j hj => hg8.block j (Nat.lt_of_lt_of_le hj hb17.size) (by simp; omega)⟩⟩
  rw [← hW7]
  clear hW7 hT7 hM7 hb17 hown6 hgrow6 hb56 c5 z5 c6 z6 HM5 HB15 hs15 hs56 HMB hqb hin7 hq3 hmq
  go_wp2_with fail
  go_region
  obtain ⟨W8, hW8⟩ : ∃ W8, W8 = (W7.setCell ⟨qb, K0, none⟩ (.bool true)).drew := ⟨_, rfl⟩
  have hgo8 := hGo.out _ rfl
  have hM8 : MayT W8 mb x b b (mayR R fS fN b (K0 : Int)) := by rw [hW8]; exact hgo8.1.drew
  have hb18 : Below W1.heap.size W1 W8 := by rw [hW8]; exact hgo8.2.drew
  have HM8 := Lib.hid hM8
  have HB18 := Lib.hid hb18
  rw [← hW8]
  clear hW8 hgo8 hM8 hb18 hGo k0 k1 k2 cK zK hc7
  go_wp2_with fail
  go_loopw [13] (fun i wr => ∃ t : Nat, t + 1 ≤ b ∧ i = .int .i64 ((b : Int) - 1 - (t : Int)) ∧ Hid (MayT wr mb x b (b - t) (mayR R fS fN b (K0 : Int))) ∧ Hid (Below W1.heap.size W1 wr)) (fun i _ => (intOf i).toNat)
  case atStart => exact ⟨0, by omega, by go_num, HM8, HB18⟩
  case round =>
    clear HM8 HB18
    obtain ⟨t, ht, rfl, hmt, hbt⟩ := hrel
    obtain ⟨wi, rfl⟩ : ∃ wi : World, wi = wr := ⟨_, rfl⟩
    by_cases hlt : t + 1 < b
    · obtain ⟨y, hy⟩ : ∃ y, y = b - 1 - t := ⟨_, rfl⟩
      have hyi : (b : Int) - 1 - (t : Int) = (y : Int) := by omega
      rw [hyi]
      have hyb : y < b := by omega
      have hyp : 0 < y := by omega
      have hyp' : (0 : Int) < (y : Int) := by omega
      have hyt : b - t = y + 1 := by omega
      have hnext : Hid ((y : Int) - 1 = (b : Int) - 1 - ((t + 1 : Nat) : Int)) := by show _ = _; omega
      have hdn : Hid (b - (t + 1) = y) := by show _ = _; omega
      rw [hyt] at hmt
      have hzi := hbt.out.size
      obtain ⟨vy, hvy⟩ := hmt.out.cell y (by omega)
      have hzy := hmt.out.fr y
      have hy0 : (0 : Int) ≤ (y : Int) := by omega
      have hy1 : (y : Int) < (b1 : Int) := by rw [HBB.out]; omega
      have hltm := hmt.out.lt
      obtain ⟨q, hq⟩ : ∃ q, q = wi.heap.size := ⟨_, rfl⟩
      have hmq : mb ≠ q := by omega
      clear hy hyi hyt
      go_upto_region 8 with (at_make; refine wpList_make_full _ rfl _ _ 77 rfl wi.heap.size 4 i0 (.bool false) 1 Tryd.underlying77 hi hz0 hz1 .i64 .i64 _ _ x rfl rfl rfl rfl hby (by simp only [maxLen]; omega) (by omega) ?_; intro w6 hown6 hgrow6; have hb6 : Below wi.heap.size wi w6 := ⟨hgrow6.os, hgrow6.tape, hgrow6.output, hgrow6.size, fun k hk => hgrow6.block k hk (by simp)⟩; obtain ⟨c6, z6⟩ := later_cellO hb6 hvy hzy)
      rw [← hq]
      obtain ⟨W7, hW7⟩ : ∃ W7, W7 = w6.setCell ⟨mb, y, none⟩ (.slice (some ⟨q, 0, none⟩) x x) := ⟨_, rfl⟩
      have hT7 : BTab W7 q x (mayG R (admN fN b (K0 : Int)) fS fN b y 0) := by
        have h6 : BTab w6 q x (mayG R (admN fN b (K0 : Int)) fS fN b y 0) := by
          rw [hq]
          refine ⟨(hown6.lt _ rfl).2, fun L hL => ?_, fun o => hown6.frozenAt o⟩
          rw [hown6.cellAt L (by omega), Nat.mul_one, show (madeCells (Value.bool false).cells x).toList[L]? = some (.bool false) from made_at _ _ _ hL, mayG_zero]
        rw [hW7]
        exact h6.grown (grown_set (World.grownBy.refl w6 (some mb)) y _) (by simpa using fun e => hmq e.symm)
      have hM7 : MayT W7 mb x b (y + 1) (mayR R fS fN b (K0 : Int)) := by rw [hW7]; exact (hmt.out.keep hb6).low (Nat.lt_succ_self y) (by omega) _
      have hno7 : ∀ y', y + 1 ≤ y' → y' ≤ b → W7.cell? ⟨mb, y', none⟩ ≠ some (.slice (some ⟨q, 0, none⟩) x x) := fun y' h1 h2 e => by
        obtain ⟨q', _, hc', ht'⟩ := hmt.out.tab y' h1 h2
        have h3 : W7.cell? ⟨mb, y', none⟩ = some (.slice (some ⟨q', 0, none⟩) x x) := by
          rw [hW7, World.cell?_setCell_other _ _ _ _ (fun e' => by injection e' with _ e2; omega)]
          exact (hb6.cell (p := ⟨mb, y', none⟩) hltm).trans hc'
        rw [h3] at e
        have hqq : q' = q := by injection e with e; injection e with e _ _; injection e with e; injection e
        have := ht'.1
        omega
      have hc7 : W7.cell? ⟨mb, y, none⟩ = some (.slice (some ⟨q, 0, none⟩) x x) := by rw [hW7]; exact World.cell?_setCell_same _ _ _ c6
      have hb17 : Below W1.heap.size W1 W7 := by rw [hW7]; exact (hbt.out.trans (hb6.mono hzi)).setCell (p := ⟨mb, y, none⟩) hmb3 _
      have hq3 : W1.heap.size ≤ q := by omega
      have HT7 := Lib.hid hT7
      have HM7 := Lib.hid hM7
      have HC7 := Lib.hid hc7
      have HB17 := Lib.hid hb17
      have HMQ := Lib.hid hmq
      have HNO7 := Lib.hid hno7
      rw [← hW7]
      clear hW7 hT7 hM7 hc7 hb17 hown6 hgrow6 hb6 c6 z6 hvy hzy hmt hbt hq hltm hno7 hmq hzi
      go_wp2_with fail
      go_loopw [14] (fun i wr => ∃ k : Nat, k ≤ zn ∧ i = .int .i64 k ∧ Hid (BTab wr q x (mayG R (admN fN b (K0 : Int)) fS fN b y k)) ∧ Hid (W7.grownBy wr (some q))) (fun i _ => zn - (intOf i).toNat)
      case atStart => exact ⟨0, Nat.zero_le _, rfl, HT7, World.grownBy.refl _ _⟩
      case round =>
        clear HT7
        obtain ⟨k, hk, rfl, hT, hg⟩ := hrel
        obtain ⟨wo, rfl⟩ : ∃ wo : World, wo = wr := ⟨_, rfl⟩
        have hMo : MayT wo mb x b (y + 1) (mayR R fS fN b (K0 : Int)) := HM7.out.grown hg.out HMQ.out HNO7.out
        have hlm := HM7.out.lt
        have c0 : wo.cell? ⟨mb, y, none⟩ = some (.slice (some ⟨q, 0, none⟩) x x) := (World.cell?_of_block (hg.out.block mb hlm (by simpa using HMQ.out))).trans HC7.out
        have hb1o : Below W1.heap.size W1 wo := HB17.out.trans ⟨hg.out.os, hg.out.tape, hg.out.output, hg.out.size, fun j hj => hg.out.block j (Nat.lt_of_lt_of_le hj HB17.out.size) (by simp; omega)⟩
        have hino := HIN.out.keep hb1o
        have HB1O := Lib.hid hb1o
        have HMO := Lib.hid hMo
        clear hb1o hMo hlm
        by_cases hkz : k < zn
        · have hkZ : k < Z.length := by rw [← HZN.out]; exact hkz
          obtain ⟨⟨rb, rc, r⟩, hzk⟩ : ∃ z, Z[k]? = some z := ⟨_, List.getElem?_eq_getElem hkZ⟩
          have hrk : R[k]? = some r := by rw [← HZ.out, List.getElem?_map, hzk]; rfl
          have hrR : r ∈ R := List.mem_of_getElem? hrk
          obtain ⟨k0, k1, k2⟩ := hino.at hzk (HRL.out r hrR)
          obtain ⟨K, hK⟩ := Int.eq_ofNat_of_zero_le (HSR.out r hrR).1
          obtain ⟨M, hM⟩ := Int.eq_ofNat_of_zero_le (HNR.out r hrR).1
          have hKx : K < x := by have := (HSR.out r hrR).2; omega
          have hMx : M < x := by have := (HNR.out r hrR).2; omega
          rw [← HFS.out, hK] at k1
          rw [← HFN.out, hM] at k2
          obtain ⟨q1, hq1m, cq1, hB1⟩ := HMO.out.tab (y + 1) (Nat.le_refl _) (by omega)
          obtain ⟨y1, hy1e⟩ : ∃ y1, y1 = y + 1 := ⟨_, rfl⟩
          rw [← hy1e] at cq1
          have c1M := hB1.2.1 M hMx
          obtain ⟨mv, hmv⟩ : ∃ mv, mv = mayR R fS fN b (K0 : Int) (y + 1) (M : Int) := ⟨_, rfl⟩
          rw [← hmv] at c1M
          have hwy : IntKind.i64.wrap ((y : Int) + 1) = (y1 : Int) := by rw [IntWalk.i64_in _ (by omega)]; omega
          have hy10 : (0 : Int) ≤ (y1 : Int) := by omega
          have hy11 : (y1 : Int) < (b1 : Int) := by rw [HBB.out]; omega
          have hk0 : (0 : Int) ≤ (k : Int) := by omega
          have hkz' : (k : Int) < (zn : Int) := by omega
          have hM0 : (0 : Int) ≤ (M : Int) := by omega
          have hMx' : (M : Int) < (x : Int) := by omega
          have hK0' : (0 : Int) ≤ (K : Int) := by omega
          have hKx' : (K : Int) < (x : Int) := by omega
          have hand : (mayF R (admN fN b (K0 : Int)) fS fN b (y + 1) (fN r) && admN fN b (K0 : Int) y r) = mv := by rw [mayR_and R fS fN b _ y hyb, hM, ← hmv]
          have hK2 : Hid (fS r = (K : Int)) := hK
          have HRK := Lib.hid hrk
          have HAND := Lib.hid hand
          clear hkZ hzk hrk hrR hK hM hand hmv hB1 hy1e k0 hino
          cases mv
          · have hTf : Hid (BTab wo q x (mayG R (admN fN b (K0 : Int)) fS fN b y (k + 1))) := hT.out.congr fun L hL => (mayG_no R _ fS fN b y k r HRK.out HAND.out _).symm
            have hgd : Hid (W7.grownBy wo (some q)) := hg
            clear hT hg c0
            go_wp2_with fail
            go_region
            go_wp2_with fail
            go_roundw
            case rel => exact ⟨k + 1, by omega, by go_num, hTf.out.drew, grown_drew hgd.out⟩
            case measure => simp [intOf]; omega
          · have cK := hT.out.2.1 K hKx
            have zK := hT.out.2.2 K
            have hTf : Hid (∀ W, W = wo.setCell ⟨q, K, none⟩ (.bool true) → BTab W q x (mayG R (admN fN b (K0 : Int)) fS fN b y (k + 1))) := fun W e => by
              rw [e]
              refine hT.out.set K hKx true ?_ fun L hL hne => ?_
              · rw [mayG_yes R _ fS fN b y k r HRK.out HAND.out, if_pos hK2.out]
              · rw [mayG_yes R _ fS fN b y k r HRK.out HAND.out, if_neg (by rw [hK2.out]; omega)]
            have hGf : Hid (W7.grownBy (wo.setCell ⟨q, K, none⟩ (.bool true)) (some q)) := grown_set hg.out K _
            clear hT hg
            go_wp2_with fail
            go_region
            go_wp2_with fail
            go_region
            go_wp2_with fail
            go_roundw
            case rel => exact ⟨k + 1, by omega, by go_num, (hTf.out _ rfl).drew.drew, grown_drew (grown_drew hGf.out)⟩
            case measure => simp [intOf]; omega
        · have hkz' : k = R.length := by rw [← HZ.out, List.length_map, ← HZN.out]; omega
          have hTq : BTab wo q x (mayR R fS fN b (K0 : Int) y) := hT.out.congr fun L hL => by rw [hkz', mayG_all R _ fS fN b y hyb, mayR_lt R fS fN b _ y hyb]
          have hMn : Hid (MayT wo mb x b (b - (t + 1)) (mayR R fS fN b (K0 : Int))) := by
            show MayT _ _ _ _ _ _
            rw [hdn.out]
            exact HMO.out.down c0 (fun e => HMQ.out e.symm) hTq
          clear hT hg hkz' hTq c0 HMO hino
          go_wp2_with fail
          go_roundw
          case rel => exact ⟨t + 1, by omega, by rw [← hnext.out], hMn, HB1O⟩
          case measure => first | (simp [intOf]; done) | (simp [intOf]; omega)
    · have hte : b - t = 1 := by omega
      have hte2 : (b : Int) - 1 - (t : Int) = 0 := by omega
      rw [hte] at hmt
      rw [hte2]
      clear hte hte2 hlt ht
      have HMT := Lib.hid hmt.out
      have HBT := Lib.hid hbt.out
      have hini := HIN.out.keep hbt.out
      obtain ⟨k0, k1, k2⟩ := hini.at HF.out HLA.out
      rw [← HFS.out, HK0.out] at k1
      rw [← HFN.out, HM0.out] at k2
      obtain ⟨q1, hq1m, cq1, hB1⟩ := hmt.out.tab 1 (Nat.le_refl _) (by omega)
      have c1M := hB1.2.1 M0 hM0x
      obtain ⟨mv, hmv⟩ : ∃ mv, mv = mayR R fS fN b (K0 : Int) 1 (M0 : Int) := ⟨_, rfl⟩
      rw [← hmv] at c1M
      have h1b : (1 : Int) < (b1 : Int) := by rw [HBB.out]; omega
      have HMV := Lib.hid hmv
      clear hmt hbt hB1 hmv hini
      cases mv
      · have hnone : Hid (fromN R fS fN b r0 = none) := from_no R fS fN b hb1 r0 (by rw [HK0.out, HM0.out, ← HMV.out])
        have hpi := (HBT.out.block w.heap.size hzz1).trans HRS.out
        obtain ⟨y0, y1, y2, y3⟩ := zcells hpi
        have HPI := Lib.hid hpi
        clear hpi
        go_wp2_with fail
        go_region
        go_wp2_with fail
        obtain ⟨x0, x1, x2, -⟩ := zcells (row_set (a := .int .i64 0) (b := .int .i64 0) (c := .slice none 0 0) HPI.out)
        refine bodyPost_ret (v := .tuple #[.agg #[.int .i64 0, .int .i64 0, .slice none 0 0], .bool false]) (by simp [results, Tryd.results26, go_sem, x0, x1, x2]) rfl ?_
        refine ⟨((((HB1.out.trans (HBT.out.mono HB1.out.size)).drew.setCell (p := ⟨w.heap.size, 0, none⟩) (by simp) _).setCell (p := ⟨w.heap.size, 1, none⟩) (by simp) _).setCell (p := ⟨w.heap.size, 2, none⟩) (by simp) _), ?_⟩
        rw [← HFS.out, ← HFN.out, hnone.out]
      · obtain ⟨hX0, hXs⟩ := from_yes R fS fN b hb1 r0 (by rw [HK0.out, HM0.out, ← HMV.out])
        obtain ⟨X, hX⟩ : ∃ X, X = fromN R fS fN b r0 := ⟨_, rfl⟩
        rw [← hX] at hX0 hXs
        have HX0 := Lib.hid hX0
        have HXS := Lib.hid hXs
        have HXX := Lib.hid hX
        obtain ⟨i3, ki, kz0, kz1, kz2⟩ := info_parts int_info
        clear hX0 hXs hX HMV
        go_wp2_with fail
        go_region
        obtain ⟨W9, hW9⟩ : ∃ W9, W9 = wi.drew := ⟨_, rfl⟩
        have hb9 : Below W1.heap.size W1 W9 := by rw [hW9]; exact HBT.out.drew
        have hm9 : MayT W9 mb x b 1 (mayR R fS fN b (K0 : Int)) := by rw [hW9]; exact HMT.out.drew
        rw [← hW9]
        have hin9 := HIN.out.keep hb9
        have h0rr := (hin9.cells _ (List.mem_of_getElem? HF.out))
        obtain ⟨k0, k1, k2⟩ := hin9.at HF.out HLA.out
        rw [← HFN.out, HM0.out] at k2
        have HB9 := Lib.hid hb9
        have HM9 := Lib.hid hm9
        have HVL0 : Hid ((vals (idxI r0)).length = a * 1) := by show _ = _; simp [vals, idxI, HLA.out]
        have HRR0 := Lib.hid h0rr.2
        have hrb0 : rb0 < W9.heap.size := h0rr.1
        have hab : (0 + a) * 8 ≤ 140737488355328 := by omega
        have hamx : 0 + a ≤ maxLen := by simp only [maxLen]; omega
        have k0' : (W9.alloc (.cells #[] 3)).cell? ⟨g, f * 3, none⟩ = some (.slice (some ⟨rb0, 0, none⟩) a rc0) := (((Below.refl W9.heap.size W9).alloc (Nat.le_refl _) _).cell (p := ⟨g, f * 3, none⟩) hin9.lt).trans k0
        have hg9 : g < W9.heap.size := hin9.lt
        clear hW9 hb9 hm9 hin9 h0rr k1 cq1 c1M h1b hq1m HMT HBT k0
        go_upto_region 16 with (at_builtin; refine wpList_append_own_at _ rfl _ _ 25 rfl W9.heap.size 3 i3 _ 1 8 Tryd.underlying25 ki kz0 kz1 kz2 rfl (by decide) (.slice (some ⟨W9.heap.size, 0, none⟩) 0 0) 0 [] rfl (own_empty_at _ _ _ _ (heap_at _ _ _ rfl) (Nat.le_refl _)) ⟨rb0, 0, none⟩ a rc0 (vals (idxI r0)) rfl HVL0.out (fun jj u hu => by rw [Addr.add_mid]; exact (rangeAt_keep HRR0.out ((Below.refl W9.heap.size W9).alloc (Nat.le_refl _) _) hrb0) jj u hu) (vals_one _) hamx hab (by simp) ?_; intro v7 w7 hown7 hgrow7 hnil7 hat7; simp only [Nat.zero_add, List.nil_append] at hown7; obtain ⟨A7, c7, rfl⟩ := own_form' hown7; clear hnil7 hat7)
        obtain ⟨W10, hW10⟩ : ∃ W10, W10 = w7.alloc (.cells #[.int .i64 (a : Int), .int .i64 (b : Int), .slice A7 a c7] 27) := ⟨_, rfl⟩
        rw [← hW10]
        have hb97 : Below W9.heap.size W9 w7 := by
          have h1 : Below W9.heap.size W9 (W9.alloc (.cells #[] 3)) := (Below.refl _ _).alloc (Nat.le_refl _) _
          exact h1.grown hgrow7 h1.size (fun j e => by simp [Value.ownBlock] at e; omega)
        have hb10 : Below W9.heap.size W9 W10 := by rw [hW10]; exact hb97.alloc hb97.size _
        obtain ⟨ob, hob⟩ : ∃ ob, ob = w7.heap.size := ⟨_, rfl⟩
        have hpo10 : W10.heap[ob]? = some (.cells #[.int .i64 (a : Int), .int .i64 (b : Int), .slice A7 a c7] 27 (0, 0)) := by rw [hW10, hob]; exact heap_at _ _ _ rfl
        have hown10 : W10.ownsRow W9.heap.size 3 1 (.slice A7 a c7) a (vals (idxI r0)) := by rw [hW10]; exact hown7.alloc _
        have hne10 : (Value.slice A7 a c7).ownBlock ≠ some ob := fun e => by have := (hown7.lt _ e).2; omega
        have hob9 : W9.heap.size ≤ ob := by rw [hob]; exact hb97.size
        rw [← hob]
        have k2 : W10.cell? ⟨g, f * 3 + 2, none⟩ = some (.int .i64 (M0 : Int)) := (hb10.cell (p := ⟨g, f * 3 + 2, none⟩) hg9).trans k2
        have HB10 := Lib.hid hb10
        have HPO10 := Lib.hid hpo10
        have HOWN10 := Lib.hid hown10
        have HNE10 := Lib.hid hne10
        have hab1 : ∀ y, y ≤ b → y * a ≤ 60 * 8 := fun y hy => Nat.mul_le_mul (by omega) ha8
        have HAB1 := Lib.hid hab1
        clear hW10 hown7 hgrow7 hb97 hb10 hpo10 hown10 hne10 hob hab1 k0' hab hamx
        go_wp2_with fail
        clear k2
        go_loopw [16, 17] (fun bel yv wr => ∃ (y : Nat) (P : List (List Nat)) (v : Value) (bi : Int), 1 ≤ y ∧ y ≤ b ∧ yv = .int .i64 (y : Int) ∧ bel = .int .i64 bi ∧ Hid (X = (stk R (admN fN b (K0 : Int)) fS fN (b - y) y (some bi)).head?.map (P ++ ·)) ∧ Hid (P.length = y ∧ ∀ r ∈ P, r.length = a) ∧
            Hid (wr.heap[ob]? = some (.cells #[.int .i64 (a : Int), .int .i64 (b : Int), v] 27 (0, 0))) ∧ Hid (wr.ownsRow W9.heap.size 3 1 v (y * a) (vals (idxI P.flatten))) ∧ Hid (v.ownBlock ≠ some ob) ∧ Hid (Below W9.heap.size W9 wr)) (fun _ yv _ => b - (intOf yv).toNat)
        case atStart => exact ⟨1, [r0], .slice A7 a c7, (M0 : Int), Nat.le_refl _, hb1, rfl, rfl, by show _ = _; rw [HX0.out, HK0.out, HM0.out], ⟨rfl, fun r hr => by rw [List.mem_singleton] at hr; rw [hr]; exact HLA.out⟩, HPO10.out, by show World.ownsRow _ _ _ _ _ _ _; rw [Nat.one_mul, List.flatten_singleton]; exact HOWN10.out, HNE10.out, HB10.out⟩
        case round =>
          clear HPO10 HOWN10 HNE10 HB10 HX0
          obtain ⟨y, P, v, bi, hy1, hy, rfl, rfl, hX, hP, hpo, hown, hvn, hbr⟩ := hrel
          obtain ⟨wy, rfl⟩ : ∃ wy : World, wy = wr := ⟨_, rfl⟩
          by_cases hyb : y < b
          · go_wp2_with fail
            go_loopw [16, 18] (fun bel i wr => ∃ k : Nat, k ≤ zn ∧ i = .int .i64 k ∧ bel = .int .i64 bi ∧ Hid (∀ k', k' < k → ∀ q, R[k']? = some q → nextB R (admN fN b (K0 : Int)) fS fN b y (some bi) q = false) ∧ Hid (wr.heap[ob]? = some (.cells #[.int .i64 (a : Int), .int .i64 (b : Int), v] 27 (0, 0))) ∧ Hid (wr.ownsRow W9.heap.size 3 1 v (y * a) (vals (idxI P.flatten))) ∧ Hid (Below W9.heap.size W9 wr)) (fun _ i _ => zn - (intOf i).toNat)
            case atStart => exact ⟨0, Nat.zero_le _, rfl, rfl, fun k' hk' => by omega, hpo, hown, hbr⟩
            case round =>
              clear hpo hown hbr
              obtain ⟨k, hk, rfl, rfl, hno, hpo, hown, hbr⟩ := hrel
              obtain ⟨wo, rfl⟩ : ∃ wo : World, wo = wr := ⟨_, rfl⟩
              by_cases hkz : k < zn
              · have hkZ : k < Z.length := by rw [← HZN.out]; exact hkz
                obtain ⟨⟨rb, rc, r⟩, hzk⟩ : ∃ z, Z[k]? = some z := ⟨_, List.getElem?_eq_getElem hkZ⟩
                have hrk : R[k]? = some r := by rw [← HZ.out, List.getElem?_map, hzk]; rfl
                have hrR : r ∈ R := List.mem_of_getElem? hrk
                have hb1o : Below W1.heap.size W1 wo := HB9.out.trans (hbr.out.mono HB9.out.size)
                have hino := HIN.out.keep hb1o
                obtain ⟨k0, k1, k2⟩ := hino.at hzk (HRL.out r hrR)
                have hrbc := hino.cells _ (List.mem_of_getElem? hzk)
                obtain ⟨K, hK⟩ := Int.eq_ofNat_of_zero_le (HSR.out r hrR).1
                obtain ⟨M, hM⟩ := Int.eq_ofNat_of_zero_le (HNR.out r hrR).1
                have hMx : M < x := by have := (HNR.out r hrR).2; omega
                rw [← HFS.out, hK] at k1
                rw [← HFN.out, hM] at k2
                have hMo : MayT wo mb x b 1 (mayR R fS fN b (K0 : Int)) := HM9.out.keep hbr.out
                obtain ⟨q1, hq1m, cq1, hB1⟩ := hMo.tab (y + 1) (by omega) (by omega)
                obtain ⟨y1, hy1e⟩ : ∃ y1, y1 = y + 1 := ⟨_, rfl⟩
                rw [← hy1e] at cq1
                have c1M := hB1.2.1 M hMx
                obtain ⟨mv, hmv⟩ : ∃ mv, mv = mayR R fS fN b (K0 : Int) (y + 1) (M : Int) := ⟨_, rfl⟩
                rw [← hmv] at c1M
                have hwy : IntKind.i64.wrap ((y : Int) + 1) = (y1 : Int) := by rw [IntWalk.i64_in _ (by omega)]; omega
                have hy10 : (0 : Int) ≤ (y1 : Int) := by omega
                have hy11 : (y1 : Int) < (b1 : Int) := by rw [HBB.out]; omega
                have hk0 : (0 : Int) ≤ (k : Int) := by omega
                have hkz' : (k : Int) < (zn : Int) := by omega
                have hM0' : (0 : Int) ≤ (M : Int) := by omega
                have hMx' : (M : Int) < (x : Int) := by omega
                have hnx : Hid (nextB R (admN fN b (K0 : Int)) fS fN b y (some bi) r = (decide ((K : Int) = bi) && mv)) := by
                  show (decide (fS r = bi) && _) = _
                  rw [mayR_and R fS fN b _ y hyb, hM, ← hmv, hK]
                have HRK : Hid (R[k]? = some r ∧ r.length = a) := ⟨hrk, HRL.out r hrR⟩
                have HMN : Hid (fN r = (M : Int)) := hM
                have HRB := Lib.hid hrbc
                have hgw : g < wo.heap.size := hino.lt
                have HNOK : Hid (nextB R (admN fN b (K0 : Int)) fS fN b y (some bi) r = false → ∀ k', k' < k + 1 → ∀ q, R[k']? = some q → nextB R (admN fN b (K0 : Int)) fS fN b y (some bi) q = false) := fun hnb k' hk' q hq => by
                  rcases Nat.lt_succ_iff_lt_or_eq.1 hk' with h | h
                  · exact hno.out k' h q hq
                  · subst h
                    rw [hrk] at hq
                    cases hq
                    exact hnb
                clear hkZ hzk hrk hrR hb1o hino hrbc hK hM hMo hB1 hmv
                have HY1 := Lib.hid hy1e
                clear hy1e
                by_cases hKb : (K : Int) = bi
                · have hd1 : ((K : Int) == bi) = true := by rw [beq_iff_eq]; exact hKb
                  cases mv
                  · have HNO := Lib.hid (HNOK.out (by rw [hnx.out, Bool.and_false]))
                    clear hKb hno k0
                    go_wp2_with fail
                    go_region
                    go_wp2_with fail
                    go_roundw
                    case rel => exact ⟨k + 1, by omega, by go_num, rfl, HNO, hpo.out, own_keep' hown.out (Below.refl _ _).drew, hbr.out.drew⟩
                    case measure => simp [intOf]; omega
                  · have hyes : nextB R (admN fN b (K0 : Int)) fS fN b y (some bi) r = true := by rw [hnx.out, hKb]; simp
                    have hX2 : Hid (X = (stk R (admN fN b (K0 : Int)) fS fN (b - (y + 1)) (y + 1) (some (fN r))).head?.map ((P ++ [r]) ++ ·)) := next_found R _ fS fN b hyb hX.out HRK.out.1 hno.out hyes
                    have hP2 : Hid ((P ++ [r]).length = y + 1 ∧ ∀ q ∈ P ++ [r], q.length = a) := ⟨by rw [List.length_append, hP.out.1]; rfl, fun q hq => by
                      rcases List.mem_append.1 hq with h | h
                      · exact hP.out.2 q h
                      · rw [List.mem_singleton] at h; rw [h]; exact HRK.out.2⟩
                    clear hKb hyes hno HNOK hnx
                    go_wp2_with fail
                    go_region
                    go_wp2_with fail
                    obtain ⟨wt, hwt⟩ : ∃ wt, wt = wo.drew := ⟨_, rfl⟩
                    have hbt : Below wo.heap.size wo wt := by rw [hwt]; exact (Below.refl _ _).drew
                    have hwts : wt.heap.size = wo.heap.size := by rw [hwt]; rfl
                    rw [← hwt]
                    have hpot := (hbt.block ob (Array.getElem?_eq_some_iff.1 hpo.out).1).trans hpo.out
                    obtain ⟨p0, p1, p2, p3⟩ := zcells hpot
                    have hk0t : wt.cell? ⟨g, k * 3, none⟩ = some (.slice (some ⟨rb, 0, none⟩) a rc) := (hbt.cell (p := ⟨g, k * 3, none⟩) hgw).trans k0
                    have hk2t : wt.cell? ⟨g, k * 3 + 2, none⟩ = some (.int .i64 (M : Int)) := (hbt.cell (p := ⟨g, k * 3 + 2, none⟩) hgw).trans k2
                    have hownt := own_keep' hown.out hbt
                    have hrbt := rangeAt_keep HRB.out.2 hbt HRB.out.1
                    have hbrt := hbr.out.trans (hbt.mono hbr.out.size)
                    have hrbl : rb < wt.heap.size := by rw [hwts]; exact HRB.out.1
                    have hgt : g < wt.heap.size := by omega
                    have HWT := Lib.hid (show True from trivial)
                    have f0 := ext_cell p2
                    have f1 := ext_cell hk0t
                    have HPOT := Lib.hid hpot
                    have HK2T := Lib.hid hk2t
                    have HOWNT := Lib.hid hownt
                    have HRBT := Lib.hid hrbt
                    have HBRT := Lib.hid hbrt
                    clear hwt hbt hwts hpot p0 p1 p2 p3 hk0t hk2t hownt hrbt hbrt k0 k1 k2 cq1 c1M hpo hown hbr HRB
                    refine wp_region_ext_tail 7 (by kernel_rfl) (by kernel_rfl) ?_
                    simp only [List.take_succ_cons, List.take_zero, List.drop_succ_cons, List.drop_zero]
                    repeat (go_big_quiet_step (fail))
                    refine wpQuiet_nil ?_
                    intro _ hw'
                    obtain ⟨xq, rfl⟩ := hw'
                    obtain ⟨W6, hb6, he6⟩ : ∃ W6, Below wt.heap.size wt W6 ∧ ext wt xq = W6 := ⟨_, ext_below _, rfl⟩
                    rw [he6]
                    have hs6 := hb6.size
                    have hpo6 := (hb6.block ob (Array.getElem?_eq_some_iff.1 HPOT.out).1).trans HPOT.out
                    have hown6 := own_keep' HOWNT.out hb6
                    have hrb6 := rangeAt_keep HRBT.out hb6 hrbl
                    have hbr6 := HBRT.out.trans (hb6.mono HBRT.out.size)
                    have hk26 : W6.cell? ⟨g, k * 3 + 2, none⟩ = some (.int .i64 (M : Int)) := (hb6.cell (p := ⟨g, k * 3 + 2, none⟩) hgt).trans HK2T.out
                    have hya := HAB1.out y (by omega)
                    have HVL : Hid ((vals (idxI r)).length = a * 1) := by show _ = _; simp [vals, idxI, HRK.out.2]
                    have hmx : y * a + a ≤ maxLen := by simp only [maxLen]; omega
                    have hmbb : (y * a + a) * 8 ≤ 140737488355328 := by omega
                    have HPO6 := Lib.hid hpo6
                    have HOWN6 := Lib.hid hown6
                    have HRB6 := Lib.hid hrb6
                    have HBR6 := Lib.hid hbr6
                    have HK26 := Lib.hid hk26
                    have hbs6 : W9.heap.size ≤ W6.heap.size := hbr6.size
                    have hob6 : ob < W6.heap.size := (Array.getElem?_eq_some_iff.1 hpo6).1
                    clear he6 xq f0 f1 hpo6 hown6 hrb6 hbr6 hk26 hb6 HPOT HOWNT HRBT HBRT HK2T
                    go_upto_region 25 with (at_builtin; refine wpList_append_own_at _ rfl _ _ 25 rfl W9.heap.size 3 i3 _ 1 8 Tryd.underlying25 ki kz0 kz1 kz2 rfl (by decide) v (y * a) (vals (idxI P.flatten)) rfl HOWN6.out ⟨rb, 0, none⟩ a rc (vals (idxI r)) rfl HVL.out (fun jj u hu => by rw [Addr.add_mid]; exact HRB6.out jj u hu) (vals_one _) hmx hmbb hbs6 ?_; intro v7 w7 hown7 hgrow7 hnil7 hat7; obtain ⟨A8, c8, rfl⟩ := own_form' hown7; have hpo7 := keepZ hgrow7 HPO6.out (fun e => hvn.out e.symm); obtain ⟨p0, p1, p2, p3⟩ := zcells hpo7; clear hnil7)
                    obtain ⟨w8, hw8⟩ : ∃ w8, w8 = w7.setCell ⟨ob, 2, none⟩ (.slice A8 (y * a + a) c8) := ⟨_, rfl⟩
                    have hne8 : (Value.slice A8 (y * a + a) c8).ownBlock ≠ some ob := fun e => by
                      rcases hat7 with h | h
                      · rw [h] at e; exact hvn.out e
                      · rw [h] at e; injection e with e; omega
                    have hgne : some g ≠ v.ownBlock := fun e => by have := (HOWN6.out.lt _ e.symm).1; omega
                    have hk28 : w8.cell? ⟨g, k * 3 + 2, none⟩ = some (.int .i64 (M : Int)) := by
                      rw [hw8, World.cell?_setCell_other _ _ _ _ (fun e => by injection e with e1 _ _; omega)]
                      exact (World.cell?_of_block (hgrow7.block g (by omega) hgne)).trans HK26.out
                    have hpo8 : Hid (w8.heap[ob]? = some (.cells #[.int .i64 (a : Int), .int .i64 (b : Int), .slice A8 (y * a + a) c8] 27 (0, 0))) := by
                      show _ = _
                      rw [hw8, heap_setCell_same _ _ 2 _ _ _ hpo7]
                      rfl
                    have hown8 : Hid (w8.ownsRow W9.heap.size 3 1 (.slice A8 (y * a + a) c8) ((y + 1) * a) (vals (idxI (P ++ [r]).flatten))) := by
                      have e1 : (y + 1) * a = y * a + a := by rw [Nat.add_mul, Nat.one_mul]
                      have e2 : vals (idxI (P ++ [r]).flatten) = vals (idxI P.flatten) ++ vals (idxI r) := by simp [vals, idxI]
                      show World.ownsRow _ _ _ _ _ _ _
                      rw [hw8, e1, e2]
                      exact ownsRow_setCell_other hown7 (a := ⟨ob, 2, none⟩) hne8 _
                    have hb8 : Hid (Below W9.heap.size W9 w8) := by
                      show Below _ _ _
                      rw [hw8]
                      exact (HBR6.out.grown hgrow7 HBR6.out.size fun kk e => (HOWN6.out.lt kk e).1).setCell (p := ⟨ob, 2, none⟩) hob9 _
                    rw [← hw8]
                    have HNE8 := Lib.hid hne8
                    clear hw8 hpo7 hown7 hgrow7 p0 p1 p2 p3 hat7 hne8 hgne HPO6 HOWN6 HRB6 HBR6 HK26 hbs6 hob6 hmx hmbb hya
                    go_wp2_with fail
                    have hyy := HY1.out
                    subst hyy
                    go_roundw
                    case rel => exact ⟨y + 1, P ++ [r], .slice A8 (y * a + a) c8, (M : Int), by omega, by omega, by go_num, rfl, by show _ = _; rw [hX2.out, HMN.out], hP2, hpo8, hown8, HNE8, hb8⟩
                    case measure => simp [intOf]; omega
                · have hd1 : ((K : Int) == bi) = false := by rw [beq_eq_false_iff_ne]; exact hKb
                  have HNO := Lib.hid (HNOK.out (by rw [hnx.out, decide_eq_false hKb, Bool.false_and]))
                  clear hKb hno k0
                  go_wp2_with fail
                  go_region
                  go_wp2_with fail
                  go_roundw
                  case rel => exact ⟨k + 1, by omega, by go_num, rfl, HNO, hpo.out, own_keep' hown.out (Below.refl _ _).drew, hbr.out.drew⟩
                  case measure => simp [intOf]; omega
              · have hkz' : k = R.length := by rw [← HZ.out, List.length_map, ← HZN.out]; omega
                exact absurd (next_none R _ fS fN b hyb hX.out (fun k1 h1 => hno.out k1 (by omega))) HXS.out
          · have hye : y = b := by omega
            have hfirst : Hid (fromN R fS fN b r0 = some P) := by
              have h1 := hX.out
              rw [hye, Nat.sub_self, HXX.out] at h1
              show _ = _
              rw [h1]
              simp [stk]
            have hb1o : Below W1.heap.size W1 wy := HB9.out.trans (hbr.out.mono HB9.out.size)
            have hp3 := (hb1o.block w.heap.size hzz1).trans HRS.out
            obtain ⟨A7, c7, rfl⟩ := own_form' hown.out
            obtain ⟨o0, o1, o2, -⟩ := zcells hpo.out
            obtain ⟨y0, y1, y2, y3⟩ := zcells hp3
            have HP3 := Lib.hid hp3
            have HBF : Hid (Below w.heap.size w wy) := HB1.out.trans (hb1o.mono HB1.out.size)
            have hlen : Hid (y * a = P.flatten.length) := by show _ = _; rw [flatR_len P hP.out.2, hP.out.1]
            have hlt2 : w.heap.size < W9.heap.size := Nat.lt_of_lt_of_le hzz1 HB9.out.size
            clear hp3 hb1o hye
            go_wp2_with fail
            obtain ⟨x0, x1, x2, -⟩ := zcells (row_set (a := .int .i64 (a : Int)) (b := .int .i64 (b : Int)) (c := .slice A7 (y * a) c7) HP3.out)
            refine bodyPost_ret (v := .tuple #[.agg #[.int .i64 (a : Int), .int .i64 (b : Int), .slice A7 (y * a) c7], .bool true]) (by simp [results, Tryd.results26, go_sem, x0, x1, x2]) rfl ?_
            refine ⟨((HBF.out.setCell (p := ⟨w.heap.size, 0, none⟩) (by simp) _).setCell (p := ⟨w.heap.size, 1, none⟩) (by simp) _).setCell (p := ⟨w.heap.size, 2, none⟩) (by simp) _, ?_⟩
            rw [← HFS.out, ← HFN.out, hfirst.out]
            have ho := ownsRow_setCell_below (ownsRow_setCell_below (ownsRow_setCell_below hown.out hlt2 (.int .i64 (a : Int)) (a := ⟨w.heap.size, 0, none⟩)) hlt2 (.int .i64 (b : Int)) (a := ⟨w.heap.size, 1, none⟩)) hlt2 (.slice A7 (y * a) c7) (a := ⟨w.heap.size, 2, none⟩)
            obtain ⟨A8, c8, e8, -, -, -, hI8, hA8⟩ := own_ints ho
            injection e8 with e8 _ _
            subst e8
            exact ⟨A7, c7, by rw [hlen.out], hI8, fun q hq => Nat.le_trans (Nat.le_of_lt hlt2) (hA8 q hq)⟩
end Go.Proofs.YteaoaglgoeichaaDoor

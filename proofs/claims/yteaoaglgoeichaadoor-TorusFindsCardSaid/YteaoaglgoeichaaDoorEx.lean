/-
  ref02.extend: the step, a row that is longer by one tile.
-/
import Derived.Test.YteaoaglgoeichaaDoorEi
import Derived.Test.YteaoaglgoeichaaDoorRw
namespace Go.Proofs.YteaoaglgoeichaaDoor
open Go.RowKit Go.Maps Go.BigFrame Go.Sort
set_option linter.unusedVariables false
set_option linter.unusedSimpArgs false
set_option maxRecDepth 100000

/-- the slots that the region writes -/
def exD : List Nat := [15, 56, 57, 58, 59, 60, 61, 62, 63, 64, 65, 66, 67, 68, 69, 70, 71, 72, 73, 74, 75, 76, 77, 78, 79, 80, 81]
/-- what the quiet operations yield -/
def exV (A C : Option Addr) (n c cn cd j by' : Nat) (x y pS pN aS aN : Int) (t : Tl) (rb tb : Nat) (i : Nat) : Value :=
  [undef, .pointer (some ⟨rb, 0, none⟩), .slice A n c, undef, .int .i64 j, undef, undef, .pointer (some ⟨rb, 1, none⟩), .int .i64 x, .int .i64 by', .slice C cn cd, .pointer (some ⟨tb, 2, none⟩), .int .i64 t.s, .int .i64 aS, .int .i64 pS, .int .i64 (x + pS),
    .pointer (some ⟨rb, 2, none⟩), .int .i64 y, .int .i64 by', .slice C cn cd, .pointer (some ⟨tb, 0, none⟩), .int .i64 t.n, .int .i64 aN, .int .i64 pN, .int .i64 (y + pN)].getD i undef
set_option maxHeartbeats 4000000 in
theorem rextend_step (s : List Tl) (S C : Option Addr) (m d cn cd wd k : Nat) (base : Nat) (hm : m = s.length) (hml : m ≤ 1000) (hw : wd ≤ 8) (hcn : cn = (colsOf s).length) (hp : ∀ x, x ≤ wd → cn ^ x ≤ 1000000)
    (ih : ∀ (r : List Nat) (A : Option Addr) (c by' : Nat) (v : Value) (Z : List (Nat × Nat × List Nat)) (w : World), r ∈ rws s r.length → r.length + k = wd → by' = cn ^ r.length → Z.length + (exts s k r).length ≤ 1000000000 → base ≤ w.heap.size →
      SetIn w base S s → IntsIn w base C (colsOf s) → RCell w base v.ownBlock r A c → w.ownsRow base 82 3 v Z.length (Z.flatMap (rz s)) → ZOk w base v.ownBlock Z →
      Calls Tryd.prog 44 #[.slice S m d, .slice C cn cd, .agg #[.slice A r.length c, .int .i64 (numS s r), .int .i64 (numN s r)], .int .i64 wd, .int .i64 by', v] w (IsExt s k r base v Z w))
    (r : List Nat) (A : Option Addr) (c by' : Nat) (v : Value) (Z : List (Nat × Nat × List Nat)) (w : World) (hr : r ∈ rws s r.length) (hrk : r.length + (k + 1) = wd) (hby : by' = cn ^ r.length) (hZn : Z.length + (exts s (k + 1) r).length ≤ 1000000000) (hbs : base ≤ w.heap.size)
    (hS : SetIn w base S s) (hC : IntsIn w base C (colsOf s)) (hrc : RCell w base v.ownBlock r A c) (hown : w.ownsRow base 82 3 v Z.length (Z.flatMap (rz s))) (hZ : ZOk w base v.ownBlock Z) :
    Calls Tryd.prog 44 #[.slice S m d, .slice C cn cd, .agg #[.slice A r.length c, .int .i64 (numS s r), .int .i64 (numN s r)], .int .i64 wd, .int .i64 by', v] w (IsExt s (k + 1) r base v Z w) := by
  obtain ⟨i0, hi, hz0, hz1, hz2⟩ := info_parts rrow_info
  obtain ⟨i1, gi, gz0, gz1, gz2⟩ := info_parts int_info
  obtain ⟨x, hx⟩ : ∃ x, x = numS s r := ⟨_, rfl⟩
  obtain ⟨y, hy⟩ : ∃ y, y = numN s r := ⟨_, rfl⟩
  obtain ⟨n, hn⟩ : ∃ n, n = r.length := ⟨_, rfl⟩
  have hxr := numS_range hr
  have hyr := numN_range hr
  rw [← hcn, ← hx, ← hn] at hxr
  rw [← hcn, ← hy, ← hn] at hyr
  have hpn : by' ≤ 1000000 := by rw [hby]; exact hp _ (by omega)
  have hpc : ((cn : Int) ^ n) = (by' : Int) := by rw [hby, ← hn]; exact_mod_cast rfl
  rw [hpc] at hxr hyr
  have HIH := Lib.hid ih
  have HM := Lib.hid hm
  have HCN := Lib.hid hcn
  have HP := Lib.hid hp
  have HX := Lib.hid hx
  have HY := Lib.hid hy
  have HN := Lib.hid hn
  have HBY := Lib.hid hby
  have HRR := Lib.hid hr
  have HS := Lib.hid hS
  have HC := Lib.hid hC
  have HRC := Lib.hid hrc
  have HV := Lib.hid hown.lt
  have hd0 : ((n : Int) == (wd : Int)) = false := by rw [beq_eq_false_iff_ne]; omega
  rw [← hx, ← hy, ← hn]
  rw [← hn] at hrk
  clear ih hm hcn hp hx hy hn hby hr hS hC hrc hpc
  go_enter Tryd.func44, Tryd.ntmps44
  go_wp2_with fail
  have hb8 : Hid ((w.alloc (.cells #[.slice A n c, .int .i64 x, .int .i64 y] 82)).heap[w.heap.size]? = some (.cells #[.slice A n c, .int .i64 x, .int .i64 y] 82 (0, 0))) := heap_alloc_new w _
  go_loopw [5, 13] (fun v1 i wr => ∃ (j : Nat) (Z1 : List (Nat × Nat × List Nat)), j ≤ m ∧ i = .int .i64 j ∧ Hid (Z1.map (·.2.2) = extTo s k r j) ∧ wr.ownsRow base 82 3 v1 (Z ++ Z1).length ((Z ++ Z1).flatMap (rz s)) ∧ ZOk wr base v1.ownBlock (Z ++ Z1) ∧
      w.grownBy wr v.ownBlock ∧ Hid (v1.ownBlock = v.ownBlock ∨ ∃ g, v1.ownBlock = some g ∧ w.heap.size < g) ∧ Hid (wr.heap[w.heap.size]? = some (.cells #[.slice A n c, .int .i64 x, .int .i64 y] 82 (0, 0)))) (fun _ i _ => m - (intOf i).toNat)
  case atStart => exact ⟨0, [], Nat.zero_le _, rfl, rfl, by rw [List.append_nil]; exact hown.alloc _, by rw [List.append_nil]; exact hZ.grown (World.grownBy_alloc w _ v.ownBlock) (Or.inl rfl), World.grownBy_alloc w _ v.ownBlock, Or.inl rfl, hb8⟩
  case round =>
    clear hb8 hown hZ
    obtain ⟨j, Z1, hj, rfl, hZ1, hown, hZ, hg, hat, hb8⟩ := hrel
    obtain ⟨wo, rfl⟩ : ∃ wo : World, wo = wr := ⟨_, rfl⟩
    have hlz : w.heap.size < wo.heap.size := (Array.getElem?_eq_some_iff.1 hb8.out).1
    have hbw : Below base w wo := ⟨hg.os, hg.tape, hg.output, hg.size, fun q hq => hg.block q (by omega) (fun e => by have := (HV.out q e.symm).1; omega)⟩
    by_cases hlt : j < m
    · have hjl : j < s.length := by rw [← HM.out]; exact hlt
      obtain ⟨sb, so, rfl, hsb, c0, c1, c2, c3⟩ := set_at HS.out hbw hjl
      have ht' : s.getD j ⟨0, 0, 0, 0⟩ = ti s j := rfl
      rw [ht'] at c0 c1 c2 c3
      obtain ⟨t, ht⟩ : ∃ t, t = ti s j := ⟨_, rfl⟩
      rw [← ht] at c0 c1 c2 c3
      have HT := Lib.hid ht
      have hj0 : (0 : Int) ≤ (j : Int) := by omega
      have hjm : (j : Int) < (m : Int) := by omega
      clear ht ht'
      have k0 : wo.cell? ⟨w.heap.size, 0, none⟩ = some (.slice A n c) := by rw [cell_of_row _ _ _ _ _ _ hb8.out]; rfl
      have k1 : wo.cell? ⟨w.heap.size, 1, none⟩ = some (.int .i64 x) := by rw [cell_of_row _ _ _ _ _ _ hb8.out]; rfl
      have k2 : wo.cell? ⟨w.heap.size, 2, none⟩ = some (.int .i64 y) := by rw [cell_of_row _ _ _ _ _ _ hb8.out]; rfl
      have HJL := Lib.hid hjl
      clear hjl
      go_wp2_with fail
      go_cut [55] from 25 to 91 (fun u wx => u = .bool (!mayJoin s r j) ∧ wx = (wo.alloc (.cells #[.int .i64 t.n, .int .i64 t.e, .int .i64 t.s, .int .i64 t.w] 43)).drew)
      case first =>
        by_cases hr0 : r = []
        · have hn00 : n = 0 := by rw [HN.out, hr0]; rfl
          have hmj : mayJoin s r j = true := by unfold mayJoin; exact decide_eq_true (Or.inl hr0)
          subst hn00
          go_region
          go_wp2_with fail
          go_meet
          exact ⟨by rw [hmj]; rfl, rfl⟩
        · have hn1 : 0 < n := by rw [HN.out]; exact List.length_pos_iff.2 hr0
          obtain ⟨rb, rfl, hrb1, hrb2, hrb3, hrr⟩ := HRC.out.resolve_left (fun h => hr0 h.1)
          obtain ⟨q, hq⟩ : ∃ q, q = r.getD (n - 1) 0 := ⟨_, rfl⟩
          have hqm : q < s.length := by rw [hq]; exact ((mem_rws s _ r).1 HRR.out).2.1 _ (by rw [← HN.out]; omega)
          have hql : wo.cell? ⟨rb, n - 1, none⟩ = some (.int .i64 q) := by
            have h1 := hrr (n - 1) (.int .i64 q) (by
              rw [vals, idxI, List.map_map, List.getElem?_map, List.getElem?_eq_getElem (show n - 1 < r.length by rw [← HN.out]; omega), hq, getD_of_lt r (n - 1) 0 (by rw [← HN.out]; omega)]
              rfl)
            rw [Nat.zero_add] at h1
            exact (World.cell?_of_block (hg.block rb hrb2 hrb3)).trans h1
          obtain ⟨sb', so', hsS, hsb', e0, e1, e2, e3⟩ := set_at HS.out hbw hqm
          obtain ⟨rfl, rfl⟩ : sb' = sb ∧ so' = so := by simpa using hsS.symm
          have heq : Hid (s.getD q ⟨0, 0, 0, 0⟩ = ti s q) := rfl
          have hE : Hid (east s r = (ti s q).e) := by show _ = _; rw [east_getD s r n (by omega) HN.out.symm, ← hq]
          rw [heq.out] at e1
          obtain ⟨E, hEe⟩ : ∃ E, E = (ti s q).e := ⟨_, rfl⟩
          rw [← hEe] at hE e1
          have hq0 : (0 : Int) ≤ (q : Int) := by omega
          have hqm' : (q : Int) < (m : Int) := by rw [HM.out]; omega
          have hn0 : (0 : Int) < (n : Int) := by omega
          have hn2 : (0 : Int) ≤ (n : Int) - 1 := by omega
          have hn3 : (n : Int) - 1 < (n : Int) := by omega
          have hd1 : decide ((0 : Int) < (n : Int)) = true := by simpa using hn1
          have hd2 : decide (0 < n) = true := by simpa using hn1
          have hmj : mayJoin s r j = decide (E = t.w) := by
            unfold mayJoin
            rw [HT.out, hE.out, decide_eq_decide]
            exact ⟨fun h => h.resolve_left hr0, Or.inr⟩
          have HMJ := Lib.hid hmj
          clear hmj
          have hsbz : sb' < wo.heap.size := by have := hbw.size; omega
          have hrbz : rb < wo.heap.size := by have := hg.size; omega
          clear hq hqm hEe e0 e2 e3 hsS hr0 hrr
          go_region
          go_wp2_with fail
          go_meet
          exact ⟨by rw [HMJ.out]; rfl, rfl⟩
      case rest =>
        obtain ⟨rfl, hwc⟩ := hcut
        cases hmj : mayJoin s r j
        · have hj1 : Hid (extTo s k r (j + 1) = extTo s k r j) := extTo_no s k r j hmj
          rw [hwc]
          go_wp2_with fail
          go_roundw
          case rel => exact ⟨j + 1, Z1, by omega, by go_num, by rw [hj1.out]; exact hZ1, hown.alloc _, hZ.grown (grown_drew (World.grownBy_alloc wo _ _)) (Or.inl rfl), hg.trans (grown_drew (World.grownBy_alloc wo _ _)), hat, heap_keep hb8.out _⟩
          case measure => simp [intOf]; omega
        · have hj1 : Hid (extTo s k r (j + 1) = extTo s k r j ++ exts s k (r ++ [j])) := extTo_yes s k r j hmj
          have hr1 : Hid (r ++ [j] ∈ rws s (n + 1)) := by
            show _ ∈ _
            rw [HN.out]
            refine longer_mem HRR.out ?_
            unfold longer
            exact List.mem_map.2 ⟨j, List.mem_filter.2 ⟨List.mem_range.2 HJL.out, hmj⟩, rfl⟩
          clear hmj
          go_upto_region 8 with fail
          obtain ⟨w1, hw1'⟩ : ∃ w1, w1 = wc := ⟨_, rfl⟩
          subst hw1'
          have hw1 := hwc
          have hz1 : w1.heap.size = wo.heap.size + 1 := by rw [hw1]; simp
          have keep1 : ∀ {a : Addr} {u : Value}, w1.cell? a = some u → ∀ w', Below w1.heap.size w1 w' → w'.cell? a = some u := fun h w' hb => (hb.cell (World.block_lt_of_cell? w1 _ h)).trans h
          have old1 : ∀ {a : Addr} {u : Value}, wo.cell? a = some u → w1.cell? a = some u := fun {a u} h => by
            rw [hw1]
            exact (World.cell?_of_block (w := wo) (heap_alloc_old' wo _ a.block (World.block_lt_of_cell? wo _ h))).trans h
          have r0 := keep1 (old1 k0)
          have r1 := keep1 (old1 k1)
          have r2 := keep1 (old1 k2)
          have r3 := keep1 (show w1.cell? ⟨wo.heap.size, 2, none⟩ = some (.int .i64 t.s) by rw [hw1]; simp)
          have r4 := keep1 (show w1.cell? ⟨wo.heap.size, 0, none⟩ = some (.int .i64 t.n) by rw [hw1]; simp)
          have hb1 : Below base w w1 := by rw [hw1]; exact (hbw.alloc (Nat.le_trans hbs hbw.size) _).drew
          have hrow1 : (A = none ∧ n = 0 ∧ r = []) ∨ ∃ rb, A = some ⟨rb, 0, none⟩ ∧ ∀ w', Below w1.heap.size w1 w' → w'.rangeAt rb 0 (vals (idxI r)) := by
            rcases HRC.out with ⟨e1, e2, e3⟩ | ⟨rb, e1, hrb1, hrb2, hrb3, hrr⟩
            · exact Or.inl ⟨e2, by rw [HN.out, e1]; rfl, e1⟩
            · refine Or.inr ⟨rb, e1, fun w' hb jj u hu => ?_⟩
              have hz := hg.size
              refine (hb.cell (p := ⟨rb, 0 + jj, none⟩) (by show rb < _; omega)).trans ?_
              rw [hw1]
              refine (World.cell?_of_block (w := wo) (heap_alloc_old' wo _ rb (by omega))).trans ?_
              exact (World.cell?_of_block (hg.block rb hrb2 hrb3)).trans (hrr jj u hu)
          have hat' := fun (u : Int) (W : World) (hW : Below w1.heap.size w1 W) => rat_any (colsOf s) C cn cd u W HCN.out (by have := cols_len s; rw [HCN.out]; rw [← HM.out] at this; omega) (HC.out.keep (hb1.trans (hW.mono (Nat.le_trans hbs hb1.size))) (Nat.le_trans (Nat.le_trans hbs hb1.size) hW.size))
          have htm : t ∈ s := by rw [HT.out]; exact ti_mem HJL.out
          obtain ⟨aS, haS⟩ : ∃ aS, aS = atL (colsOf s) t.s := ⟨_, rfl⟩
          obtain ⟨aN, haN⟩ : ∃ aN, aN = atL (colsOf s) t.n := ⟨_, rfl⟩
          have hrS := atL_range ((mem_cols s t.s).2 ⟨t, htm, Or.inr rfl⟩)
          have hrN := atL_range ((mem_cols s t.n).2 ⟨t, htm, Or.inl rfl⟩)
          have hc2 : (cn : Int) ≤ 2000 := by have := cols_len s; rw [← HCN.out, ← HM.out] at this; omega
          rw [← haS, ← HCN.out] at hrS
          rw [← haN, ← HCN.out] at hrN
          have hatS := hat' t.s
          have hatN := hat' t.n
          rw [← haS] at hatS
          rw [← haN] at hatN
          have HATS := Lib.hid hatS
          have HATN := Lib.hid hatN
          obtain ⟨pS, hpS⟩ : ∃ pS, pS = (by' : Int) * aS := ⟨_, rfl⟩
          obtain ⟨pN, hpN⟩ : ∃ pN, pN = (by' : Int) * aN := ⟨_, rfl⟩
          have hpSr : 0 ≤ pS ∧ pS ≤ 1000000 * 2000 := by rw [hpS]; exact ⟨Int.mul_nonneg (by omega) hrS.1, Int.mul_le_mul (by omega) (by omega) hrS.1 (by omega)⟩
          have hpNr : 0 ≤ pN ∧ pN ≤ 1000000 * 2000 := by rw [hpN]; exact ⟨Int.mul_nonneg (by omega) hrN.1, Int.mul_le_mul (by omega) (by omega) hrN.1 (by omega)⟩
          have m1 : IntKind.i64.wrap ((by' : Int) * aS) = pS := by rw [← hpS]; exact IntWalk.i64_in _ (by omega)
          have m2 : IntKind.i64.wrap ((by' : Int) * aN) = pN := by rw [← hpN]; exact IntWalk.i64_in _ (by omega)
          have m3 : IntKind.i64.wrap (x + pS) = x + pS := IntWalk.i64_in _ (by omega)
          have m4 : IntKind.i64.wrap (y + pN) = y + pN := IntWalk.i64_in _ (by omega)
          have hxS : Hid (numS s (r ++ [j]) = x + pS) := by
            show _ = _
            rw [HX.out, hpS, haS]
            unfold numS lineS
            rw [List.map_append, List.map_cons, List.map_nil, numL_snoc, List.length_map, ← HN.out, ← HT.out, ← HCN.out, HBY.out, ← HN.out]
            norm_cast
          have hyN : Hid (numN s (r ++ [j]) = y + pN) := by
            show _ = _
            rw [HY.out, hpN, haN]
            unfold numN lineN
            rw [List.map_append, List.map_cons, List.map_nil, numL_snoc, List.length_map, ← HN.out, ← HT.out, ← HCN.out, HBY.out, ← HN.out]
            norm_cast
          have HW1 := Lib.hid hw1
          have HZ1 := Lib.hid hz1
          have HROW := Lib.hid hrow1
          have HLN : Hid ((vals (idxI r)).length = n * 1) := by show _ = _; rw [HN.out]; simp [vals, idxI]
          have hn8 : n ≤ 8 := by omega
          have hS1 : Below w1.heap.size w1 w1 := Below.refl _ _
          have HB1 := Lib.hid hb1
          have hTT : 3 ≠ 82 := by decide
          clear hw1 hz1 keep1 old1 k0 k1 k2 c0 c1 c2 c3 hrow1 hat' hatS hatN htm haS haN hrS hrN hpS hpN hpSr hpNr hb1
          go_cut [15] from 25 to 91 (fun u wx => ∃ (q g6 c6 : Nat), u = .pointer (some ⟨q, 0, none⟩) ∧ w1.heap.size ≤ q ∧ Hid (wx.heap[q]? = some (.cells #[.slice (some ⟨g6, 0, none⟩) (n + 1) c6, .int .i64 (x + pS), .int .i64 (y + pN)] 82 (0, 0))) ∧ Hid (wx.rangeAt g6 0 (vals (idxI (r ++ [j])))) ∧ w1.heap.size ≤ g6 ∧ g6 < wx.heap.size ∧ Below w1.heap.size w1 wx)
          case first =>
            clear hml hw hZn hbs hi hz0 hz1 hz2 i0 hrk hxr hyr hpn HM HCN HP HX HY HN HBY HRR HC HV hd0 hj hZ1 hat hown hZ hg hlz hbw hlt HT hj0 hjm HRC hb8 hsb HIH HS hj1 hc2 HB1 HW1 hxS hyN HZ1 HJL
            refine wp_act rfl ?_
            intro t0 ht0
            dsimp only at ht0
            have e1 : t0.getD 1 undef = .slice C cn cd := by rw [← ht0]; rfl
            have e4 : t0.getD 4 undef = .int .i64 (by' : Int) := by rw [← ht0]; rfl
            have e8 : t0.getD 8 undef = .pointer (some ⟨w.heap.size, 0, none⟩) := by rw [← ht0]; rfl
            have e13 : t0.getD 13 undef = .int .i64 (j : Int) := by rw [← ht0]; rfl
            have e14 : t0.getD 14 undef = .pointer (some ⟨wo.heap.size, 0, none⟩) := by rw [← ht0]; rfl
            have hsz : t0.size = 93 := by rw [← ht0]; rfl
            have HT0 := Lib.hid ht0
            clear ht0
            have EF : ∀ (u : Nat → Value) (k : Nat), k ∈ exD → (fillA t0 exD u)[k]?.getD undef = u k := fun u k hk => by
              rw [← Array.getD_eq_getD_getElem?, fill_get, if_pos ⟨hk, by
                rw [hsz]
                have : ∀ k ∈ exD, k < 93 := by decide
                exact this k hk⟩]
            have EG : ∀ (u : Nat → Value) (k : Nat), k ∉ exD → (fillA t0 exD u)[k]?.getD undef = t0.getD k undef := fun u k hk => by
              rw [← Array.getD_eq_getD_getElem?, fill_get, if_neg (fun hh => hk hh.1)]
            have EI : ∀ (u : Nat → Value) (k : Nat), k ∈ exD → Act.eval ⟨fillA t0 exD u, []⟩ (.tmp k) = u k := fun u k hk => eval_in hk (by
              rw [hsz]
              have : ∀ k ∈ exD, k < 93 := by decide
              exact this k hk)
            have EO : ∀ (u : Nat → Value) (k : Nat), k ∉ exD → Act.eval ⟨fillA t0 exD u, []⟩ (.tmp k) = t0.getD k undef := fun u k hk => eval_out hk
            have X1 : exV A C n c cn cd j by' x y pS pN aS aN t w.heap.size wo.heap.size 1 = .pointer (some ⟨w.heap.size, 0, none⟩) := rfl
            have X2 : exV A C n c cn cd j by' x y pS pN aS aN t w.heap.size wo.heap.size 2 = .slice A n c := rfl
            have X4 : exV A C n c cn cd j by' x y pS pN aS aN t w.heap.size wo.heap.size 4 = .int .i64 (j : Int) := rfl
            have X7 : exV A C n c cn cd j by' x y pS pN aS aN t w.heap.size wo.heap.size 7 = .pointer (some ⟨w.heap.size, 1, none⟩) := rfl
            have X8 : exV A C n c cn cd j by' x y pS pN aS aN t w.heap.size wo.heap.size 8 = .int .i64 x := rfl
            have X9 : exV A C n c cn cd j by' x y pS pN aS aN t w.heap.size wo.heap.size 9 = .int .i64 (by' : Int) := rfl
            have X10 : exV A C n c cn cd j by' x y pS pN aS aN t w.heap.size wo.heap.size 10 = .slice C cn cd := rfl
            have X11 : exV A C n c cn cd j by' x y pS pN aS aN t w.heap.size wo.heap.size 11 = .pointer (some ⟨wo.heap.size, 2, none⟩) := rfl
            have X12 : exV A C n c cn cd j by' x y pS pN aS aN t w.heap.size wo.heap.size 12 = .int .i64 t.s := rfl
            have X13 : exV A C n c cn cd j by' x y pS pN aS aN t w.heap.size wo.heap.size 13 = .int .i64 aS := rfl
            have X14 : exV A C n c cn cd j by' x y pS pN aS aN t w.heap.size wo.heap.size 14 = .int .i64 pS := rfl
            have X15 : exV A C n c cn cd j by' x y pS pN aS aN t w.heap.size wo.heap.size 15 = .int .i64 (x + pS) := rfl
            have X16 : exV A C n c cn cd j by' x y pS pN aS aN t w.heap.size wo.heap.size 16 = .pointer (some ⟨w.heap.size, 2, none⟩) := rfl
            have X17 : exV A C n c cn cd j by' x y pS pN aS aN t w.heap.size wo.heap.size 17 = .int .i64 y := rfl
            have X18 : exV A C n c cn cd j by' x y pS pN aS aN t w.heap.size wo.heap.size 18 = .int .i64 (by' : Int) := rfl
            have X19 : exV A C n c cn cd j by' x y pS pN aS aN t w.heap.size wo.heap.size 19 = .slice C cn cd := rfl
            have X20 : exV A C n c cn cd j by' x y pS pN aS aN t w.heap.size wo.heap.size 20 = .pointer (some ⟨wo.heap.size, 0, none⟩) := rfl
            have X21 : exV A C n c cn cd j by' x y pS pN aS aN t w.heap.size wo.heap.size 21 = .int .i64 t.n := rfl
            have X22 : exV A C n c cn cd j by' x y pS pN aS aN t w.heap.size wo.heap.size 22 = .int .i64 aN := rfl
            have X23 : exV A C n c cn cd j by' x y pS pN aS aN t w.heap.size wo.heap.size 23 = .int .i64 pN := rfl
            have X24 : exV A C n c cn cd j by' x y pS pN aS aN t w.heap.size wo.heap.size 24 = .int .i64 (y + pN) := rfl
            refine wp_region_inv (by kernel_rfl) (by kernel_rfl) (fun d a W => ∃ u q56 q61 q15 g62 c62, a = ⟨fillA t0 exD u, []⟩ ∧ RI 3 82 w1 (exV A C n c cn cd j by' x y pS pN aS aN t w.heap.size wo.heap.size) n (idxI r) (j : Int) (x + pS) (y + pN) d u q56 q61 q15 g62 c62 W)
              ⟨fun k => t0.getD k undef, 0, 0, 0, 0, 0, by rw [fill_self], RI.start _ _ _ _ _ _ hS1.drew⟩ ?fin 
              (.cons ?c0 (.cons ?c1 (.cons ?c2 (.cons ?c3 (.cons ?c4 (.cons ?c5 (.cons ?c6 (.cons ?c7 (.cons ?c8 (.cons ?c9 (.cons ?c10 (.cons ?c11 (.cons ?c12 (.cons ?c13 (.cons ?c14 (.cons ?c15 (.cons ?c16 (.cons ?c17 (.cons ?c18 (.cons ?c19 (.cons ?c20 (.cons ?c21 (.cons ?c22 (.cons ?c23 (.cons ?c24 (.cons ?c25 (.cons ?c26 (.cons ?c27 .nil))))))))))))))))))))))))))))
            case fin =>
              rintro d a W hall ⟨u, q56, q61, q15, g62, c62, rfl, h⟩
              obtain ⟨a15, b15, -⟩ := h.f26 (hall 26 (by decide))
              have hq27 := h.f27 (hall 27 (by decide))
              obtain ⟨-, b6, x6, r6⟩ := h.f6 (hall 6 (by decide))
              rw [← HT0.out]
              simp only [fillA, exD, List.foldl_cons, List.foldl_nil, List.setIfInBounds_toArray, List.set_cons_zero, List.set_cons_succ, a15]
              have HR6 : Hid (W.rangeAt g62 0 (vals (idxI (r ++ [j])))) := by
                have e : idxI (r ++ [j]) = idxI r ++ [(j : Int)] := by simp [idxI]
                show W.rangeAt _ _ _
                rw [e]
                exact r6
              have HBL := Lib.hid h.bel
              clear h r6 hall a15
              go_wp2_with fail
              go_meet
              exact ⟨q15, g62, c62, rfl, b15, hq27, HR6, b6, x6, HBL.out⟩
            case c0 =>
              intro d a W hd hp hI K hK
              obtain ⟨u, q56, q61, q15, g62, c62, rfl, h⟩ := hI
              refine step_run rfl (v := .slice (some ⟨W.heap.size, 0, none⟩) 0 0) (w' := W.alloc (.cells #[] 3)) ?_ (hK _ _ ⟨_, _, _, _, _, _, put_in (by decide), h.s0 hd⟩)
              simp [execOp, go_sem]
            case c1 =>
              intro d a W hd hp hI K hK
              obtain ⟨u, q56, q61, q15, g62, c62, rfl, h⟩ := hI
              have hq := h.quiet 1 (qt_of rfl)
              rw [X1] at hq
              have hk := hK _ _ ⟨_, _, _, _, _, _, put_in (t0 := t0) (D := exD) (u := u) (df := []) (k := 57) (v := .pointer (some ⟨w.heap.size, 0, none⟩)) (by decide), hq⟩
              refine step_run rfl (v := .pointer (some ⟨w.heap.size, 0, none⟩)) (w' := W) ?_ hk
              simp [execOp, go_sem, (EG u 8 (by decide)).trans e8]
            case c2 =>
              intro d a W hd hp hI K hK
              obtain ⟨u, q56, q61, q15, g62, c62, rfl, h⟩ := hI
              have v1 := h.con 1 (qt_of rfl) (hp ⟨1, .data⟩ (by simp) rfl)
              rw [X1] at v1
              replace v1 : u 57 = .pointer (some ⟨w.heap.size, 0, none⟩) := v1
              have hc := r0 W h.bel
              have hq := h.quiet 2 (qt_of rfl)
              rw [X2] at hq
              have hk := hK _ _ ⟨_, _, _, _, _, _, put_in (t0 := t0) (D := exD) (u := u) (df := []) (k := 58) (v := .slice A n c) (by decide), hq⟩
              refine step_run rfl (v := .slice A n c) (w' := W) ?_ hk
              simp [execOp, go_sem, EF u 57 (by decide), v1, hc]
            case c3 =>
              intro d a W hd hp hI K hK
              obtain ⟨u, q56, q61, q15, g62, c62, rfl, h⟩ := hI
              have v2 := h.con 2 (qt_of rfl) (hp ⟨2, .data⟩ (by simp) rfl)
              rw [X2] at v2
              replace v2 : u 58 = .slice A n c := v2
              have p0 : d 0 = true := hp ⟨0, .data⟩ (by simp) rfl
              obtain ⟨a56, b56, c56⟩ := h.f0 p0 hd
              rcases HROW.out with ⟨hA, hn, hre⟩ | ⟨rb, hA, hrow⟩
              · refine step_run rfl (v := .slice (some ⟨q56, 0, none⟩) 0 0) (w' := W) ?_ (hK _ _ ⟨_, _, _, _, _, _, put_in (by decide), h.s3 hTT hd p0 (by rw [hn, hre]; exact own_empty_at W _ q56 _ b56 c56) ⟨rfl, rfl, rfl, Nat.le_refl _, fun _ _ _ => rfl⟩ (Or.inl rfl)⟩)
                rw [hA, hn] at v2
                simp [execOp, go_sem, EF u 56 (by decide), EF u 58 (by decide), a56, v2]
              · rw [hA] at v2
                refine step_app rfl (.tmp 56) (.tmp 58) 25 rfl w1.heap.size 3 i1 (.int .i64 0) 1 8 Tryd.underlying25 gi gz0 gz1 gz2 rfl (by decide) (.slice (some ⟨q56, 0, none⟩) 0 0) 0 [] ((EI u 56 (by decide)).trans a56) (own_empty_at W _ q56 _ b56 c56) ⟨rb, 0, none⟩ n c (vals (idxI r)) ((EI u 58 (by decide)).trans v2) HLN.out ?_ (vals_one _) (by simp only [maxLen]; omega) (by omega) h.bel.size ?_
                · intro jj uu hu
                  rw [Addr.add_mid]
                  exact hrow W h.bel jj uu hu
                · intro v' w' own hg' hat'
                  rw [Nat.zero_add, List.nil_append] at own
                  exact hK _ _ ⟨_, _, _, _, _, _, put_in (by decide), h.s3 hTT hd p0 own hg' hat'⟩
            case c4 =>
              intro d a W hd hp hI K hK
              obtain ⟨u, q56, q61, q15, g62, c62, rfl, h⟩ := hI
              have hq := h.quiet 4 (qt_of rfl)
              rw [X4] at hq
              have hk := hK _ _ ⟨_, _, _, _, _, _, put_in (t0 := t0) (D := exD) (u := u) (df := []) (k := 60) (v := .int .i64 (j : Int)) (by decide), hq⟩
              refine step_run rfl (v := .int .i64 (j : Int)) (w' := W) ?_ hk
              simp [execOp, go_sem, (EG u 13 (by decide)).trans e13]
            case c5 =>
              intro d a W hd hp hI K hK
              obtain ⟨u, q56, q61, q15, g62, c62, rfl, h⟩ := hI
              have v4 := h.con 4 (qt_of rfl) (hp ⟨4, .data⟩ (by simp) rfl)
              rw [X4] at v4
              replace v4 : u 60 = .int .i64 (j : Int) := v4
              refine step_run rfl (v := .slice (some ⟨W.heap.size, 0, none⟩) 1 1) (w' := W.alloc (.cells #[.int .i64 (j : Int)] 3)) ?_ (hK _ _ ⟨_, _, _, _, _, _, put_in (by decide), h.s5 hd⟩)
              simp [execOp, go_sem, EF u 60 (by decide), v4]
            case c6 =>
              intro d a W hd hp hI K hK
              obtain ⟨u, q56, q61, q15, g62, c62, rfl, h⟩ := hI
              have p3 : d 3 = true := hp ⟨3, .data⟩ (by simp) rfl
              have p5 : d 5 = true := hp ⟨5, .data⟩ (by simp) rfl
              obtain ⟨a61, b61⟩ := h.f5 p5 hd
              have h25 : d 25 = false := by
                cases e : d 25
                · rfl
                · exact (bf (h.cl25 e) hd).elim
              refine step_app rfl (.tmp 59) (.tmp 61) 25 rfl w1.heap.size 3 i1 (.int .i64 0) 1 8 Tryd.underlying25 gi gz0 gz1 gz2 rfl (by decide) (u 59) n (vals (idxI r)) (EI u 59 (by decide)) (h.f3 p3 hd) ⟨q61, 0, none⟩ 1 1 [.int .i64 (j : Int)] ((EI u 61 (by decide)).trans a61) rfl (news_one b61) (one_int (j : Int)) (by simp only [maxLen]; omega) (by omega) h.bel.size ?_
              intro v' w' own hg' hat'
              obtain ⟨g, cc, rfl, h'⟩ := h.s6 hTT hd p3 p5 own hg' h25
              exact hK _ _ ⟨_, _, _, _, _, _, put_in (by decide), h'⟩
            case c7 =>
              intro d a W hd hp hI K hK
              obtain ⟨u, q56, q61, q15, g62, c62, rfl, h⟩ := hI
              have hq := h.quiet 7 (qt_of rfl)
              rw [X7] at hq
              have hk := hK _ _ ⟨_, _, _, _, _, _, put_in (t0 := t0) (D := exD) (u := u) (df := []) (k := 63) (v := .pointer (some ⟨w.heap.size, 1, none⟩)) (by decide), hq⟩
              refine step_run rfl (v := .pointer (some ⟨w.heap.size, 1, none⟩)) (w' := W) ?_ hk
              simp [execOp, go_sem, (EG u 8 (by decide)).trans e8]
            case c8 =>
              intro d a W hd hp hI K hK
              obtain ⟨u, q56, q61, q15, g62, c62, rfl, h⟩ := hI
              have v7 := h.con 7 (qt_of rfl) (hp ⟨7, .data⟩ (by simp) rfl)
              rw [X7] at v7
              replace v7 : u 63 = .pointer (some ⟨w.heap.size, 1, none⟩) := v7
              have hc := r1 W h.bel
              have hq := h.quiet 8 (qt_of rfl)
              rw [X8] at hq
              have hk := hK _ _ ⟨_, _, _, _, _, _, put_in (t0 := t0) (D := exD) (u := u) (df := []) (k := 64) (v := .int .i64 x) (by decide), hq⟩
              refine step_run rfl (v := .int .i64 x) (w' := W) ?_ hk
              simp [execOp, go_sem, EF u 63 (by decide), v7, hc]
            case c9 =>
              intro d a W hd hp hI K hK
              obtain ⟨u, q56, q61, q15, g62, c62, rfl, h⟩ := hI
              have hq := h.quiet 9 (qt_of rfl)
              rw [X9] at hq
              have hk := hK _ _ ⟨_, _, _, _, _, _, put_in (t0 := t0) (D := exD) (u := u) (df := []) (k := 65) (v := .int .i64 (by' : Int)) (by decide), hq⟩
              refine step_run rfl (v := .int .i64 (by' : Int)) (w' := W) ?_ hk
              simp [execOp, go_sem, (EG u 4 (by decide)).trans e4]
            case c10 =>
              intro d a W hd hp hI K hK
              obtain ⟨u, q56, q61, q15, g62, c62, rfl, h⟩ := hI
              have hq := h.quiet 10 (qt_of rfl)
              rw [X10] at hq
              have hk := hK _ _ ⟨_, _, _, _, _, _, put_in (t0 := t0) (D := exD) (u := u) (df := []) (k := 66) (v := .slice C cn cd) (by decide), hq⟩
              refine step_run rfl (v := .slice C cn cd) (w' := W) ?_ hk
              simp [execOp, go_sem, (EG u 1 (by decide)).trans e1]
            case c11 =>
              intro d a W hd hp hI K hK
              obtain ⟨u, q56, q61, q15, g62, c62, rfl, h⟩ := hI
              have hq := h.quiet 11 (qt_of rfl)
              rw [X11] at hq
              have hk := hK _ _ ⟨_, _, _, _, _, _, put_in (t0 := t0) (D := exD) (u := u) (df := []) (k := 67) (v := .pointer (some ⟨wo.heap.size, 2, none⟩)) (by decide), hq⟩
              refine step_run rfl (v := .pointer (some ⟨wo.heap.size, 2, none⟩)) (w' := W) ?_ hk
              simp [execOp, go_sem, (EG u 14 (by decide)).trans e14]
            case c12 =>
              intro d a W hd hp hI K hK
              obtain ⟨u, q56, q61, q15, g62, c62, rfl, h⟩ := hI
              have v11 := h.con 11 (qt_of rfl) (hp ⟨11, .data⟩ (by simp) rfl)
              rw [X11] at v11
              replace v11 : u 67 = .pointer (some ⟨wo.heap.size, 2, none⟩) := v11
              have hc := r3 W h.bel
              have hq := h.quiet 12 (qt_of rfl)
              rw [X12] at hq
              have hk := hK _ _ ⟨_, _, _, _, _, _, put_in (t0 := t0) (D := exD) (u := u) (df := []) (k := 68) (v := .int .i64 t.s) (by decide), hq⟩
              refine step_run rfl (v := .int .i64 t.s) (w' := W) ?_ hk
              simp [execOp, go_sem, EF u 67 (by decide), v11, hc]
            case c13 =>
              intro d a W hd hp hI K hK
              obtain ⟨u, q56, q61, q15, g62, c62, rfl, h⟩ := hI
              have v10 := h.con 10 (qt_of rfl) (hp ⟨10, .data⟩ (by simp) rfl)
              rw [X10] at v10
              replace v10 : u 66 = .slice C cn cd := v10
              have v12 := h.con 12 (qt_of rfl) (hp ⟨12, .data⟩ (by simp) rfl)
              rw [X12] at v12
              replace v12 : u 68 = .int .i64 t.s := v12
              refine step_enter rfl (w' := W) (f := 43) (args := #[.slice C cn cd, .int .i64 t.s]) ?_ (HATS.out W h.bel) ?_
              · simp [execOp, go_sem, EF u 66 (by decide), EF u 68 (by decide), v10, v12]
              · rintro e w7 ⟨rfl, rfl⟩
                have hq := h.quiet 13 (qt_of rfl)
                rw [X13] at hq
                exact ⟨_, rfl, hK _ _ ⟨_, _, _, _, _, _, put_in (by decide), hq⟩⟩
            case c14 =>
              intro d a W hd hp hI K hK
              obtain ⟨u, q56, q61, q15, g62, c62, rfl, h⟩ := hI
              have v9 := h.con 9 (qt_of rfl) (hp ⟨9, .data⟩ (by simp) rfl)
              rw [X9] at v9
              replace v9 : u 65 = .int .i64 (by' : Int) := v9
              have v13 := h.con 13 (qt_of rfl) (hp ⟨13, .data⟩ (by simp) rfl)
              rw [X13] at v13
              replace v13 : u 69 = .int .i64 aS := v13
              have hq := h.quiet 14 (qt_of rfl)
              rw [X14] at hq
              have hk := hK _ _ ⟨_, _, _, _, _, _, put_in (t0 := t0) (D := exD) (u := u) (df := []) (k := 70) (v := .int .i64 pS) (by decide), hq⟩
              refine step_run rfl (v := .int .i64 pS) (w' := W) ?_ hk
              simp [execOp, go_sem, EF u 65 (by decide), v9, EF u 69 (by decide), v13, m1]
            case c15 =>
              intro d a W hd hp hI K hK
              obtain ⟨u, q56, q61, q15, g62, c62, rfl, h⟩ := hI
              have v8 := h.con 8 (qt_of rfl) (hp ⟨8, .data⟩ (by simp) rfl)
              rw [X8] at v8
              replace v8 : u 64 = .int .i64 x := v8
              have v14 := h.con 14 (qt_of rfl) (hp ⟨14, .data⟩ (by simp) rfl)
              rw [X14] at v14
              replace v14 : u 70 = .int .i64 pS := v14
              have hq := h.quiet 15 (qt_of rfl)
              rw [X15] at hq
              have hk := hK _ _ ⟨_, _, _, _, _, _, put_in (t0 := t0) (D := exD) (u := u) (df := []) (k := 71) (v := .int .i64 (x + pS)) (by decide), hq⟩
              refine step_run rfl (v := .int .i64 (x + pS)) (w' := W) ?_ hk
              simp [execOp, go_sem, EF u 64 (by decide), v8, EF u 70 (by decide), v14, m3]
            case c16 =>
              intro d a W hd hp hI K hK
              obtain ⟨u, q56, q61, q15, g62, c62, rfl, h⟩ := hI
              have hq := h.quiet 16 (qt_of rfl)
              rw [X16] at hq
              have hk := hK _ _ ⟨_, _, _, _, _, _, put_in (t0 := t0) (D := exD) (u := u) (df := []) (k := 72) (v := .pointer (some ⟨w.heap.size, 2, none⟩)) (by decide), hq⟩
              refine step_run rfl (v := .pointer (some ⟨w.heap.size, 2, none⟩)) (w' := W) ?_ hk
              simp [execOp, go_sem, (EG u 8 (by decide)).trans e8]
            case c17 =>
              intro d a W hd hp hI K hK
              obtain ⟨u, q56, q61, q15, g62, c62, rfl, h⟩ := hI
              have v16 := h.con 16 (qt_of rfl) (hp ⟨16, .data⟩ (by simp) rfl)
              rw [X16] at v16
              replace v16 : u 72 = .pointer (some ⟨w.heap.size, 2, none⟩) := v16
              have hc := r2 W h.bel
              have hq := h.quiet 17 (qt_of rfl)
              rw [X17] at hq
              have hk := hK _ _ ⟨_, _, _, _, _, _, put_in (t0 := t0) (D := exD) (u := u) (df := []) (k := 73) (v := .int .i64 y) (by decide), hq⟩
              refine step_run rfl (v := .int .i64 y) (w' := W) ?_ hk
              simp [execOp, go_sem, EF u 72 (by decide), v16, hc]
            case c18 =>
              intro d a W hd hp hI K hK
              obtain ⟨u, q56, q61, q15, g62, c62, rfl, h⟩ := hI
              have hq := h.quiet 18 (qt_of rfl)
              rw [X18] at hq
              have hk := hK _ _ ⟨_, _, _, _, _, _, put_in (t0 := t0) (D := exD) (u := u) (df := []) (k := 74) (v := .int .i64 (by' : Int)) (by decide), hq⟩
              refine step_run rfl (v := .int .i64 (by' : Int)) (w' := W) ?_ hk
              simp [execOp, go_sem, (EG u 4 (by decide)).trans e4]
            case c19 =>
              intro d a W hd hp hI K hK
              obtain ⟨u, q56, q61, q15, g62, c62, rfl, h⟩ := hI
              have hq := h.quiet 19 (qt_of rfl)
              rw [X19] at hq
              have hk := hK _ _ ⟨_, _, _, _, _, _, put_in (t0 := t0) (D := exD) (u := u) (df := []) (k := 75) (v := .slice C cn cd) (by decide), hq⟩
              refine step_run rfl (v := .slice C cn cd) (w' := W) ?_ hk
              simp [execOp, go_sem, (EG u 1 (by decide)).trans e1]
            case c20 =>
              intro d a W hd hp hI K hK
              obtain ⟨u, q56, q61, q15, g62, c62, rfl, h⟩ := hI
              have hq := h.quiet 20 (qt_of rfl)
              rw [X20] at hq
              have hk := hK _ _ ⟨_, _, _, _, _, _, put_in (t0 := t0) (D := exD) (u := u) (df := []) (k := 76) (v := .pointer (some ⟨wo.heap.size, 0, none⟩)) (by decide), hq⟩
              refine step_run rfl (v := .pointer (some ⟨wo.heap.size, 0, none⟩)) (w' := W) ?_ hk
              simp [execOp, go_sem, (EG u 14 (by decide)).trans e14]
            case c21 =>
              intro d a W hd hp hI K hK
              obtain ⟨u, q56, q61, q15, g62, c62, rfl, h⟩ := hI
              have v20 := h.con 20 (qt_of rfl) (hp ⟨20, .data⟩ (by simp) rfl)
              rw [X20] at v20
              replace v20 : u 76 = .pointer (some ⟨wo.heap.size, 0, none⟩) := v20
              have hc := r4 W h.bel
              have hq := h.quiet 21 (qt_of rfl)
              rw [X21] at hq
              have hk := hK _ _ ⟨_, _, _, _, _, _, put_in (t0 := t0) (D := exD) (u := u) (df := []) (k := 77) (v := .int .i64 t.n) (by decide), hq⟩
              refine step_run rfl (v := .int .i64 t.n) (w' := W) ?_ hk
              simp [execOp, go_sem, EF u 76 (by decide), v20, hc]
            case c22 =>
              intro d a W hd hp hI K hK
              obtain ⟨u, q56, q61, q15, g62, c62, rfl, h⟩ := hI
              have v19 := h.con 19 (qt_of rfl) (hp ⟨19, .data⟩ (by simp) rfl)
              rw [X19] at v19
              replace v19 : u 75 = .slice C cn cd := v19
              have v21 := h.con 21 (qt_of rfl) (hp ⟨21, .data⟩ (by simp) rfl)
              rw [X21] at v21
              replace v21 : u 77 = .int .i64 t.n := v21
              refine step_enter rfl (w' := W) (f := 43) (args := #[.slice C cn cd, .int .i64 t.n]) ?_ (HATN.out W h.bel) ?_
              · simp [execOp, go_sem, EF u 75 (by decide), EF u 77 (by decide), v19, v21]
              · rintro e w7 ⟨rfl, rfl⟩
                have hq := h.quiet 22 (qt_of rfl)
                rw [X22] at hq
                exact ⟨_, rfl, hK _ _ ⟨_, _, _, _, _, _, put_in (by decide), hq⟩⟩
            case c23 =>
              intro d a W hd hp hI K hK
              obtain ⟨u, q56, q61, q15, g62, c62, rfl, h⟩ := hI
              have v18 := h.con 18 (qt_of rfl) (hp ⟨18, .data⟩ (by simp) rfl)
              rw [X18] at v18
              replace v18 : u 74 = .int .i64 (by' : Int) := v18
              have v22 := h.con 22 (qt_of rfl) (hp ⟨22, .data⟩ (by simp) rfl)
              rw [X22] at v22
              replace v22 : u 78 = .int .i64 aN := v22
              have hq := h.quiet 23 (qt_of rfl)
              rw [X23] at hq
              have hk := hK _ _ ⟨_, _, _, _, _, _, put_in (t0 := t0) (D := exD) (u := u) (df := []) (k := 79) (v := .int .i64 pN) (by decide), hq⟩
              refine step_run rfl (v := .int .i64 pN) (w' := W) ?_ hk
              simp [execOp, go_sem, EF u 74 (by decide), v18, EF u 78 (by decide), v22, m2]
            case c24 =>
              intro d a W hd hp hI K hK
              obtain ⟨u, q56, q61, q15, g62, c62, rfl, h⟩ := hI
              have v17 := h.con 17 (qt_of rfl) (hp ⟨17, .data⟩ (by simp) rfl)
              rw [X17] at v17
              replace v17 : u 73 = .int .i64 y := v17
              have v23 := h.con 23 (qt_of rfl) (hp ⟨23, .data⟩ (by simp) rfl)
              rw [X23] at v23
              replace v23 : u 79 = .int .i64 pN := v23
              have hq := h.quiet 24 (qt_of rfl)
              rw [X24] at hq
              have hk := hK _ _ ⟨_, _, _, _, _, _, put_in (t0 := t0) (D := exD) (u := u) (df := []) (k := 80) (v := .int .i64 (y + pN)) (by decide), hq⟩
              refine step_run rfl (v := .int .i64 (y + pN)) (w' := W) ?_ hk
              simp [execOp, go_sem, EF u 73 (by decide), v17, EF u 79 (by decide), v23, m4]
            case c25 =>
              intro d a W hd hp hI K hK
              obtain ⟨u, q56, q61, q15, g62, c62, rfl, h⟩ := hI
              have v15 := h.con 15 (qt_of rfl) (hp ⟨15, .data⟩ (by simp) rfl)
              rw [X15] at v15
              replace v15 : u 71 = .int .i64 (x + pS) := v15
              have v24 := h.con 24 (qt_of rfl) (hp ⟨24, .data⟩ (by simp) rfl)
              rw [X24] at v24
              replace v24 : u 80 = .int .i64 (y + pN) := v24
              obtain ⟨a62, _, _, _⟩ := h.f6 (hp ⟨6, .data⟩ (by simp) rfl)
              refine step_run rfl (v := .agg #[.slice (some ⟨g62, 0, none⟩) (n + 1) c62, .int .i64 (x + pS), .int .i64 (y + pN)]) (w' := W) ?_ (hK _ _ ⟨_, _, _, _, _, _, put_in (by decide), h.s25 hd (hp ⟨6, .data⟩ (by simp) rfl)⟩)
              simp [execOp, go_sem, EF u 62 (by decide), EF u 71 (by decide), EF u 80 (by decide), a62, v15, v24]
            case c26 =>
              intro d a W hd hp hI K hK
              obtain ⟨u, q56, q61, q15, g62, c62, rfl, h⟩ := hI
              refine step_run rfl (v := .pointer (some ⟨W.heap.size, 0, none⟩)) (w' := W.alloc (.cells #[.slice none 0 0, .int .i64 0, .int .i64 0] 82)) ?_ (hK _ _ ⟨_, _, _, _, _, _, put_in (by decide), h.s26 hd⟩)
              simp [execOp, go_sem]
            case c27 =>
              intro d a W hd hp hI K hK
              obtain ⟨u, q56, q61, q15, g62, c62, rfl, h⟩ := hI
              have p25 : d 25 = true := hp ⟨25, .data⟩ (by simp) rfl
              have p26 : d 26 = true := hp ⟨26, .data⟩ (by simp) rfl
              have p6 : d 6 = true := h.cl25 p25
              obtain ⟨a15, b15, z15⟩ := h.f26 p26
              obtain ⟨y0, y1, y2, y3⟩ := zcells (z15 hd)
              have a81 := h.f25 p25
              refine step_skip rfl (w' := ((W.setCell ⟨q15, 0, none⟩ (.slice (some ⟨g62, 0, none⟩) (n + 1) c62)).setCell ⟨q15, 1, none⟩ (.int .i64 (x + pS))).setCell ⟨q15, 2, none⟩ (.int .i64 (y + pN))) ?_ (hK _ _ ⟨u, _, _, _, _, _, rfl, h.s27 hd p26 p25 p6⟩)
              simp [execOp, go_sem, EF u 15 (by decide), EF u 81 (by decide), a15, a81, y0, y1, y2, y3]
          case rest =>
            obtain ⟨q, g6, c6, rfl, hqz, hQ, hR6, hgl6, hgh6, hbx⟩ := hcut
            obtain ⟨y0, y1, y2, y3⟩ := zcells hQ.out
            have hwo1 : Below wo.heap.size wo w1 := by rw [HW1.out]; exact ((Below.refl _ _).alloc (Nat.le_refl _) _).drew
            have hwoc : Below wo.heap.size wo wc := hwo1.trans (hbx.mono hwo1.size)
            have hsz1 := hwo1.size
            have hszc := hbx.size
            have hbc : Below base w wc := HB1.out.trans (hbx.mono (Nat.le_trans hbs HB1.out.size))
            obtain ⟨b2, hb2⟩ : ∃ b2, b2 = by' * cn := ⟨_, rfl⟩
            have hb2p : b2 = cn ^ (n + 1) := by rw [hb2, HBY.out, ← HN.out, Nat.pow_succ]
            have hb2l : b2 ≤ 1000000 := by rw [hb2p]; exact HP.out _ (by omega)
            have m5 : IntKind.i64.wrap ((by' : Int) * (cn : Int)) = (b2 : Int) := by
              have e : (by' : Int) * (cn : Int) = (b2 : Int) := by rw [hb2, Int.natCast_mul]
              rw [e]
              exact IntWalk.i64_in _ (by omega)
            have hv1 : ∀ g, u5.ownBlock = some g → g < wo.heap.size := fun g e => (hown.lt g e).2
            have hlen : (r ++ [j]).length = n + 1 := by rw [List.length_append, ← HN.out]; rfl
            have hZl : (Z ++ Z1).length + (exts s k (r ++ [j])).length ≤ 1000000000 := by
              have h1 := extTo_le s k r (j + 1) HJL.out
              rw [hj1.out, List.length_append, ← hZ1.out, List.length_map] at h1
              rw [List.length_append]
              omega
            have hgo : wo.grownBy wc u5.ownBlock := ⟨hwoc.os, hwoc.tape, hwoc.output, hwoc.size, fun k hk _ => hwoc.block k hk⟩
            have hih := HIH.out (r ++ [j]) (some ⟨g6, 0, none⟩) c6 b2 u5 (Z ++ Z1) wc (by rw [hlen]; exact hr1.out) (by rw [hlen]; omega) (by rw [hlen]; exact hb2p) hZl (Nat.le_trans hbs (by omega))
              (HS.out.keep hbc (Nat.le_refl _)) (HC.out.keep hbc (Nat.le_refl _)) (Or.inr ⟨g6, rfl, by have := hg.size; omega, hgh6, fun e => by have := hv1 g6 e.symm; omega, hR6.out⟩)
              (own_keep' hown hwoc) (hZ.grown hgo (Or.inl rfl))
            rw [hlen, hxS.out, hyN.out] at hih
            have HIH2 := Lib.hid hih
            have HGO := Lib.hid hgo
            have HZZ := Lib.hid hZ1
            have HG := Lib.hid hg
            have HHAT := Lib.hid hat
            have HWOC := Lib.hid hwoc
            clear hih hgo hZ hown hbc hwo1 hb2 hb2p hZl hg
            go_wp2_with (go_at_call 44; refine HIH2.out.mono ?_; rintro e w7 ⟨v7, Z7, rfl, hm7, ho7, hz7, hg7, ha7⟩)
            have hv1w : ∀ g, u5.ownBlock = some g → v.ownBlock = some g ∨ w.heap.size < g := fun g e => by
              rcases HHAT.out with h | ⟨g', h, hl⟩
              · left; rw [← h]; exact e
              · right; rw [h] at e; cases e; exact hl
            have hg7s := hg7.size
            have hgw := HG.out.size
            have hgr7 : w.grownBy w7 v.ownBlock := by
              refine ⟨hg7.os.trans (HWOC.out.os.trans HG.out.os), hg7.tape.trans (HWOC.out.tape.trans HG.out.tape), hg7.output.trans (HWOC.out.output.trans HG.out.output), by omega, fun kk hk hne => ?_⟩
              refine (hg7.block kk (by omega) (fun e => ?_)).trans ((HWOC.out.block kk (by omega)).trans (HG.out.block kk hk hne))
              rcases hv1w kk e.symm with h | h
              · exact hne h.symm
              · omega
            have hat7 : v7.ownBlock = v.ownBlock ∨ ∃ g, v7.ownBlock = some g ∧ w.heap.size < g := by
              rcases ha7 with h | ⟨g', h, hl⟩
              · rw [h]; exact HHAT.out
              · exact Or.inr ⟨g', h, by omega⟩
            have hb87 : w7.heap[w.heap.size]? = some (.cells #[.slice A n c, .int .i64 x, .int .i64 y] 82 (0, 0)) := by
              refine keepZ hg7 ((HWOC.out.block _ hlz).trans hb8.out) fun e => ?_
              rcases hv1w _ e.symm with h | h
              · have := (HV.out _ h).2; omega
              · omega
            have HHAT7 := Lib.hid hat7
            have HB87 := Lib.hid hb87
            have HGR7 := Lib.hid hgr7
            clear hat7 hb87 hgr7 hv1w
            go_roundw
            case rel => exact ⟨j + 1, Z1 ++ Z7, by omega, by go_num, by show _ = _; rw [List.map_append, HZZ.out, hm7, hj1.out], by rw [← List.append_assoc]; exact ho7, by rw [← List.append_assoc]; exact hz7, HGR7.out, HHAT7.out, HB87.out⟩
            case measure => simp [intOf]; omega
    · have hjm : j = m := by omega
      subst hjm
      have HZZ := Lib.hid hZ1
      go_wp2_with fail
      go_ret
      exact ⟨_, Z1, rfl, by rw [HZZ.out, HM.out]; exact extTo_end s k r, hown, hZ, hg, hat.out.imp id fun ⟨g, e, h⟩ => ⟨g, e, Nat.le_of_lt h⟩⟩
theorem ext_step : ExtStep := fun s S C m d cn cd wd base k hm hml hw hcn hp ih r A c by' v Z w hr hrk hby hZn hbs hS hC hrc hown hZ =>
  rextend_step s S C m d cn cd wd k base hm hml hw hcn hp ih r A c by' v Z w hr hrk hby hZn hbs hS hC hrc hown hZ
theorem rows_done : RowsOk := rows_ok ext_step
end Go.Proofs.YteaoaglgoeichaaDoor

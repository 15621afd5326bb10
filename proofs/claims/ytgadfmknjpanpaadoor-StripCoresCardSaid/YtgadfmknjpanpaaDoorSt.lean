/-
  strip.startsTo, slices.IndexFunc over tiles, strip.firstPath, strip.Path.
-/
import Derived.Test.YtgadfmknjpanpaaDoorSb
import Derived.Test.YtgadfmknjpanpaaDoorGI
namespace Go.Proofs.YtgadfmknjpanpaaDoor
open Go.RowKit Go.Maps Go.BigFrame Go.Sort
set_option linter.unusedVariables false
set_option linter.unusedSimpArgs false
set_option maxRecDepth 100000

/-- the colours with which rows of a length begin that end with a colour -/
def stP (s : List Tl) (to' : Nat) : Nat → Nat → Bool
  | 0, c => decide (c = to')
  | n + 1, c => s.any fun t => stP s to' n t.e.toNat && decide (t.w = (c : Int))
/-- the same, by the first k tiles -/
def prP (s : List Tl) (to' n k c : Nat) : Bool := (s.take k).any fun t => stP s to' n t.e.toNat && decide (t.w = (c : Int))
theorem prP_zero (s : List Tl) (to' n c : Nat) : prP s to' n 0 c = false := rfl
theorem prP_all (s : List Tl) (to' n c : Nat) : prP s to' n s.length c = stP s to' (n + 1) c := by unfold prP; rw [List.take_length]; rfl
theorem take_ti (s : List Tl) (k : Nat) (hk : k < s.length) : s.take (k + 1) = s.take k ++ [ti s k] := by
  rw [List.take_succ_eq_append_getElem hk]
  congr 2
  unfold ti
  simp [hk]
theorem prP_no (s : List Tl) (to' n k : Nat) (hk : k < s.length) (h : stP s to' n (ti s k).e.toNat = false) (c : Nat) : prP s to' n (k + 1) c = prP s to' n k c := by
  unfold prP
  rw [take_ti s k hk, List.any_append]
  simp [h]
theorem prP_yes (s : List Tl) (to' n k d : Nat) (hk : k < s.length) (h : stP s to' n (ti s k).e.toNat = true) (hd : (ti s k).w = (d : Int)) (c : Nat) : (decide (c = d) || prP s to' n k c) = prP s to' n (k + 1) c := by
  unfold prP
  rw [take_ti s k hk, List.any_append, Bool.or_comm]
  congr 1
  simp only [List.any_cons, List.any_nil, Bool.or_false, h, Bool.true_and, hd]
  rw [decide_eq_decide]
  omega
/-- what the table holds while length len is being made -/
def famP (s : List Tl) (to' len k j : Nat) : Nat → Bool := if j ≤ len then stP s to' j else if j = len + 1 then prP s to' len k else fun _ => false
theorem ColW.off {w : World} {b o o' : Nat} {P : Nat → Bool} (h : ColW w b o P) (v : Value) (p : Nat) (h1 : p < o ∨ o + 16 ≤ p) : ColW (w.setCell ⟨b, p, none⟩ v) b o P := by
  refine ⟨fun j hj => ?_, fun i => (World.frozen?_setCell _ _ _ _).trans (h.2 i)⟩
  obtain ⟨u, hu, hul, hub⟩ := h.1 j hj
  exact ⟨u, (World.cell?_setCell_other _ _ _ _ (fun e' => by injection e' with _ e2; omega)).trans hu, hul, hub⟩
set_option maxHeartbeats 1000000 in
/-- add at a place of a table: the other places stay -/
theorem caddT_any (b x c n : Nat) (P : Nat → Nat → Bool) (w : World) (hc : c < 1000) (hx : x ≤ n) (h : ∀ j, j ≤ n → ColW w b (j * 16) (P j)) :
    Calls Tryd.prog 48 #[.pointer (some ⟨b, x * 16, none⟩), .int .i64 (c : Int)] w fun e w' => e = .returned (.tuple #[]) ∧ (∀ j, j ≤ n → ColW w' b (j * 16) (if j = x then fun i => decide (i = c) || P x i else P j)) ∧ w.grownBy w' (some b) := by
  obtain ⟨q, hq⟩ : ∃ q, q = c / 64 := ⟨_, rfl⟩
  obtain ⟨r, hr⟩ : ∃ r, r = c % 64 := ⟨_, rfl⟩
  have hq16 : q < 16 := by omega
  have hr64 : r < 64 := by omega
  obtain ⟨o, ho⟩ : ∃ o, o = x * 16 := ⟨_, rfl⟩
  obtain ⟨v, hv, hvl, hvb⟩ := (h x hx).1 q hq16
  rw [hq, ← ho] at hv
  rw [← ho]
  have hq16' : c / 64 < 16 := by omega
  have hz := (h x hx).2 (o + c / 64)
  have H := Lib.hid h
  have HO := Lib.hid ho
  clear h ho
  go_enter Tryd.func48, Tryd.ntmps48
  go_wp2_with fail
  go_region
  go_wp2_with fail
  rw [bit_or v _ hvl (by omega)]
  go_end0
  refine ⟨rfl, fun j hj => ?_, grown_drew (grown_cell (World.grownBy.refl w (some b)) _ _)⟩
  by_cases e : j = x
  · subst e
    rw [if_pos rfl]
    have h1 := (H.out j hj).add v hc (by rw [← HO.out]; exact hv) (fun i hi => by rw [← hq]; exact hvb i hi) hvl
    rw [← HO.out] at h1 ⊢
    exact ⟨h1.1, h1.2⟩
  · rw [if_neg e]
    have h1 := (H.out j hj).off (o' := 0) (.int .u64 ((v ||| 2 ^ (c % 64) : Nat) : Int)) (o + c / 64) (by rw [HO.out]; omega)
    exact ⟨h1.1, h1.2⟩
theorem cols_info : (Tryd.prog.info? 81).map (fun i => (i.zero, i.size, i.bytes)) = some (some (.agg #[.int .u64 0, .int .u64 0, .int .u64 0, .int .u64 0, .int .u64 0, .int .u64 0, .int .u64 0, .int .u64 0, .int .u64 0, .int .u64 0, .int .u64 0, .int .u64 0, .int .u64 0, .int .u64 0, .int .u64 0, .int .u64 0]), 16, 128) := by kernel_rfl

theorem zeros16 (i : Nat) (hi : i < 16) : (#[.int .u64 0, .int .u64 0, .int .u64 0, .int .u64 0, .int .u64 0, .int .u64 0, .int .u64 0, .int .u64 0, .int .u64 0, .int .u64 0, .int .u64 0, .int .u64 0, .int .u64 0, .int .u64 0, .int .u64 0, .int .u64 0] : Array Value)[i]? = some (.int .u64 0) := by
  rcases i with _ | _ | _ | _ | _ | _ | _ | _ | _ | _ | _ | _ | _ | _ | _ | _ | i
  all_goals first | rfl | omega
theorem made16 (N i : Nat) (hi : i < N) : (madeCells (Value.agg #[.int .u64 0, .int .u64 0, .int .u64 0, .int .u64 0, .int .u64 0, .int .u64 0, .int .u64 0, .int .u64 0, .int .u64 0, .int .u64 0, .int .u64 0, .int .u64 0, .int .u64 0, .int .u64 0, .int .u64 0, .int .u64 0]).cells N).toList[i]? = some (.int .u64 0) := by
  have e : (Value.agg #[.int .u64 0, .int .u64 0, .int .u64 0, .int .u64 0, .int .u64 0, .int .u64 0, .int .u64 0, .int .u64 0, .int .u64 0, .int .u64 0, .int .u64 0, .int .u64 0, .int .u64 0, .int .u64 0, .int .u64 0, .int .u64 0]).cells = #[.int .u64 0, .int .u64 0, .int .u64 0, .int .u64 0, .int .u64 0, .int .u64 0, .int .u64 0, .int .u64 0, .int .u64 0, .int .u64 0, .int .u64 0, .int .u64 0, .int .u64 0, .int .u64 0, .int .u64 0, .int .u64 0] := rfl
  rw [e]
  have h16 := zeros16 (i % 16) (Nat.mod_lt _ (by omega))
  have hs : (#[.int .u64 0, .int .u64 0, .int .u64 0, .int .u64 0, .int .u64 0, .int .u64 0, .int .u64 0, .int .u64 0, .int .u64 0, .int .u64 0, .int .u64 0, .int .u64 0, .int .u64 0, .int .u64 0, .int .u64 0, .int .u64 0] : Array Value).size = 16 := rfl
  unfold madeCells
  rw [hs]
  simp only [Array.toList_map, Array.toList_range, List.getElem?_map, List.getElem?_range hi, Option.map_some]
  rw [getElem!_def, h16]
theorem zcells4t {w : World} {q : Nat} {a b c d : Value} {t : TypeId} (h : w.heap[q]? = some (.cells #[a, b, c, d] t (0, 0))) : w.cell? ⟨q, 0, none⟩ = some a ∧ w.cell? ⟨q, 1, none⟩ = some b ∧ w.cell? ⟨q, 2, none⟩ = some c ∧ w.cell? ⟨q, 3, none⟩ = some d ∧ ∀ o, w.frozen? ⟨q, o, none⟩ = false := by
  refine ⟨?_, ?_, ?_, ?_, fun o => ?_⟩ <;> simp [World.cell?, World.frozen?, h]
/-- what startsTo returns -/
def IsStarts (s : List Tl) (to' n : Nat) (W : World) (e : Ending) (w' : World) : Prop :=
  ∃ g, e = .returned (.slice (some ⟨g, 0, none⟩) (n + 1) (n + 1)) ∧ (∀ j, j ≤ n → ColW w' g (j * 16) (stP s to' j)) ∧ Below W.heap.size W w' ∧ W.heap.size ≤ g
set_option maxHeartbeats 4000000 in
theorem startsTo_any (s : List Tl) (S : Option Addr) (m d to' n : Nat) (w : World) (hm : m = s.length) (hv : vld s = true) (hS : SetIn w w.heap.size S s) (hto : to' < 1000) (hn : n ≤ 40000) :
    Calls Tryd.prog 37 #[.slice S m d, .int .i64 (to' : Int), .int .i64 (n : Int)] w (IsStarts s to' n w) := by
  obtain ⟨i0, hi, hz0, hz1, hz2⟩ := info_parts cols_info
  obtain ⟨g, hg⟩ : ∃ g, g = w.heap.size := ⟨_, rfl⟩
  obtain ⟨n1, hn1⟩ : ∃ n1, n1 = n + 1 := ⟨_, rfl⟩
  have hw1 : IntKind.i64.wrap ((n : Int) + 1) = (n1 : Int) := by rw [IntWalk.i64_in _ (by omega)]; omega
  have hby : i0.bytes * n1 ≤ 281474976710656 := by rw [hz2]; omega
  have hm1 : m ≤ 1000 := by rw [hm]; exact (vld_iff.1 hv).1
  have h0n : (0 : Int) < (n1 : Int) := by omega
  have hn1b : n1 ≤ 40001 := by omega
  have HM := Lib.hid hm
  have HV := Lib.hid hv
  have HS := Lib.hid hS
  have HN1 := Lib.hid hn1
  have HG := Lib.hid hg
  clear hm hv hS hn1 hg
  go_enter Tryd.func37, Tryd.ntmps37
  go_upto_region 2 with (at_make; refine wpList_make_full _ rfl _ _ 77 rfl w.heap.size 81 i0 (.agg #[.int .u64 0, .int .u64 0, .int .u64 0, .int .u64 0, .int .u64 0, .int .u64 0, .int .u64 0, .int .u64 0, .int .u64 0, .int .u64 0, .int .u64 0, .int .u64 0, .int .u64 0, .int .u64 0, .int .u64 0, .int .u64 0]) 16 Tryd.underlying77 hi hz0 hz1 .i64 .i64 _ _ n1 rfl rfl rfl rfl hby (by simp only [maxLen]; omega) (by omega) ?_; intro w5 hown5 hgrow5)
  have hb5 : Below w.heap.size w w5 := ⟨hgrow5.os, hgrow5.tape, hgrow5.output, hgrow5.size, fun k hk => hgrow5.block k hk (by simp)⟩
  have hlt5 : w.heap.size < w5.heap.size := (hown5.lt _ rfl).2
  have hc5 : ∀ j, j ≤ n → ColW w5 g (j * 16) (fun _ => false) := fun j hj => by
    refine ⟨fun i hi' => ⟨0, ?_, by omega, fun k _ => Nat.zero_testBit k⟩, fun o => by rw [HG.out]; exact hown5.frozenAt o⟩
    rw [HG.out, hown5.cellAt (j * 16 + i) (by rw [HN1.out]; omega)]
    exact made16 _ _ (by rw [HN1.out]; omega)
  have hadd0 := caddT_any g 0 to' n (fun _ _ => false) w5 hto (Nat.zero_le _) hc5
  rw [Nat.zero_mul] at hadd0
  have HADD := Lib.hid hadd0
  have HB5 := Lib.hid hb5
  clear hown5 hgrow5 hb5 hc5 hadd0
  rw [← HG.out]
  go_wp2_with (go_at_call 48; refine HADD.out.mono ?_; rintro e w6 ⟨rfl, hc6, hg6⟩)
  have hc6' : ∀ j, j ≤ n → ColW w6 g (j * 16) (famP s to' 0 0 j) := fun j hj => by
    refine (hc6 j hj).congr fun c => ?_
    unfold famP
    by_cases e : j = 0
    · subst e
      rw [if_pos rfl, if_pos (Nat.le_refl 0)]
      show (decide (c = to') || false) = decide (c = to')
      rw [Bool.or_false]
    · rw [if_neg e, if_neg (by omega)]
      split <;> rfl
  have hb6 : Below w.heap.size w w6 := HB5.out.grown hg6 HB5.out.size (fun k e => by cases e; rw [HG.out]; exact Nat.le_refl _)
  have HC6 := Lib.hid hc6'
  have HB6 := Lib.hid hb6
  clear hc6 hg6 hc6' hb6
  go_loopw [19] (fun lv wr => ∃ len : Nat, len ≤ n ∧ lv = .int .i64 (len : Int) ∧ Hid (∀ j, j ≤ n → ColW wr g (j * 16) (famP s to' len 0 j)) ∧ Hid (Below w.heap.size w wr)) (fun lv _ => n - (intOf lv).toNat)
  case atStart => exact ⟨0, Nat.zero_le _, rfl, HC6, HB6⟩
  case round =>
    clear HC6 HB6
    obtain ⟨len, hlen, rfl, hc, hbr⟩ := hrel
    obtain ⟨wo, rfl⟩ : ∃ wo : World, wo = wr := ⟨_, rfl⟩
    by_cases hln : len < n
    · go_wp2_with fail
      go_loopw [24] (fun kv wr => ∃ k : Nat, k ≤ m ∧ kv = .int .i64 (k : Int) ∧ Hid (∀ j, j ≤ n → ColW wr g (j * 16) (famP s to' len k j)) ∧ Hid (Below w.heap.size w wr)) (fun kv _ => m - (intOf kv).toNat)
      case atStart => exact ⟨0, Nat.zero_le _, rfl, hc, hbr⟩
      case round =>
        clear hc hbr
        obtain ⟨k, hk, rfl, hc, hbr⟩ := hrel
        obtain ⟨wi, rfl⟩ : ∃ wi : World, wi = wr := ⟨_, rfl⟩
        by_cases hkm : k < m
        · have hks : k < s.length := by rw [← HM.out]; exact hkm
          obtain ⟨x, hx⟩ : ∃ x, x = ti s k := ⟨_, rfl⟩
          obtain ⟨xa, xo, rfl, hxa, t0, t1, t2, t3⟩ := set_at HS.out hbr.out hks
          obtain ⟨-, ⟨h10, h11⟩, -, ⟨h30, h31⟩⟩ := okt_bounds HV.out hks
          rw [← hx] at h10 h11 h30 h31
          obtain ⟨ce, hce⟩ := Int.eq_ofNat_of_zero_le h10
          obtain ⟨cw, hcw⟩ := Int.eq_ofNat_of_zero_le h30
          have hce1 : ce < 1000 := by omega
          have hcw1 : cw < 1000 := by omega
          have t0' : wi.cell? ⟨xa, xo + k * 4, none⟩ = some (.int .i64 x.n) := by rw [t0, hx]; rfl
          have t1' : wi.cell? ⟨xa, xo + k * 4 + 1, none⟩ = some (.int .i64 (ce : Int)) := by rw [t1, ← hce, hx]; rfl
          have t2' : wi.cell? ⟨xa, xo + k * 4 + 2, none⟩ = some (.int .i64 x.s) := by rw [t2, hx]; rfl
          have t3' : wi.cell? ⟨xa, xo + k * 4 + 3, none⟩ = some (.int .i64 (cw : Int)) := by rw [t3, ← hcw, hx]; rfl
          have hk0 : (0 : Int) ≤ (k : Int) := by omega
          obtain ⟨xb, hxb⟩ : ∃ xb, xb = wi.heap.size := ⟨_, rfl⟩
          obtain ⟨W4, hW4⟩ : ∃ W4, W4 = wi.alloc (.cells #[.int .i64 x.n, .int .i64 (ce : Int), .int .i64 x.s, .int .i64 (cw : Int)] 53) := ⟨_, rfl⟩
          have hb4 : Below wi.heap.size wi W4 := by rw [hW4]; exact (Below.refl _ _).alloc (Nat.le_refl _) _
          have hbx4 : W4.heap[xb]? = some (.cells #[.int .i64 x.n, .int .i64 (ce : Int), .int .i64 x.s, .int .i64 (cw : Int)] 53 (0, 0)) := by rw [hW4, hxb]; exact heap_at _ _ _ rfl
          have hc4 : ∀ j, j ≤ n → ColW W4 g (j * 16) (famP s to' len k j) := fun j hj => (hc.out j hj).keep hb4
          have hbw4 : Below w.heap.size w W4 := hbr.out.trans (hb4.mono hbr.out.size)
          obtain ⟨r, hr⟩ : ∃ r, r = stP s to' len ce := ⟨_, rfl⟩
          have hhas : ∀ W, Below W4.heap.size W4 W → Calls Tryd.prog 38 #[.pointer (some ⟨g, len * 16, none⟩), .int .i64 (ce : Int)] W fun e w' => e = .returned (.bool r) ∧ Below W.heap.size W w' := fun W hb => (chas_any g (len * 16) ce _ W hce1 ((hc4 len (by omega)).keep hb)).mono fun e w' ⟨h1, h2⟩ => ⟨by rw [h1]; unfold famP; rw [if_pos (Nat.le_refl _), ← hr], by rw [← h2]; exact Below.refl _ _⟩
          have hre : stP s to' len (ti s k).e.toNat = r := by rw [← hx, hce]; exact hr.symm
          obtain ⟨y0, y1, y2, y3, -⟩ := zcells4t hbx4
          have HHAS := Lib.hid hhas
          have HC4 := Lib.hid hc4
          have HBW4 := Lib.hid hbw4
          have HBX4 := Lib.hid hbx4
          have HW4 := Lib.hid hW4
          have HXB := Lib.hid hxb
          have HRE := Lib.hid hre
          have HCW : Hid ((ti s k).w = (cw : Int)) := by show _ = _; rw [← hx]; exact hcw
          have HKS := Lib.hid hks
          have hl0 : (0 : Int) ≤ (len : Int) := by omega
          have hl1 : (len : Int) < (n1 : Int) := by rw [HN1.out]; omega
          clear hks hx t0 t1 t2 t3 h10 h11 h30 h31 hce hcw hW4 hb4 hbx4 hc4 hbw4 hc hbr hxa hxb hr hhas hre
          go_upto_region 9 with fail
          rw [← HXB.out, ← HW4.out]
          clear t0' t1' t2' t3'
          have f1 := ext_cell y1
          refine wp_region_ext (by kernel_rfl) (by kernel_rfl) ?_
          repeat (go_big_quiet_step ((go_at_call 38; exact ext_call (HHAS.out _ (ext_below _)))))
          refine wpQuiet_nil ?_
          intro _ hw'
          obtain ⟨xq, rfl⟩ := hw'
          obtain ⟨W6, hb6, he6⟩ : ∃ W6, Below W4.heap.size W4 W6 ∧ ext W4 xq = W6 := ⟨_, ext_below _, rfl⟩
          rw [he6]
          have hc6 : ∀ j, j ≤ n → ColW W6 g (j * 16) (famP s to' len k j) := fun j hj => (HC4.out j hj).keep hb6
          have HC6 := Lib.hid hc6
          have HB6 := Lib.hid (HBW4.out.trans (hb6.mono HBW4.out.size))
          have hbx6 := (hb6.block xb (Array.getElem?_eq_some_iff.1 HBX4.out).1).trans HBX4.out
          obtain ⟨z0, z1, z2, z3, -⟩ := zcells4t hbx6
          clear he6 xq f1 hc6 y0 y1 y2 y3 hbx6 z0 z1 z2
          cases r
          · have hcn : Hid (∀ j, j ≤ n → ColW W6 g (j * 16) (famP s to' len (k + 1) j)) := fun j hj => (HC6.out j hj).congr fun c => by
              unfold famP
              by_cases e1 : j ≤ len
              · rw [if_pos e1, if_pos e1]
              · rw [if_neg e1, if_neg e1]
                by_cases e2 : j = len + 1
                · rw [if_pos e2, if_pos e2, prP_no s to' len k HKS.out HRE.out]
                · rw [if_neg e2, if_neg e2]
            clear z3
            go_wp2_with fail
            go_roundw
            case rel => exact ⟨k + 1, by omega, by go_num, hcn, HB6⟩
            case measure => simp [intOf]; omega
          · obtain ⟨len1, hlen1⟩ : ∃ len1, len1 = len + 1 := ⟨_, rfl⟩
            have hwl : IntKind.i64.wrap ((len : Int) + 1) = (len1 : Int) := by rw [IntWalk.i64_in _ (by omega)]; omega
            have hl10 : (0 : Int) ≤ (len1 : Int) := by omega
            have hl11 : (len1 : Int) < (n1 : Int) := by rw [HN1.out]; omega
            have hadd : ∀ W, Below W6.heap.size W6 W → Calls Tryd.prog 48 #[.pointer (some ⟨g, len1 * 16, none⟩), .int .i64 (cw : Int)] W fun e w' => e = .returned (.tuple #[]) ∧ (∀ j, j ≤ n → ColW w' g (j * 16) (if j = len1 then fun i => decide (i = cw) || famP s to' len k len1 i else famP s to' len k j)) ∧ W.grownBy w' (some g) := fun W hb => caddT_any g len1 cw n (famP s to' len k) W hcw1 (by omega) fun j hj => (HC6.out j hj).keep hb
            have HADD1 := Lib.hid hadd
            have HL1 := Lib.hid hlen1
            clear hadd hlen1
            have f3 := ext_cell z3
            clear z3
            go_wp2_with fail
            refine wp_region_ext_tail 6 (by kernel_rfl) (by kernel_rfl) ?_
            simp only [List.take_succ_cons, List.take_zero, List.drop_succ_cons, List.drop_zero]
            repeat (go_big_quiet_step (fail))
            refine wpQuiet_nil ?_
            intro _ hw'
            obtain ⟨xq, rfl⟩ := hw'
            obtain ⟨W7, hb7, he7⟩ : ∃ W7, Below W6.heap.size W6 W7 ∧ ext W6 xq = W7 := ⟨_, ext_below _, rfl⟩
            rw [he7]
            clear he7 xq f3 hwl
            go_wp2_with (go_at_call 48; refine (HADD1.out W7 hb7).mono ?_; rintro e w8 ⟨rfl, hc8, hg8⟩)
            have hcn : Hid (∀ j, j ≤ n → ColW w8 g (j * 16) (famP s to' len (k + 1) j)) := fun j hj => (hc8 j hj).congr fun c => by
              by_cases e2 : j = len1
              · rw [if_pos e2, e2, HL1.out]
                unfold famP
                rw [if_neg (by omega), if_pos rfl, if_neg (by omega), if_pos rfl]
                exact prP_yes s to' len k cw HKS.out HRE.out HCW.out c
              · rw [if_neg e2]
                rw [HL1.out] at e2
                unfold famP
                by_cases e1 : j ≤ len
                · rw [if_pos e1, if_pos e1]
                · rw [if_neg e1, if_neg e1, if_neg e2, if_neg e2]
            have hbn : Hid (Below w.heap.size w w8) := (HB6.out.trans (hb7.mono HB6.out.size)).grown hg8 (by have := HB6.out.size; have := hb7.size; omega) (fun k e => by cases e; rw [HG.out]; exact Nat.le_refl _)
            clear hc8 hg8
            go_roundw
            case rel => exact ⟨k + 1, by omega, by go_num, hcn, hbn⟩
            case measure => simp [intOf]; omega
        · have hke : k = s.length := by rw [← HM.out]; omega
          have hcn : Hid (∀ j, j ≤ n → ColW wi g (j * 16) (famP s to' (len + 1) 0 j)) := fun j hj => (hc.out j hj).congr fun c => by
            unfold famP
            by_cases e1 : j ≤ len
            · rw [if_pos e1, if_pos (by omega)]
            · rw [if_neg e1]
              by_cases e2 : j = len + 1
              · rw [if_pos e2, if_pos (by omega), hke, prP_all, e2]
              · rw [if_neg e2, if_neg (by omega)]
                by_cases e3 : j = len + 1 + 1
                · rw [if_pos e3]; rfl
                · rw [if_neg e3]
          clear hc hke
          go_wp2_with fail
          go_roundw
          case rel => exact ⟨len + 1, by omega, by go_num, hcn, hbr⟩
          case measure => simp [intOf]; omega
    · have hle : len = n := by omega
      have hfin : Hid (∀ j, j ≤ n → ColW wo g (j * 16) (stP s to' j)) := fun j hj => (hc.out j hj).congr fun c => by unfold famP; rw [if_pos (by omega)]
      have HBR := hbr
      clear hc hle hbr
      go_wp2_with fail
      go_ret
      exact ⟨g, by rw [← HN1.out]; rfl, hfin.out, HBR.out, by rw [HG.out]; exact Nat.le_refl _⟩
end Go.Proofs.YtgadfmknjpanpaaDoor

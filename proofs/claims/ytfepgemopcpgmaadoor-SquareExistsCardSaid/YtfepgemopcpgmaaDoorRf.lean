/-
  groutworkref02.First: the first pattern with these edges, if Rows returns the rows.
-/
import Derived.Test.YtfepgemopcpgmaaDoorRg
import Derived.Test.YtfepgemopcpgmaaDoorSo
import Derived.Test.YtfepgemopcpgmaaDoorAE
import Derived.Deep.RegionHeld3
namespace Go.Proofs.YtfepgemopcpgmaaDoor
open Go.RowKit Go.Maps Go.BigFrame Go.Sort
set_option linter.unusedVariables false
set_option linter.unusedSimpArgs false
set_option maxRecDepth 100000

theorem bool_info : (Tryd.prog.info? 4).map (fun i => (i.zero, i.size, i.bytes)) = some (some (.bool false), 1, 1) := by kernel_rfl
theorem bools_info : (Tryd.prog.info? 65).map (fun i => (i.zero, i.size, i.bytes)) = some (some (.slice none 0 0), 1, 24) := by kernel_rfl
/-- what First returns -/
def IsFirstR (s : List Tl) (a b : Nat) (d : Ed) (W : World) (e : Ending) (w' : World) : Prop :=
  Below W.heap.size W w' ∧ match firstE s a b d with
    | none => e = .returned (.tuple #[.agg #[.int .i64 0, .int .i64 0, .slice none 0 0], .bool false])
    | some c => ∃ A cc, e = .returned (.tuple #[.agg #[.int .i64 (a : Int), .int .i64 (b : Int), .slice A c.length cc], .bool true]) ∧ IntsIn w' w'.heap.size A (idxI c)
set_option maxHeartbeats 16000000 in
theorem rfirst_any (s : List Tl) (S : Option Addr) (m sc a b : Nat) (d : Ed) (N E U V : Option Addr) (nc ec uc vc : Nat) (w : World) (hcR : ∀ W, Below w.heap.size w W → Calls Tryd.prog 28 #[.slice S m sc, .int .i64 (a : Int)] W (IsRowsR s a W))
    (hm : m = s.length) (hml : m ≤ 1000) (hS : SetIn w w.heap.size S s) (ha1 : 1 ≤ a) (ha8 : a ≤ 8) (hb1 : 1 ≤ b) (hb60 : b ≤ 60) (hd : EdOk a b d) (hE : EdIn w w.heap.size N E U V d) (hlc : pw (colsOf s).length a ≤ 1500) :
    Calls Tryd.prog 12 #[.slice S m sc, .int .i64 (a : Int), .int .i64 (b : Int), .agg #[.slice N d.n.length nc, .slice E d.e.length ec, .slice U d.s.length uc, .slice V d.w.length vc]] w (IsFirstR s a b d w) := by
  obtain ⟨i0, hi, hz0, hz1, hz2⟩ := info_parts bool_info
  obtain ⟨i1, gi, gz0, gz1, gz2⟩ := info_parts rrow_info
  obtain ⟨nn, hnn⟩ : ∃ nn, nn = d.n.length := ⟨_, rfl⟩
  obtain ⟨en, hen⟩ : ∃ en, en = d.e.length := ⟨_, rfl⟩
  obtain ⟨un, hun⟩ : ∃ un, un = d.s.length := ⟨_, rfl⟩
  obtain ⟨vn, hvn⟩ : ∃ vn, vn = d.w.length := ⟨_, rfl⟩
  obtain ⟨R, hR⟩ : ∃ R, R = rws s a := ⟨_, rfl⟩
  obtain ⟨adm, hadm⟩ : ∃ adm, adm = admE s d b := ⟨_, rfl⟩
  obtain ⟨fS, hfS⟩ : ∃ fS, fS = numS s := ⟨_, rfl⟩
  obtain ⟨fN, hfN⟩ : ∃ fN, fN = numN s := ⟨_, rfl⟩
  obtain ⟨cn, hcn⟩ : ∃ cn, cn = (colsOf s).length := ⟨_, rfl⟩
  obtain ⟨x, hx⟩ : ∃ x, x = pw cn a := ⟨_, rfl⟩
  have hx1500 : x ≤ 1500 := by rw [hx, hcn]; exact hlc
  have hxp : (x : Int) = (cn : Int) ^ a := by
    have : x = cn ^ a := by rw [hx]; unfold pw at hx ⊢; omega
    rw [this]
    exact_mod_cast rfl
  have hSr : ∀ r ∈ R, 0 ≤ fS r ∧ fS r < (x : Int) := fun r hr => by rw [hfS, hxp, hcn]; rw [hR] at hr; exact numS_range hr
  have hNr : ∀ r ∈ R, 0 ≤ fN r ∧ fN r < (x : Int) := fun r hr => by rw [hfN, hxp, hcn]; rw [hR] at hr; exact numN_range hr
  have hstk : stksE s a b d = stk R adm fS fN b 0 none := by rw [stksE_num s a b d, ← hR, ← hadm, ← hfS, ← hfN]
  have hcn2 : cn ≤ 2000 := by have := cols_len s; omega
  have hby : i0.bytes * x ≤ 281474976710656 := by rw [hz2]; omega
  obtain ⟨i2, ji, jz0, jz1, jz2⟩ := info_parts bools_info
  have hby2 : i2.bytes * (b + 1) ≤ 281474976710656 := by rw [jz2]; omega
  have cCo : ∀ W, Below w.heap.size w W → Calls Tryd.prog 29 #[.slice S m sc] W fun e w' => ∃ V, e = .returned V ∧ w'.ownsRow W.heap.size 3 1 V cn ((colsOf s).map (Value.int .i64)) ∧ Below W.heap.size W w' := fun W hb => by
    have hh := rcolours_any s S m sc W hm (hS.keep hb hb.size) (by omega)
    rw [← hcn] at hh
    exact hh
  have cPw : ∀ W, Calls Tryd.prog 27 #[.int .i64 (cn : Int), .int .i64 (a : Int)] W fun e w' => e = .returned (.int .i64 (x : Int)) ∧ W = w' := fun W => by rw [hx]; exact rpower_any cn a W (by omega) (by omega)
  have cFt : ∀ W rb rc x1 x2 r y res, Below w.heap.size w W → r ∈ R → y < b → rb < W.heap.size → W.rangeAt rb 0 (vals (idxI r)) → adm y r = res → Calls Tryd.prog 30 #[.slice S m sc, .agg #[.slice (some ⟨rb, 0, none⟩) a rc, .int .i64 x1, .int .i64 x2], .int .i64 (y : Int), .int .i64 (b : Int), .agg #[.slice N nn nc, .slice E en ec, .slice U un uc, .slice V vn vc]] W fun e w' => e = .returned (.bool res) ∧ Below W.heap.size W w' := fun W rb rc x1 x2 r y res hb hr hy h1 h2 h3 => by
    rw [hR] at hr
    rw [hnn, hen, hun, hvn]
    exact rfits2_any s S m sc d r a b y rb rc x1 x2 N E U V nc ec uc vc res W hm hml (hS.keep hb hb.size) (rws_len s a r hr) (fun x hx => ((mem_rws s a r).1 hr).2.1 x hx) ha1 ha8 hb60 hy hd h2 h1 (hE.keep hb hb.size) (by rw [← h3, hadm])
  obtain ⟨W1, hW1⟩ : ∃ W1, W1 = (w.alloc (.cells #[.slice N nn nc, .slice E en ec, .slice U un uc, .slice V vn vc] 25)).alloc (.cells #[.int .i64 0, .int .i64 0, .slice none 0 0] 31) := ⟨_, rfl⟩
  have hblk1 : W1.heap[w.heap.size]? = some (.cells #[.slice N nn nc, .slice E en ec, .slice U un uc, .slice V vn vc] 25 (0, 0)) := by rw [hW1]; exact heap_kp (heap_at _ _ _ rfl) _
  have hres1 : W1.heap[w.heap.size + 1]? = some (.cells #[.int .i64 0, .int .i64 0, .slice none 0 0] 31 (0, 0)) := by rw [hW1]; exact heap_at _ _ _ (by simp)
  have hb1' : Below w.heap.size w W1 := by rw [hW1]; exact ((Below.refl _ _).alloc (Nat.le_refl _) _).alloc (by simp) _
  have hzz1 : w.heap.size + 1 < W1.heap.size := (Array.getElem?_eq_some_iff.1 hres1).1
  rw [← hnn, ← hen, ← hun, ← hvn]
  have hRl : ∀ r ∈ R, r.length = a := fun r hr => by rw [hR] at hr; exact rws_len s a r hr
  have HW1 := Lib.hid hW1
  have HB1 := Lib.hid hb1'
  have HBK := Lib.hid hblk1
  have HRS := Lib.hid hres1
  have HSTK := Lib.hid hstk
  have HSR := Lib.hid hSr
  have HNR := Lib.hid hNr
  have HRR := Lib.hid hR
  have HFS := Lib.hid hfS
  have HFN := Lib.hid hfN
  have HRL := Lib.hid hRl
  have CFT := Lib.hid cFt
  have CR := Lib.hid hcR
  clear hm hS hd hE hlc hnn hen hun hvn hR hadm hfS hfN hcn hx hxp hSr hNr hstk cFt hW1 hb1' hblk1 hres1 hcR hRl
  go_enter Tryd.func12, Tryd.ntmps12
  go_wp2_with fail
  rw [← HW1.out]
  refine (CR.out _ HB1.out).mono ?_
  rintro e2 w2 ⟨V2, Z, rfl, hZ, hown2, hzok, hb2⟩
  have hb02 : Below w.heap.size w w2 := HB1.out.trans (hb2.mono HB1.out.size)
  obtain ⟨zn, hzn⟩ : ∃ zn, zn = Z.length := ⟨_, rfl⟩
  rw [← hzn] at hown2
  obtain ⟨A2, c2, rfl, hzc, hflat, hbase⟩ := own_flat hown2 (fun z hz => rz_len s z) hzn.symm
  have hzm : zn ≤ 9223372036854775807 := by
    rcases hown2.2 with ⟨-, h0⟩ | ⟨_, _, _, _, _, _, hnc', hmx, _⟩
    · omega
    · simp only [maxLen] at hmx; omega
  rw [← HRR.out] at hZ
  have hznR : zn = R.length := by rw [hzn, ← hZ, List.length_map]
  have HFLAT := Lib.hid hflat
  have HZOK := Lib.hid hzok
  have HZ := Lib.hid hZ
  have HZN := Lib.hid hzn
  have HZR := Lib.hid hznR
  clear hown2 hzok hflat hbase hZ hzn hznR
  go_wp2_with fail
  refine (cCo _ hb02).mono ?_
  rintro e3 w3 ⟨V3, rfl, hown3, hb3⟩
  obtain ⟨A3, c3, rfl, -, -, -, -, -⟩ := own_ints hown3
  have hb03 : Below w.heap.size w w3 := hb02.trans (hb3.mono hb02.size)
  clear hown3
  go_wp2_with fail
  refine (cPw _).mono ?_
  rintro e4 w4 ⟨rfl, rfl⟩
  have q3 := (hb3.block w.heap.size (Nat.lt_of_lt_of_le (Nat.lt_of_succ_lt hzz1) hb2.size)).trans ((hb2.block w.heap.size (Nat.lt_of_succ_lt hzz1)).trans HBK.out)
  have q3r := (hb3.block (w.heap.size + 1) (Nat.lt_of_lt_of_le hzz1 hb2.size)).trans ((hb2.block (w.heap.size + 1) hzz1).trans HRS.out)
  have HQ3R := Lib.hid q3r
  have HQ3 := Lib.hid q3
  have hz3 : w.heap.size + 1 < w3.heap.size := Nat.lt_of_lt_of_le hzz1 (Nat.le_trans hb2.size hb3.size)
  have HB03 := Lib.hid hb03
  have HB23 := Lib.hid hb3
  clear hb2 hb3 hb02 hb03 q3 q3r
  obtain ⟨b1, hbb1⟩ : ∃ b1, b1 = b + 1 := ⟨_, rfl⟩
  have mb1 : IntKind.i64.wrap ((b : Int) + 1) = (b1 : Int) := by rw [IntWalk.i64_in _ (by omega)]; omega
  rw [← hbb1] at hby2
  have hb161 : b1 ≤ 61 := by omega
  have HBB := Lib.hid hbb1
  clear hbb1
  obtain ⟨mb, hmb⟩ : ∃ mb, mb = w3.heap.size := ⟨_, rfl⟩
  go_upto_region 3 with (at_make; refine wpList_make_full _ rfl _ _ 64 rfl w3.heap.size 65 i2 (.slice none 0 0) 1 Tryd.underlying64 ji jz0 jz1 .i64 .i64 _ _ b1 rfl rfl rfl rfl hby2 (by simp only [maxLen]; omega) (by omega) ?_; intro w5 hown5 hgrow5)
  have hb35 : Below w3.heap.size w3 w5 := ⟨hgrow5.os, hgrow5.tape, hgrow5.output, hgrow5.size, fun k hk => hgrow5.block k hk (by simp)⟩
  have hmay5 : MayT w5 mb x b (b + 1) (mayF R adm fS fN b) := by
    rw [hmb]
    refine ⟨(hown5.lt _ rfl).2, fun y hy => ⟨.slice none 0 0, ?_⟩, fun o => hown5.frozenAt o, fun y h1 h2 => by omega⟩
    have hyb : y < b1 := by rw [HBB.out]; omega
    rw [hown5.cellAt y (by omega), Nat.mul_one, show (madeCells (Value.slice none 0 0).cells b1).toList[y]? = some (.slice none 0 0) from made_at _ _ _ hyb]
  rw [← hmb]
  have hmb3 : w3.heap.size ≤ mb := by omega
  have c5 := hown5.cellAt b (by rw [HBB.out]; omega)
  rw [Nat.mul_one, show (madeCells (Value.slice none 0 0).cells b1).toList[b]? = some (.slice none 0 0) from made_at _ _ _ (by rw [HBB.out]; omega), ← hmb] at c5
  have z5 := hmay5.fr b
  have hs35 := hb35.size
  obtain ⟨qb, hqb⟩ : ∃ qb, qb = w5.heap.size := ⟨_, rfl⟩
  have hbi0 : (0 : Int) ≤ (b : Int) := by omega
  have hbi1 : (b : Int) < (b1 : Int) := by rw [HBB.out]; omega
  have HM5 := Lib.hid hmay5
  have HB35 := Lib.hid hb35
  have HMB := Lib.hid hmb
  clear hown5 hgrow5 hmay5 hb35 hmb
  go_upto_region 4 with (at_make; refine wpList_make_full _ rfl _ _ 65 rfl w5.heap.size 4 i0 (.bool false) 1 Tryd.underlying65 hi hz0 hz1 .i64 .i64 _ _ x rfl rfl rfl rfl hby (by simp only [maxLen]; omega) (by omega) ?_; intro w6 hown6 hgrow6; have hb56 : Below w5.heap.size w5 w6 := ⟨hgrow6.os, hgrow6.tape, hgrow6.output, hgrow6.size, fun k hk => hgrow6.block k hk (by simp)⟩; obtain ⟨c6, z6⟩ := later_cellO hb56 c5 z5)
  have hs56 := hb56.size
  rw [← hqb]
  have hmq : mb ≠ qb := fun e => by have := (World.block_lt_of_cell? w5 _ c5); simp at this; omega
  obtain ⟨W7, hW7⟩ : ∃ W7, W7 = w6.setCell ⟨mb, b, none⟩ (.slice (some ⟨qb, 0, none⟩) x x) := ⟨_, rfl⟩
  have hT7 : BTab W7 qb x (fun l => decide (l < ((0 : Nat) : Int))) := by
    have h6 : BTab w6 qb x (fun l => decide (l < ((0 : Nat) : Int))) := by
      rw [hqb]
      refine ⟨(hown6.lt _ rfl).2, fun L hL => ?_, fun o => hown6.frozenAt o⟩
      rw [hown6.cellAt L (by omega), Nat.mul_one, show (madeCells (Value.bool false).cells x).toList[L]? = some (.bool false) from made_at _ _ _ hL]
      have : decide ((L : Int) < ((0 : Nat) : Int)) = false := decide_eq_false (by omega)
      show _ = some (Value.bool (decide ((L : Int) < ((0 : Nat) : Int))))
      rw [this]
    rw [hW7]
    exact h6.grown (grown_set (World.grownBy.refl w6 (some mb)) b _) (by simpa using fun e => hmq e.symm)
  have hM7 : MayT W7 mb x b (b + 1) (mayF R adm fS fN b) := by rw [hW7]; exact (HM5.out.keep hb56).low (Nat.lt_succ_self b) (Nat.le_refl _) _
  have hc7 : W7.cell? ⟨mb, b, none⟩ = some (.slice (some ⟨qb, 0, none⟩) x x) := by rw [hW7]; exact World.cell?_setCell_same _ _ _ c6
  have hb37 : Below w3.heap.size w3 W7 := by rw [hW7]; exact (HB35.out.trans (hb56.mono HB35.out.size)).setCell (p := ⟨mb, b, none⟩) hmb3 _
  have hq3 : w3.heap.size ≤ qb := by omega
  have HT7 := Lib.hid hT7
  have HM7 := Lib.hid hM7
  have HC7 := Lib.hid hc7
  have HB37 := Lib.hid hb37
  have HMQ := Lib.hid hmq
  rw [← hW7]
  clear hW7 hT7 hM7 hc7 hb37 hown6 hgrow6 hb56 c5 z5 c6 z6 HM5 HB35 hs35 hs56 HMB hqb
  go_wp2_with fail
  go_loopw [13] (fun i wr => ∃ k : Nat, k ≤ x ∧ i = .int .i64 k ∧ Hid (BTab wr qb x (fun l => decide (l < (k : Int)))) ∧ Hid (W7.grownBy wr (some qb))) (fun i _ => x - (intOf i).toNat)
  case atStart => exact ⟨0, Nat.zero_le _, rfl, HT7, World.grownBy.refl _ _⟩
  case round =>
    clear HT7
    obtain ⟨k, hk, rfl, hT, hg⟩ := hrel
    obtain ⟨wo, rfl⟩ : ∃ wo : World, wo = wr := ⟨_, rfl⟩
    have hlm := HM7.out.lt
    have c0 : wo.cell? ⟨mb, b, none⟩ = some (.slice (some ⟨qb, 0, none⟩) x x) := (World.cell?_of_block (hg.out.block mb hlm (by simpa using HMQ.out))).trans HC7.out
    by_cases hkx : k < x
    · have c1 := hT.out.2.1 k hkx
      have z1 := hT.out.2.2 k
      have hk0 : (0 : Int) ≤ (k : Int) := by omega
      have hkx' : (k : Int) < (x : Int) := by omega
      have hTf : Hid (∀ W, W = wo.setCell ⟨qb, k, none⟩ (.bool true) → BTab W qb x (fun l => decide (l < ((k + 1 : Nat) : Int)))) := fun W e => by
        rw [e]
        refine hT.out.set k hkx true (decide_eq_true (by omega)).symm fun L hL hne => ?_
        show decide _ = decide _
        rw [decide_eq_decide]
        omega
      have hGf : Hid (W7.grownBy (wo.setCell ⟨qb, k, none⟩ (.bool true)) (some qb)) := grown_set hg.out k _
      clear hT hg
      go_wp2_with fail
      go_roundw
      case rel => exact ⟨k + 1, by omega, by go_num, hTf.out _ rfl, hGf⟩
      case measure => simp [intOf]; omega
    · have hke : k = x := by omega
      have hTb : BTab wo qb x (mayF R adm fS fN b b) := hT.out.congr fun L hL => by
        rw [mayF_top]
        exact decide_eq_true (by omega)
      have hMb : MayT wo mb x b b (mayF R adm fS fN b) := ((HM7.out.grown hg.out HMQ.out fun y h1 h2 => by omega).down c0 (fun e => HMQ.out e.symm) hTb)
      have hb3o : Below w3.heap.size w3 wo := HB37.out.trans ⟨hg.out.os, hg.out.tape, hg.out.output, hg.out.size, fun j hj => hg.out.block j (Nat.lt_of_lt_of_le hj HB37.out.size) (by simp; omega)⟩
      have HMB := Lib.hid hMb
      have HB3O := Lib.hid hb3o
      clear hTb hMb hb3o hT hg c0 hlm HM7 HC7 HB37 HMQ hke
      go_wp2_with fail
      go_loopw [14] (fun i wr => ∃ t : Nat, t ≤ b ∧ i = .int .i64 ((b : Int) - 1 - (t : Int)) ∧ Hid (MayT wr mb x b (b - t) (mayF R adm fS fN b)) ∧ Hid (Below w3.heap.size w3 wr)) (fun i _ => (intOf i + 1).toNat)
      case atStart => exact ⟨0, Nat.zero_le _, by go_num, HMB, HB3O⟩
      case round =>
        clear HMB HB3O
        obtain ⟨t, ht, rfl, hmt, hbt⟩ := hrel
        obtain ⟨wi, rfl⟩ : ∃ wi : World, wi = wr := ⟨_, rfl⟩
        by_cases hlt : t < b
        · obtain ⟨y, hy⟩ : ∃ y, y = b - 1 - t := ⟨_, rfl⟩
          have hyi : (b : Int) - 1 - (t : Int) = (y : Int) := by omega
          rw [hyi]
          have hyb : y < b := by omega
          have hyt : b - t = y + 1 := by omega
          have hnext : Hid ((y : Int) - 1 = (b : Int) - 1 - ((t + 1 : Nat) : Int)) := by show _ = _; omega
          have hdn : Hid (b - (t + 1) = y) := by show _ = _; omega
          rw [hyt] at hmt
          have hbw : Below w.heap.size w wi := HB03.out.trans (hbt.out.mono HB03.out.size)
          have hzi := hbt.out.size
          obtain ⟨vy, hvy⟩ := hmt.out.cell y (by omega)
          have hzy := hmt.out.fr y
          have hy0 : (0 : Int) ≤ (y : Int) := by omega
          have hy1 : (y : Int) < (b1 : Int) := by rw [HBB.out]; omega
          have hltm := hmt.out.lt
          obtain ⟨q, hq⟩ : ∃ q, q = wi.heap.size := ⟨_, rfl⟩
          have hmq : mb ≠ q := by omega
          have HBW := Lib.hid hbw
          clear hy hyi hyt hbw
          go_upto_region 12 with (at_make; refine wpList_make_full _ rfl _ _ 65 rfl wi.heap.size 4 i0 (.bool false) 1 Tryd.underlying65 hi hz0 hz1 .i64 .i64 _ _ x rfl rfl rfl rfl hby (by simp only [maxLen]; omega) (by omega) ?_; intro w6 hown6 hgrow6; have hb6 : Below wi.heap.size wi w6 := ⟨hgrow6.os, hgrow6.tape, hgrow6.output, hgrow6.size, fun k hk => hgrow6.block k hk (by simp)⟩; obtain ⟨c6, z6⟩ := later_cellO hb6 hvy hzy)
          rw [← hq]
          obtain ⟨W7, hW7⟩ : ∃ W7, W7 = w6.setCell ⟨mb, y, none⟩ (.slice (some ⟨q, 0, none⟩) x x) := ⟨_, rfl⟩
          have hT7 : BTab W7 q x (mayG R adm fS fN b y 0) := by
            have h6 : BTab w6 q x (mayG R adm fS fN b y 0) := by
              rw [hq]
              refine ⟨(hown6.lt _ rfl).2, fun L hL => ?_, fun o => hown6.frozenAt o⟩
              rw [hown6.cellAt L (by omega), Nat.mul_one, show (madeCells (Value.bool false).cells x).toList[L]? = some (.bool false) from made_at _ _ _ hL, mayG_zero]
            rw [hW7]
            exact h6.grown (grown_set (World.grownBy.refl w6 (some mb)) y _) (by simpa using fun e => hmq e.symm)
          have hM7 : MayT W7 mb x b (y + 1) (mayF R adm fS fN b) := by rw [hW7]; exact (hmt.out.keep hb6).low (Nat.lt_succ_self y) (by omega) _
          have hno7 : ∀ y', y + 1 ≤ y' → y' ≤ b → W7.cell? ⟨mb, y', none⟩ ≠ some (.slice (some ⟨q, 0, none⟩) x x) := fun y' h1 h2 e => by
            obtain ⟨q', _, hc', ht'⟩ := hmt.out.tab y' h1 h2
            have h3 : W7.cell? ⟨mb, y', none⟩ = some (.slice (some ⟨q', 0, none⟩) x x) := by
              rw [hW7, World.cell?_setCell_other _ _ _ _ (fun e' => by injection e' with _ e2; omega)]
              exact (hb6.cell (p := ⟨mb, y', none⟩) hltm).trans hc'
            rw [h3] at e
            have hqq : q' = q := by injection e with e; injection e with e _ _; injection e with e; injection e
            have := ht'.1
            omega
          have hc7 : W7.cell? ⟨mb, y, none⟩ = some (.slice (some ⟨q, 0, none⟩) x x) := by rw [hW7]; exact World.cell?_setCell_same _ _ _ c6
          have hb37 : Below w3.heap.size w3 W7 := by rw [hW7]; exact (hbt.out.trans (hb6.mono hzi)).setCell (p := ⟨mb, y, none⟩) hmb3 _
          have hq3 : w3.heap.size ≤ q := by omega
          have HT7 := Lib.hid hT7
          have HM7 := Lib.hid hM7
          have HC7 := Lib.hid hc7
          have HB37 := Lib.hid hb37
          have HMQ := Lib.hid hmq
          have HNO7 := Lib.hid hno7
          rw [← hW7]
          clear hW7 hT7 hM7 hc7 hb37 hown6 hgrow6 hb6 c6 z6 hvy hzy hmt hbt hq hltm hno7 hmq hzi
          go_wp2_with fail
          go_loopw [15] (fun i wr => ∃ k : Nat, k ≤ zn ∧ i = .int .i64 k ∧ Hid (BTab wr q x (mayG R adm fS fN b y k)) ∧ Hid (W7.grownBy wr (some q))) (fun i _ => zn - (intOf i).toNat)
          case atStart => exact ⟨0, Nat.zero_le _, rfl, HT7, World.grownBy.refl _ _⟩
          case round =>
            clear HT7
            obtain ⟨k, hk, rfl, hT, hg⟩ := hrel
            obtain ⟨wo, rfl⟩ : ∃ wo : World, wo = wr := ⟨_, rfl⟩
            have hMo : MayT wo mb x b (y + 1) (mayF R adm fS fN b) := HM7.out.grown hg.out HMQ.out HNO7.out
            have hlm := HM7.out.lt
            have c0 : wo.cell? ⟨mb, y, none⟩ = some (.slice (some ⟨q, 0, none⟩) x x) := (World.cell?_of_block (hg.out.block mb hlm (by simpa using HMQ.out))).trans HC7.out
            have hb3o : Below w3.heap.size w3 wo := HB37.out.trans ⟨hg.out.os, hg.out.tape, hg.out.output, hg.out.size, fun j hj => hg.out.block j (Nat.lt_of_lt_of_le hj HB37.out.size) (by simp; omega)⟩
            have hbwo : Below w.heap.size w wo := HB03.out.trans (hb3o.mono HB03.out.size)
            have HB3O := Lib.hid hb3o
            have HBWO := Lib.hid hbwo
            have HMO := Lib.hid hMo
            clear hb3o hbwo hMo hlm
            by_cases hkz : k < zn
            · have hkZ : k < Z.length := by rw [← HZN.out]; exact hkz
              obtain ⟨⟨rb, rc, r⟩, hzk⟩ : ∃ z, Z[k]? = some z := ⟨_, List.getElem?_eq_getElem hkZ⟩
              obtain ⟨g, rfl, hgl, hrows⟩ := HFLAT.out (fun e => by rw [e] at hkZ; simp at hkZ)
              have hrk : R[k]? = some r := by rw [← HZ.out, List.getElem?_map, hzk]; rfl
              have hrR : r ∈ R := List.mem_of_getElem? hrk
              obtain ⟨-, hrb2, -, hrr⟩ := HZOK.out _ (List.mem_of_getElem? hzk)
              have hb2o : Below w2.heap.size w2 wo := HB23.out.trans (HB3O.out.mono HB23.out.size)
              have hrange := rangeAt_keep (hrows k _ hzk) hb2o hgl
              have hla : r.length = a := HRL.out r hrR
              obtain ⟨K, hK⟩ := Int.eq_ofNat_of_zero_le (HSR.out r hrR).1
              obtain ⟨M, hM⟩ := Int.eq_ofNat_of_zero_le (HNR.out r hrR).1
              have hKx : K < x := by have := (HSR.out r hrR).2; omega
              have hMx : M < x := by have := (HNR.out r hrR).2; omega
              have k0 : wo.cell? ⟨g, k * 3, none⟩ = some (.slice (some ⟨rb, 0, none⟩) a rc) := hrange 0 _ (by simp [rz, hla])
              have k1 : wo.cell? ⟨g, k * 3 + 1, none⟩ = some (.int .i64 (K : Int)) := hrange 1 _ (by rw [← hK, HFS.out]; rfl)
              have k2 : wo.cell? ⟨g, k * 3 + 2, none⟩ = some (.int .i64 (M : Int)) := hrange 2 _ (by rw [← hM, HFN.out]; rfl)
              obtain ⟨res, hres⟩ : ∃ res, adm y r = res := ⟨_, rfl⟩
              obtain ⟨q1, hq1m, cq1, hB1⟩ := HMO.out.tab (y + 1) (Nat.le_refl _) (by omega)
              obtain ⟨y1, hy1e⟩ : ∃ y1, y1 = y + 1 := ⟨_, rfl⟩
              rw [← hy1e] at cq1
              have c1M := hB1.2.1 M hMx
              obtain ⟨mv, hmv⟩ : ∃ mv, mv = mayF R adm fS fN b (y + 1) (M : Int) := ⟨_, rfl⟩
              rw [← hmv] at c1M
              have hwy : IntKind.i64.wrap ((y : Int) + 1) = (y1 : Int) := by rw [IntWalk.i64_in _ (by omega)]; omega
              have hy10 : (0 : Int) ≤ (y1 : Int) := by omega
              have hy11 : (y1 : Int) < (b1 : Int) := by rw [HBB.out]; omega
              have hk0 : (0 : Int) ≤ (k : Int) := by omega
              have hkz' : (k : Int) < (zn : Int) := by omega
              have hM0 : (0 : Int) ≤ (M : Int) := by omega
              have hMx' : (M : Int) < (x : Int) := by omega
              have hK0 : (0 : Int) ≤ (K : Int) := by omega
              have hKx' : (K : Int) < (x : Int) := by omega
              obtain ⟨e0, e1, e2, e3, -⟩ := zcells4 ((HB3O.out.block w.heap.size (Nat.lt_of_succ_lt hz3)).trans HQ3.out)
              have hand : (mayF R adm fS fN b (y + 1) (fN r) && adm y r) = (mv && res) := by rw [hM, ← hmv, hres]
              have hK2 : Hid (fS r = (K : Int)) := hK
              have HRK := Lib.hid hrk
              have HAND := Lib.hid hand
              have hrr0 : ∀ W, Below wo.heap.size wo W → W.rangeAt rb 0 (vals (idxI r)) := fun W hb => rangeAt_keep (rangeAt_keep hrr hb2o hrb2) hb (Nat.lt_of_lt_of_le hrb2 hb2o.size)
              have hcF : Hid (∀ W, Below wo.heap.size wo W → Calls Tryd.prog 30 #[.slice S m sc, .agg #[.slice (some ⟨rb, 0, none⟩) a rc, .int .i64 (K : Int), .int .i64 (M : Int)], .int .i64 (y : Int), .int .i64 (b : Int), .agg #[.slice N nn nc, .slice E en ec, .slice U un uc, .slice V vn vc]] W fun e w' => e = .returned (.bool res) ∧ Below W.heap.size W w') := fun W hb =>
                CFT.out W rb rc (K : Int) (M : Int) r y res (HBWO.out.trans (hb.mono HBWO.out.size)) hrR hyb (Nat.lt_of_lt_of_le hrb2 (Nat.le_trans hb2o.size hb.size)) (hrr0 W hb) hres
              clear hkZ hzk hrows hrk hrR hrb2 hrr hb2o hrange hla hK hM hand hres hmv hrr0 hB1 hy1e
              cases mv
              · have hTf : Hid (BTab wo q x (mayG R adm fS fN b y (k + 1))) := hT.out.congr fun L hL => (mayG_no R adm fS fN b y k r HRK.out (by rw [HAND.out]; rfl) _).symm
                have hgd : Hid (W7.grownBy wo (some q)) := hg
                clear hT hg hcF c0
                go_wp2_with fail
                go_region
                go_wp2_with fail
                go_roundw
                case rel => exact ⟨k + 1, by omega, by go_num, hTf.out.drew, grown_drew hgd.out⟩
                case measure => simp [intOf]; omega
              · have kp : ∀ {a : Addr} {u : Value}, wo.cell? a = some u → ∀ w', Below wo.heap.size wo w' → w'.cell? a = some u := fun h w' hb => (hb.cell (World.block_lt_of_cell? wo _ h)).trans h
                have r0 := kp k0
                have r1 := kp k1
                have r2 := kp k2
                have r3 := kp e0
                have r4 := kp e1
                have r5 := kp e2
                have r6 := kp e3
                have r7 := kp cq1
                have r8 := kp c1M
                have HKP : Hid (∀ w', Below wo.heap.size wo w' → w'.cell? ⟨g, k * 3 + 1, none⟩ = some (.int .i64 (K : Int)) ∧ w'.cell? ⟨mb, y, none⟩ = some (.slice (some ⟨q, 0, none⟩) x x)) := fun w' hb => ⟨r1 w' hb, kp c0 w' hb⟩
                have hS0 : Below wo.heap.size wo wo := Below.refl _ _
                clear kp k0 k1 k2 e0 e1 e2 e3 cq1 c1M c0
                go_wp2_with fail
                go_region_held3 (fun w' => Below wo.heap.size wo w') (first | (with_reducible assumption) | (with_reducible exact hS0.drew) | ((with_reducible refine Below.drew ?_); (with_reducible assumption)))
                  (first
                  | (go_at_call 30; refine (hcF.out _ hS0.drew).mono ?_; rintro e w8 ⟨rfl, hb8⟩; have hbw8 : Below wo.heap.size wo w8 := hS0.drew.trans (hb8.mono hS0.drew.size))
                  | fail)
                clear r0 r1 r2 r3 r4 r5 r6 r7 r8
                obtain ⟨k1, c0⟩ := HKP.out w8 hbw8
                have hT8 : BTab w8 q x (mayG R adm fS fN b y k) := hT.out.keep hbw8
                have hG8 : Hid (W7.grownBy w8 (some q)) := grown_below hg.out hbw8
                cases res
                · have hTf : Hid (BTab w8 q x (mayG R adm fS fN b y (k + 1))) := hT8.congr fun L hL => (mayG_no R adm fS fN b y k r HRK.out (by rw [HAND.out]; rfl) _).symm
                  clear hT hg hcF c0 k1 hT8 hb8
                  go_wp2_with fail
                  go_roundw
                  case rel => exact ⟨k + 1, by omega, by go_num, hTf, hG8⟩
                  case measure => simp [intOf]; omega
                · have cK := hT8.2.1 K hKx
                  have zK := hT8.2.2 K
                  have hTf : Hid (∀ W, W = w8.setCell ⟨q, K, none⟩ (.bool true) → BTab W q x (mayG R adm fS fN b y (k + 1))) := fun W e => by
                    rw [e]
                    refine hT8.set K hKx true ?_ fun L hL hne => ?_
                    · rw [mayG_yes R adm fS fN b y k r HRK.out (by rw [HAND.out]; rfl), if_pos hK2.out]
                    · rw [mayG_yes R adm fS fN b y k r HRK.out (by rw [HAND.out]; rfl), if_neg (by rw [hK2.out]; omega)]
                  have hGf : Hid (W7.grownBy (w8.setCell ⟨q, K, none⟩ (.bool true)) (some q)) := grown_set hG8.out K _
                  clear hT hg hcF hT8 hb8 hG8
                  go_wp2_with fail
                  go_region
                  go_wp2_with fail
                  go_roundw
                  case rel => exact ⟨k + 1, by omega, by go_num, (hTf.out _ rfl).drew, grown_drew hGf.out⟩
                  case measure => simp [intOf]; omega
            · have hkz' : k = R.length := by rw [← HZR.out]; omega
              have hTq : BTab wo q x (mayF R adm fS fN b y) := hT.out.congr fun L hL => by rw [hkz', mayG_all R adm fS fN b y hyb]
              have hMn : Hid (MayT wo mb x b (b - (t + 1)) (mayF R adm fS fN b)) := by
                show MayT _ _ _ _ _ _
                rw [hdn.out]
                exact HMO.out.down c0 (fun e => HMQ.out e.symm) hTq
              clear hT hg hkz' hTq c0 HMO
              go_wp2_with fail
              go_roundw
              case rel => exact ⟨t + 1, by omega, by rw [← hnext.out], hMn, HB3O⟩
              case measure => first | (simp [intOf]; done) | (simp [intOf]; omega)
        · have hte : t = b := by omega
          rw [hte, Nat.sub_self] at hmt
          have hge : ¬ ((0 : Int) ≤ (b : Int) - 1 - (t : Int)) := by omega
          clear hlt hte
          have HMT := Lib.hid hmt
          have HBT := Lib.hid hbt
          clear hmt hbt ht
          obtain ⟨W9, hW9⟩ : ∃ W9, W9 = wi.alloc (.cells #[.int .i64 (a : Int), .int .i64 (b : Int), .slice none 0 0] 31) := ⟨_, rfl⟩
          have hz9 : W9.heap.size = wi.heap.size + 1 := by rw [hW9]; simp
          have hb9 : Below wi.heap.size wi W9 := by rw [hW9]; exact (Below.refl _ _).alloc (Nat.le_refl _) _
          have hp9 : W9.heap[wi.heap.size]? = some (.cells #[.int .i64 (a : Int), .int .i64 (b : Int), .slice none 0 0] 31 (0, 0)) := by rw [hW9]; exact heap_at _ _ _ rfl
          have hzi3 := HBT.out.size
          have HP9 := Lib.hid hp9
          have HB9 := Lib.hid hb9
          obtain ⟨X, hX⟩ : ∃ X, X = (stksE s a b d).head? := ⟨_, rfl⟩
          have HX0 : Hid (X = (stk R adm fS fN (b - 0) 0 none).head?.map (([] : List (List Nat)) ++ ·)) := by
            show _ = _
            rw [hX, HSTK.out, Nat.sub_zero]
            simp
          have HXX := Lib.hid hX
          go_upto_region 18 with fail
          rw [← hW9]
          clear hW9 hp9 hb9 hX
          go_wp2_with fail
          go_loopw [17, 18] (fun bel yv wr => ∃ (y : Nat) (P : List (List Nat)) (below : Option Int) (v : Value) (bi : Int), y ≤ b ∧ yv = .int .i64 (y : Int) ∧ bel = .int .i64 bi ∧ Hid ((y = 0 ∧ below = none) ∨ (y ≠ 0 ∧ below = some bi)) ∧ Hid (X = (stk R adm fS fN (b - y) y below).head?.map (P ++ ·)) ∧ Hid (P.length = y ∧ ∀ r ∈ P, r.length = a) ∧
            Hid (wr.heap[wi.heap.size]? = some (.cells #[.int .i64 (a : Int), .int .i64 (b : Int), v] 31 (0, 0))) ∧ Hid (wr.ownsRow W9.heap.size 3 1 v (y * a) (vals (idxI P.flatten))) ∧ Hid (Below wi.heap.size wi wr)) (fun _ yv _ => b - (intOf yv).toNat)
          case atStart => exact ⟨0, [], none, .slice none 0 0, -1, Nat.zero_le _, rfl, rfl, Or.inl ⟨rfl, rfl⟩, HX0, ⟨rfl, fun r hr => by cases hr⟩, HP9.out, by rw [Nat.zero_mul]; exact World.ownsRow_nil _ _ _ _, HB9.out⟩
          case round =>
            clear HX0 HP9 HB9
            obtain ⟨y, P, below, v, bi, hy, rfl, rfl, hbel, hX, hP, hpo, hown, hbr⟩ := hrel
            obtain ⟨wy, rfl⟩ : ∃ wy : World, wy = wr := ⟨_, rfl⟩
            by_cases hyb : y < b
            · have HMT2 := HMT
              have hb3y : Below w3.heap.size w3 wy := HBT.out.trans (hbr.out.mono HBT.out.size)
              obtain ⟨i3, ki, kz0, kz1, kz2⟩ := info_parts int_info
              have hbi3 : wi.heap.size < W9.heap.size := by omega
              go_wp2_with fail
              go_loopw [17, 19, 20] (fun bel fo i wr => ∃ k : Nat, k ≤ zn ∧ i = .int .i64 k ∧
                ((fo = .bool false ∧ bel = .int .i64 bi ∧ Hid (∀ k', k' < k → ∀ q, R[k']? = some q → nextB R adm fS fN b y below q = false) ∧ Hid (wr.heap[wi.heap.size]? = some (.cells #[.int .i64 (a : Int), .int .i64 (b : Int), v] 31 (0, 0))) ∧ Hid (wr.ownsRow W9.heap.size 3 1 v (y * a) (vals (idxI P.flatten))) ∧ Hid (Below wi.heap.size wi wr)) ∨
                 (fo = .bool true ∧ ∃ (k' : Nat) (r : List Nat) (v' : Value), Hid (R[k']? = some r ∧ r.length = a) ∧ bel = .int .i64 (fN r) ∧ Hid (∀ k2, k2 < k' → ∀ q, R[k2]? = some q → nextB R adm fS fN b y below q = false) ∧ Hid (nextB R adm fS fN b y below r = true) ∧ Hid (wr.heap[wi.heap.size]? = some (.cells #[.int .i64 (a : Int), .int .i64 (b : Int), v'] 31 (0, 0))) ∧ Hid (wr.ownsRow W9.heap.size 3 1 v' ((y + 1) * a) (vals (idxI (P ++ [r]).flatten))) ∧ Hid (Below wi.heap.size wi wr)))) (fun _ _ i _ => zn - (intOf i).toNat)
              case atStart => exact ⟨0, Nat.zero_le _, rfl, Or.inl ⟨rfl, rfl, fun k' hk' => by omega, hpo, hown, hbr⟩⟩
              case round =>
                clear hpo hown hbr hb3y
                obtain ⟨k, hk, rfl, hcs⟩ := hrel
                obtain ⟨wo, rfl⟩ : ∃ wo : World, wo = wr := ⟨_, rfl⟩
                rcases hcs with ⟨rfl, rfl, hno, hpo, hown, hbr⟩ | ⟨rfl, k', r, v', hrk, rfl, hno, hyes, hpo, hown, hbr⟩
                · by_cases hkz : k < zn
                  · have hkZ : k < Z.length := by rw [← HZN.out]; exact hkz
                    obtain ⟨⟨rb, rc, r⟩, hzk⟩ : ∃ z, Z[k]? = some z := ⟨_, List.getElem?_eq_getElem hkZ⟩
                    obtain ⟨g, rfl, hgl, hrows⟩ := HFLAT.out (fun e => by rw [e] at hkZ; simp at hkZ)
                    have hrk : R[k]? = some r := by rw [← HZ.out, List.getElem?_map, hzk]; rfl
                    have hrR : r ∈ R := List.mem_of_getElem? hrk
                    obtain ⟨-, hrb2, -, hrr⟩ := HZOK.out _ (List.mem_of_getElem? hzk)
                    have hb3o : Below w3.heap.size w3 wo := HBT.out.trans (hbr.out.mono HBT.out.size)
                    have hbwo : Below w.heap.size w wo := HB03.out.trans (hb3o.mono HB03.out.size)
                    have hb2o : Below w2.heap.size w2 wo := HB23.out.trans (hb3o.mono HB23.out.size)
                    have hrange := rangeAt_keep (hrows k _ hzk) hb2o hgl
                    have hla : r.length = a := HRL.out r hrR
                    obtain ⟨K, hK⟩ := Int.eq_ofNat_of_zero_le (HSR.out r hrR).1
                    obtain ⟨M, hM⟩ := Int.eq_ofNat_of_zero_le (HNR.out r hrR).1
                    have hMx : M < x := by have := (HNR.out r hrR).2; omega
                    have k0 : wo.cell? ⟨g, k * 3, none⟩ = some (.slice (some ⟨rb, 0, none⟩) a rc) := hrange 0 _ (by simp [rz, hla])
                    have k1 : wo.cell? ⟨g, k * 3 + 1, none⟩ = some (.int .i64 (K : Int)) := hrange 1 _ (by rw [← hK, HFS.out]; rfl)
                    have k2 : wo.cell? ⟨g, k * 3 + 2, none⟩ = some (.int .i64 (M : Int)) := hrange 2 _ (by rw [← hM, HFN.out]; rfl)
                    obtain ⟨res, hres⟩ : ∃ res, adm y r = res := ⟨_, rfl⟩
                    have hMo : MayT wo mb x b 0 (mayF R adm fS fN b) := HMT.out.keep hbr.out
                    obtain ⟨q1, hq1m, cq1, hB1⟩ := hMo.tab (y + 1) (Nat.zero_le _) (by omega)
                    obtain ⟨y1, hy1e⟩ : ∃ y1, y1 = y + 1 := ⟨_, rfl⟩
                    rw [← hy1e] at cq1
                    have c1M := hB1.2.1 M hMx
                    obtain ⟨mv, hmv⟩ : ∃ mv, mv = mayF R adm fS fN b (y + 1) (M : Int) := ⟨_, rfl⟩
                    rw [← hmv] at c1M
                    have hwy : IntKind.i64.wrap ((y : Int) + 1) = (y1 : Int) := by rw [IntWalk.i64_in _ (by omega)]; omega
                    have hy10 : (0 : Int) ≤ (y1 : Int) := by omega
                    have hy11 : (y1 : Int) < (b1 : Int) := by rw [HBB.out]; omega
                    have hk0 : (0 : Int) ≤ (k : Int) := by omega
                    have hkz' : (k : Int) < (zn : Int) := by omega
                    have hM0 : (0 : Int) ≤ (M : Int) := by omega
                    have hMx' : (M : Int) < (x : Int) := by omega
                    obtain ⟨e0, e1, e2, e3, -⟩ := zcells4 ((hb3o.block w.heap.size (Nat.lt_of_succ_lt hz3)).trans HQ3.out)
                    have hnx : Hid (nextB R adm fS fN b y below r = (stands fS below r && (mv && res))) := by
                      show _ = _
                      unfold nextB
                      rw [hM, ← hmv, hres]
                    obtain ⟨W10, hW10⟩ : ∃ W10, W10 = wo.alloc (.cells #[.slice (some ⟨rb, 0, none⟩) a rc, .int .i64 (K : Int), .int .i64 (M : Int)] 67) := ⟨_, rfl⟩
                    have hb10 : Below wo.heap.size wo W10 := by rw [hW10]; exact (Below.refl _ _).alloc (Nat.le_refl _) _
                    have hR10 : W10.heap[wo.heap.size]? = some (.cells #[.slice (some ⟨rb, 0, none⟩) a rc, .int .i64 (K : Int), .int .i64 (M : Int)] 67 (0, 0)) := by rw [hW10]; exact heap_at _ _ _ rfl
                    have hz10 : wo.heap.size < W10.heap.size := (Array.getElem?_eq_some_iff.1 hR10).1
                    have hrr0 : Hid (∀ W, Below wo.heap.size wo W → W.rangeAt rb 0 (vals (idxI r))) := fun W hb => rangeAt_keep (rangeAt_keep hrr hb2o hrb2) hb (Nat.lt_of_lt_of_le hrb2 hb2o.size)
                    have hcF : Hid (∀ W, Below wo.heap.size wo W → Calls Tryd.prog 30 #[.slice S m sc, .agg #[.slice (some ⟨rb, 0, none⟩) a rc, .int .i64 (K : Int), .int .i64 (M : Int)], .int .i64 (y : Int), .int .i64 (b : Int), .agg #[.slice N nn nc, .slice E en ec, .slice U un uc, .slice V vn vc]] W fun e w' => e = .returned (.bool res) ∧ Below W.heap.size W w') := fun W hb =>
                      CFT.out W rb rc (K : Int) (M : Int) r y res (hbwo.trans (hb.mono hbwo.size)) hrR hyb (Nat.lt_of_lt_of_le hrb2 (Nat.le_trans hb2o.size hb.size)) (hrr0.out W hb) hres
                    have HRK : Hid (R[k]? = some r ∧ r.length = a) := ⟨hrk, hla⟩
                    have HKS : Hid (fS r = (K : Int)) := hK
                    have HMN : Hid (fN r = (M : Int)) := hM
                    have kq : ∀ {a' : Addr} {u : Value}, wo.cell? a' = some u → W10.cell? a' = some u := fun h => (hb10.cell (World.block_lt_of_cell? wo _ h)).trans h
                    replace e0 := kq e0
                    replace e1 := kq e1
                    replace e2 := kq e2
                    replace e3 := kq e3
                    replace cq1 := kq cq1
                    replace c1M := kq c1M
                    obtain ⟨z0, z1, z2, -⟩ := zcells hR10
                    have HW10 := Lib.hid hW10
                    have HB10 := Lib.hid hb10
                    have HR10 := Lib.hid hR10
                    clear hkZ hzk hrows hrk hrR hrb2 hrr hb2o hrange hla hK hM hres hmv hB1 hy1e hW10 hb10 hR10 kq hMo hbwo hb3o
                    go_upto_region 27 with fail
                    rw [← HW10.out]
                    clear k0 k1 k2
                    go_cut [147] from 107 to 155 (fun u wx => u = .bool (nextB R adm fS fN b y below r) ∧ Hid (Below W10.heap.size W10 wx))
                    case first =>
                      have hS0 : Below W10.heap.size W10 W10 := Below.refl _ _
                      have kp : ∀ {a' : Addr} {u : Value}, W10.cell? a' = some u → ∀ w', Below W10.heap.size W10 w' → w'.cell? a' = some u := fun h w' hb => (hb.cell (World.block_lt_of_cell? W10 _ h)).trans h
                      have hcase : (∃ sb, stands fS below r = sb ∧ ((y = 0 ∧ sb = true) ∨ (y ≠ 0 ∧ sb = decide ((K : Int) = bi)))) := by
                        rcases hbel.out with ⟨h1, h2⟩ | ⟨h1, h2⟩
                        · exact ⟨true, by rw [h2]; rfl, Or.inl ⟨h1, rfl⟩⟩
                        · exact ⟨_, rfl, Or.inr ⟨h1, by rw [h2]; show decide (fS r = bi) = _; rw [HKS.out]⟩⟩
                      obtain ⟨stb, hst, hcase⟩ := hcase
                      have hnx2 : Hid (nextB R adm fS fN b y below r = (stb && (mv && res))) := by show _ = _; rw [hnx.out, hst]
                      clear hst hnx hbel hX hP hno hpo hown hbr HRK
                      by_cases hy0 : y = 0
                      · have hd0 : ((y : Int) == 0) = true := by rw [beq_iff_eq]; omega
                        have hsb : stb = true := by rcases hcase with ⟨_, h⟩ | ⟨h, _⟩; exact h; exact absurd hy0 h
                        subst hsb
                        clear hcase hy0
                        cases mv
                        · go_region
                          go_wp2_with fail
                          go_meet
                          exact ⟨by rw [hnx2.out]; rfl, hS0.drew⟩
                        · have f0 := ext_cell e0
                          have f1 := ext_cell e1
                          have f2 := ext_cell e2
                          have f3 := ext_cell e3
                          have f4 := ext_cell cq1
                          have f5 := ext_cell c1M
                          have f6 := ext_cell z0
                          have f7 := ext_cell z1
                          have f8 := ext_cell z2
                          clear kp e0 e1 e2 e3 cq1 c1M z0 z1 z2
                          refine wp_region_ext (by kernel_rfl) (by kernel_rfl) ?_
                          repeat (go_big_quiet_step ((go_at_call 30; exact ext_call (hcF.out _ (HB10.out.trans ((ext_below _).mono (Nat.le_of_lt hz10)))))))
                          refine wpQuiet_nil ?_
                          intro _ hw'
                          obtain ⟨xq, rfl⟩ := hw'
                          clear f0 f1 f2 f3 f4 f5 f6 f7 f8
                          go_wp2_with fail
                          go_meet
                          exact ⟨by rw [hnx2.out]; cases res <;> rfl, ext_below _⟩
                      · have hd0 : ((y : Int) == 0) = false := by rw [beq_eq_false_iff_ne]; omega
                        have hsb : stb = decide ((K : Int) = bi) := by rcases hcase with ⟨h, _⟩ | ⟨_, h⟩; exact absurd h hy0; exact h
                        clear hcase hy0
                        by_cases hKb : (K : Int) = bi
                        · have hd1 : ((K : Int) == bi) = true := by rw [beq_iff_eq]; exact hKb
                          have hsb2 : stb = true := by rw [hsb]; exact decide_eq_true hKb
                          subst hsb2
                          clear hsb hKb
                          cases mv
                          · go_region
                            go_wp2_with fail
                            go_meet
                            exact ⟨by rw [hnx2.out]; rfl, hS0.drew⟩
                          · have r0 := kp e0
                            have r1 := kp e1
                            have r2 := kp e2
                            have r3 := kp e3
                            have r4 := kp cq1
                            have r5 := kp c1M
                            have r6 := kp z0
                            have r7 := kp z1
                            have r8 := kp z2
                            clear kp e0 e1 e2 e3 cq1 c1M z0 z1 z2
                            go_region_held3 (fun w' => Below W10.heap.size W10 w') (first | (with_reducible assumption) | (with_reducible exact hS0.drew) | ((with_reducible refine Below.drew ?_); (with_reducible assumption)))
                              (first
                              | (go_at_call 30; refine (hcF.out _ (HB10.out.trans (hS0.drew.mono (Nat.le_of_lt hz10)))).mono ?_; rintro e w11 ⟨rfl, hb11⟩; have hbw11 : Below W10.heap.size W10 w11 := hS0.drew.trans (hb11.mono hS0.drew.size))
                              | fail)
                            go_wp2_with fail
                            go_meet
                            exact ⟨by rw [hnx2.out]; cases res <;> rfl, hbw11⟩
                        · have hd1 : ((K : Int) == bi) = false := by rw [beq_eq_false_iff_ne]; exact hKb
                          have hsb2 : stb = false := by rw [hsb]; exact decide_eq_false hKb
                          subst hsb2
                          clear hsb hKb kp
                          go_region
                          go_wp2_with fail
                          go_meet
                          exact ⟨by rw [hnx2.out]; rfl, hS0.drew⟩
                    case rest =>
                      obtain ⟨rfl, hbc⟩ := hcut
                      have hboc : Below wo.heap.size wo wc := HB10.out.trans (hbc.out.mono (Nat.le_of_lt hz10))
                      have hpc := (hboc.block wi.heap.size (Array.getElem?_eq_some_iff.1 hpo.out).1).trans hpo.out
                      have hownc := own_keep' hown.out hboc
                      have hbrc : Below wi.heap.size wi wc := hbr.out.trans (hboc.mono hbr.out.size)
                      have hrowc := (hbc.out.block wo.heap.size hz10).trans HR10.out
                      have HBRC := Lib.hid hbrc
                      have HPC := Lib.hid hpc
                      have HOWNC := Lib.hid hownc
                      clear e0 e1 e2 e3 cq1 c1M z0 z1 z2 hbrc hpc hownc
                      cases hnb : nextB R adm fS fN b y below r
                      · have HNO : Hid (∀ k', k' < k + 1 → ∀ q, R[k']? = some q → nextB R adm fS fN b y below q = false) := fun k' hk' q hq => by
                          rcases Nat.lt_succ_iff_lt_or_eq.1 hk' with h | h
                          · exact hno.out k' h q hq
                          · subst h
                            rw [HRK.out.1] at hq
                            cases hq
                            exact hnb
                        clear hnb
                        go_wp2_with fail
                        go_roundw
                        case rel => exact ⟨k + 1, by omega, by go_num, Or.inl ⟨rfl, rfl, HNO, HPC.out, HOWNC.out, HBRC⟩⟩
                        case measure => simp [intOf]; omega
                      · have HNX : Hid (nextB R adm fS fN b y below r = true) := hnb
                        have HNS : Hid (∀ jj u, (vals (idxI r))[jj]? = some u → wc.cell? ((⟨rb, 0, none⟩ : Addr).add jj) = some u) := fun jj u hu => by
                          rw [Addr.add_mid]
                          exact hrr0.out wc hboc jj u hu
                        obtain ⟨o0, o1, o2, o3⟩ := zcells HPC.out
                        obtain ⟨z0, z1, z2, z3⟩ := zcells hrowc
                        have hya : y * a ≤ 60 * 8 := Nat.mul_le_mul (by omega) ha8
                        have HVL : Hid ((vals (idxI r)).length = a * 1) := by show _ = _; simp [vals, idxI, HRK.out.2]
                        have hmx : y * a + a ≤ maxLen := by simp only [maxLen]; omega
                        have hmbb : (y * a + a) * 8 ≤ 140737488355328 := by omega
                        have hbs : W9.heap.size ≤ wc.heap.size := by have := (Array.getElem?_eq_some_iff.1 HPC.out).1; have := hboc.size; omega
                        have hne1 : some wi.heap.size ≠ v.ownBlock := fun e => by have := (HOWNC.out.lt _ e.symm).1; omega
                        have hne2 : some wo.heap.size ≠ v.ownBlock := fun e => by have := (hown.out.lt _ e.symm).2; omega
                        have HROWC := Lib.hid hrowc
                        have hne3 : wi.heap.size ≠ wo.heap.size := by have := (Array.getElem?_eq_some_iff.1 hpo.out).1; omega
                        clear hnb hrowc hcF hnx hboc hbc
                        go_upto_region 29 with (at_builtin; refine wpList_append_own_at _ rfl _ _ 23 rfl W9.heap.size 3 i3 _ 1 8 Tryd.underlying23 ki kz0 kz1 kz2 rfl (by decide) v _ _ rfl HOWNC.out ⟨rb, 0, none⟩ a rc (vals (idxI r)) rfl HVL.out HNS.out (vals_one _) hmx hmbb hbs ?_; intro v7 w7 hown7 hgrow7 hnil7 hat7; obtain ⟨A7, c7, rfl⟩ := own_form' hown7; have hpo7 := keepZ hgrow7 HPC.out hne1; obtain ⟨p0, p1, p2, p3⟩ := zcells hpo7; have hrow7 := keepZ hgrow7 HROWC.out hne2; obtain ⟨x0, x1, x2, x3⟩ := zcells hrow7; clear hnil7 hat7)
                        obtain ⟨w8, hw8⟩ : ∃ w8, w8 = w7.setCell ⟨wi.heap.size, 2, none⟩ (.slice A7 (y * a + a) c7) := ⟨_, rfl⟩
                        have hc8 : w8.cell? ⟨wo.heap.size, 2, none⟩ = some (.int .i64 (M : Int)) := by rw [hw8, World.cell?_setCell_other _ _ _ _ (fun e => by injection e with e1 _ _; omega)]; exact x2
                        have hpo8 : Hid (w8.heap[wi.heap.size]? = some (.cells #[.int .i64 (a : Int), .int .i64 (b : Int), .slice A7 (y * a + a) c7] 31 (0, 0))) := by
                          show _ = _
                          rw [hw8, heap_setCell_same _ _ 2 _ _ _ hpo7]
                          rfl
                        have hown8 : Hid (w8.ownsRow W9.heap.size 3 1 (.slice A7 (y * a + a) c7) ((y + 1) * a) (vals (idxI (P ++ [r]).flatten))) := by
                          have e1 : (y + 1) * a = y * a + a := by rw [Nat.add_mul, Nat.one_mul]
                          have e2 : vals (idxI (P ++ [r]).flatten) = vals (idxI P.flatten) ++ vals (idxI r) := by simp [vals, idxI]
                          show World.ownsRow _ _ _ _ _ _ _
                          rw [hw8, e1, e2]
                          exact ownsRow_setCell_below hown7 (a := ⟨wi.heap.size, 2, none⟩) hbi3 _
                        have hb8 : Hid (Below wi.heap.size wi w8) := by
                          show Below _ _ _
                          rw [hw8]
                          exact ((HBRC.out.grown hgrow7 HBRC.out.size fun kk e => by have := (HOWNC.out.lt kk e).1; omega)).setCell (p := ⟨wi.heap.size, 2, none⟩) (Nat.le_refl _) _
                        rw [← hw8]
                        clear hw8 hpo7 hrow7 hown7 hgrow7 p0 p1 p2 p3 x0 x1 x2 x3 o0 o1 o2 o3 z0 z1 z2 z3
                        go_wp2_with fail
                        go_roundw
                        case rel => exact ⟨k + 1, by omega, by go_num, Or.inr ⟨rfl, k, r, .slice A7 (y * a + a) c7, HRK, by rw [HMN.out], hno, HNX, hpo8, hown8, hb8⟩⟩
                        case measure => simp [intOf]; omega
                  · have hkz' : k = R.length := by rw [← HZR.out]; omega
                    have hnone : Hid (firstE s a b d = none) := by
                      have h1 := next_none R adm fS fN b hyb hX.out (fun k1 h1 => hno.out k1 (by omega))
                      show _ = _
                      unfold firstE
                      rw [← HXX.out, h1]
                      rfl
                    have hb3o : Below w3.heap.size w3 wo := HBT.out.trans (hbr.out.mono HBT.out.size)
                    have hp3 := (hb3o.block (w.heap.size + 1) hz3).trans HQ3R.out
                    obtain ⟨y0, y1, y2, y3⟩ := zcells hp3
                    have HP3 := Lib.hid hp3
                    have HBF : Hid (Below w.heap.size w wo) := HB03.out.trans (hb3o.mono HB03.out.size)
                    clear hp3 hb3o hkz'
                    go_wp2_with fail
                    obtain ⟨x0, x1, x2, -⟩ := zcells (row_set (a := .int .i64 0) (b := .int .i64 0) (c := .slice none 0 0) HP3.out)
                    refine bodyPost_ret (v := .tuple #[.agg #[.int .i64 0, .int .i64 0, .slice none 0 0], .bool false]) (by simp [results, Tryd.results12, go_sem, x0, x1, x2]) rfl ?_
                    refine ⟨((HBF.out.setCell (p := ⟨w.heap.size + 1, 0, none⟩) (by simp) _).setCell (p := ⟨w.heap.size + 1, 1, none⟩) (by simp) _).setCell (p := ⟨w.heap.size + 1, 2, none⟩) (by simp) _, ?_⟩
                    rw [hnone.out]
                · have hX2 : Hid (X = (stk R adm fS fN (b - (y + 1)) (y + 1) (some (fN r))).head?.map ((P ++ [r]) ++ ·)) := next_found R adm fS fN b hyb hX.out hrk.out.1 hno.out hyes.out
                  have hP2 : Hid ((P ++ [r]).length = y + 1 ∧ ∀ q ∈ P ++ [r], q.length = a) := ⟨by rw [List.length_append, hP.out.1]; rfl, fun q hq => by
                    rcases List.mem_append.1 hq with h | h
                    · exact hP.out.2 q h
                    · rw [List.mem_singleton] at h; rw [h]; exact hrk.out.2⟩
                  by_cases hkz : (k : Int) < (zn : Int)
                  · go_wp2_with fail
                    go_roundw
                    case rel => exact ⟨y + 1, P ++ [r], some (fN r), v', fN r, by omega, by go_num, rfl, Or.inr ⟨Nat.succ_ne_zero y, rfl⟩, hX2, hP2, hpo, hown, hbr⟩
                    case measure => simp [intOf]; omega
                  · go_wp2_with fail
                    go_roundw
                    case rel => exact ⟨y + 1, P ++ [r], some (fN r), v', fN r, by omega, by go_num, rfl, Or.inr ⟨Nat.succ_ne_zero y, rfl⟩, hX2, hP2, hpo, hown, hbr⟩
                    case measure => simp [intOf]; omega
            · have hye : y = b := by omega
              have hfirst : Hid (firstE s a b d = some P.flatten) := by
                have h1 := hX.out
                rw [hye, Nat.sub_self] at h1
                show _ = _
                unfold firstE
                rw [← HXX.out, h1]
                simp [stk]
              have hb3o : Below w3.heap.size w3 wy := HBT.out.trans (hbr.out.mono HBT.out.size)
              have hp3 := (hb3o.block (w.heap.size + 1) hz3).trans HQ3R.out
              obtain ⟨A7, c7, rfl⟩ := own_form' hown.out
              obtain ⟨o0, o1, o2, -⟩ := zcells hpo.out
              obtain ⟨y0, y1, y2, y3⟩ := zcells hp3
              have HP3 := Lib.hid hp3
              have HBF : Hid (Below w.heap.size w wy) := HB03.out.trans (hb3o.mono HB03.out.size)
              have hlen : Hid (y * a = P.flatten.length) := by show _ = _; rw [flatR_len P hP.out.2, hP.out.1]
              have hlt2 : w.heap.size + 1 < W9.heap.size := by omega
              clear hp3 hb3o hye
              go_wp2_with fail
              obtain ⟨x0, x1, x2, -⟩ := zcells (row_set (a := .int .i64 (a : Int)) (b := .int .i64 (b : Int)) (c := .slice A7 (y * a) c7) HP3.out)
              refine bodyPost_ret (v := .tuple #[.agg #[.int .i64 (a : Int), .int .i64 (b : Int), .slice A7 (y * a) c7], .bool true]) (by simp [results, Tryd.results12, go_sem, x0, x1, x2]) rfl ?_
              refine ⟨((HBF.out.setCell (p := ⟨w.heap.size + 1, 0, none⟩) (by simp) _).setCell (p := ⟨w.heap.size + 1, 1, none⟩) (by simp) _).setCell (p := ⟨w.heap.size + 1, 2, none⟩) (by simp) _, ?_⟩
              rw [hfirst.out]
              have ho := ownsRow_setCell_below (ownsRow_setCell_below (ownsRow_setCell_below hown.out hlt2 (.int .i64 (a : Int)) (a := ⟨w.heap.size + 1, 0, none⟩)) hlt2 (.int .i64 (b : Int)) (a := ⟨w.heap.size + 1, 1, none⟩)) hlt2 (.slice A7 (y * a) c7) (a := ⟨w.heap.size + 1, 2, none⟩)
              obtain ⟨A8, c8, e8, -, -, -, hI8, -⟩ := own_ints ho
              injection e8 with e8 _ _
              subst e8
              exact ⟨A7, c7, by rw [hlen.out], hI8⟩
end Go.Proofs.YtfepgemopcpgmaaDoor

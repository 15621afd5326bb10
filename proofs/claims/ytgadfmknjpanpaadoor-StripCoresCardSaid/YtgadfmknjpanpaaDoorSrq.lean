/-
  groutworkref04.Path: the first row, by tables of bools: walked.
-/
import Derived.Test.YtgadfmknjpanpaaDoorSrp
import Derived.Test.YtgadfmknjpanpaaDoorBt
import Derived.OneCell
namespace Go.Proofs.YtgadfmknjpanpaaDoor
open Go.RowKit Go.Maps Go.BigFrame Go.Sort
set_option linter.unusedVariables false
set_option linter.unusedSimpArgs false
set_option maxRecDepth 100000

theorem bool_infoP : (Tryd.prog.info? 4).map (fun i => (i.zero, i.size, i.bytes)) = some (some (.bool false), 1, 1) := by kernel_rfl
theorem bools_infoP : (Tryd.prog.info? 65).map (fun i => (i.zero, i.size, i.bytes)) = some (some (.slice none 0 0), 1, 24) := by kernel_rfl
theorem grown_belowB {w w' w2 : World} {q : Nat} (h : w.grownBy w' (some q)) (hb : Below w'.heap.size w' w2) : w.grownBy w2 (some q) :=
  ⟨hb.os.trans h.os, hb.tape.trans h.tape, hb.output.trans h.output, Nat.le_trans h.size hb.size, fun k hk hne => (hb.block k (Nat.lt_of_lt_of_le hk h.size)).trans (h.block k hk hne)⟩
/-- a table's row: what rows begin with a tile -/
def mayP (s : List Tl) (z : Int) (b y : Nat) (L : Int) : Bool := mpB s z (b - y) L.toNat
/-- the same while it is being made: the first i tiles are done, and tile i has g -/
def rowP (s : List Tl) (z : Int) (b y i : Nat) (g : Bool) (L : Int) : Bool := if L.toNat < i then mpB s z (b - y) L.toNat else if L.toNat = i then g else false
theorem rowP_zero (s : List Tl) (z : Int) (b y : Nat) (L : Int) : rowP s z b y 0 false L = false := by
  unfold rowP
  rw [if_neg (by omega)]
  split <;> rfl
theorem rowP_at (s : List Tl) (z : Int) (b y i : Nat) (g : Bool) : rowP s z b y i g (i : Int) = g := by
  unfold rowP
  rw [Int.toNat_natCast, if_neg (by omega), if_pos rfl]
theorem rowP_off (s : List Tl) (z : Int) (b y i : Nat) (g g' : Bool) (L : Nat) (h : L ≠ i) : rowP s z b y i g (L : Int) = rowP s z b y i g' (L : Int) := by
  unfold rowP
  rw [Int.toNat_natCast]
  by_cases h1 : L < i
  · rw [if_pos h1, if_pos h1]
  · rw [if_neg h1, if_neg h1, if_neg h, if_neg h]
theorem rowP_next (s : List Tl) (z : Int) (b y i : Nat) (L : Nat) : rowP s z b y i (mpB s z (b - y) i) (L : Int) = rowP s z b y (i + 1) false (L : Int) := by
  unfold rowP
  rw [Int.toNat_natCast]
  by_cases h1 : L < i
  · rw [if_pos h1, if_pos (by omega)]
  · rw [if_neg h1]
    by_cases h2 : L = i
    · subst h2
      rw [if_pos rfl, if_pos (by omega)]
    · rw [if_neg h2, if_neg (by omega)]
      split <;> rfl
theorem rowP_all (s : List Tl) (z : Int) (b y : Nat) (L : Nat) (hL : L < s.length) : rowP s z b y s.length false (L : Int) = mayP s z b y (L : Int) := by
  unfold rowP mayP
  rw [Int.toNat_natCast, if_pos hL]
/-- what Path returns -/
def IsRPath (s : List Tl) (f z : Int) (n : Nat) (W : World) (e : Ending) (w' : World) : Prop :=
  Below W.heap.size W w' ∧ match rgo s z n f with
    | none => e = .returned (.tuple #[.slice none 0 0, .bool false])
    | some l => ∃ A c, e = .returned (.tuple #[.slice A l.length c, .bool true]) ∧ IntsIn w' w'.heap.size A (idxI l)
set_option maxHeartbeats 16000000 in
theorem rpath_any (s : List Tl) (S : Option Addr) (m d b n1 : Nat) (fr z : Int) (w : World) (hm : m = s.length) (hml : m ≤ 1000) (hS : SetIn w w.heap.size S s) (hn1 : n1 = b + 1) (hb : b < 300000) :
    Calls Tryd.prog 19 #[.slice S m d, .int .i64 fr, .int .i64 z, .int .i64 (n1 : Int)] w (IsRPath s fr z n1 w) := by
  obtain ⟨i0, hi, hz0, hz1, hz2⟩ := info_parts bool_infoP
  obtain ⟨i2, ji, jz0, jz1, jz2⟩ := info_parts bools_infoP
  have hby : i0.bytes * m ≤ 281474976710656 := by rw [hz2]; omega
  have hby2 : i2.bytes * n1 ≤ 281474976710656 := by rw [jz2]; omega
  obtain ⟨mb, hmb⟩ : ∃ mb, mb = w.heap.size := ⟨_, rfl⟩
  have hwn : (n1 : Int) - 1 = (b : Int) := by omega
  have hwnW : IntKind.i64.wrap ((n1 : Int) - 1) = (b : Int) := by rw [IntWalk.i64_in _ (by omega)]; omega
  have hn1b : n1 ≤ 300000 := by omega
  have hb0 : (0 : Int) ≤ (b : Int) := by omega
  have HM := Lib.hid hm
  have HS := Lib.hid hS
  have HN := Lib.hid hn1
  have HB := Lib.hid hb
  clear hm hS hn1 hb
  go_enter Tryd.func19, Tryd.ntmps19
  go_upto_region 2 with (at_make; refine wpList_make_full _ rfl _ _ 83 rfl w.heap.size 65 i2 (.slice none 0 0) 1 Tryd.underlying83 ji jz0 jz1 .i64 .i64 _ _ n1 rfl rfl rfl rfl hby2 (by simp only [maxLen]; omega) (by omega) ?_; intro w5 hown5 hgrow5)
  have hb5 : Below w.heap.size w w5 := ⟨hgrow5.os, hgrow5.tape, hgrow5.output, hgrow5.size, fun k hk => hgrow5.block k hk (by simp)⟩
  have hmay5 : MayT w5 mb m b (b + 1) (mayP s z b) := by
    rw [hmb]
    refine ⟨(hown5.lt _ rfl).2, fun y hy => ⟨.slice none 0 0, ?_⟩, fun o => hown5.frozenAt o, fun y h1 h2 => by omega⟩
    have hyb : y < n1 := by rw [HN.out]; omega
    rw [hown5.cellAt y (by omega), Nat.mul_one, show (madeCells (Value.slice none 0 0).cells n1).toList[y]? = some (.slice none 0 0) from made_at _ _ _ hyb]
  rw [← hmb]
  have hmb3 : w.heap.size ≤ mb := by omega
  rw [← HN.out] at hmay5
  have HM5 := Lib.hid hmay5
  have HB5 := Lib.hid hb5
  have HMB := Lib.hid hmb
  clear hown5 hgrow5 hmay5 hb5 hmb
  go_wp2_with fail
  go_loopw [11] (fun kv wr => ∃ (k : Nat) (zk : Int), k ≤ n1 ∧ kv = .int .i64 zk ∧ Hid (zk = (k : Int) - 1) ∧ Hid (MayT wr mb m b k (mayP s z b)) ∧ Hid (Below w.heap.size w wr)) (fun kv _ => (intOf kv + 1).toNat)
  case atStart => exact ⟨n1, (b : Int), Nat.le_refl _, rfl, hwn.symm, HM5, HB5⟩
  case round =>
    clear HM5 HB5
    obtain ⟨k, zk, hk, rfl, hzk, hmt, hbt⟩ := hrel
    obtain ⟨wi, rfl⟩ : ∃ wi : World, wi = wr := ⟨_, rfl⟩
    by_cases hz0' : 0 ≤ zk
    · obtain ⟨y, rfl⟩ := Int.eq_ofNat_of_zero_le hz0'
      obtain rfl : k = y + 1 := by have := hzk.out; omega
      have hyb : y ≤ b := by have := HN.out; omega
      have hnext : Hid ((y : Int) - 1 = ((y : Nat) : Int) - 1) := rfl
      obtain ⟨vy, hvy⟩ := hmt.out.cell y hyb
      have hzy := hmt.out.fr y
      have hy1 : (y : Int) < (n1 : Int) := by omega
      have hltm := hmt.out.lt
      have hzi := hbt.out.size
      obtain ⟨q, hq⟩ : ∃ q, q = wi.heap.size := ⟨_, rfl⟩
      have hmq : mb ≠ q := by omega
      clear hzk
      go_upto_region 6 with (at_make; refine wpList_make_full _ rfl _ _ 65 rfl wi.heap.size 4 i0 (.bool false) 1 Tryd.underlying65 hi hz0 hz1 .i64 .i64 _ _ m rfl rfl rfl rfl hby (by simp only [maxLen]; omega) (by omega) ?_; intro w6 hown6 hgrow6; have hb6 : Below wi.heap.size wi w6 := ⟨hgrow6.os, hgrow6.tape, hgrow6.output, hgrow6.size, fun k hk => hgrow6.block k hk (by simp)⟩; obtain ⟨c6, z6⟩ := later_cellO hb6 hvy hzy)
      rw [← hq]
      obtain ⟨W7, hW7⟩ : ∃ W7, W7 = w6.setCell ⟨mb, y, none⟩ (.slice (some ⟨q, 0, none⟩) m m) := ⟨_, rfl⟩
      have hT7 : BTab W7 q m (rowP s z b y 0 false) := by
        have h6 : BTab w6 q m (rowP s z b y 0 false) := by
          rw [hq]
          refine ⟨(hown6.lt _ rfl).2, fun L hL => ?_, fun o => hown6.frozenAt o⟩
          rw [hown6.cellAt L (by omega), Nat.mul_one, show (madeCells (Value.bool false).cells m).toList[L]? = some (.bool false) from made_at _ _ _ hL, rowP_zero]
        rw [hW7]
        exact h6.grown (grown_setB (World.grownBy.refl w6 (some mb)) y _) (by simpa using fun e => hmq e.symm)
      have hM7 : MayT W7 mb m b (y + 1) (mayP s z b) := by rw [hW7]; exact (hmt.out.keep hb6).low (Nat.lt_succ_self y) (by omega) _
      have hno7 : ∀ y', y + 1 ≤ y' → y' ≤ b → W7.cell? ⟨mb, y', none⟩ ≠ some (.slice (some ⟨q, 0, none⟩) m m) := fun y' h1 h2 e => by
        obtain ⟨q', _, hc', ht'⟩ := hmt.out.tab y' h1 h2
        have h3 : W7.cell? ⟨mb, y', none⟩ = some (.slice (some ⟨q', 0, none⟩) m m) := by
          rw [hW7, World.cell?_setCell_other _ _ _ _ (fun e' => by injection e' with _ e2; omega)]
          exact (hb6.cell (p := ⟨mb, y', none⟩) hltm).trans hc'
        rw [h3] at e
        have hqq : q' = q := by injection e with e; injection e with e _ _; injection e with e; injection e
        have := ht'.1
        omega
      have hc7 : W7.cell? ⟨mb, y, none⟩ = some (.slice (some ⟨q, 0, none⟩) m m) := by rw [hW7]; exact World.cell?_setCell_same _ _ _ c6
      have hb17 : Below w.heap.size w W7 := by rw [hW7]; exact (hbt.out.trans (hb6.mono hzi)).setCell (p := ⟨mb, y, none⟩) hmb3 _
      have hq3 : w.heap.size ≤ q := by omega
      have HT7 := Lib.hid hT7
      have HM7 := Lib.hid hM7
      have HC7 := Lib.hid hc7
      have HB17 := Lib.hid hb17
      have HMQ := Lib.hid hmq
      have HNO7 := Lib.hid hno7
      have hGA : ∀ W, W7.grownBy W (some q) → MayT W mb m b (y + 1) (mayP s z b) ∧ W.cell? ⟨mb, y, none⟩ = some (.slice (some ⟨q, 0, none⟩) m m) ∧ Below w.heap.size w W := fun W hg =>
        ⟨HM7.out.grown hg HMQ.out HNO7.out, (World.cell?_of_block (hg.block mb HM7.out.lt (by simpa using HMQ.out))).trans HC7.out, HB17.out.trans ⟨hg.os, hg.tape, hg.output, hg.size, fun j hj => hg.block j (Nat.lt_of_lt_of_le hj HB17.out.size) (by simp; omega)⟩⟩
      have HGA := Lib.hid hGA
      clear hGA
      rw [← hW7]
      clear hW7 hT7 hM7 hc7 hb17 hown6 hgrow6 hb6 c6 z6 hvy hzy hmt hbt hq hltm hno7 hmq hzi
      go_wp2_with fail
      go_loopw [12] (fun iv wr => ∃ i : Nat, i ≤ m ∧ iv = .int .i64 (i : Int) ∧ Hid (BTab wr q m (rowP s z b y i false)) ∧ Hid (W7.grownBy wr (some q))) (fun iv _ => m - (intOf iv).toNat)
      case atStart => exact ⟨0, Nat.zero_le _, rfl, HT7, World.grownBy.refl _ _⟩
      case round =>
        clear HT7
        obtain ⟨i, hi', rfl, hT, hg⟩ := hrel
        obtain ⟨wo, rfl⟩ : ∃ wo : World, wo = wr := ⟨_, rfl⟩
        by_cases him : i < m
        · have his : i < s.length := by rw [← HM.out]; exact him
          obtain ⟨hMo, c0, hbw⟩ := HGA.out wo hg.out
          obtain ⟨xa, xo, rfl, hxa, -, t1, -, -⟩ := set_at HS.out hbw his
          obtain ⟨x, hx⟩ : ∃ x, x = (ti s i).e := ⟨_, rfl⟩
          have t1' : wo.cell? ⟨xa, xo + i * 4 + 1, none⟩ = some (.int .i64 x) := by rw [t1, hx]; rfl
          have cK := hT.out.2.1 i him
          have zK := hT.out.2.2 i
          have hi0 : (0 : Int) ≤ (i : Int) := by omega
          have him' : (i : Int) < (m : Int) := by omega
          have hy0 : (0 : Int) ≤ (y : Int) := by omega
          have HX := Lib.hid hx
          have HTS : Hid (∀ (g : Bool) W6, Below wo.heap.size wo W6 → ∀ W, W = W6.setCell ⟨q, i, none⟩ (.bool g) → BTab W q m (rowP s z b y i g) ∧ W7.grownBy W (some q)) := fun g W6 hb6 W e => by
            rw [e]
            exact ⟨(hT.out.keep hb6).set i him g (rowP_at s z b y i g).symm fun L hL hne => rowP_off s z b y i false g L hne, grown_setB (grown_belowB hg.out hb6) i _⟩
          clear his hMo hbw t1 hx hT hg
          by_cases hyl : y = b
          · have hd : decide ((y : Int) = (b : Int)) = true := decide_eq_true (by omega)
            have hd2 : ((y : Int) == (b : Int)) = true := by rw [beq_iff_eq]; omega
            have HYL := Lib.hid hyl
            clear hyl
            go_wp2_with fail
            have f1 := ext_cell t1'
            have f2 := ext_cell c0
            refine wp_region_ext_tail 19 (by kernel_rfl) (by kernel_rfl) ?_
            simp only [List.take_succ_cons, List.take_zero, List.drop_succ_cons, List.drop_zero]
            repeat (go_big_quiet_step (fail))
            refine wpQuiet_nil ?_
            intro _ hw'
            obtain ⟨xq, rfl⟩ := hw'
            obtain ⟨W8, hb8, he8⟩ : ∃ W8, Below wo.heap.size wo W8 ∧ ext wo xq = W8 := ⟨_, ext_below _, rfl⟩
            rw [he8]
            obtain ⟨cK8, zK8⟩ := later_cellO hb8 cK zK
            clear he8 xq f1 f2
            go_wp2_with fail
            obtain ⟨g, hg0⟩ : ∃ g, g = (x == z) := ⟨_, rfl⟩
            rw [← hg0]
            obtain ⟨W9, hW9⟩ : ∃ W9, W9 = W8.setCell ⟨q, i, none⟩ (.bool g) := ⟨_, rfl⟩
            obtain ⟨hT9, hg9⟩ := HTS.out g W8 hb8 W9 hW9
            have hT9' : BTab W9 q m (rowP s z b y (i + 1) false) := hT9.congr fun L hL => by
              rw [← rowP_next, ← HYL.out, Nat.sub_self]
              have : g = mpB s z 0 i := by rw [hg0, mpB, ← HX.out]; rfl
              rw [this]
            have HT9 := Lib.hid hT9'
            have HG9 := Lib.hid hg9
            have hbl : (b : Int) ≤ (y : Int) := by have := HYL.out; omega
            rw [← hW9]
            clear hT9 hg9 hT9' hW9 hg0 cK8 zK8 hb8 cK zK c0 t1' hd hd2
            go_loopw [13] (fun jv wr => jv = .int .i64 0 ∧ Hid (BTab wr q m (rowP s z b y (i + 1) false)) ∧ Hid (W7.grownBy wr (some q))) (fun _ _ => 0)
            case atStart => exact ⟨rfl, HT9, HG9⟩
            case round =>
              clear HT9 HG9
              obtain ⟨rfl, hT, hg⟩ := hrel
              obtain ⟨wl, rfl⟩ : ∃ wl : World, wl = wr := ⟨_, rfl⟩
              go_wp2_with fail
              go_roundw
              case rel => exact ⟨i + 1, by omega, by go_num, hT, hg⟩
              case measure => simp [intOf]; omega
          · have hylt : y < b := by omega
            have hd2 : ((y : Int) == (b : Int)) = false := by rw [beq_eq_false_iff_ne]; omega
            have hylt' : (y : Int) < (b : Int) := by omega
            obtain ⟨r, hr⟩ : ∃ r, r = b - (y + 1) := ⟨_, rfl⟩
            have hr1 : b - y = r + 1 := by omega
            obtain ⟨y1, hy1e⟩ : ∃ y1, y1 = y + 1 := ⟨_, rfl⟩
            have hwy : IntKind.i64.wrap ((y : Int) + 1) = (y1 : Int) := by rw [IntWalk.i64_in _ (by omega)]; omega
            have hy10 : (0 : Int) ≤ (y1 : Int) := by omega
            have hy11 : (y1 : Int) < (n1 : Int) := by rw [HN.out]; omega
            have HYL := Lib.hid hylt
            have HR := Lib.hid hr
            have HR1 := Lib.hid hr1
            have HY1 := Lib.hid hy1e
            clear hyl hylt hr hr1
            clear hy1e
            go_wp2_with fail
            have f2 := ext_cell c0
            refine wp_region_ext_tail 19 (by kernel_rfl) (by kernel_rfl) ?_
            simp only [List.take_succ_cons, List.take_zero, List.drop_succ_cons, List.drop_zero]
            repeat (go_big_quiet_step (fail))
            refine wpQuiet_nil ?_
            intro _ hw'
            obtain ⟨xq, rfl⟩ := hw'
            obtain ⟨W8, hb8, he8⟩ : ∃ W8, Below wo.heap.size wo W8 ∧ ext wo xq = W8 := ⟨_, ext_below _, rfl⟩
            rw [he8]
            obtain ⟨cK8, zK8⟩ := later_cellO hb8 cK zK
            clear he8 xq f2 hd2
            go_wp2_with fail
            obtain ⟨W9, hW9⟩ : ∃ W9, W9 = W8.setCell ⟨q, i, none⟩ (.bool false) := ⟨_, rfl⟩
            obtain ⟨hT9, hg9⟩ := HTS.out false W8 hb8 W9 hW9
            have HT9 := Lib.hid hT9
            have HG9 := Lib.hid hg9
            rw [← hW9]
            clear hT9 hg9 hW9 cK8 zK8 hb8 cK zK c0 t1'
            go_loopw [13] (fun jv wr => ∃ j : Nat, j ≤ m ∧ jv = .int .i64 (j : Int) ∧ Hid (BTab wr q m (rowP s z b y i (mpG s z r i j))) ∧ Hid (W7.grownBy wr (some q))) (fun jv _ => m - (intOf jv).toNat)
            case atStart => exact ⟨0, Nat.zero_le _, rfl, HT9, HG9⟩
            case round =>
              clear HT9 HG9 HTS
              obtain ⟨j, hj, rfl, hT, hg⟩ := hrel
              obtain ⟨wl, rfl⟩ : ∃ wl : World, wl = wr := ⟨_, rfl⟩
              obtain ⟨hMl, c0, hbw⟩ := HGA.out wl hg.out
              have cK := hT.out.2.1 i him
              have zK := hT.out.2.2 i
              obtain ⟨g, hg0⟩ : ∃ g, g = mpG s z r i j := ⟨_, rfl⟩
              rw [rowP_at, ← hg0] at cK
              have HGJ := Lib.hid hg0
              by_cases hjm : j < m
              · cases g
                · have hjs : j < s.length := by rw [← HM.out]; exact hjm
                  have his : i < s.length := by rw [← HM.out]; exact him
                  obtain ⟨xa', xo', hxe', hxa', -, t1, -, -⟩ := set_at HS.out hbw his
                  obtain ⟨xa'', xo'', hxe, hxa'', -, -, -, t3⟩ := set_at HS.out hbw hjs
                  obtain ⟨rfl, rfl⟩ : xa' = xa ∧ xo' = xo := by simp only [Option.some.injEq, Addr.mk.injEq, and_true] at hxe'; exact ⟨hxe'.1.symm, hxe'.2.symm⟩
                  obtain ⟨rfl, rfl⟩ : xa'' = xa' ∧ xo'' = xo' := by simp only [Option.some.injEq, Addr.mk.injEq, and_true] at hxe; exact ⟨hxe.1.symm, hxe.2.symm⟩
                  obtain ⟨u, hu⟩ : ∃ u, u = (ti s j).w := ⟨_, rfl⟩
                  have t1' : wl.cell? ⟨xa'', xo'' + i * 4 + 1, none⟩ = some (.int .i64 x) := by rw [t1, HX.out]; rfl
                  have t3' : wl.cell? ⟨xa'', xo'' + j * 4 + 3, none⟩ = some (.int .i64 u) := by rw [t3, hu]; rfl
                  obtain ⟨q1, hq1m, cq1, hB1⟩ := hMl.tab (y + 1) (Nat.le_refl _) (by have := HYL.out; omega)
                  rw [← HY1.out] at cq1
                  have c1 := hB1.2.1 j hjm
                  obtain ⟨mv, hmv⟩ : ∃ mv, mv = mpB s z r j := ⟨_, rfl⟩
                  have c1' : wl.cell? ⟨q1, j, none⟩ = some (.bool mv) := by
                    rw [c1]
                    unfold mayP
                    rw [Int.toNat_natCast, ← HR.out, ← hmv]
                  have HSU : Hid (mpG s z r i (j + 1) = (mv && (x == u))) := by
                    show _ = _
                    rw [mpG_succ, ← HGJ.out, ← hmv, Bool.false_or, HX.out, hu]
                    rfl
                  have HTS2 : Hid (∀ (g : Bool) W6, Below wl.heap.size wl W6 → ∀ W, W = W6.setCell ⟨q, i, none⟩ (.bool g) → BTab W q m (rowP s z b y i g) ∧ W7.grownBy W (some q)) := fun g W6 hb6 W e => by
                    rw [e]
                    exact ⟨(hT.out.keep hb6).set i him g (rowP_at s z b y i g).symm fun L hL hne => rowP_off s z b y i _ g L hne, grown_setB (grown_belowB hg.out hb6) i _⟩
                  have hj0 : (0 : Int) ≤ (j : Int) := by omega
                  have hjm' : (j : Int) < (m : Int) := by omega
                  clear hjs his t1 t3 hxe hxe' hxa' hxa'' hu hB1 c1 hmv hT hg hMl hbw hg0 hq1m hxa
                  cases mv
                  · go_wp2_with fail
                    have f0 := ext_cell c0
                    have f1 := ext_cell c1'
                    have f2 := ext_cell cq1
                    refine wp_region_ext_tail 27 (by kernel_rfl) (by kernel_rfl) ?_
                    simp only [List.take_succ_cons, List.take_zero, List.drop_succ_cons, List.drop_zero]
                    repeat (go_big_quiet_step (fail))
                    refine wpQuiet_nil ?_
                    intro _ hw'
                    obtain ⟨xq, rfl⟩ := hw'
                    obtain ⟨W8, hb8, he8⟩ : ∃ W8, Below wl.heap.size wl W8 ∧ ext wl xq = W8 := ⟨_, ext_below _, rfl⟩
                    rw [he8]
                    obtain ⟨cK8, zK8⟩ := later_cellO hb8 cK zK
                    have HB8 := Lib.hid hb8
                    clear he8 xq f0 f1 f2 hb8
                    go_wp2_with fail
                    go_roundw
                    case rel =>
                      obtain ⟨h1, h2⟩ := HTS2.out false W8 HB8.out _ rfl
                      exact ⟨j + 1, by omega, by go_num, Lib.hid (by rw [HSU.out]; exact h1), h2⟩
                    case measure => simp [intOf]; omega
                  · go_wp2_with fail
                    have f0 := ext_cell c0
                    have f1 := ext_cell c1'
                    have f2 := ext_cell cq1
                    have f3 := ext_cell t1'
                    have f4 := ext_cell t3'
                    refine wp_region_ext_tail 27 (by kernel_rfl) (by kernel_rfl) ?_
                    simp only [List.take_succ_cons, List.take_zero, List.drop_succ_cons, List.drop_zero]
                    repeat (go_big_quiet_step (fail))
                    refine wpQuiet_nil ?_
                    intro _ hw'
                    obtain ⟨xq, rfl⟩ := hw'
                    obtain ⟨W8, hb8, he8⟩ : ∃ W8, Below wl.heap.size wl W8 ∧ ext wl xq = W8 := ⟨_, ext_below _, rfl⟩
                    rw [he8]
                    obtain ⟨cK8, zK8⟩ := later_cellO hb8 cK zK
                    have HB8 := Lib.hid hb8
                    clear he8 xq f0 f1 f2 f3 f4 hb8
                    go_wp2_with fail
                    go_roundw
                    case rel =>
                      obtain ⟨h1, h2⟩ := HTS2.out (x == u) W8 HB8.out _ rfl
                      exact ⟨j + 1, by omega, by go_num, Lib.hid (by rw [HSU.out, Bool.true_and]; exact h1), h2⟩
                    case measure => simp [intOf]; omega
                · have hTn : Hid (BTab wl q m (rowP s z b y (i + 1) false)) := hT.out.congr fun L hL => by
                    have e : mpG s z r i j = mpB s z (b - y) i := by
                      rw [HR1.out, mpG_true s z r i j (by rw [← HM.out]; omega) HGJ.out.symm]
                      exact HGJ.out.symm
                    rw [e, rowP_next]
                  clear hT hMl hbw hg0
                  go_wp2_with fail
                  go_roundw
                  case rel => exact ⟨i + 1, by omega, by go_num, hTn, hg⟩
                  case measure => simp [intOf]; omega
              · have hTn : Hid (BTab wl q m (rowP s z b y (i + 1) false)) := hT.out.congr fun L hL => by
                  have e : mpG s z r i j = mpB s z (b - y) i := by
                    obtain rfl : j = m := by omega
                    rw [HR1.out, HM.out, mpG_all]
                  rw [e, rowP_next]
                clear hT hMl hbw hg0
                go_wp2_with fail
                go_roundw
                case rel => exact ⟨i + 1, by omega, by go_num, hTn, hg⟩
                case measure => simp [intOf]; omega
        · have hTq : BTab wo q m (mayP s z b y) := hT.out.congr fun L hL => by
            obtain rfl : i = m := by omega
            rw [HM.out, rowP_all s z b y L (by rw [← HM.out]; exact hL)]
          obtain ⟨hMo, c0, hbw⟩ := HGA.out wo hg.out
          have hMn : Hid (MayT wo mb m b y (mayP s z b)) := hMo.down c0 (fun e => HMQ.out e.symm) hTq
          have HBW := Lib.hid hbw
          clear hT hg hTq c0 hMo hbw
          go_wp2_with fail
          go_roundw
          case rel => exact ⟨y, (y : Int) - 1, by omega, rfl, rfl, hMn, HBW⟩
          case measure => simp [intOf]
    · have HKN : Hid (∀ (e : Ending) (w' : World), e = .returned (.tuple #[.slice none 0 0, .bool false]) → rgo s z n1 fr = none → Below w.heap.size w w' → IsRPath s fr z n1 w e w') := fun e w' h1 h2 h3 => ⟨h3, by rw [h2]; exact h1⟩
      have HKS : Hid (∀ (e : Ending) (w' : World) (P : List Nat) A c, e = .returned (.tuple #[.slice A P.length c, .bool true]) → rgo s z n1 fr = some P → IntsIn w' w'.heap.size A (idxI P) → Below w.heap.size w w' → IsRPath s fr z n1 w e w') := fun e w' P A c h1 h2 h4 h3 => ⟨h3, by rw [h2]; exact ⟨A, c, h1, h4⟩⟩
      have hk0 : k = 0 := by have := hzk.out; omega
      subst hk0
      have HMT := Lib.hid hmt.out
      have HBT := Lib.hid hbt.out
      clear hmt hbt hzk
      obtain ⟨i3, ki, kz0, kz1, kz2⟩ := info_parts int_info
      have hs0 := HBT.out.size
      go_wp2_with fail
      go_loopw [1, 14, 15] (fun fv ov kv wr => ∃ (k : Nat) (P : List Nat) (v : Value) (f : Int), k ≤ n1 ∧ kv = .int .i64 (k : Int) ∧ ov = v ∧ fv = .int .i64 f ∧ Hid (rgo s z n1 fr = (rgo s z (n1 - k) f).map (P ++ ·)) ∧ Hid (P.length = k) ∧ Hid (wr.ownsRow wi.heap.size 3 1 v k (vals (idxI P))) ∧ Hid (Below wi.heap.size wi wr)) (fun fv ov kv _ => n1 - (intOf kv).toNat)
      case atStart => exact ⟨0, [], .slice none 0 0, fr, Nat.zero_le _, rfl, rfl, rfl, Lib.hid (by simp), rfl, World.ownsRow_nil _ _ _ _, Lib.hid (Below.refl _ _)⟩
      case round =>
        obtain ⟨k, P, v, f, hk, rfl, hov, rfl, hX, hPl, hown, hbr⟩ := hrel
        have hov' := hov.symm
        clear hov
        subst hov'
        obtain ⟨wo, rfl⟩ : ∃ wo : World, wo = wr := ⟨_, rfl⟩
        by_cases hkn : k < n1
        · have hkb : k ≤ b := by have := HN.out; omega
          have hkb' : n1 - k = (b - k) + 1 := by have := HN.out; omega
          rw [hkb'] at hX
          obtain ⟨q1, -, cq1, hB1⟩ := (HMT.out.keep hbr.out).tab k (Nat.zero_le _) hkb
          have hk0 : (0 : Int) ≤ (k : Int) := by omega
          have hk1 : (k : Int) < (n1 : Int) := by omega
          have HB1 := Lib.hid hB1
          have HKB := Lib.hid hkb
          have HKB' := Lib.hid hkb'
          clear hB1 hkb hkb'
          go_wp2_with fail
          go_loop [16, 17] (fun av iv => ∃ (i : Nat) (c : Int), i ≤ m ∧ iv = .int .i64 (i : Int) ∧ av = .int .i64 c ∧ Hid ((c = -1 ∧ ∀ i', i' < i → (mpB s z (b - k) i' && decide ((ti s i').w = f)) = false) ∨ ∃ j : Nat, c = (j : Int) ∧ j < m ∧ (mpB s z (b - k) j && decide ((ti s j).w = f)) = true ∧ ∀ i', i' < j → (mpB s z (b - k) i' && decide ((ti s i').w = f)) = false)) (fun av iv => m - (intOf iv).toNat)
          case atStart => exact ⟨0, -1, Nat.zero_le _, rfl, rfl, Lib.hid (Or.inl ⟨rfl, fun i' h => absurd h (Nat.not_lt_zero _)⟩)⟩
          case round =>
            obtain ⟨i, c, hi', rfl, rfl, hor⟩ := hrel
            rcases hor with ⟨rfl, hno⟩ | ⟨j, rfl, hjm, hfj, hno⟩
            · have HNO := Lib.hid hno
              clear hno
              by_cases him : i < m
              · have his : i < s.length := by rw [← HM.out]; exact him
                have hbw : Below w.heap.size w wo := HBT.out.trans (hbr.out.mono hs0)
                obtain ⟨xa, xo, rfl, hxa, -, -, -, t3⟩ := set_at HS.out hbw his
                obtain ⟨u, hu⟩ : ∃ u, u = (ti s i).w := ⟨_, rfl⟩
                have t3' : wo.cell? ⟨xa, xo + i * 4 + 3, none⟩ = some (.int .i64 u) := by rw [t3, hu]; rfl
                obtain ⟨mv, hmv⟩ : ∃ mv, mv = mpB s z (b - k) i := ⟨_, rfl⟩
                have c1 : wo.cell? ⟨q1, i, none⟩ = some (.bool mv) := by
                  rw [HB1.out.2.1 i him, hmv]
                  rfl
                have HMV := Lib.hid hmv
                have HU := Lib.hid hu
                have hi0 : (0 : Int) ≤ (i : Int) := by omega
                have him' : (i : Int) < (m : Int) := by omega
                clear his hbw t3 hu hmv
                cases mv
                · go_wp2_with fail
                  go_round
                  case rel => exact ⟨i + 1, -1, by omega, by go_num, rfl, Lib.hid (Or.inl ⟨rfl, fun i' h => by
                    by_cases e : i' = i
                    · subst e; rw [← HMV.out, Bool.false_and]
                    · exact HNO.out i' (by omega)⟩)⟩
                  case measure => simp [intOf]; omega
                · by_cases huf : u = f
                  · have hd : (u == f) = true := by rw [beq_iff_eq]; exact huf
                    have HUF := Lib.hid huf
                    clear huf
                    go_wp2_with fail
                    go_round
                    case rel => exact ⟨i + 1, (i : Int), by omega, by go_num, rfl, Lib.hid (Or.inr ⟨i, rfl, him, by rw [← HMV.out, ← HU.out, HUF.out]; simp, HNO.out⟩)⟩
                    case measure => simp [intOf]; omega
                  · have hd : (u == f) = false := by rw [beq_eq_false_iff_ne]; exact huf
                    have HUF := Lib.hid huf
                    clear huf
                    go_wp2_with fail
                    go_round
                    case rel => exact ⟨i + 1, -1, by omega, by go_num, rfl, Lib.hid (Or.inl ⟨rfl, fun i' h => by
                      by_cases e : i' = i
                      · subst e; rw [← HU.out, decide_eq_false HUF.out, Bool.and_false]
                      · exact HNO.out i' (by omega)⟩)⟩
                    case measure => simp [intOf]; omega
              · have HXN : Hid (rgo s z n1 fr = none) := by
                  show _ = _
                  rw [hX.out, rgo_none s z (b - k) f (fun j hj => HNO.out j (by have := HM.out; omega))]
                  rfl
                go_wp2_with fail
                go_ret2
                exact HKN.out _ _ rfl HXN.out (HBT.out.trans (hbr.out.mono hs0))
            · have hjs : j < s.length := by rw [← HM.out]; exact hjm
              have hbw : Below w.heap.size w wo := HBT.out.trans (hbr.out.mono hs0)
              obtain ⟨xa, xo, rfl, hxa, -⟩ := set_at HS.out hbw hjs
              obtain ⟨x, hx⟩ : ∃ x, x = (ti s j).e := ⟨_, rfl⟩
              have hTC : ∀ W, Below w.heap.size w W → W.cell? ⟨xa, xo + j * 4 + 1, none⟩ = some (.int .i64 x) := fun W hb => by
                obtain ⟨xa', xo', hxe, -, -, t1, -, -⟩ := set_at HS.out hb hjs
                obtain ⟨rfl, rfl⟩ : xa' = xa ∧ xo' = xo := by simp only [Option.some.injEq, Addr.mk.injEq, and_true] at hxe; exact ⟨hxe.1.symm, hxe.2.symm⟩
                rw [t1, hx]; rfl
              have hX2 : Hid (rgo s z n1 fr = (rgo s z (n1 - (k + 1)) x).map ((P ++ [j]) ++ ·)) := by
                show _ = _
                rw [hX.out, rgo_some s z (b - k) f hjs hfj hno, ← hx, show n1 - (k + 1) = b - k by have := HKB'.out; omega, Option.map_map]
                congr 1
                funext l
                simp
              have hHO : Hid (∀ W : World, Below wo.heap.size wo W → W.ownsRow wi.heap.size 3 1 v k (vals (idxI P))) := fun W hW => own_keep' hown.out hW
              have hHL : Hid (∀ q, v.ownBlock = some q → wi.heap.size ≤ q) := fun q e => (hown.out.lt q e).1
              have hbs : wi.heap.size ≤ wo.heap.size := hbr.out.size
              have hTW : Hid (∀ W, Below wi.heap.size wi W → W.cell? ⟨xa, xo + j * 4 + 1, none⟩ = some (.int .i64 x)) := fun W hb => hTC W (HBT.out.trans (hb.mono hs0))
              have hBA : Below wi.heap.size wi (wo.alloc (.cells #[.int .i64 (j : Int)] 3)) := hbr.out.alloc hbs _
              have hBAd : Below wi.heap.size wi (wo.alloc (.cells #[.int .i64 (j : Int)] 3)).drew := hBA.drew
              have t1' := hTW.out _ hbr.out
              have t1a := hTW.out _ hBA
              have hPL2 : Hid ((P ++ [j]).length = k + 1) := by show _ = _; rw [List.length_append, hPl.out]; rfl
              have hev : vals (idxI P) ++ [.int .i64 (j : Int)] = vals (idxI (P ++ [j])) := by simp [vals, idxI]
              have hj0 : (0 : Int) ≤ (j : Int) := by omega
              have hjm' : (j : Int) < (m : Int) := by omega
              have hk13 : k + 1 ≤ 300000 := by omega
              have HBAd := Lib.hid hBAd
              have HEV := Lib.hid hev
              clear hjs hbw hTC hfj hno hxa hx hown hBA hBAd hX hPl hev
              by_cases him : i < m
              all_goals
                go_wp2_with fail
                go_region_law (first
                  | ((with_reducible refine step_append_own2 rfl (.tmp 140) (.tmp 142) 25 rfl wi.heap.size 3 i3 (.int .i64 0) 1 8 Tryd.underlying25 ki kz0 kz1 kz2 rfl (by decide) v k (vals (idxI P)) ?_ ?_ ⟨wo.heap.size, 0, none⟩ 1 1 [.int .i64 (j : Int)] ?_ rfl ?_ ?_ ?_ ?_ ?_ ?_); (focus (first | rfl | (simp [Act.eval, Act.put]; done))); (focus (refine hHO.out _ ?_; first | exact ((Below.refl _ _).alloc (Nat.le_refl _) _).drew | exact (Below.refl _ _).drew.alloc (Nat.le_refl _) _ | exact (Below.refl _ _).alloc (Nat.le_refl _) _)); (focus (first | rfl | (simp [Act.eval, Act.put]; done))); (focus (exact fun jj uu hh => cell_news wo wo.heap.size rfl [.int .i64 (j : Int)] _ jj uu hh)); (focus (intro u hu; simp at hu; rw [hu]; rfl)); (focus (simp only [maxLen]; omega)); (focus omega); (focus (first | (simp; omega) | omega)); intro v9 w9 hown9 hgrow9 hat9; rw [HEV.out] at hown9; have hb9 : Below wi.heap.size wi w9 := HBAd.out.grown hgrow9 (Nat.le_trans hbs (by simp)) (fun q e => hHL.out q e); have t19 := hTW.out _ hb9)
                  | fail)
                all_goals
                  have HOW9 : Hid (w9.ownsRow wi.heap.size 3 1 v9 (k + 1) (vals (idxI (P ++ [j])))) := hown9
                  have HBE9 := Lib.hid hb9
                  clear hown9 hgrow9 hat9 hb9 t1' t1a
                  go_wp2_with fail
                  go_roundw
                  case rel => exact ⟨k + 1, P ++ [j], v9, x, by omega, by go_num, rfl, rfl, hX2, hPL2, HOW9, by first | exact HBE9 | exact Lib.hid HBE9.out.drew⟩
                  case measure => simp [intOf]; omega
        · obtain rfl : k = n1 := by omega
          have hXE : rgo s z k fr = some P := by
            rw [hX.out, Nat.sub_self]
            simp [rgo]
          obtain ⟨A, c, rfl, hlen, -, -, hI, -⟩ := own_ints hown.out
          obtain rfl : k = P.length := hPl.out.symm
          have HXE := Lib.hid hXE
          have HI := Lib.hid hI
          have HW := Lib.hid (HBT.out.trans (hbr.out.mono hs0))
          clear hX hPl hown hbr hXE hI hlen
          go_wp2_with fail
          go_ret2
          exact HKS.out _ _ P A c rfl HXE.out HI.out HW.out
end Go.Proofs.YtgadfmknjpanpaaDoor

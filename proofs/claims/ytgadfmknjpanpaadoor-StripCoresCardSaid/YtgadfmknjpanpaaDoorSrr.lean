/-
  groutworkref04.Rows: how long the longest row is, by tables of bools: walked.
-/
import Derived.Test.YtgadfmknjpanpaaDoorSd
import Derived.Test.YtgadfmknjpanpaaDoorSp
import Derived.Test.YtgadfmknjpanpaaDoorSrq
namespace Go.Proofs.YtgadfmknjpanpaaDoor
open Go.RowKit Go.Maps Go.BigFrame Go.Sort
set_option linter.unusedVariables false
set_option linter.unusedSimpArgs false
set_option maxRecDepth 100000

/-- a row of n + 1 tiles begins with tile i -/
def canF (s : List Tl) : Nat → Nat → Bool
  | 0, i => true
  | n + 1, i => (List.range s.length).any fun k => canF s n k && decide ((ti s i).e = (ti s k).w)
def canG (s : List Tl) (n i k : Nat) : Bool := (List.range k).any fun k => canF s n k && decide ((ti s i).e = (ti s k).w)
theorem canG_all (s : List Tl) (n i : Nat) : canG s n i s.length = canF s (n + 1) i := rfl
theorem canG_succ (s : List Tl) (n i k : Nat) : canG s n i (k + 1) = (canG s n i k || (canF s n k && decide ((ti s i).e = (ti s k).w))) := by
  unfold canG
  rw [List.range_succ, List.any_append]
  simp
theorem canG_true (s : List Tl) (n i k : Nat) (hk : k ≤ s.length) (h : canG s n i k = true) : canF s (n + 1) i = true := by
  unfold canG at h
  obtain ⟨j, hj, hp⟩ := List.any_eq_true.1 h
  rw [canF]
  exact List.any_eq_true.2 ⟨j, List.mem_range.2 (by have := List.mem_range.1 hj; omega), hp⟩
theorem canF_begins (s : List Tl) : ∀ n i, i < s.length → (canF s n i = true ↔ begins s (n + 1) i)
  | 0, i, hi => ⟨fun _ => ⟨hi, Or.inl rfl⟩, fun _ => rfl⟩
  | n + 1, i, hi => by
    rw [canF, List.any_eq_true]
    constructor
    · rintro ⟨k, hk, hp⟩
      rw [Bool.and_eq_true, decide_eq_true_eq] at hp
      exact ⟨hi, Or.inr ⟨k, hp.2.symm, (canF_begins s n k (List.mem_range.1 hk)).1 hp.1⟩⟩
    · rintro ⟨-, h⟩
      obtain ⟨j, he, hb⟩ := h.resolve_left (by omega)
      refine ⟨j, List.mem_range.2 hb.1, ?_⟩
      rw [Bool.and_eq_true, decide_eq_true_eq]
      exact ⟨(canF_begins s n j hb.1).2 hb, he.symm⟩
theorem rounds_can (s : List Tl) (n : Nat) : (rounds (leadP s) n (List.range s.length)).isEmpty = !((List.range s.length).any fun i => canF s n i) := by
  cases hr : rounds (leadP s) n (List.range s.length) with
  | nil =>
    have : ((List.range s.length).any fun i => canF s n i) = false := by
      rw [List.any_eq_false]
      intro i hi h
      have := (mem_lead s n i).2 ((canF_begins s n i (List.mem_range.1 hi)).1 h)
      rw [hr] at this
      cases this
    rw [this]
    rfl
  | cons a l =>
    have hb := (mem_lead s n a).1 (by rw [hr]; simp)
    have : ((List.range s.length).any fun i => canF s n i) = true := List.any_eq_true.2 ⟨a, List.mem_range.2 hb.1, (canF_begins s n a hb.1).2 hb⟩
    rw [this]
    rfl
/-- the table of round n -/
def canT (s : List Tl) (n : Nat) (L : Int) : Bool := canF s n L.toNat
/-- the next one while it is being made -/
def rowC (s : List Tl) (n i : Nat) (g : Bool) (L : Int) : Bool := if L.toNat < i then canF s (n + 1) L.toNat else if L.toNat = i then g else false
theorem rowC_zero (s : List Tl) (n : Nat) (L : Int) : rowC s n 0 false L = false := by
  unfold rowC
  rw [if_neg (by omega)]
  split <;> rfl
theorem rowC_at (s : List Tl) (n i : Nat) (g : Bool) : rowC s n i g (i : Int) = g := by
  unfold rowC
  rw [Int.toNat_natCast, if_neg (by omega), if_pos rfl]
theorem rowC_off (s : List Tl) (n i : Nat) (g g' : Bool) (L : Nat) (h : L ≠ i) : rowC s n i g (L : Int) = rowC s n i g' (L : Int) := by
  unfold rowC
  rw [Int.toNat_natCast]
  by_cases h1 : L < i
  · rw [if_pos h1, if_pos h1]
  · rw [if_neg h1, if_neg h1, if_neg h, if_neg h]
theorem rowC_next (s : List Tl) (n i : Nat) (L : Nat) : rowC s n i (canF s (n + 1) i) (L : Int) = rowC s n (i + 1) false (L : Int) := by
  unfold rowC
  rw [Int.toNat_natCast]
  by_cases h1 : L < i
  · rw [if_pos h1, if_pos (by omega)]
  · rw [if_neg h1]
    by_cases h2 : L = i
    · subst h2
      rw [if_pos rfl, if_pos (by omega)]
    · rw [if_neg h2, if_neg (by omega)]
      split <;> rfl
theorem rowC_all (s : List Tl) (n : Nat) (L : Nat) (hL : L < s.length) : rowC s n s.length false (L : Int) = canT s (n + 1) (L : Int) := by
  unfold rowC canT
  rw [Int.toNat_natCast, if_pos hL]
/-- is there such a row among those that begin with the first i tiles? -/
def anyC (s : List Tl) (n i : Nat) : Bool := (List.range i).any fun k => canF s n k
theorem anyC_succ (s : List Tl) (n i : Nat) : anyC s n (i + 1) = (anyC s n i || canF s n i) := by
  unfold anyC
  rw [List.range_succ, List.any_append]
  simp
/-- what Rows returns -/
def IsRRows (s : List Tl) (W : World) (e : Ending) (w' : World) : Prop :=
  Below W.heap.size W w' ∧ match rowsL s with
    | none => e = .returned (.tuple #[.int .i64 0, .bool false])
    | some n => e = .returned (.tuple #[.int .i64 (n : Int), .bool true])
theorem rowsL_can {s : List Tl} {n : Nat} (hn : n ≤ s.length) (h : anyC s n s.length = false) (hno : ∀ j, j < n → anyC s j s.length = true) : rowsL s = some n := by
  unfold rowsL
  refine range_find (by omega) ?_ fun i hi => ?_
  · rw [rounds_can]; unfold anyC at h; rw [h]; rfl
  · rw [rounds_can]; have := hno i hi; unfold anyC at this; rw [this]; rfl
theorem rowsL_can_none {s : List Tl} (hno : ∀ j, j < s.length + 1 → anyC s j s.length = true) : rowsL s = none := by
  unfold rowsL
  rw [List.find?_eq_none]
  intro i hi
  rw [rounds_can]
  have := hno i (List.mem_range.1 hi)
  unfold anyC at this
  rw [this]
  decide
set_option maxHeartbeats 16000000 in
theorem rrows_any (s : List Tl) (S : Option Addr) (m d : Nat) (w : World) (hm : m = s.length) (hml : m ≤ 1000) (hS : SetIn w w.heap.size S s) :
    Calls Tryd.prog 13 #[.slice S m d] w (IsRRows s w) := by
  obtain ⟨i0, hi, hz0, hz1, hz2⟩ := info_parts bool_infoP
  have hby : i0.bytes * m ≤ 281474976710656 := by rw [hz2]; omega
  have HKS : Hid (∀ (n : Nat) (e : Ending) (w' : World), e = .returned (.tuple #[.int .i64 (n : Int), .bool true]) → rowsL s = some n → Below w.heap.size w w' → IsRRows s w e w') := fun n e w' h1 h2 h3 => ⟨h3, by rw [h2]; exact h1⟩
  have HKN : Hid (∀ (e : Ending) (w' : World), e = .returned (.tuple #[.int .i64 0, .bool false]) → rowsL s = none → Below w.heap.size w w' → IsRRows s w e w') := fun e w' h1 h2 h3 => ⟨h3, by rw [h2]; exact h1⟩
  obtain ⟨q0, hq0⟩ : ∃ q0, q0 = w.heap.size := ⟨_, rfl⟩
  have HM := Lib.hid hm
  have HS := Lib.hid hS
  clear hm hS
  go_enter Tryd.func13, Tryd.ntmps13
  go_upto_region 2 with (at_make; refine wpList_make_full _ rfl _ _ 65 rfl w.heap.size 4 i0 (.bool false) 1 Tryd.underlying65 hi hz0 hz1 .i64 .i64 _ _ m rfl rfl rfl rfl hby (by simp only [maxLen]; omega) (by omega) ?_; intro w5 hown5 hgrow5)
  have hb5 : Below w.heap.size w w5 := ⟨hgrow5.os, hgrow5.tape, hgrow5.output, hgrow5.size, fun k hk => hgrow5.block k hk (by simp)⟩
  have hT5 : BTab w5 q0 m (fun l => decide (l < ((0 : Nat) : Int))) := by
    rw [hq0]
    refine ⟨(hown5.lt _ rfl).2, fun L hL => ?_, fun o => hown5.frozenAt o⟩
    rw [hown5.cellAt L (by omega), Nat.mul_one, show (madeCells (Value.bool false).cells m).toList[L]? = some (.bool false) from made_at _ _ _ hL]
    show some (Value.bool false) = some (Value.bool (decide ((L : Int) < ((0 : Nat) : Int))))
    rw [decide_eq_false (by omega)]
  rw [← hq0]
  have hq3 : w.heap.size ≤ q0 := by omega
  have HT5 := Lib.hid hT5
  have HB5 := Lib.hid hb5
  clear hown5 hgrow5 hT5 hb5 hq0
  go_wp2_with fail
  go_loopw [5] (fun iv wr => ∃ i : Nat, i ≤ m ∧ iv = .int .i64 (i : Int) ∧ Hid (BTab wr q0 m (fun l => decide (l < (i : Int)))) ∧ Hid (Below w.heap.size w wr)) (fun iv _ => m - (intOf iv).toNat)
  case atStart => exact ⟨0, Nat.zero_le _, rfl, HT5, HB5⟩
  case round =>
    clear HT5 HB5
    obtain ⟨i, hi', rfl, hT, hbr⟩ := hrel
    obtain ⟨wo, rfl⟩ : ∃ wo : World, wo = wr := ⟨_, rfl⟩
    by_cases him : i < m
    · have cK := hT.out.2.1 i him
      have zK := hT.out.2.2 i
      have hi0 : (0 : Int) ≤ (i : Int) := by omega
      have him' : (i : Int) < (m : Int) := by omega
      have HTS : Hid (BTab (wo.setCell ⟨q0, i, none⟩ (.bool true)) q0 m (fun l => decide (l < ((i + 1 : Nat) : Int)))) := hT.out.set i him true (decide_eq_true (by omega)).symm fun L hL hne => by
        rw [decide_eq_decide]
        omega
      have HBS : Hid (Below w.heap.size w (wo.setCell ⟨q0, i, none⟩ (.bool true))) := hbr.out.setCell (p := ⟨q0, i, none⟩) hq3 _
      clear hT hbr
      go_wp2_with fail
      go_roundw
      case rel => exact ⟨i + 1, by omega, by go_num, HTS, HBS⟩
      case measure => simp [intOf]; omega
    · have hT0 : Hid (BTab wo q0 m (canT s 0)) := hT.out.congr fun L hL => by
        rw [decide_eq_true (by omega)]
        rfl
      have HBR := Lib.hid hbr.out
      clear hT hbr
      go_wp2_with fail
      go_loopw [4, 6] (fun cv nv wr => ∃ (n q : Nat), n ≤ m + 1 ∧ nv = .int .i64 (n : Int) ∧ cv = .slice (some ⟨q, 0, none⟩) m m ∧ w.heap.size ≤ q ∧ Hid (BTab wr q m (canT s n)) ∧ Hid (∀ j, j < n → anyC s j s.length = true) ∧ Hid (Below w.heap.size w wr)) (fun cv nv _ => m + 1 - (intOf nv).toNat)
      case atStart => exact ⟨0, q0, Nat.zero_le _, rfl, rfl, hq3, hT0, Lib.hid (fun j h => absurd h (Nat.not_lt_zero _)), HBR⟩
      case round =>
        clear hT0 HBR
        obtain ⟨n, q, hn, rfl, rfl, hqlo, hT, hno, hbr⟩ := hrel
        obtain ⟨wi, rfl⟩ : ∃ wi : World, wi = wr := ⟨_, rfl⟩
        by_cases hnm : n ≤ m
        · have hnm' : (n : Int) ≤ (m : Int) := by omega
          obtain ⟨q2, hq2⟩ : ∃ q2, q2 = wi.heap.size := ⟨_, rfl⟩
          go_upto_region 11 with (at_make; refine wpList_make_full _ rfl _ _ 65 rfl wi.heap.size 4 i0 (.bool false) 1 Tryd.underlying65 hi hz0 hz1 .i64 .i64 _ _ m rfl rfl rfl rfl hby (by simp only [maxLen]; omega) (by omega) ?_; intro w6 hown6 hgrow6)
          have hb6 : Below wi.heap.size wi w6 := ⟨hgrow6.os, hgrow6.tape, hgrow6.output, hgrow6.size, fun k hk => hgrow6.block k hk (by simp)⟩
          rw [← hq2]
          have hT6 : BTab w6 q2 m (rowC s n 0 false) := by
            rw [hq2]
            refine ⟨(hown6.lt _ rfl).2, fun L hL => ?_, fun o => hown6.frozenAt o⟩
            rw [hown6.cellAt L (by omega), Nat.mul_one, show (madeCells (Value.bool false).cells m).toList[L]? = some (.bool false) from made_at _ _ _ hL, rowC_zero]
          have hT16 := hT.out.keep hb6
          have hb16 : Below w.heap.size w w6 := hbr.out.trans (hb6.mono hbr.out.size)
          have hqq : q ≠ q2 := by have := hT.out.1; omega
          have hq2lo : w.heap.size ≤ q2 := by have := hbr.out.size; omega
          have HGA : Hid (∀ W, w6.grownBy W (some q2) → BTab W q m (canT s n) ∧ Below w.heap.size w W) := fun W hg =>
            ⟨hT16.grown hg (by simpa using hqq), hb16.trans ⟨hg.os, hg.tape, hg.output, hg.size, fun j hj => hg.block j (Nat.lt_of_lt_of_le hj hb16.size) (by simp; omega)⟩⟩
          have HT6 := Lib.hid hT6
          clear hown6 hgrow6 hb6 hT6 hT16 hb16 hqq hq2 hT hbr
          go_wp2_with fail
          go_loopw [7, 9] (fun av iv wr => ∃ (i : Nat) (c : Bool), i ≤ m ∧ iv = .int .i64 (i : Int) ∧ av = .bool c ∧ Hid (c = anyC s n i) ∧ Hid (BTab wr q2 m (rowC s n i false)) ∧ Hid (w6.grownBy wr (some q2))) (fun av iv _ => m - (intOf iv).toNat)
          case atStart => exact ⟨0, false, Nat.zero_le _, rfl, rfl, Lib.hid rfl, HT6, World.grownBy.refl _ _⟩
          case round =>
            clear HT6
            obtain ⟨i, c, hi', rfl, rfl, hc, hT, hg⟩ := hrel
            obtain ⟨wo, rfl⟩ : ∃ wo : World, wo = wr := ⟨_, rfl⟩
            by_cases him : i < m
            · obtain ⟨hTn, hbw⟩ := HGA.out wo hg.out
              obtain ⟨y, hy⟩ : ∃ y, y = canF s n i := ⟨_, rfl⟩
              have c0 : wo.cell? ⟨q, i, none⟩ = some (.bool y) := by
                rw [hTn.2.1 i him, hy]
                rfl
              have hi0 : (0 : Int) ≤ (i : Int) := by omega
              have him' : (i : Int) < (m : Int) := by omega
              have HC2 : Hid ((c || y) = anyC s n (i + 1)) := by
                show _ = _
                rw [anyC_succ, ← hc.out, hy]
              have HT0 : Hid (BTab wo q2 m (rowC s n i (canG s n i 0))) := hT
              clear hTn hbw hy hc hT
              cases c
              all_goals
                go_upto_region 15 with fail
                go_wp2_with fail
                clear c0
                go_loopw [10] (fun kv wr => ∃ k : Nat, k ≤ m ∧ kv = .int .i64 (k : Int) ∧ Hid (BTab wr q2 m (rowC s n i (canG s n i k))) ∧ Hid (w6.grownBy wr (some q2))) (fun kv _ => m - (intOf kv).toNat)
                case atStart => exact ⟨0, Nat.zero_le _, rfl, HT0, hg⟩
                case round =>
                  clear HT0 hg
                  obtain ⟨k, hk, rfl, hT, hg⟩ := hrel
                  obtain ⟨wl, rfl⟩ : ∃ wl : World, wl = wr := ⟨_, rfl⟩
                  obtain ⟨hTn, hbw⟩ := HGA.out wl hg.out
                  have cK := hT.out.2.1 i him
                  have zK := hT.out.2.2 i
                  obtain ⟨g, hg0⟩ : ∃ g, g = canG s n i k := ⟨_, rfl⟩
                  rw [rowC_at, ← hg0] at cK
                  have HGJ := Lib.hid hg0
                  by_cases hkm : k < m
                  · cases g
                    · have hks : k < s.length := by rw [← HM.out]; exact hkm
                      have his : i < s.length := by rw [← HM.out]; exact him
                      obtain ⟨xa, xo, rfl, hxa, -, t1, -, -⟩ := set_at HS.out hbw his
                      obtain ⟨xa', xo', hxe, hxa', -, -, -, t3⟩ := set_at HS.out hbw hks
                      obtain ⟨rfl, rfl⟩ : xa' = xa ∧ xo' = xo := by simp only [Option.some.injEq, Addr.mk.injEq, and_true] at hxe; exact ⟨hxe.1.symm, hxe.2.symm⟩
                      obtain ⟨x, hx⟩ : ∃ x, x = (ti s i).e := ⟨_, rfl⟩
                      obtain ⟨u, hu⟩ : ∃ u, u = (ti s k).w := ⟨_, rfl⟩
                      have t1' : wl.cell? ⟨xa', xo' + i * 4 + 1, none⟩ = some (.int .i64 x) := by rw [t1, hx]; rfl
                      have t3' : wl.cell? ⟨xa', xo' + k * 4 + 3, none⟩ = some (.int .i64 u) := by rw [t3, hu]; rfl
                      obtain ⟨mv, hmv⟩ : ∃ mv, mv = canF s n k := ⟨_, rfl⟩
                      have c1' : wl.cell? ⟨q, k, none⟩ = some (.bool mv) := by
                        rw [hTn.2.1 k hkm, hmv]
                        rfl
                      have HSU : Hid (canG s n i (k + 1) = (mv && (x == u))) := by
                        show _ = _
                        rw [canG_succ, ← HGJ.out, ← hmv, Bool.false_or, hx, hu]
                        rfl
                      have HTS2 : Hid (∀ (g : Bool) W6, Below wl.heap.size wl W6 → ∀ W, W = W6.setCell ⟨q2, i, none⟩ (.bool g) → BTab W q2 m (rowC s n i g) ∧ w6.grownBy W (some q2)) := fun g W6 hb6 W e => by
                        rw [e]
                        exact ⟨(hT.out.keep hb6).set i him g (rowC_at s n i g).symm fun L hL hne => rowC_off s n i _ g L hne, grown_setB (grown_belowB hg.out hb6) i _⟩
                      have hk0 : (0 : Int) ≤ (k : Int) := by omega
                      have hkm' : (k : Int) < (m : Int) := by omega
                      clear hks his t1 t3 hxe hxa hxa' hx hu hmv hT hg hTn hbw hg0
                      cases mv
                      all_goals
                        go_wp2_with fail
                        have f1 := ext_cell c1'
                        have f3 := ext_cell t1'
                        have f4 := ext_cell t3'
                        refine wp_region_ext_tail 20 (by kernel_rfl) (by kernel_rfl) ?_
                        simp only [List.take_succ_cons, List.take_zero, List.drop_succ_cons, List.drop_zero]
                        repeat (go_big_quiet_step (fail))
                        refine wpQuiet_nil ?_
                        intro _ hw'
                        obtain ⟨xq, rfl⟩ := hw'
                        obtain ⟨W8, hb8, he8⟩ : ∃ W8, Below wl.heap.size wl W8 ∧ ext wl xq = W8 := ⟨_, ext_below _, rfl⟩
                        rw [he8]
                        obtain ⟨cK8, zK8⟩ := later_cellO hb8 cK zK
                        have HB8 := Lib.hid hb8
                        clear he8 xq f1 f3 f4 hb8
                        go_wp2_with fail
                        go_roundw
                        case rel =>
                          obtain ⟨h1, h2⟩ := HTS2.out _ W8 HB8.out _ rfl
                          exact ⟨k + 1, by omega, by go_num, Lib.hid (by rw [HSU.out]; exact h1), h2⟩
                        case measure => simp [intOf]; omega
                    · have hTn' : Hid (BTab wl q2 m (rowC s n (i + 1) false)) := hT.out.congr fun L hL => by
                        have e : canG s n i k = canF s (n + 1) i := by
                          rw [canG_true s n i k (by rw [← HM.out]; omega) HGJ.out.symm]
                          exact HGJ.out.symm
                        rw [e, rowC_next]
                      clear hT hTn hbw hg0
                      go_wp2_with fail
                      go_roundw
                      case rel => exact ⟨i + 1, _, by omega, by go_num, rfl, HC2, hTn', hg⟩
                      case measure => simp [intOf]; omega
                  · have hTn' : Hid (BTab wl q2 m (rowC s n (i + 1) false)) := hT.out.congr fun L hL => by
                      have e : canG s n i k = canF s (n + 1) i := by
                        obtain rfl : k = m := by omega
                        rw [HM.out, canG_all]
                      rw [e, rowC_next]
                    clear hT hTn hbw hg0
                    go_wp2_with fail
                    go_roundw
                    case rel => exact ⟨i + 1, _, by omega, by go_num, rfl, HC2, hTn', hg⟩
                    case measure => simp [intOf]; omega
            · obtain ⟨-, hbw⟩ := HGA.out wo hg.out
              have him2 : i = m := by omega
              have hTn1 : Hid (BTab wo q2 m (canT s (n + 1))) := hT.out.congr fun L hL => by
                rw [him2, HM.out, rowC_all s n L (by rw [← HM.out]; exact hL)]
              have hc2 : c = anyC s n s.length := by rw [hc.out, him2, HM.out]
              have HC2 := Lib.hid hc2
              have HBW := Lib.hid hbw
              have hns : n ≤ s.length := by rw [← HM.out]; exact hnm
              have HNS := Lib.hid hns
              clear hT hg hc hbw hc2 hns him2
              cases c
              · go_wp2_with fail
                go_ret2
                exact HKS.out n _ _ rfl (rowsL_can HNS.out HC2.out.symm hno.out) HBW.out
              · go_wp2_with fail
                go_roundw
                case rel => exact ⟨n + 1, q2, by omega, by go_num, rfl, hq2lo, hTn1, Lib.hid (fun j hj => by
                  by_cases e : j = n
                  · subst e; exact HC2.out.symm
                  · exact hno.out j (by omega)), HBW⟩
                case measure => simp [intOf]; omega
        · have hnm' : (m : Int) < (n : Int) := by omega
          have hXN : Hid (rowsL s = none) := rowsL_can_none fun j hj => hno.out j (by have := HM.out; omega)
          go_wp2_with fail
          go_ret2
          exact HKN.out _ _ rfl hXN.out hbr.out
end Go.Proofs.YtgadfmknjpanpaaDoor

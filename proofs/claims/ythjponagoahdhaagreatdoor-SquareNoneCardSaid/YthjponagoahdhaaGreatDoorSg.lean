/-
  square.sides, square.Largest: a range over a function.
-/
import Derived.Test.YthjponagoahdhaaGreatDoorSe
import Derived.RangeFuncNested
import Derived.RangeFuncBound
import Derived.RangeFuncCalls
import Derived.RangeFuncLeaves
import Derived.Shelf.Abstract
import Derived.Shelf.RegionOpen
import Derived.WalkKit
import Derived.OwnWalkIn
import Derived.TacticsInMore
import Derived.LoopNIn
import Derived.LoopIn
namespace Go.Proofs.YthjponagoahdhaaGreatDoor
open Go.RowKit Go.Shelf
set_option linter.unusedVariables false
set_option linter.unusedSimpArgs false
set_option maxRecDepth 100000
attribute [local go_sem] Oper.semAt_some

theorem sides_any (m : Int) (w : World) : Calls Tryz.prog 31 #[.int .i64 m] w fun e w' => e = .returned (.func (.func 48) #[] #[.pointer (some ⟨w.heap.size, 0, none⟩)]) ∧ w' = w.alloc (.cells #[.int .i64 m] 3) := by
  go_enter Tryz.func31, Tryz.ntmps31
  go_wp2_with fail
  go_ret
  exact ⟨rfl, rfl⟩
/-- the sides that come, one by one -/
def sideV (k : Fin 8) : Value := .int .i64 ((k.1 : Int) + 1)
def ups (m : Nat) (ys : List (Fin 8)) : Prop := ys.map (·.1) = List.range m
theorem sides_stops (F : Fence) (n : Nat) (hf : F.fn 48) (hro : F.round = none) (hn : 1 ≤ n) (Bm n₀ m : Nat) (w : World) (hm : m ≤ 8) (hBm : Bm < w.heap.size) (hBn : Bm < n₀) (hn₀ : n₀ ≤ w.heap.size) (hc : w.cell? ⟨Bm, 0, none⟩ = some (.int .i64 (m : Int))) :
    SeqStopsK F n Tryz.prog 48 #[.pointer (some ⟨Bm, 0, none⟩)] (fun k : Fin 8 => #[sideV k]) (Below n₀) (fun ys => ups m ys) (fun pre => pre.map (·.1) <+: List.range m) m w := fun l J Jx W hW _ _ hY h0 => by
  have hcW := (hW.cell (p := ⟨Bm, 0, none⟩) hBm).trans hc
  clear hW hc hBm
  refine callsIn_of_wp Tryz.func48 rfl hf ?_ hro
  simp only [Tryz.ntmps48, List.size_toArray, List.length_cons, List.length_nil, Nat.reduceAdd, Nat.reduceSub, Array.replicate_succ, Array.replicate_zero, List.push_toArray, List.append_toArray, List.nil_append, List.cons_append]
  gi_wp2
  gi_loopw [3] (fun p wr => ∃ (pre : List (Fin 8)) (k : Nat), k ≤ m ∧ p = .int .i64 ((k : Int) + 1) ∧ pre.map (·.1) = List.range k ∧ wr.cell? ⟨Bm, 0, none⟩ = some (.int .i64 (m : Int)) ∧ J pre wr) (fun p wr => m + 1 - (intOf p).toNat)
  case atStart => exact ⟨[], 0, Nat.zero_le _, rfl, rfl, hcW, h0⟩
  case round =>
    obtain ⟨pre, k, hk, rfl, hpre, hcr, hJs⟩ := hrel
    have hlen : pre.length = k := by have := congrArg List.length hpre; simpa using this
    by_cases hlt : k < m
    · obtain ⟨fn, tmps, assign, body, hy, hR⟩ := hY pre ⟨k, by omega⟩ wr hJs (by omega)
      dsimp only [sideV] at hy
      gi_wp2
      refine hR.mono ?_
      rintro e W3 (⟨rfl, hJ3, hk3⟩ | ⟨rfl, hJx3⟩)
      · have hc3 := (hk3.cell (p := ⟨Bm, 0, none⟩) hBn).trans hcr
        gi_wp2
        go_roundw
        case rel => exact ⟨pre ++ [⟨k, by omega⟩], k + 1, by omega, by go_num, by rw [List.map_append, hpre, List.range_succ]; rfl, hc3, hJ3⟩
        case measure => simp [intOf]; omega
      · gi_wp2
        refine bodyPost_ret (results_none rfl _ _ _) rfl ?_
        refine ⟨⟨_, rfl⟩, .inr ⟨pre ++ [⟨k, by omega⟩], ?_, hJx3⟩⟩
        have e : (pre ++ [(⟨k, by omega⟩ : Fin 8)]).map (·.1) = List.range (k + 1) := by rw [List.map_append, hpre, List.range_succ]; rfl
        show List.map (fun k : Fin 8 => k.1) (pre ++ [_]) <+: _
        rw [e]
        exact ⟨(List.range (m - (k + 1))).map (k + 1 + ·), by rw [← List.range_add]; congr 1; omega⟩
    · have hkm : k = m := by omega
      gi_wp2
      go_end0
      exact ⟨⟨_, rfl⟩, .inl ⟨pre, by show _ = _; rw [hpre, hkm], hJs⟩⟩
/-- the first side that ends the search, less one -/
def stopL (s : List Tl) (m : Nat) : Option Nat := (List.range m).find? fun k => decide (exE s ((k : Int) + 1) ≠ (true, 0))
/-- what Largest returns -/
def lgE (s : List Tl) (m : Int) : Int × Int := if sideE5 s m ≠ 0 then (0, sideE5 s m) else match stopL s m.toNat with
  | none => (0, 6)
  | some k => if (exE s ((k : Int) + 1)).2 ≠ 0 then (0, (exE s ((k : Int) + 1)).2) else ((k : Int), 0)
theorem stop_none {s : List Tl} {m : Nat} {ys : List (Fin 8)} (h : ups m ys) (hall : ∀ k ∈ ys, exE s ((k.1 : Int) + 1) = (true, 0)) : stopL s m = none := by
  unfold stopL
  rw [List.find?_eq_none]
  intro k hk
  rw [← h, List.mem_map] at hk
  obtain ⟨x, hx, rfl⟩ := hk
  simp [hall x hx]
theorem stop_some {s : List Tl} {m : Nat} {pre : List (Fin 8)} {x : Fin 8} (h : (pre ++ [x]).map (·.1) <+: List.range m) (hall : ∀ k ∈ pre, exE s ((k.1 : Int) + 1) = (true, 0)) (hx : exE s ((x.1 : Int) + 1) ≠ (true, 0)) : stopL s m = some x.1 := by
  obtain ⟨t, ht⟩ := h
  unfold stopL
  rw [← ht, List.map_append, List.append_assoc, List.find?_append]
  have e : (pre.map (fun k : Fin 8 => k.1)).find? (fun k : Nat => decide (exE s ((k : Int) + 1) ≠ (true, 0))) = none := by
    rw [List.find?_eq_none]
    intro k hk
    rw [List.mem_map] at hk
    obtain ⟨y, hy, rfl⟩ := hk
    simp [hall y hy]
  rw [e]
  simp [hx]
theorem box_cell {W : World} {B : Nat} {v : Value} {t : TypeId} (h : W.heap[B]? = some (.cells #[v] t (0, 0))) : W.cell? ⟨B, 0, none⟩ = some v ∧ W.frozen? ⟨B, 0, none⟩ = false := by
  constructor <;> simp [World.cell?, World.frozen?, h]
theorem ko_below {W W' : World} (h : Below W.heap.size W W') : KeepsOthers W W' := ⟨h.size, fun k o hk _ => (h.block k (Array.getElem?_eq_some_iff.1 hk).1).trans hk⟩
theorem two_cells {W : World} {p q : Nat} {u v : Value} (a b : Value) (hp : W.cell? ⟨p, 0, none⟩ = some u) (hq : W.cell? ⟨q, 0, none⟩ = some v) (hne : p ≠ q) :
    ((W.setCell ⟨p, 0, none⟩ a).setCell ⟨q, 0, none⟩ b).cell? ⟨p, 0, none⟩ = some a ∧ ((W.setCell ⟨p, 0, none⟩ a).setCell ⟨q, 0, none⟩ b).cell? ⟨q, 0, none⟩ = some b := by
  refine ⟨(World.cell?_setCell_other _ ⟨q, 0, none⟩ ⟨p, 0, none⟩ b (fun e => hne (by cases e; rfl))).trans (World.cell?_setCell_same' _ _ _ (by rw [hp]; rfl)), World.cell?_setCell_same' _ _ _ ?_⟩
  rw [World.cell?_setCell_other _ ⟨p, 0, none⟩ ⟨q, 0, none⟩ a (fun e => hne (by cases e; rfl)), hq]
  rfl
theorem later_cell {W W' : World} {p : Nat} {u : Value} (hb : Below W.heap.size W W') (h : W.cell? ⟨p, 0, none⟩ = some u) (hf : W.frozen? ⟨p, 0, none⟩ = false) : W'.cell? ⟨p, 0, none⟩ = some u ∧ W'.frozen? ⟨p, 0, none⟩ = false :=
  ⟨(hb.cell (World.block_lt_of_cell? W _ h)).trans h, (World.frozen?_of_block (hb.block _ (World.block_lt_of_cell? W _ h))).trans hf⟩
set_option maxHeartbeats 4000000 in
theorem largest_any (s : List Tl) (S : Option Addr) (m d : Nat) (mo : Int) (w : World) (hm : m = s.length) (hS : SetIn w w.heap.size S s) (hwf : ∀ t ∈ s, twf t) (hml : m ≤ 9223372036854775807) :
    Calls Tryz.prog 17 #[.slice S m d, .int .i64 mo] w fun e w' => e = .returned (.tuple #[.int .i64 (lgE s mo).1, .int .i64 (lgE s mo).2]) ∧ Below w.heap.size w w' := by
  have hck := fun (W : World) (hb : Below w.heap.size w W) => scheck_any s S m d mo W hm (hS.keep hb hb.size) hwf hml
  obtain ⟨W0, hW0⟩ : ∃ W0, W0 = ((w.alloc (.cells #[.slice S m d] 22)).alloc (.cells #[.int .i64 0] 3)).alloc (.cells #[.int .i64 0] 29) := ⟨_, rfl⟩
  have hb0 : Below w.heap.size w W0 := by rw [hW0]; exact (((Below.refl _ w).alloc (Nat.le_refl _) _).alloc (by simp) _).alloc (by simp; omega) _
  have hz0 : W0.heap.size = w.heap.size + 3 := by rw [hW0]; simp
  have p0 : W0.heap[w.heap.size]? = some (.cells #[.slice S m d] 22 (0, 0)) := by
    rw [hW0]; exact heap_kp (heap_kp (heap_at _ _ _ rfl) _) _
  have p1 : W0.heap[w.heap.size + 1]? = some (.cells #[.int .i64 0] 3 (0, 0)) := by
    rw [hW0]; exact heap_kp (heap_at _ _ _ (by simp)) _
  have p2 : W0.heap[w.heap.size + 1 + 1]? = some (.cells #[.int .i64 0] 29 (0, 0)) := by
    rw [hW0]; exact heap_at _ _ _ (by simp)
  have hck0 := hck W0 hb0
  obtain ⟨c, hc⟩ : ∃ c, c = sideE5 s mo := ⟨_, rfl⟩
  rw [← hc] at hck0
  by_cases h0 : c = 0
  rotate_left
  · have HK : Hid (lgE s mo = (0, c)) := by show _ = _; unfold lgE; rw [← hc, if_pos h0]
    have hd0 : (c != 0) = true := by rw [bne_iff_ne]; exact h0
    have HCK := Lib.hid hck0
    have HB0 := Lib.hid hb0
    have P1 := Lib.hid p1
    have P2 := Lib.hid p2
    clear hck hm hS hwf hc h0 hck0 p1 p2 p0
    go_enter Tryz.func17, Tryz.ntmps17
    go_upto_region 1 with fail
    rw [← hW0]
    have q0 : W0.cell? ⟨w.heap.size, 0, none⟩ = some (.slice S m d) := by rw [hW0]; simp [go_sem]
    clear hW0
    go_wp2_with fail
    refine HCK.out.mono ?_
    rintro e' w1 ⟨rfl, hb1⟩
    obtain ⟨a1, a2⟩ := box_cell ((hb1.block (w.heap.size + 1) (by omega)).trans P1.out)
    obtain ⟨a3, a4⟩ := box_cell ((hb1.block (w.heap.size + 1 + 1) (by omega)).trans P2.out)
    go_wp2_with fail
    refine bodyPost_ret (v := .tuple #[.int .i64 0, .int .i64 c]) (by simp [results, Tryz.results17, go_sem, a1, a3]) rfl ?_
    exact ⟨by rw [HK.out], ((HB0.out.trans (hb1.mono HB0.out.size)).setCell (p := ⟨w.heap.size + 1, 0, none⟩) (by simp) _).setCell (p := ⟨w.heap.size + 1 + 1, 0, none⟩) (by simp; omega) _⟩
  subst h0
  obtain ⟨hv, hn1, hn8⟩ := side_ok hc.symm
  obtain ⟨mm, rfl⟩ := Int.eq_ofNat_of_zero_le (show 0 ≤ mo by omega)
  have hm8 : mm ≤ 8 := by omega
  have HEX : Hid (∀ (W : World) (k : Int), Below w.heap.size w W → Calls Tryz.prog 8 #[.slice S m d, .int .i64 k] W fun e w' => e = .returned (.tuple #[.bool (exE s k).1, .int .i64 (exE s k).2]) ∧ Below W.heap.size W w') := fun W k hb => exists_any s S m d k W hm (hS.keep hb hb.size) hwf hml
  have HK : Hid (lgE s (mm : Int) = match stopL s mm with
    | none => (0, 6)
    | some k => if (exE s ((k : Int) + 1)).2 ≠ 0 then (0, (exE s ((k : Int) + 1)).2) else ((k : Int), 0)) := by
    show _ = _
    unfold lgE
    rw [← hc, if_neg (by simp), Int.toNat_natCast]
  have HB0 := Lib.hid hb0
  have P0 := Lib.hid p0
  have P1 := Lib.hid p1
  have P2 := Lib.hid p2
  rw [hW0] at hck0
  have HCK := Lib.hid hck0
  have HW0 := Lib.hid hW0
  clear hck hm hS hwf hc hck0 p0 p1 p2 hv hb0 hW0
  refine (callsIn_wide (n := 6)).1 ?_
  refine callsIn_of_wp_marks Tryz.func17 rfl trivial ?_ rfl
  simp only [Tryz.ntmps17, List.size_toArray, List.length_cons, List.length_nil, Nat.reduceAdd, Nat.reduceSub, Array.replicate_succ, Array.replicate_zero, List.push_toArray, List.append_toArray, List.nil_append, List.cons_append]
  gi_wp2_with (first
    | (refine ⟨trivial, ?_⟩; gi_at_call 18; refine (callsIn_wide.2 HCK.out).mono ?_; rintro e w1 ⟨rfl, hb1⟩)
    | (refine ⟨trivial, ?_⟩; gi_at_call 31; refine (callsIn_wide.2 (sides_any _ _)).mono ?_; rintro e w2 ⟨rfl, rfl⟩))
  rw [← HW0.out] at hb1
  have hs1 := hb1.size
  obtain ⟨W2, hW2⟩ : ∃ W2, W2 = w1.alloc (.cells #[.int .i64 (mm : Int)] 3) := ⟨_, rfl⟩
  have hz2 : W2.heap.size = w1.heap.size + 1 := by rw [hW2]; simp
  have hb2 : Below w1.heap.size w1 W2 := by rw [hW2]; exact (Below.refl _ _).alloc (Nat.le_refl _) _
  have hB2 : Below w.heap.size w W2 := (HB0.out.trans (hb1.mono HB0.out.size)).trans (hb2.mono (by omega))
  have g0 : W2.heap[w.heap.size]? = some (.cells #[.slice S m d] 22 (0, 0)) := (hb2.block _ (by omega)).trans ((hb1.block _ (by omega)).trans P0.out)
  have g1 : W2.heap[w.heap.size + 1]? = some (.cells #[.int .i64 0] 3 (0, 0)) := (hb2.block _ (by omega)).trans ((hb1.block _ (by omega)).trans P1.out)
  have g2 : W2.heap[w.heap.size + 1 + 1]? = some (.cells #[.int .i64 0] 29 (0, 0)) := (hb2.block _ (by omega)).trans ((hb1.block _ (by omega)).trans P2.out)
  have g3 : W2.heap[w1.heap.size]? = some (.cells #[.int .i64 (mm : Int)] 3 (0, 0)) := by rw [hW2]; exact heap_alloc_new _ _
  rw [← hW2]
  clear hW2 hb2 hb1 HCK P0 P1 P2 HW0 HB0
  refine wpIn_rangeFunc_ownF rfl (by omega) (gf := 48) (lb := #[.pointer (some ⟨w1.heap.size, 0, none⟩)]) rfl trivial (enters_of Tryz.func48 (by kernel_rfl) rfl)
    (sides_stops Fence.wide _ trivial rfl (by omega) w1.heap.size W2.heap.size mm W2 hm8 (by omega) (by omega) (Nat.le_refl _) (box_cell g3).1) belowK_t (belowK_b (Nat.le_refl _)) (Below.refl _ _) (fun _ => rfl)
    (fun pre W => (W2.heap.size ≤ W.heap.size ∧ (∀ k ∈ pre, exE s ((k.1 : Int) + 1) = (true, 0)) ∧ W.cell? ⟨w.heap.size, 0, none⟩ = some (.slice S m d) ∧ (W.cell? ⟨w.heap.size + 1, 0, none⟩ = some (.int .i64 0) ∧ W.frozen? ⟨w.heap.size + 1, 0, none⟩ = false) ∧ (W.cell? ⟨w.heap.size + 1 + 1, 0, none⟩ = some (.int .i64 0) ∧ W.frozen? ⟨w.heap.size + 1 + 1, 0, none⟩ = false)) ∧ Below w.heap.size w W)
    (fun c pre W => (c = .ret ∧ ∃ q x a b, pre = q ++ [x] ∧ (∀ k ∈ q, exE s ((k.1 : Int) + 1) = (true, 0)) ∧ exE s ((x.1 : Int) + 1) ≠ (true, 0) ∧ (a, b) = (if (exE s ((x.1 : Int) + 1)).2 ≠ 0 then (0, (exE s ((x.1 : Int) + 1)).2) else ((x.1 : Int), 0)) ∧ W.cell? ⟨w.heap.size + 1, 0, none⟩ = some (.int .i64 a) ∧ W.cell? ⟨w.heap.size + 1 + 1, 0, none⟩ = some (.int .i64 b)) ∧ Below w.heap.size w W)
    (OwnFrom.and (Own.from (fun s A B row hs hg hr => by
      obtain ⟨hs0, hs1, hs2, hs3, hs4⟩ := hs
      exact ⟨Nat.le_trans hs0 hg.size, hs1, cell_kept hs2 hg hr, ⟨cell_kept hs3.1 hg hr, (frozen_kept hs3.1 hg hr).trans hs3.2⟩, ⟨cell_kept hs4.1 hg hr, (frozen_kept hs4.1 hg hr).trans hs4.2⟩⟩) _) (ownFrom_below (Nat.le_refl _) (by omega)))
    (fun c => OwnFrom.and (Own.from (fun s A B row hs hg hr => by
      obtain ⟨h1, q, x, a, b, h2, h3, h4, h5, h6, h7⟩ := hs
      exact ⟨h1, q, x, a, b, h2, h3, h4, h5, cell_kept h6 hg hr, cell_kept h7 hg hr⟩) _) (ownFrom_below (Nat.le_refl _) (by omega)))
    ⟨⟨Nat.le_refl _, by simp, (box_cell g0).1, box_cell g1, box_cell g2⟩, hB2⟩
    (fun x => { tmps := #[.slice S m d, .int .i64 (mm : Int), .pointer (some ⟨w.heap.size, 0, none⟩), undef, .pointer (some ⟨w.heap.size + 1, 0, none⟩), .pointer (some ⟨w.heap.size + 1 + 1, 0, none⟩), .int .i64 0, sideV x, undef, undef, .slice S m d, .int .i64 (mm : Int), .int .i64 0, .int .i64 0, .bool false, undef, .int .i64 (mm : Int), .func (.func 48) #[] #[.pointer (some ⟨w1.heap.size, 0, none⟩)], sideV x, undef, undef, undef, undef, undef, undef, undef, undef, undef, undef, undef, undef, undef], defers := [] }) ?assign ?body ?done ?stop
  case assign =>
    intro l x W K hK
    gi_wp2
    exact hK
  case body =>
    rintro l pre x W ⟨⟨hsz, hp, c0, ⟨c1, f1⟩, ⟨c2, f2⟩⟩, hB⟩ _
    have hx7 := x.2
    have hex := HEX.out W ((x.1 : Int) + 1) hB
    obtain ⟨y, hy⟩ : ∃ y, y = (exE s ((x.1 : Int) + 1)).1 := ⟨_, rfl⟩
    obtain ⟨z, hz⟩ : ∃ z, z = (exE s ((x.1 : Int) + 1)).2 := ⟨_, rfl⟩
    have HE : Hid (exE s ((x.1 : Int) + 1) = (y, z)) := by show _ = _; rw [hy, hz]
    rw [← hy, ← hz] at hex
    have HEX2 := Lib.hid hex
    have HPP := Lib.hid hp
    have HBB := Lib.hid hB
    clear hex hy hz hp hB
    dsimp only [sideV]
    obtain ⟨xi, hxi⟩ : ∃ xi, xi = x.1 := ⟨_, rfl⟩
    have HXI := Lib.hid hxi
    rw [← hxi] at HEX2 HE hx7 ⊢
    clear hxi
    by_cases z0 : z = 0
    · subst z0
      cases y
      · gi_wp2_with (refine ⟨trivial, ?_⟩; gi_at_call 8; refine (CallsIn.inRound l (callsIn_wide.2 HEX2.out)).mono ?_; rintro e w3 ⟨rfl, hb3⟩; obtain ⟨c1', f1'⟩ := later_cell hb3 c1 f1; obtain ⟨c2', f2'⟩ := later_cell hb3 c2 f2)
        have hz2 := two_cells (.int .i64 (xi : Int)) (.int .i64 0) c1' c2' (by omega)
        refine ⟨(ko_below hb3).trans ((KeepsOthers.setCell _ _ _).trans (KeepsOthers.setCell _ _ _)), ⟨rfl, pre, x, (xi : Int), 0, rfl, HPP.out, by rw [← HXI.out, HE.out]; simp, by rw [← HXI.out, HE.out]; simp, ?_, ?_⟩, ((HBB.out.trans (hb3.mono HBB.out.size)).setCell (p := ⟨w.heap.size + 1, 0, none⟩) (by simp) _).setCell (p := ⟨w.heap.size + 1 + 1, 0, none⟩) (by simp; omega) _⟩
        · have := hz2.1; simpa using this
        · have := hz2.2; simpa using this
      · gi_wp2_with (refine ⟨trivial, ?_⟩; gi_at_call 8; refine (CallsIn.inRound l (callsIn_wide.2 HEX2.out)).mono ?_; rintro e w3 ⟨rfl, hb3⟩; obtain ⟨c1', f1'⟩ := later_cell hb3 c1 f1; obtain ⟨c2', f2'⟩ := later_cell hb3 c2 f2)
        refine ⟨ko_below hb3, hb3.mono hsz, ⟨⟨Nat.le_trans hsz hb3.size, fun k hk => ?_, (hb3.cell (World.block_lt_of_cell? W _ c0)).trans c0, ⟨c1', f1'⟩, ⟨c2', f2'⟩⟩, HBB.out.trans (hb3.mono HBB.out.size)⟩⟩
        rcases List.mem_append.1 hk with h | h
        · exact HPP.out k h
        · rw [List.mem_singleton] at h
          subst h
          rw [← HXI.out]
          exact HE.out
    · have hd0 : (z != 0) = true := by rw [bne_iff_ne]; exact z0
      have HZ := Lib.hid z0
      clear z0
      gi_wp2_with (refine ⟨trivial, ?_⟩; gi_at_call 8; refine (CallsIn.inRound l (callsIn_wide.2 HEX2.out)).mono ?_; rintro e w3 ⟨rfl, hb3⟩; obtain ⟨c1', f1'⟩ := later_cell hb3 c1 f1; obtain ⟨c2', f2'⟩ := later_cell hb3 c2 f2)
      have hz2 := two_cells (.int .i64 0) (.int .i64 z) c1' c2' (by omega)
      refine ⟨(ko_below hb3).trans ((KeepsOthers.setCell _ _ _).trans (KeepsOthers.setCell _ _ _)), ⟨rfl, pre, x, 0, z, rfl, HPP.out, by rw [← HXI.out, HE.out]; intro e; exact HZ.out (Prod.mk.inj e).2, by rw [← HXI.out, HE.out]; simp [HZ.out], hz2.1, hz2.2⟩, ((HBB.out.trans (hb3.mono HBB.out.size)).setCell (p := ⟨w.heap.size + 1, 0, none⟩) (by simp) _).setCell (p := ⟨w.heap.size + 1 + 1, 0, none⟩) (by simp; omega) _⟩
  case done =>
    rintro D ys W hD hys ⟨⟨hsz, hp, c0, ⟨c1, f1⟩, ⟨c2, f2⟩⟩, hB⟩ hK
    have hres : Hid (lgE s (mm : Int) = (0, 6)) := by show _ = _; rw [HK.out, stop_none hys hp]
    have HBB := Lib.hid hB
    clear hp hB hys
    gi_wp2
    have hz2 := two_cells (.int .i64 0) (.int .i64 6) c1 c2 (by omega)
    have hK' := ((KeepsOthers.setCell W ⟨w.heap.size + 1, 0, none⟩ (.int .i64 0)).trans (KeepsOthers.setCell _ ⟨w.heap.size + 1 + 1, 0, none⟩ (.int .i64 6))).same D _ hK rfl
    refine ⟨by simp, .inl ⟨_, _, rfl, run_takeDeferred hK', ?_⟩⟩
    have hc4 := cell_kept hz2.1 (grownBy_putObj' _ D (.deferred none)) (fun r e => by cases e; exact ⟨_, hK', rfl⟩)
    have hc5 := cell_kept hz2.2 (grownBy_putObj' _ D (.deferred none)) (fun r e => by cases e; exact ⟨_, hK', rfl⟩)
    refine ⟨.tuple #[.int .i64 0, .int .i64 6], ?_, by rw [hres.out], ((HBB.out.setCell (p := ⟨w.heap.size + 1, 0, none⟩) (by simp) _).setCell (p := ⟨w.heap.size + 1 + 1, 0, none⟩) (by simp; omega) _).trans (belowK_b (w := w) (Nat.le_refl _) _ D _ _ (by omega) hK' rfl rfl)⟩
    simp [results, Tryz.results17, go_sem, hc4, hc5]
  case stop =>
    rintro D c pre W hD hpre ⟨⟨rfl, q, x, a, b, rfl, hq, hx, hab, c1, c2⟩, hB⟩ hK
    have hres : Hid (lgE s (mm : Int) = (a, b)) := by show _ = _; rw [HK.out, stop_some hpre hq hx]; exact hab.symm
    have HBB := Lib.hid hB
    clear hq hx hab hpre hB
    gi_wp2
    refine ⟨by simp, .inl ⟨_, _, rfl, run_takeDeferred hK, ?_⟩⟩
    have hc4 := cell_kept c1 (grownBy_putObj' _ D (.deferred none)) (fun r e => by cases e; exact ⟨_, hK, rfl⟩)
    have hc5 := cell_kept c2 (grownBy_putObj' _ D (.deferred none)) (fun r e => by cases e; exact ⟨_, hK, rfl⟩)
    refine ⟨.tuple #[.int .i64 a, .int .i64 b], ?_, by rw [hres.out], HBB.out.trans (belowK_b (w := w) (Nat.le_refl _) W D _ _ (by omega) hK rfl rfl)⟩
    simp [results, Tryz.results17, go_sem, hc4, hc5]
end Go.Proofs.YthjponagoahdhaaGreatDoor

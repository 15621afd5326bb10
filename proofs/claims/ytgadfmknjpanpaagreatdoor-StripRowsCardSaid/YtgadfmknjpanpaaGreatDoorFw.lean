/-
  fill.rectangle.firstRow: the first row that may be there.
-/
import Derived.Test.YtgadfmknjpanpaaGreatDoorFo
namespace Go.Proofs.YtgadfmknjpanpaaGreatDoor
open Go.RowKit Go.Maps Go.BigFrame Go.Sort
set_option linter.unusedVariables false
set_option linter.unusedSimpArgs false
set_option maxRecDepth 100000

theorem line_eql (l m : List Int) (hl : lwf l) (hm : lwf m) (w : World) : (Op.equalIn 10000 65 (.agg (vals l).toArray) (.agg (vals m).toArray)).run Tryz.prog w = .ok (decide (l = m)) w := by
  obtain ⟨a0, a1, a2, a3, a4, a5, a6, a7, rfl⟩ := len8 l hl.1
  obtain ⟨b0, b1, b2, b3, b4, b5, b6, b7, rfl⟩ := len8 m hm.1
  have hw := hl.2
  have hv := hm.2
  simp only [List.mem_cons, List.not_mem_nil, or_false, forall_eq_or_imp, forall_eq] at hw hv
  obtain ⟨h0, h1, h2, h3, h4, h5, h6, h7⟩ := hw
  obtain ⟨g0, g1, g2, g3, g4, g5, g6, g7⟩ := hv
  obtain ⟨i, hi⟩ := info_of_underlying Tryz.underlying65
  obtain ⟨i2, hi2⟩ := info_of_underlying Tryz.underlying3
  have hA := fun d => run_equalIn_array (P := Tryz.prog) (w := w) d (vals [a0, a1, a2, a3, a4, a5, a6, a7]).toArray (vals [b0, b1, b2, b3, b4, b5, b6, b7]).toArray Tryz.underlying65 hi2
  obtain ⟨r, hr, hiff⟩ := run_eqItems_plain (P := Tryz.prog) (w := w) 9998 (e := 3) (by kernel_rfl) (vals [a0, a1, a2, a3, a4, a5, a6, a7]).toArray (vals [b0, b1, b2, b3, b4, b5, b6, b7]).toArray (D := 1) (D' := 1) (List.range 8)
    [[.int .i64 a0], [.int .i64 a1], [.int .i64 a2], [.int .i64 a3], [.int .i64 a4], [.int .i64 a5], [.int .i64 a6], [.int .i64 a7]] [[.int .i64 b0], [.int .i64 b1], [.int .i64 b2], [.int .i64 b3], [.int .i64 b4], [.int .i64 b5], [.int .i64 b6], [.int .i64 b7]]
    (by simp [List.range, List.range.loop, Program.keyLits, Tryz.underlying3, int_cells, vals, h0, h1, h2, h3, h4, h5, h6, h7]) (by simp [List.range, List.range.loop, Program.keyLits, Tryz.underlying3, int_cells, vals, g0, g1, g2, g3, g4, g5, g6, g7])
  have hrd : r = decide ([a0, a1, a2, a3, a4, a5, a6, a7] = [b0, b1, b2, b3, b4, b5, b6, b7]) := by
    rw [Bool.eq_iff_iff, hiff]
    simp
  rw [← hrd]
  have hr' : (Op.eqItems (9998 + 1) 3 (Tryz.prog.cellsOf 3) (vals [a0, a1, a2, a3, a4, a5, a6, a7]).toArray (vals [b0, b1, b2, b3, b4, b5, b6, b7]).toArray [0, 1, 2, 3, 4, 5, 6, 7]).run Tryz.prog w = .ok r w := hr
  exact (hA 9999).trans hr'
theorem cells8 {w : World} {q : Nat} {a b c d e f g i : Value} {t : TypeId} {fr : Nat × Nat} (h : w.heap[q]? = some (.cells #[a, b, c, d, e, f, g, i] t fr)) : w.cell? ⟨q, 0, none⟩ = some a ∧ w.cell? ⟨q, 1, none⟩ = some b ∧ w.cell? ⟨q, 2, none⟩ = some c ∧ w.cell? ⟨q, 3, none⟩ = some d ∧ w.cell? ⟨q, 4, none⟩ = some e ∧ w.cell? ⟨q, 5, none⟩ = some f ∧ w.cell? ⟨q, 6, none⟩ = some g ∧ w.cell? ⟨q, 7, none⟩ = some i := by
  refine ⟨?_, ?_, ?_, ?_, ?_, ?_, ?_, ?_⟩ <;> simp [World.cell?, h]
/-- may the row stand here? -/
def okRow (s : List Tl) (d : Ed) (h y : Nat) (below : List Int) (gf : List Int → Nat) (r : List Nat) : Bool := (decide (y = 0) || decide (south s r = below)) && (decide (0 < gf (north s r)) && admE s d h y r)
set_option maxHeartbeats 8000000 in
theorem firstRow1_any (s : List Tl) (d : Ed) (r : List Nat) (wd h y : Nat) (N E S W R : Option Addr) (nn nc en ec sn sc wn wcap rn rc : Nat) (below : List Int) (b n0 : Nat) (D : DataW Unit) (ks : List (List Int)) (gf : List Int → Nat) (py pb pa pr : Nat) (res : Bool) (w : World)
    (hr : r.length = wd) (hri : ∀ i ∈ r, i < s.length) (hwf : ∀ t ∈ s, twf t) (hw1 : 1 ≤ wd) (hw : wd ≤ 8) (hh : h ≤ 60) (hy : y < h) (hok : RectOk d wd h nn en sn wn w w.heap.size N E S W) (hbl : lwf below)
    (hown : w.ownsMap Tryz.prog 65 (plainElem Tryz.prog 3) b n0 D) (hlv : Lv D ks gf)
    (ky : w.cell? ⟨py, 0, none⟩ = some (.int .i64 (y : Int))) (kb : w.heap[pb]? = some (.cells (vals below).toArray 65 (0, 0))) (ka : w.cell? ⟨pa, 0, none⟩ = some (.map (some b)))
    (kr : w.heap[pr]? = some (.cells #[.int .i64 (h : Int), .slice N nn nc, .slice E en ec, .slice S sn sc, .slice W wn wcap, .slice R rn rc] 60 (0, 0))) (hres : okRow s d h y below gf r = res) :
    Calls Tryz.prog 45 #[.agg (rowA s r), .pointer (some ⟨py, 0, none⟩), .pointer (some ⟨pb, 0, none⟩), .pointer (some ⟨pa, 0, none⟩), .pointer (some ⟨pr, 0, none⟩)] w fun e w' => e = .returned (.bool res) ∧ Below w.heap.size w w' := by
  have hr8 : r.length ≤ 8 := by omega
  have hnw := north_wf hwf hri hr8
  have hsw := south_wf hwf hri hr8
  obtain ⟨a0, a1, a2, a3, a4, a5, a6, a7, hna⟩ := len8 (north s r) hnw.1
  obtain ⟨b0, b1, b2, b3, b4, b5, b6, b7, hsb⟩ := len8 (south s r) hsw.1
  obtain ⟨e0, e1, e2, e3, e4, e5, e6, e7, heb⟩ := len8 below hbl.1
  have hz : Hid ((rowA s r).size = 26) := rowA_size s r hr8
  have g0 := row_lines s r hr8
  have p0 := (g0 0 (by omega)).1
  have p1 := (g0 1 (by omega)).1
  have p2 := (g0 2 (by omega)).1
  have p3 := (g0 3 (by omega)).1
  have p4 := (g0 4 (by omega)).1
  have p5 := (g0 5 (by omega)).1
  have p6 := (g0 6 (by omega)).1
  have p7 := (g0 7 (by omega)).1
  have q0 := (g0 0 (by omega)).2.1
  have q1 := (g0 1 (by omega)).2.1
  have q2 := (g0 2 (by omega)).2.1
  have q3 := (g0 3 (by omega)).2.1
  have q4 := (g0 4 (by omega)).2.1
  have q5 := (g0 5 (by omega)).2.1
  have q6 := (g0 6 (by omega)).2.1
  have q7 := (g0 7 (by omega)).2.1
  simp only [hna, hsb, List.getD_cons_zero, List.getD_cons_succ] at p0 p1 p2 p3 p4 p5 p6 p7 q0 q1 q2 q3 q4 q5 q6 q7
  have hb1 : Below w.heap.size w (w.alloc (.cells (rowA s r) 67)) := (Below.refl _ _).alloc (Nat.le_refl _) _
  have hlk := lv_lookup (hown.kept (grown_of_below hb1 none) (by simp)) hlv hnw
  have heq := line_eql (south s r) below hsw hbl (w.alloc (.cells (rowA s r) 67))
  obtain ⟨ra, hra⟩ := (⟨_, rfl⟩ : ∃ ra, admE s d h y r = ra)
  have hadm := admits_any s d r wd h y N E S W R nn nc en ec sn sc wn wcap rn rc ra (w.alloc (.cells (rowA s r) 67)) hr hw1 hw hh hy hok.ok hok.hn hok.he hok.hs hok.hw (hok.keep hb1 hb1.size).mem hra
  obtain ⟨V, hV⟩ : ∃ V, V = rowA s r := ⟨_, rfl⟩
  obtain ⟨G, hG⟩ : ∃ G, G = gf (north s r) := ⟨_, rfl⟩
  obtain ⟨eq', heq'⟩ : ∃ eq', eq' = decide (south s r = below) := ⟨_, rfl⟩
  have hres' : ((decide (y = 0) || eq') && (decide (0 < G) && ra)) = res := by rw [heq', hG, ← hra]; exact hres
  rw [← hG] at hlk
  rw [← heq'] at heq
  rw [hna] at hlk
  rw [hsb, heb] at heq
  rw [heb] at kb
  simp only [vals, List.map_cons, List.map_nil] at hlk heq kb
  rw [← hV] at hz p0 p1 p2 p3 p4 p5 p6 p7 q0 q1 q2 q3 q4 q5 q6 q7 hb1 hlk heq hadm ⊢
  have HZ := Lib.hid hz.out
  have HADM := Lib.hid hadm
  have HB1 := Lib.hid hb1
  have HRES := Lib.hid hres'
  have hpb : pb < w.heap.size := (Array.getElem?_eq_some_iff.1 kb).1
  have hpr : pr < w.heap.size := (Array.getElem?_eq_some_iff.1 kr).1
  have hpy := World.block_lt_of_cell? w _ ky
  have hpa := World.block_lt_of_cell? w _ ka
  obtain ⟨k0, k1, k2, k3, k4, k5⟩ := cells6 kr
  obtain ⟨j0, j1, j2, j3, j4, j5, j6, j7⟩ := cells8 kb
  have hpb' : pb < w.heap.size := hpb
  have hpy' : py < w.heap.size := hpy
  have hpa' : pa < w.heap.size := hpa
  clear hV hG heq' hres hres' hna hsb heb hnw hsw hadm hb1 hz hra hown hlv kb kr g0 hok hri hwf hbl hpb hpy hpa
  by_cases hy0 : y = 0
  · have c0 : ((y : Int) == 0) = true := by rw [beq_iff_eq]; omega
    by_cases hG0 : G = 0
    · have d0 : decide ((0 : Int) < (G : Int)) = false := by simp; omega
      have d0' : decide (0 < G) = false := by simp; omega
      have hr2 : res = false := by rw [← HRES.out, d0']; simp
      subst hr2
      clear hG0 hy0
      go_enter Tryz.func45, Tryz.ntmps45
      go_wp2_with (refine wpList_load_row_g (by rfl) _ _ rfl w.heap.size rfl _ _ _ _ (heap_alloc_new w _) Tryz.underlying67 rfl (by rw [row_size, HZ.out]) ?_)
      go_ret
      exact ⟨rfl, HB1.out⟩
    · have d0 : decide ((0 : Int) < (G : Int)) = true := by simp; omega
      have d0' : decide (0 < G) = true := by simp; omega
      have hr2 : ra = res := by rw [← HRES.out, d0']; simp [hy0]
      subst hr2
      clear hG0 hy0
      go_enter Tryz.func45, Tryz.ntmps45
      go_wp2_with (refine wpList_load_row_g (by rfl) _ _ rfl w.heap.size rfl _ _ _ _ (heap_alloc_new w _) Tryz.underlying67 rfl (by rw [row_size, HZ.out]) ?_)
      refine HADM.out.mono ?_
      rintro e w2 ⟨rfl, hb2⟩
      go_wp2_with fail
      go_ret
      exact ⟨rfl, HB1.out.trans (hb2.mono HB1.out.size)⟩
  · have c0 : ((y : Int) == 0) = false := by rw [beq_eq_false_iff_ne]; omega
    cases eq'
    · have hr2 : res = false := by rw [← HRES.out]; simp [hy0]
      subst hr2
      clear hy0
      go_enter Tryz.func45, Tryz.ntmps45
      go_wp2_with (refine wpList_load_row_g (by rfl) _ _ rfl w.heap.size rfl _ _ _ _ (heap_alloc_new w _) Tryz.underlying67 rfl (by rw [row_size, HZ.out]) ?_)
      go_ret
      exact ⟨rfl, HB1.out⟩
    · by_cases hG0 : G = 0
      · have d0 : decide ((0 : Int) < (G : Int)) = false := by simp; omega
        have d0' : decide (0 < G) = false := by simp; omega
        have hr2 : res = false := by rw [← HRES.out, d0']; simp
        subst hr2
        clear hG0 hy0
        go_enter Tryz.func45, Tryz.ntmps45
        go_wp2_with (refine wpList_load_row_g (by rfl) _ _ rfl w.heap.size rfl _ _ _ _ (heap_alloc_new w _) Tryz.underlying67 rfl (by rw [row_size, HZ.out]) ?_)
        go_ret
        exact ⟨rfl, HB1.out⟩
      · have d0 : decide ((0 : Int) < (G : Int)) = true := by simp; omega
        have d0' : decide (0 < G) = true := by simp; omega
        have hr2 : ra = res := by rw [← HRES.out, d0']; simp
        subst hr2
        clear hG0 hy0
        go_enter Tryz.func45, Tryz.ntmps45
        go_wp2_with (refine wpList_load_row_g (by rfl) _ _ rfl w.heap.size rfl _ _ _ _ (heap_alloc_new w _) Tryz.underlying67 rfl (by rw [row_size, HZ.out]) ?_)
        refine HADM.out.mono ?_
        rintro e w2 ⟨rfl, hb2⟩
        go_wp2_with fail
        go_ret
        exact ⟨rfl, HB1.out.trans (hb2.mono HB1.out.size)⟩
end Go.Proofs.YtgadfmknjpanpaaGreatDoor

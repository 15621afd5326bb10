/-
  fill.rectangle.levels: in how many ways the rows from each row on can be filled.
-/
import Derived.Test.YtgadfmknjpanpaaGreatDoorFn
import Derived.Deep.RegionHeld3
namespace Go.Proofs.YtgadfmknjpanpaaGreatDoor
open Go.RowKit Go.Maps Go.BigFrame Go.Sort
set_option linter.unusedVariables false
set_option linter.unusedSimpArgs false
set_option maxRecDepth 100000

/-- the numbers of ways for j rows, by the line below them -/
def levF (L : List (List Nat)) (adm : Nat → List Nat → Bool) (S N : List Nat → List Int) (H : Nat) : Nat → List Int → Nat
  | 0, l => if l ∈ L.map N then 1 else 0
  | j + 1, l => undF L (adm (H - (j + 1))) S N (levF L adm S N H j) L.length l
/-- the level of row t: a map in the cell t of block lb -/
def LevAt (w : World) (lb t : Nat) (f : List Int → Nat) : Prop :=
  ∃ (b n : Nat) (D : DataW Unit) (ks : List (List Int)), w.cell? ⟨lb, t, none⟩ = some (.map (some b)) ∧ w.ownsMap Tryz.prog 65 (plainElem Tryz.prog 3) b n D ∧ n ≤ 1000000000 ∧ Lv D ks f
theorem LevAt.keep {w w' : World} {lb t : Nat} {f : List Int → Nat} (h : LevAt w lb t f) (hb : Below w.heap.size w w') : LevAt w' lb t f := by
  obtain ⟨b, n, D, ks, h1, h2, h3, h4⟩ := h
  exact ⟨b, n, D, ks, (hb.cell (World.block_lt_of_cell? w _ h1)).trans h1, h2.kept (grown_of_below hb none) (by simp), h3, h4⟩
theorem grown_setCell (w : World) (b o : Nat) (v : Value) : w.grownBy (w.setCell ⟨b, o, none⟩ v) (some b) :=
  ⟨rfl, rfl, rfl, by rw [setCell_heap_size]; exact Nat.le_refl _, fun k hk hne => heap_setCell_other w ⟨b, o, none⟩ k v (fun e => hne (by rw [e]))⟩
theorem map_ne_cells {w : World} {b lb : Nat} {n : Nat} {D : DataW Unit} (h : w.ownsMap Tryz.prog 65 (plainElem Tryz.prog 3) b n D) {cs : Array Value} {t : TypeId} {fr : Nat × Nat} (hc : w.heap[lb]? = some (.cells cs t fr)) : b ≠ lb := fun e => by
  obtain ⟨es, clock, hb, _⟩ := h
  rw [e, hc] at hb
  cases hb
theorem LevAt.setOther {w : World} {lb t j : Nat} {f : List Int → Nat} (h : LevAt w lb t f) (hne : t ≠ j) (v : Value) {cs : Array Value} {e : TypeId} {fr : Nat × Nat} (hc : w.heap[lb]? = some (.cells cs e fr)) : LevAt (w.setCell ⟨lb, j, none⟩ v) lb t f := by
  obtain ⟨b, n, D, ks, h1, h2, h3, h4⟩ := h
  exact ⟨b, n, D, ks, (World.cell?_setCell_other _ _ _ _ (fun e => hne (by first | exact congrArg Addr.off e | exact (congrArg Addr.off e).symm))).trans h1, h2.kept (grown_setCell w lb j v) (fun e => map_ne_cells h2 hc (by injection e)), h3, h4⟩
theorem map_info : (Tryz.prog.info? 63).map (fun i => (i.zero, i.size, i.bytes)) = some (some (.map none), 1, 8) := by kernel_rfl
theorem own_block_eq {w : World} {base e size n b c : Nat} {xs : List Value} (b' : Nat) (hb : b = b') (h : w.ownsRow base e size (.slice (some ⟨b, 0, none⟩) n c) n xs) : w.ownsRow base e size (.slice (some ⟨b', 0, none⟩) n c) n xs := by
  subst hb
  exact h
theorem set_alloc_cell {w : World} {o : Obj} {b i : Nat} {v u : Value} {a : Addr} (h : w.cell? a = some u) (hne : a.block ≠ b) : ((w.setCell ⟨b, i, none⟩ v).alloc o).cell? a = some u := by
  have h1 : (w.setCell ⟨b, i, none⟩ v).cell? a = some u := by
    rw [World.cell?_setCell_other _ _ _ _ (fun e => hne (by first | exact congrArg Addr.block e | exact (congrArg Addr.block e).symm))]
    exact h
  exact (World.cell?_of_block (w := w.setCell ⟨b, i, none⟩ v) (heap_alloc_old' _ o a.block (World.block_lt_of_cell? _ a h1))).trans h1
theorem frozen_alloc (w : World) (o : Obj) (a : Addr) (h : a.block < w.heap.size) : (w.alloc o).frozen? a = w.frozen? a := by
  have e : (w.alloc o).heap[a.block]? = w.heap[a.block]? := heap_alloc_old' w o _ h
  unfold World.frozen?
  simp only [e]
/-- the lines above the first k rows -/
def topF (L : List (List Nat)) (N : List Nat → List Int) (k : Nat) (l : List Int) : Nat := if l ∈ (L.take k).map N then 1 else 0
theorem topF_succ (L : List (List Nat)) (N : List Nat → List Int) (k : Nat) (r : List Nat) (hr : L[k]? = some r) : ∀ l, topF L N (k + 1) l = if l = N r then 1 else topF L N k l := by
  intro l
  have hk := (List.getElem?_eq_some_iff.1 hr).1
  have e := (List.getElem?_eq_some_iff.1 hr).2
  unfold topF
  rw [List.take_succ_eq_append_getElem hk, e, List.map_append, List.map_cons, List.map_nil]
  by_cases h : l = N r
  · simp [h]
  · simp [h]
theorem below_made {w w2 : World} {o : Obj} (hg : (w.alloc o).grownBy w2 none) : Below (w.alloc o).heap.size (w.alloc o) w2 := ⟨hg.os, hg.tape, hg.output, hg.size, fun k hk => hg.block k hk (by simp)⟩
theorem levels_step {wt w4 : World} {lb y h b4 n4 : Nat} {D4 : DataW Unit} {ks4 : List (List Int)} {f : Nat → List Int → Nat} {bx : Nat} {ob : Obj} (hb : Below wt.heap.size wt w4) (hcur : ∃ cur : Array Value, wt.heap[lb]? = some (.cells cur 63 (0, 0))) (hlb : lb < wt.heap.size)
    (hcy : wt.cell? ⟨lb, y, none⟩ = some (.map none)) (hm4 : w4.ownsMap Tryz.prog 65 (plainElem Tryz.prog 3) b4 n4 D4) (hn4 : n4 ≤ 1000000000) (hl4 : Lv D4 ks4 (f (h - y))) (hlvs : ∀ t, y + 1 ≤ t → t ≤ h → LevAt wt lb t (f (h - t)))
    (hnon : ∀ t, t < y + 1 → wt.cell? ⟨lb, t, none⟩ = some (.map none)) (hfz : ∀ o, wt.frozen? ⟨lb, o, none⟩ = false) (hbx : wt.heap[bx]? = some ob) (hne : bx ≠ lb) :
    (∀ t, y ≤ t → t ≤ h → LevAt (w4.setCell ⟨lb, y, none⟩ (.map (some b4))) lb t (f (h - t))) ∧ (∀ t, t < y → (w4.setCell ⟨lb, y, none⟩ (.map (some b4))).cell? ⟨lb, t, none⟩ = some (.map none)) ∧
    (∀ o, (w4.setCell ⟨lb, y, none⟩ (.map (some b4))).frozen? ⟨lb, o, none⟩ = false) ∧ (∃ cur : Array Value, (w4.setCell ⟨lb, y, none⟩ (.map (some b4))).heap[lb]? = some (.cells cur 63 (0, 0))) ∧ (w4.setCell ⟨lb, y, none⟩ (.map (some b4))).heap[bx]? = some ob := by
  obtain ⟨cur, hc⟩ := hcur
  have hc4 := heap_below hc hb hlb
  have hset := heap_setCell_same w4 lb y cur _ (.map (some b4)) hc4
  have hy : y < cur.size := by
    rw [cell_of_row _ _ _ _ _ _ hc] at hcy
    exact (Array.getElem?_eq_some_iff.1 hcy).1
  refine ⟨fun t h1 h2 => ?_, fun t ht => ?_, fun o => ?_, ⟨_, hset⟩, ?_⟩
  · by_cases e : t = y
    · subst e
      refine ⟨b4, n4, D4, ks4, ?_, hm4.kept (grown_setCell w4 lb t _) (fun e => map_ne_cells hm4 hc4 (by injection e)), hn4, hl4⟩
      rw [cell_of_row _ _ _ _ _ _ hset]
      simp [hy]
    · exact ((hlvs t (by omega) h2).keep hb).setOther e _ hc4
  · rw [World.cell?_setCell_other _ _ _ _ (fun e => by have : t = y := (by first | exact congrArg Addr.off e | exact (congrArg Addr.off e).symm); omega)]
    exact (hb.cell (p := ⟨lb, t, none⟩) hlb).trans (hnon t (by omega))
  · rw [World.frozen?_setCell]
    exact (hb.frozen (p := ⟨lb, o, none⟩) hlb).trans (hfz o)
  · rw [heap_setCell_other _ _ _ _ hne]
    exact heap_below hbx hb (Array.getElem?_eq_some_iff.1 hbx).1
/-- what levels returns -/
def IsLevels (f : Nat → List Int → Nat) (h : Nat) (W : World) (e : Ending) (w' : World) : Prop :=
  ∃ lb c, e = .returned (.slice (some ⟨lb, 0, none⟩) (h + 1) c) ∧ W.heap.size ≤ lb ∧ (∀ t, t ≤ h → LevAt w' lb t (f (h - t))) ∧ Below W.heap.size W w'

set_option maxHeartbeats 8000000 in
theorem levels_any (s : List Tl) (d : Ed) (L : List (List Nat)) (wd h : Nat) (N E S W R : Option Addr) (nn nc en ec sn sc wn wcap rn rc : Nat) (w : World)
    (hL : ∀ r ∈ L, r.length = wd ∧ ∀ i ∈ r, i < s.length) (hwf : ∀ t ∈ s, twf t) (hw1 : 1 ≤ wd) (hw : wd ≤ 8) (hh1 : 1 ≤ h) (hh : h ≤ 60) (hrn : rn = L.length) (hrn9 : rn ≤ 1000000000)
    (hok : RectOk d wd h nn en sn wn w w.heap.size N E S W) (hR : FlatIn (rowV s) 26 w w.heap.size R L) :
    Calls Tryz.prog 24 #[.agg #[.int .i64 (h : Int), .slice N nn nc, .slice E en ec, .slice S sn sc, .slice W wn wcap, .slice R rn rc]] w (IsLevels (levF L (admE s d h) (south s) (north s) h) h w) := by
  have hmm := @run_makeMap Tryz.prog
  obtain ⟨i0, hi, hz0, hz1, hz2⟩ := info_parts map_info
  obtain ⟨n1, hn1⟩ : ∃ n1, n1 = h + 1 := ⟨_, rfl⟩
  have e1 : (h : Int) + 1 = (n1 : Int) := by rw [hn1]; exact_mod_cast rfl
  have hn61 : n1 ≤ 61 := by omega
  have hhn : (h : Int) < (n1 : Int) := by omega
  have hh0 : (0 : Int) ≤ (h : Int) := by omega
  have HN1 := Lib.hid hn1
  have HL := Lib.hid hL
  have HWF := Lib.hid hwf
  have HRN := Lib.hid hrn
  have HOK := Lib.hid hok
  have HR := Lib.hid hR
  clear hL hwf hrn hok hR hn1
  go_enter Tryz.func24, Tryz.ntmps24
  go_wp2_with (at_make; refine wpList_make_full _ rfl _ _ 61 rfl (w.heap.size + 1) 63 i0 (.map none) 1 Tryz.underlying61 hi hz0 hz1 .i64 .i64 _ _ n1 rfl rfl rfl rfl (by rw [hz2]; omega) (by simp only [maxLen]; omega) (by simp) ?_; intro w2 hown2 hgrow2; have hb2 := below_made hgrow2; have hbox2 := heap_below (heap_alloc_new w _) hb2 (by simp); obtain ⟨k0, k1, k2, k3, k4, k5⟩ := cells6 hbox2; have hown2' := own_block_eq (w.heap.size + 1) (by simp) hown2; obtain ⟨hlt2, hc2, hfz2⟩ := own_words hown2'; have cH := (hc2 h (by omega)).trans (made_at (.map none) (n1 * 1) h (by omega)); have fH := (frozen_alloc w2 (.map #[] 0) ⟨w.heap.size + 1, h, none⟩ hlt2).trans (hfz2 h); have k5' := set_alloc_cell (b := w.heap.size + 1) (o := .map #[] 0) (i := h) (v := .map (some w2.heap.size)) k5 (by show w.heap.size ≠ w.heap.size + 1; omega))
  obtain ⟨W3, hW3⟩ : ∃ W3, W3 = (w2.setCell ⟨w.heap.size + 1, h, none⟩ (.map (some w2.heap.size))).alloc (.map #[] 0) := ⟨_, rfl⟩
  rw [← hW3]
  have hs3 : W3.heap.size = w2.heap.size + 1 := by rw [hW3]; simp [setCell_heap_size]
  have hb02 : Below w.heap.size w w2 := ((Below.refl w.heap.size w).alloc (Nat.le_refl _) _).trans (hb2.mono (by simp))
  have hb03 : Below w.heap.size w W3 := by rw [hW3]; exact (hb02.setCell (by show w.heap.size ≤ w.heap.size + 1; omega) _).alloc (by rw [setCell_heap_size]; exact hb02.size) _
  have hlb2 : w.heap.size + 1 < w2.heap.size := hlt2
  have hown2 := hown2'
  have hbox3 : Hid (W3.heap[w.heap.size]? = some (.cells #[.int .i64 (h : Int), .slice N nn nc, .slice E en ec, .slice S sn sc, .slice W wn wcap, .slice R rn rc] 60 (0, 0))) := by
    show _ = _
    rw [hW3]
    refine heap_kp ?_ _
    rw [heap_setCell_other _ _ _ _ (by show w.heap.size ≠ w.heap.size + 1; omega)]
    exact hbox2
  have hown2c : ∃ cur : Array Value, w2.heap[w.heap.size + 1]? = some (.cells cur 63 (0, 0)) := by
    rcases hown2.2 with ⟨h1, _⟩ | ⟨g, cap', cur, h1, _, h2, _⟩
    · cases h1
    · cases h1; exact ⟨cur, h2⟩
  have hlevs3 : Hid (∃ cur : Array Value, W3.heap[w.heap.size + 1]? = some (.cells cur 63 (0, 0))) := by
    obtain ⟨cur, hc⟩ := hown2c
    refine ⟨cur.setIfInBounds h (.map (some w2.heap.size)), ?_⟩
    rw [hW3]
    exact heap_kp (heap_setCell_same _ _ _ _ _ _ hc) _
  have hcell3 : Hid (∀ t, t ≤ h → W3.cell? ⟨w.heap.size + 1, t, none⟩ = some (.map (if t = h then some w2.heap.size else none))) := fun t ht => by
    obtain ⟨cur, hc⟩ := hown2c
    rw [hW3]
    by_cases e : t = h
    · subst e
      rw [if_pos rfl]
      have h1 := heap_kp (heap_setCell_same w2 _ t cur _ (.map (some w2.heap.size)) hc) (.map #[] 0)
      have h2 := cell_of_row w2 _ t _ _ _ hc
      rw [cH] at h2
      have h3 : t < cur.size := (Array.getElem?_eq_some_iff.1 h2.symm).1
      rw [cell_of_row _ _ t _ _ _ h1]
      simp [h3]
    · rw [if_neg e]
      have h1 := heap_kp (heap_setCell_same w2 _ h cur _ (.map (some w2.heap.size)) hc) (.map #[] 0)
      rw [cell_of_row _ _ t _ _ _ h1, Array.getElem?_setIfInBounds_ne (fun e' => e e'.symm), ← cell_of_row _ _ t _ _ _ hc]
      exact (hc2 t (by omega)).trans (made_at (.map none) (n1 * 1) t (by omega))
  have hfz3 : Hid (∀ o, W3.frozen? ⟨w.heap.size + 1, o, none⟩ = false) := fun o => by
    obtain ⟨cur, hc⟩ := hlevs3.out
    simp [World.frozen?, hc]
  have hmap3 : W3.ownsMap (H := Unit) Tryz.prog 65 (plainElem Tryz.prog 3) w2.heap.size 0 (.map []) := by
    rw [hW3]
    have := World.ownsMap_made (H := Unit) (w2.setCell ⟨w.heap.size + 1, h, none⟩ (.map (some w2.heap.size))) Tryz.prog 65 (plainElem Tryz.prog 3)
    rwa [setCell_heap_size] at this
  have HS3 := Lib.hid hs3
  clear hW3 hs3 hmm hown2 hown2' hown2c hgrow2 hbox2 k0 k1 k2 k3 k4 k5 k5' hc2 hfz2 cH fH hlt2 hb2
  go_loopw [19] (fun i wr => ∃ (k n' : Nat) (D' : DataW Unit) (ks' : List (List Int)), k ≤ rn ∧ i = .int .i64 k ∧ wr.ownsMap Tryz.prog 65 (plainElem Tryz.prog 3) w2.heap.size n' D' ∧ n' ≤ k ∧ Hid (Lv D' ks' (topF L (north s) k)) ∧ Below w2.heap.size W3 wr ∧ W3.heap.size ≤ wr.heap.size) (fun i _ => rn - (intOf i).toNat)
  case atStart => exact ⟨0, 0, .map [], [], Nat.zero_le _, rfl, hmap3, Nat.le_refl _, Lv.empty.congr (fun l => by simp [topF]), Below.refl _ _, Nat.le_refl _⟩
  case round =>
    clear hmap3
    obtain ⟨k, n', D', ks', hk, rfl, hlev, hn', hlv', hbr, hsz⟩ := hrel
    obtain ⟨wo, rfl⟩ : ∃ wo : World, wo = wr := ⟨_, rfl⟩
    have hbw : Below w.heap.size w wo := hb03.trans (hbr.mono (by omega))
    have hsz3 : w2.heap.size + 1 ≤ wo.heap.size := by rw [HS3.out] at hsz; exact hsz
    by_cases hlt : k < rn
    · have hkl : k < L.length := by rw [← HRN.out]; exact hlt
      obtain ⟨r, hr⟩ : ∃ r, L[k]? = some r := ⟨_, List.getElem?_eq_getElem hkl⟩
      obtain ⟨g, rfl, hg, hrows⟩ := HR.out (fun e => by rw [e] at hkl; simp at hkl)
      have hrange := rangeAt_keep (hrows k r hr) hbw hg
      obtain ⟨hrl, hri⟩ := HL.out r (List.mem_of_getElem? hr)
      have hr8 : r.length ≤ 8 := by omega
      have hnw := north_wf HWF.out hri hr8
      have hsw := south_wf HWF.out hri hr8
      have ha : Hid ((rowA s r).all (·.oneCell') = true) := rowA_one s r
      have hz : Hid ((rowA s r).size = 26) := rowA_size s r hr8
      have hk0 : (0 : Int) ≤ (k : Int) := by omega
      have hkn' : (k : Int) < (rn : Int) := by omega
      obtain ⟨a0, a1, a2, a3, a4, a5, a6, a7, hna⟩ := len8 (north s r) hnw.1
      obtain ⟨b0, b1, b2, b3, b4, b5, b6, b7, hsb⟩ := len8 (south s r) hsw.1
      have HRr := Lib.hid hr
      have HNW := Lib.hid hnw
      have HNA := Lib.hid hna
      have HSB := Lib.hid hsb
      have hkey : keyOf Tryz.prog 65 (.agg #[.int .i64 a0, .int .i64 a1, .int .i64 a2, .int .i64 a3, .int .i64 a4, .int .i64 a5, .int .i64 a6, .int .i64 a7]) = some (lk (north s r)) := by
        have := keyOf_line (north s r) hnw
        rw [hna] at this ⊢
        exact this
      have HKEY := Lib.hid hkey
      have hstep : Hid (∀ l, topF L (north s) (k + 1) l = if l = north s r then 1 else topF L (north s) k l) := topF_succ L (north s) k r hr
      clear hr hrl hri hnw hsw hna hsb hrows hkl hkey
      have hboxo := cells6 (heap_below hbox3.out hbr (by omega))
      obtain ⟨k0, k1, k2, k3, k4, k5⟩ := hboxo
      have hlh := (hbr.cell (p := ⟨w.heap.size + 1, h, none⟩) hlb2).trans (hcell3.out h (Nat.le_refl _))
      rw [if_pos rfl] at hlh
      have HLH := Lib.hid hlh
      clear hlh
      go_wp2_with (first
        | (refine wpList_load_mid rfl _ _ rfl g (k * 26) rfl (rowV s r) _ hrange Tryz.underlying67 rfl (by rw [row_size]; simp [rowV_len s r hr8]) ?_)
        | (refine wpList_store_whole rfl _ _ _ rfl wo.heap.size (rowA s r) rfl rfl _ _ (heap_alloc_new wo _) (by rw [hz.out]; rfl) (by rw [row_size, hz.out]) ha.out ?_; intro wz hgz hsz' hbz))
      have hvz := below_var hgz
      obtain ⟨x8, x9, x10, x11, x12, x13, x14, x15, x16, x17, x18, x19, x20, x21, x22, x23⟩ := row_cells hbz hr8 HNA.out HSB.out
      have f0 := ext_cell ((hvz.cell (p := ⟨w.heap.size, 0, none⟩) (by show w.heap.size < _; omega)).trans k0)
      have f1 := ext_cell ((hvz.cell (p := ⟨w.heap.size + 1, h, none⟩) (by show w.heap.size + 1 < _; omega)).trans HLH.out)
      have q0 := ext_cell x8
      have q1 := ext_cell x9
      have q2 := ext_cell x10
      have q3 := ext_cell x11
      have q4 := ext_cell x12
      have q5 := ext_cell x13
      have q6 := ext_cell x14
      have q7 := ext_cell x15
      have hlev2 := hlev.kept (grown_of_below hvz none) (by simp)
      have hzz : wz.heap.size = wo.heap.size + 1 := by rw [hsz']; simp
      have HZZ := Lib.hid hzz
      clear x8 x9 x10 x11 x12 x13 x14 x15 x16 x17 x18 x19 x20 x21 x22 x23 k0 k1 k2 k3 k4 k5 hgz hbz hsz' hrange hzz
      go_frame
      refine wp_region_ext_tail 7 (by kernel_rfl) (by kernel_rfl) ?_
      simp only [List.take_succ_cons, List.take_zero, List.drop_succ_cons, List.drop_zero]
      repeat (go_big_quiet_step (fail))
      refine wpQuiet_nil ?_
      intro _ hw'
      obtain ⟨xq, rfl⟩ := hw'
      obtain ⟨W6, hb6, he6⟩ : ∃ W6, Below wz.heap.size wz W6 ∧ ext wz xq = W6 := ⟨_, ext_below _, rfl⟩
      rw [he6]
      have hlev6 := hlev2.kept (grown_of_below hb6 none) (by simp)
      have hs6 := hb6.size
      have HLEV6 := Lib.hid hlev6
      clear he6 xq f0 f1 q0 q1 q2 q3 q4 q5 q6 q7 hlev2 hlev6 hlev
      go_wp2_with (at_mapUpdate; refine wpList_mapUpdate_own _ rfl _ _ _ 63 rfl 65 3 line_law Tryz.underlying63 _ w2.heap.size n' _ rfl HLEV6.out (by unfold maxLen; omega) _ _ _ rfl rfl HKEY.out _ [] (plainElem_int Tryz.underlying3 (WalkArith.wf_i64 (by omega))) ?_; intro w7 hown7 hgrow7)
      have hb7 : Below w2.heap.size W3 w7 := (hbr.trans ((hvz.trans (hb6.mono hvz.size)).mono (by omega))).trans (below_of_grown hgrow7 (Nat.le_refl _) (by rw [HZZ.out] at hs6; omega))
      have hsz7 : W3.heap.size ≤ w7.heap.size := Nat.le_trans (Nat.le_trans hsz (Nat.le_trans hvz.size hs6)) hgrow7.size
      have HLV7 : Hid (Lv (D'.put (lk (north s r)) (.lit (.int .i64 (1 : Nat)))) (if north s r ∈ ks' then ks' else ks' ++ [north s r]) (topF L (north s) (k + 1))) :=
        (hlv'.out.add HNW.out (v := 1) (by omega) (by unfold cap; omega)).congr fun l => (hstep.out l).symm
      have HO7 := Lib.hid hown7
      clear hown7 hgrow7
      go_roundw
      case rel => exact ⟨k + 1, n' + 1, _, _, by omega, by go_num, HO7.out, by omega, HLV7, hb7, hsz7⟩
      case measure => simp [intOf]; omega
    · have e : k = rn := by omega
      have HEQ := Lib.hid e
      clear e
      have hlv0 : Hid (Lv D' ks' (levF L (admE s d h) (south s) (north s) h 0)) := hlv'.out.congr fun l => by
        unfold topF levF
        rw [HEQ.out, HRN.out, List.take_length]
      have hboxo := cells6 (heap_below hbox3.out hbr (by omega))
      obtain ⟨k0, k1, k2, k3, k4, k5⟩ := hboxo
      have hcello : Hid (∀ t, t ≤ h → wo.cell? ⟨w.heap.size + 1, t, none⟩ = some (.map (if t = h then some w2.heap.size else none))) := fun t ht => (hbr.cell (p := ⟨w.heap.size + 1, t, none⟩) hlb2).trans (hcell3.out t ht)
      have hfzo : Hid (∀ o, wo.frozen? ⟨w.heap.size + 1, o, none⟩ = false) := fun o => (hbr.frozen (p := ⟨w.heap.size + 1, o, none⟩) hlb2).trans (hfz3.out o)
      have hboxW : Hid (wo.heap[w.heap.size]? = some (.cells #[.int .i64 (h : Int), .slice N nn nc, .slice E en ec, .slice S sn sc, .slice W wn wcap, .slice R rn rc] 60 (0, 0))) := heap_below hbox3.out hbr (by omega)
      have hown0 : Hid (LevAt wo (w.heap.size + 1) h (levF L (admE s d h) (south s) (north s) h (h - h))) := by
        rw [Nat.sub_self]
        exact ⟨w2.heap.size, n', D', ks', (hcello.out h (Nat.le_refl _)).trans (by rw [if_pos rfl]), hlev, by omega, hlv0.out⟩
      have hcur : Hid (∃ cur : Array Value, wo.heap[w.heap.size + 1]? = some (.cells cur 63 (0, 0))) := by
        obtain ⟨cur, hc⟩ := hlevs3.out
        exact ⟨cur, heap_below hc hbr hlb2⟩
      have hst0 : Hid (∀ t, t < h → wo.cell? ⟨w.heap.size + 1, t, none⟩ = some (.map none)) := fun t ht => (hcello.out t (by omega)).trans (by rw [if_neg (by omega)])
      have hlbo : w.heap.size + 1 < wo.heap.size := by omega
      clear hlev hlv' hlv0 hcello hbox3 hlevs3 hcell3 hfz3 hsz hbr hb03 hb02 HEQ
      go_wp2_with fail
      clear k0 k1 k2 k3 k4 k5
      go_loopw [6] (fun i wr => ∃ j : Nat, j ≤ h ∧ i = .int .i64 ((j : Int) - 1) ∧ Hid (∀ t, j ≤ t → t ≤ h → LevAt wr (w.heap.size + 1) t (levF L (admE s d h) (south s) (north s) h (h - t))) ∧ Hid (∀ t, t < j → wr.cell? ⟨w.heap.size + 1, t, none⟩ = some (.map none)) ∧
        Hid (∀ o, wr.frozen? ⟨w.heap.size + 1, o, none⟩ = false) ∧ Hid (∃ cur : Array Value, wr.heap[w.heap.size + 1]? = some (.cells cur 63 (0, 0))) ∧
        Hid (wr.heap[w.heap.size]? = some (.cells #[.int .i64 (h : Int), .slice N nn nc, .slice E en ec, .slice S sn sc, .slice W wn wcap, .slice R rn rc] 60 (0, 0))) ∧ Below w.heap.size w wr ∧ w.heap.size + 1 < wr.heap.size) (fun i _ => (intOf i + 1).toNat)
      case atStart => exact ⟨h, Nat.le_refl _, rfl, fun t h1 h2 => by obtain rfl : t = h := (by omega); exact hown0.out, hst0, hfzo, hcur, hboxW, hbw, hlbo⟩
      case round =>
        clear hown0 hst0 hfzo hcur hboxW hbw hlbo
        obtain ⟨j, hj, rfl, hlvs, hnon, hfz, hcur, hbox, hbw, hlb⟩ := hrel
        obtain ⟨wt, rfl⟩ : ∃ wt : World, wt = wr := ⟨_, rfl⟩
        by_cases hj0 : 1 ≤ j
        · obtain ⟨y, hyj⟩ : ∃ y, j = y + 1 := ⟨j - 1, by omega⟩
          subst hyj
          have ey : (((y + 1 : Nat) : Int) - 1) = (y : Int) := by omega
          rw [ey]
          obtain ⟨bj, nj, Dj, kj, hcj, hmj, hnj, hlj⟩ := hlvs.out (y + 1) (Nat.le_refl _) hj
          have hcy := hnon.out y (by omega)
          have hfy := hfz.out y
          obtain ⟨k0, k1, k2, k3, k4, k5⟩ := cells6 hbox.out
          have hy0 : (0 : Int) ≤ (y : Int) := by omega
          have hyn : (y : Int) < (n1 : Int) := by omega
          have hyn1 : (y : Int) + 1 < (n1 : Int) := by omega
          have hy60 : (y : Int) ≤ 60 := by omega
          have hU := fun (W' : World) (hb : Below wt.heap.size wt W') => under_any s d L wd h y N E S W R nn nc en ec sn sc wn wcap rn rc bj nj Dj kj _ W' HL.out HWF.out hw1 hw hh (by omega) HRN.out hrn9 ((HOK.out.keep hbw hbw.size).keep hb hb.size) ((HR.out.keep hbw hbw.size).keep hb hb.size) (hmj.kept (grown_of_below hb none) (by simp)) hlj
          have HU := Lib.hid hU
          have HMJ := Lib.hid hmj
          have HLJ := Lib.hid hlj
          clear hU hmj hlj
          have ew : IntKind.i64.wrap ((y : Int) + 1) = (y : Int) + 1 := IntWalk.i64_in _ (by omega)
          have ep : (0 : Int) ≤ (y : Int) + 1 := by omega
          have et : ((y : Int) + 1).toNat = y + 1 := by omega
          go_wp2_with fail
          go_region_with (go_at_call 43; refine (HU.out _ (Below.refl _ _).drew).mono ?_; rintro e w4 ⟨b4, n4, D4, ks4, rfl, hb4lo, hm4, hn4, hl4, hb4⟩; have hcy4 := (hb4.cell (p := ⟨w.heap.size + 1, y, none⟩) hlb).trans hcy; have hfy4 := (hb4.frozen (p := ⟨w.heap.size + 1, y, none⟩) hlb).trans hfy)
          all_goals
            have hbt := be_drew' hb4
            have hl5 : Lv D4 ks4 (levF L (admE s d h) (south s) (north s) h (h - y)) := hl4.congr fun l => by
              rw [show h - y = (h - (y + 1)) + 1 by omega]
              show _ = undF L (admE s d h (h - ((h - (y + 1)) + 1))) (south s) (north s) (levF L (admE s d h) (south s) (north s) h (h - (y + 1))) L.length l
              rw [show h - ((h - (y + 1)) + 1) = y by omega]
            obtain ⟨r1, r2, r3, r4, r5⟩ := levels_step (f := levF L (admE s d h) (south s) (north s) h) (h := h) hbt hcur.out hlb hcy hm4 hn4 hl5 hlvs.out hnon.out hfz.out hbox.out (by omega)
            have HR1 := Lib.hid r1
            have HR2 := Lib.hid r2
            have HR3 := Lib.hid r3
            have HR4 := Lib.hid r4
            have HR5 := Lib.hid r5
            have hbw5 : Below w.heap.size w (w4.setCell ⟨w.heap.size + 1, y, none⟩ (.map (some b4))) := (hbw.trans (hbt.mono hbw.size)).setCell (by show w.heap.size ≤ w.heap.size + 1; omega) _
            have hlb5 : w.heap.size + 1 < (w4.setCell ⟨w.heap.size + 1, y, none⟩ (.map (some b4))).heap.size := by rw [setCell_heap_size]; exact Nat.lt_of_lt_of_le hlb hbt.size
            clear r1 r2 r3 r4 r5 ew ep et hcy hfy hcy4 hfy4 hm4 hl4 hl5 hb4 hbt k0 k1 k2 k3 k4 k5 hcj hlvs hnon hfz hcur hbox
            go_wp2_with fail
            go_roundw
            case rel => exact ⟨y, by omega, rfl, HR1, HR2, HR3, HR4, HR5, hbw5, hlb5⟩
            case measure => first | (simp [intOf]; done) | (simp [intOf]; omega)
        · have hj1 : j = 0 := by omega
          subst hj1
          have hlv2 : Hid (∀ t, t ≤ h → LevAt wt (w.heap.size + 1) t (levF L (admE s d h) (south s) (north s) h (h - t))) := fun t ht => hlvs.out t (Nat.zero_le _) ht
          have en : Hid (n1 = h + 1) := HN1.out
          clear hlvs hnon hfz hcur hbox
          go_wp2_with fail
          go_ret
          exact ⟨w.heap.size + 1, n1, by rw [← en.out]; rfl, by omega, hlv2.out, hbw⟩
end Go.Proofs.YtgadfmknjpanpaaGreatDoor

/-
  strip.doubles: what it is in memory; double and add.
-/
import Derived.Test.YtgadfmknjpanpaaDoorSp
import Derived.Test.YtgadfmknjpanpaaDoorSb
import Derived.OneCell
namespace Go.Proofs.YtgadfmknjpanpaaDoor
open Go.RowKit Go.Maps Go.BigFrame Go.Sort
set_option linter.unusedVariables false
set_option linter.unusedSimpArgs false
set_option maxRecDepth 100000

/-- pairs of indices in memory -/
def pcells (F : List (Nat × Nat)) : List Value := F.flatMap fun p => [.int .i64 (p.1 : Int), .int .i64 (p.2 : Int)]
/-- what a doubles is in memory -/
structure Dbl (w : World) (Db B : Nat) (tv fv : Value) (nb mb n1 n2 : Nat) (D : DataW Unit) (T M : List Tl) (F : List (Nat × Nat)) (ks : List (List Int)) : Prop where
  box : w.heap[Db]? = some (.cells #[tv, fv, .map (some nb), .map (some mb)] 71 (0, 0))
  num : w.ownsMap Tryd.prog 76 (plainElem Tryd.prog 3) nb n1 D
  nv : Nv2 D ks
  met : w.ownsMap Tryd.prog 53 (plainElem Tryd.prog 4) mb n2 (seen M)
  tiles : w.ownsRow B 53 4 tv T.length (tcells T)
  froms : w.ownsRow B 76 2 fv F.length (pcells F)
  hB : B ≤ Db ∧ B ≤ nb ∧ B ≤ mb
  ne : Db ≠ nb ∧ Db ≠ mb ∧ nb ≠ mb
  tne : tv.ownBlock ≠ some Db ∧ tv.ownBlock ≠ some nb ∧ tv.ownBlock ≠ some mb
  fne : fv.ownBlock ≠ some Db ∧ fv.ownBlock ≠ some nb ∧ fv.ownBlock ≠ some mb
  tf : ∀ g, tv.ownBlock = some g → fv.ownBlock ≠ some g
theorem Dbl.keep {w w' : World} {Db B : Nat} {tv fv : Value} {nb mb n1 n2 : Nat} {D : DataW Unit} {T M : List Tl} {F : List (Nat × Nat)} {ks : List (List Int)} (h : Dbl w Db B tv fv nb mb n1 n2 D T M F ks) (hb : Below w.heap.size w w') : Dbl w' Db B tv fv nb mb n1 n2 D T M F ks where
  box := (hb.block Db (Array.getElem?_eq_some_iff.1 h.box).1).trans h.box
  num := h.num.kept (grown_ext none hb) (by simp)
  nv := h.nv
  met := h.met.kept (grown_ext none hb) (by simp)
  tiles := own_keep' h.tiles hb
  froms := own_keep' h.froms hb
  hB := h.hB
  ne := h.ne
  tne := h.tne
  fne := h.fne
  tf := h.tf
theorem ne_symm_some {a b : Option Nat} (h : a ≠ b) : b ≠ a := fun e => h e.symm
/-- the map of pairs grew -/
theorem Dbl.numbers {w w' : World} {Db B : Nat} {tv fv : Value} {nb mb n1 n2 m1 : Nat} {D D' : DataW Unit} {T M : List Tl} {F : List (Nat × Nat)} {ks ks' : List (List Int)} (h : Dbl w Db B tv fv nb mb n1 n2 D T M F ks) (hg : w.grownBy w' (some nb))
    (hn : w'.ownsMap Tryd.prog 76 (plainElem Tryd.prog 3) nb m1 D') (hv : Nv2 D' ks') : Dbl w' Db B tv fv nb mb m1 n2 D' T M F ks' where
  box := keepZ hg h.box (by simpa using h.ne.1)
  num := hn
  nv := hv
  met := h.met.kept hg (by simpa using fun e => h.ne.2.2 e.symm)
  tiles := h.tiles.kept hg (Or.inr h.tne.2.1)
  froms := h.froms.kept hg (Or.inr h.fne.2.1)
  hB := h.hB
  ne := h.ne
  tne := h.tne
  fne := h.fne
  tf := h.tf
/-- the set of tiles grew -/
theorem Dbl.mets {w w' : World} {Db B : Nat} {tv fv : Value} {nb mb n1 n2 m2 : Nat} {D : DataW Unit} {T M M' : List Tl} {F : List (Nat × Nat)} {ks : List (List Int)} (h : Dbl w Db B tv fv nb mb n1 n2 D T M F ks) (hg : w.grownBy w' (some mb))
    (hm : w'.ownsMap Tryd.prog 53 (plainElem Tryd.prog 4) mb m2 (seen M')) : Dbl w' Db B tv fv nb mb n1 m2 D T M' F ks where
  box := keepZ hg h.box (by simpa using h.ne.2.1)
  num := h.num.kept hg (by simpa using h.ne.2.2)
  nv := h.nv
  met := hm
  tiles := h.tiles.kept hg (Or.inr h.tne.2.2)
  froms := h.froms.kept hg (Or.inr h.fne.2.2)
  hB := h.hB
  ne := h.ne
  tne := h.tne
  fne := h.fne
  tf := h.tf
/-- another block was written -/
theorem Dbl.other {w w' : World} {Db B q : Nat} {tv fv : Value} {nb mb n1 n2 : Nat} {D : DataW Unit} {T M : List Tl} {F : List (Nat × Nat)} {ks : List (List Int)} (h : Dbl w Db B tv fv nb mb n1 n2 D T M F ks) (hg : w.grownBy w' (some q)) (hD : Db ≠ q) (hn : nb ≠ q) (hm : mb ≠ q)
    (ht : tv.ownBlock ≠ some q) (hf : fv.ownBlock ≠ some q) : Dbl w' Db B tv fv nb mb n1 n2 D T M F ks where
  box := keepZ hg h.box (by simpa using hD)
  num := h.num.kept hg (by simpa using hn)
  nv := h.nv
  met := h.met.kept hg (by simpa using hm)
  tiles := h.tiles.kept hg (Or.inr ht)
  froms := h.froms.kept hg (Or.inr hf)
  hB := h.hB
  ne := h.ne
  tne := h.tne
  fne := h.fne
  tf := h.tf
/-- a tile was appended and the row laid back -/
theorem Dbl.tile {w w1 : World} {Db B : Nat} {tv fv tv' : Value} {nb mb n1 n2 : Nat} {D : DataW Unit} {T M : List Tl} {F : List (Nat × Nat)} {ks : List (List Int)} (h : Dbl w Db B tv fv nb mb n1 n2 D T M F ks) (t : Tl) (hg : w.grownBy w1 tv.ownBlock)
    (ho : w1.ownsRow B 53 4 tv' (T ++ [t]).length (tcells (T ++ [t]))) (ha : tv'.ownBlock = tv.ownBlock ∨ ∃ q, tv'.ownBlock = some q ∧ w.heap.size ≤ q) : Dbl (w1.setCell ⟨Db, 0, none⟩ tv') Db B tv' fv nb mb n1 n2 D (T ++ [t]) M F ks := by
  have hDb := (Array.getElem?_eq_some_iff.1 h.box).1
  have hnb := h.num.lt
  have hmb := h.met.lt
  have hfl := h.froms.lt
  have hne : ∀ q, q < w.heap.size → tv.ownBlock ≠ some q → tv'.ownBlock ≠ some q := fun q hq h1 e => by
    rcases ha with h2 | ⟨q', h2, h3⟩
    · rw [h2] at e; exact h1 e
    · rw [h2] at e; injection e with e; omega
  have hset : w1.grownBy (w1.setCell ⟨Db, 0, none⟩ tv') (some Db) := grown_cell (World.grownBy.refl w1 (some Db)) 0 _
  refine ⟨?_, ?_, h.nv, ?_, ?_, ?_, h.hB, h.ne, ⟨hne _ hDb h.tne.1, hne _ hnb h.tne.2.1, hne _ hmb h.tne.2.2⟩, h.fne, fun g e1 e2 => ?_⟩
  · rw [heap_setCell_same _ _ 0 _ _ _ (keepZ hg h.box (ne_symm_some h.tne.1))]
    rfl
  · exact (h.num.kept hg (ne_symm_some h.tne.2.1)).kept hset (by simpa using fun e => h.ne.1 e.symm)
  · exact (h.met.kept hg (ne_symm_some h.tne.2.2)).kept hset (by simpa using fun e => h.ne.2.1 e.symm)
  · exact ownsRow_setCell_other ho (a := ⟨Db, 0, none⟩) (hne _ hDb h.tne.1) _
  · refine ownsRow_setCell_other (h.froms.kept hg ?_) (a := ⟨Db, 0, none⟩) h.fne.1 _
    cases hfo : fv.ownBlock with
    | none => exact Or.inl rfl
    | some q => exact Or.inr fun e => h.tf q e.symm hfo
  · have := (hfl g e2).2
    rcases ha with h2 | ⟨q', h2, h3⟩
    · exact h.tf g (h2 ▸ e1) e2
    · rw [h2] at e1; injection e1 with e1; omega
/-- a pair was appended and the row laid back -/
theorem Dbl.pair {w w1 : World} {Db B : Nat} {tv fv fv' : Value} {nb mb n1 n2 : Nat} {D : DataW Unit} {T M : List Tl} {F : List (Nat × Nat)} {ks : List (List Int)} (h : Dbl w Db B tv fv nb mb n1 n2 D T M F ks) (p : Nat × Nat) (hg : w.grownBy w1 fv.ownBlock)
    (ho : w1.ownsRow B 76 2 fv' (F ++ [p]).length (pcells (F ++ [p]))) (ha : fv'.ownBlock = fv.ownBlock ∨ ∃ q, fv'.ownBlock = some q ∧ w.heap.size ≤ q) : Dbl (w1.setCell ⟨Db, 1, none⟩ fv') Db B tv fv' nb mb n1 n2 D T M (F ++ [p]) ks := by
  have hDb := (Array.getElem?_eq_some_iff.1 h.box).1
  have hnb := h.num.lt
  have hmb := h.met.lt
  have htl := h.tiles.lt
  have hne : ∀ q, q < w.heap.size → fv.ownBlock ≠ some q → fv'.ownBlock ≠ some q := fun q hq h1 e => by
    rcases ha with h2 | ⟨q', h2, h3⟩
    · rw [h2] at e; exact h1 e
    · rw [h2] at e; injection e with e; omega
  have hset : w1.grownBy (w1.setCell ⟨Db, 1, none⟩ fv') (some Db) := grown_cell (World.grownBy.refl w1 (some Db)) 1 _
  refine ⟨?_, ?_, h.nv, ?_, ?_, ?_, h.hB, h.ne, h.tne, ⟨hne _ hDb h.fne.1, hne _ hnb h.fne.2.1, hne _ hmb h.fne.2.2⟩, fun g e1 e2 => ?_⟩
  · rw [heap_setCell_same _ _ 1 _ _ _ (keepZ hg h.box (ne_symm_some h.fne.1))]
    rfl
  · exact (h.num.kept hg (ne_symm_some h.fne.2.1)).kept hset (by simpa using fun e => h.ne.1 e.symm)
  · exact (h.met.kept hg (ne_symm_some h.fne.2.2)).kept hset (by simpa using fun e => h.ne.2.1 e.symm)
  · refine ownsRow_setCell_other (h.tiles.kept hg ?_) (a := ⟨Db, 1, none⟩) h.tne.1 _
    cases hto : tv.ownBlock with
    | none => exact Or.inl rfl
    | some q => exact Or.inr fun e => h.tf q hto e.symm
  · exact ownsRow_setCell_other ho (a := ⟨Db, 1, none⟩) (hne _ hDb h.fne.1) _
  · have := (htl g e1).2
    rcases ha with h2 | ⟨q', h2, h3⟩
    · exact h.tf g e1 (h2 ▸ e2)
    · rw [h2] at e2; injection e2 with e2; omega
theorem zcells4i {w : World} {q : Nat} {a b c d : Value} {t : TypeId} (h : w.heap[q]? = some (.cells #[a, b, c, d] t (0, 0))) : w.cell? ⟨q, 0, none⟩ = some a ∧ w.cell? ⟨q, 1, none⟩ = some b ∧ w.cell? ⟨q, 2, none⟩ = some c ∧ w.cell? ⟨q, 3, none⟩ = some d ∧ ∀ o, w.frozen? ⟨q, o, none⟩ = false := by
  refine ⟨?_, ?_, ?_, ?_, fun o => ?_⟩ <;> simp [World.cell?, World.frozen?, h]
theorem row_set4 {w : World} {q : Nat} {z0 z1 z2 z3 a b c d : Value} {t : TypeId} (h : w.heap[q]? = some (.cells #[z0, z1, z2, z3] t (0, 0))) :
    ((((w.setCell ⟨q, 0, none⟩ a).setCell ⟨q, 1, none⟩ b).setCell ⟨q, 2, none⟩ c).setCell ⟨q, 3, none⟩ d).heap[q]? = some (.cells #[a, b, c, d] t (0, 0)) := by
  have h1 := heap_setCell_same _ q 3 _ t d (heap_setCell_same _ q 2 _ t c (heap_setCell_same _ q 1 _ t b (heap_setCell_same w q 0 _ t a h)))
  rw [h1]
  rfl
theorem lwf2 {a b : Int} (ha : (Lit.int .i64 a).wf = true) (hb : (Lit.int .i64 b).wf = true) : lwf2p [a, b] := ⟨rfl, fun v hv => by
  rcases List.mem_cons.1 hv with h | h
  · rw [h]; exact ha
  · rw [List.mem_singleton] at h; rw [h]; exact hb⟩
set_option maxHeartbeats 4000000 in
theorem sdouble_any (w : World) (Db B : Nat) (zt zf : Value) (nb mb n1 n2 : Nat) (D : DataW Unit) (T M : List Tl) (F : List (Nat × Nat)) (ks : List (List Int)) (h : Dbl w Db B zt zf nb mb n1 n2 D T M F ks) (x y : Tl) (hx : twf x) (hy : twf y) (hn : n1 ≤ 999999998) :
    Calls Tryd.prog 34 #[.pointer (some ⟨Db, 0, none⟩), tv x, tv y] w fun e w' => ∃ m1 D', e = .returned (.agg #[.int .i64 y.n, .int .i64 ((metP ks [x.e, y.e]).idxOf [x.e, y.e] : Nat), .int .i64 x.s, .int .i64 ((metP (metP ks [x.e, y.e]) [x.w, y.w]).idxOf [x.w, y.w] : Nat)]) ∧ m1 ≤ n1 + 2 ∧ Dbl w' Db B zt zf nb mb m1 n2 D' T M F (metP (metP ks [x.e, y.e]) [x.w, y.w]) ∧ Below B w w' ∧ ∀ q, q < w.heap.size → q ≠ nb → w'.heap[q]? = w.heap[q]? := by
  obtain ⟨W1, hW1⟩ : ∃ W1, W1 = ((w.alloc (.cells #[.int .i64 x.n, .int .i64 x.e, .int .i64 x.s, .int .i64 x.w] 53)).alloc (.cells #[.int .i64 y.n, .int .i64 y.e, .int .i64 y.s, .int .i64 y.w] 53)).alloc (.cells #[.int .i64 0, .int .i64 0, .int .i64 0, .int .i64 0] 53) := ⟨_, rfl⟩
  have hb1 : Below w.heap.size w W1 := by rw [hW1]; exact (((Below.refl _ _).alloc (Nat.le_refl _) _).alloc (by simp) _).alloc (by simp; omega) _
  have hd1 := h.keep hb1
  have hBs : B ≤ w.heap.size := Nat.le_trans h.hB.1 (Nat.le_of_lt (Array.getElem?_eq_some_iff.1 h.box).1)
  have hx1 : W1.heap[w.heap.size]? = some (.cells #[.int .i64 x.n, .int .i64 x.e, .int .i64 x.s, .int .i64 x.w] 53 (0, 0)) := by rw [hW1]; exact heap_kp (heap_kp (heap_at _ _ _ rfl) _) _
  have hy1 : W1.heap[w.heap.size + 1]? = some (.cells #[.int .i64 y.n, .int .i64 y.e, .int .i64 y.s, .int .i64 y.w] 53 (0, 0)) := by rw [hW1]; exact heap_kp (heap_at _ _ _ (by simp)) _
  have hr1 : W1.heap[w.heap.size + 2]? = some (.cells #[.int .i64 0, .int .i64 0, .int .i64 0, .int .i64 0] 53 (0, 0)) := by rw [hW1]; exact heap_at _ _ _ (by simp)
  have hnbw : nb < w.heap.size := h.num.lt
  have hmbw : mb < w.heap.size := h.met.lt
  have HTL : Hid (∀ k, zt.ownBlock = some k → k < w.heap.size) := fun k e => (h.tiles.lt k e).2
  have HFL : Hid (∀ k, zf.ownBlock = some k → k < w.heap.size) := fun k e => (h.froms.lt k e).2
  have hBnb : B ≤ nb := h.hB.2.1
  have hDbw : Db < w.heap.size := (Array.getElem?_eq_some_iff.1 h.box).1
  have c1 := snumber_any Db zt zf (.map (some mb)) [x.e, y.e] nb n1 D ks W1 hd1.box hd1.ne.1 hd1.num hd1.nv (lwf2 hx.2.1 hy.2.1) (by omega)
  obtain ⟨x0, x1, x2, x3, -⟩ := zcells4i hx1
  obtain ⟨y0, y1, y2, y3, -⟩ := zcells4i hy1
  have HW1 := Lib.hid hW1
  have HD1 := Lib.hid hd1
  have HX1 := Lib.hid hx1
  have HY1 := Lib.hid hy1
  have HR1 := Lib.hid hr1
  have HB1 := Lib.hid hb1
  have C1 := Lib.hid c1
  have HXY := Lib.hid (lwf2 hx.2.2.2 hy.2.2.2)
  obtain ⟨ks1, hks1⟩ : ∃ ks1, ks1 = metP ks [x.e, y.e] := ⟨_, rfl⟩
  obtain ⟨ks2, hks2⟩ : ∃ ks2, ks2 = metP ks1 [x.w, y.w] := ⟨_, rfl⟩
  rw [← hks1, ← hks2]
  obtain ⟨ie, hie⟩ : ∃ ie : Nat, ie = ks1.idxOf [x.e, y.e] := ⟨_, rfl⟩
  obtain ⟨iw, hiw⟩ : ∃ iw : Nat, iw = ks2.idxOf [x.w, y.w] := ⟨_, rfl⟩
  rw [← hie, ← hiw]
  have HK1 := Lib.hid hks1
  have HK2 := Lib.hid hks2
  have HIE := Lib.hid hie
  have HIW := Lib.hid hiw
  clear h hx hy hW1 hb1 hd1 hx1 hy1 hr1 c1 hks1 hks2 hie hiw
  go_enter Tryd.func34, Tryd.ntmps34
  unfold tv
  go_wp2_with fail
  rw [← HW1.out]
  have hlt1 := (Array.getElem?_eq_some_iff.1 HR1.out).1
  refine C1.out.mono ?_
  rintro e2 w2 ⟨m1, D2, rfl, hown2, hm1, hnv2, hg2⟩
  rw [← HK1.out, ← HIE.out]
  rw [← HK1.out] at hnv2
  have hd2 := HD1.out.numbers hg2 hown2 hnv2
  have hx2 := keepZ hg2 HX1.out (by simp; omega)
  have hy2 := keepZ hg2 HY1.out (by simp; omega)
  have hr2 := keepZ hg2 HR1.out (by simp; omega)
  have c2 := snumber_any Db zt zf (.map (some mb)) [x.w, y.w] nb m1 D2 ks1 w2 hd2.box hd2.ne.1 hd2.num hd2.nv HXY.out (by omega)
  obtain ⟨x20, x21, x22, x23, -⟩ := zcells4i hx2
  obtain ⟨y20, y21, y22, y23, -⟩ := zcells4i hy2
  have C2 := Lib.hid c2
  have HD2 := Lib.hid hd2
  have HX2 := Lib.hid hx2
  have HY2 := Lib.hid hy2
  have HR2 := Lib.hid hr2
  have HG2 := Lib.hid hg2
  clear x0 x1 x2 x3 y0 y1 y2 y3 hown2 hnv2 hd2 hx2 hy2 hr2 hg2 c2
  go_wp2_with fail
  refine C2.out.mono ?_
  rintro e3 w3 ⟨m2, D3, rfl, hown3, hm2, hnv3, hg3⟩
  rw [← HK2.out, ← HIW.out]
  rw [← HK2.out] at hnv3
  have hd3 := HD2.out.numbers hg3 hown3 hnv3
  have hx3 := keepZ hg3 HX2.out (by simp; omega)
  have hy3 := keepZ hg3 HY2.out (by simp; omega)
  have hr3 := keepZ hg3 HR2.out (by simp; omega)
  obtain ⟨u0, u1, u2, u3, -⟩ := zcells4i hx3
  obtain ⟨v0, v1, v2, v3, -⟩ := zcells4i hy3
  obtain ⟨r0, r1, r2, r3, r4⟩ := zcells4i hr3
  have HD3 := Lib.hid hd3
  have HR3 := Lib.hid hr3
  have HG3 := Lib.hid hg3
  clear x20 x21 x22 x23 y20 y21 y22 y23 hown3 hnv3 hd3 hx3 hy3 hr3 hg3
  go_wp2_with fail
  obtain ⟨q0, q1, q2, q3, -⟩ := zcells4i (row_set4 (a := .int .i64 y.n) (b := .int .i64 (ie : Int)) (c := .int .i64 x.s) (d := .int .i64 (iw : Int)) HR3.out)
  refine bodyPost_ret (v := .agg #[.int .i64 y.n, .int .i64 (ie : Int), .int .i64 x.s, .int .i64 (iw : Int)]) (by simp [results, Tryd.results34, go_sem, q0, q1, q2, q3]) rfl ?_
  have hz3 : w.heap.size + 2 < w3.heap.size := (Array.getElem?_eq_some_iff.1 HR3.out).1
  have hg4 : w3.grownBy ((((w3.setCell ⟨w.heap.size + 2, 0, none⟩ (.int .i64 y.n)).setCell ⟨w.heap.size + 2, 1, none⟩ (.int .i64 (ie : Int))).setCell ⟨w.heap.size + 2, 2, none⟩ (.int .i64 x.s)).setCell ⟨w.heap.size + 2, 3, none⟩ (.int .i64 (iw : Int))) (some (w.heap.size + 2)) := grown_cell (grown_cell (grown_cell (grown_cell (World.grownBy.refl w3 _) _ _) _ _) _ _) _ _
  have hB1 : Below B w W1 := HB1.out.mono hBs
  have hB2 : Below B w w2 := hB1.grown HG2.out (by have := HB1.out.size; omega) (fun j e => by cases e; exact hBnb)
  have hB3 : Below B w w3 := hB2.grown HG3.out (by have := HB1.out.size; have := HG2.out.size; omega) (fun j e => by cases e; exact hBnb)
  refine ⟨m2, D3, rfl, by omega, HD3.out.other hg4 (by omega) (by omega) (by omega) (fun e => by have := HTL.out _ e; omega) (fun e => by have := HFL.out _ e; omega), hB3.grown hg4 (by omega) (fun j e => by cases e; omega), fun q h1 h2 => ?_⟩
  have s1 := HB1.out.size
  have s2 := HG2.out.size
  exact (hg4.block q (by omega) (by simp; omega)).trans ((HG3.out.block q (by omega) (by simpa using h2)).trans ((HG2.out.block q (by omega) (by simpa using h2)).trans (HB1.out.block q h1)))

theorem look_extB {w : World} {b n : Nat} {M : List Tl} (h : w.ownsMap Tryd.prog 53 (plainElem Tryd.prog 4) b n (seen M)) (hM : ∀ u ∈ M, twf u) {t : Tl} (ht : twf t) (x : Ext w) :
    (Instr.lookup 69 (.map (some b)) (.agg #[.int .i64 t.n, .int .i64 t.e, .int .i64 t.s, .int .i64 t.w]) false).run Tryd.prog (ext w x) = .ok (.bool (decide (t ∈ M))) (ext w x) := by
  obtain ⟨v, ps, hrun, hv⟩ := (h.kept (grown_ext none (ext_below x)) (by simp) : (ext w x).ownsMap _ _ _ _ _ _).lookup tile_law Tryd.underlying69 (zero_bool _) (plainElem_bool (H := Unit) Tryd.underlying4 false) (keyOf_tile t ht)
  obtain ⟨c, rfl, hc⟩ := plainElem_bool_inv Tryd.underlying4 hv
  simp only [Prod.mk.injEq] at hc
  have h1 := hc.1
  rw [seen_at M t hM ht] at h1
  have : decide (t ∈ M) = c := by simpa using h1
  rw [hrun, this]
/-- the pairs, with one more if the tile is new -/
def metF (T : List Tl) (F : List (Nat × Nat)) (t : Tl) (p : Nat × Nat) : List (Nat × Nat) := if t ∈ T then F else F ++ [p]
theorem pair_info : (Tryd.prog.info? 76).map (fun i => (i.zero, i.size, i.bytes)) = some (some (.agg #[.int .i64 0, .int .i64 0]), 2, 16) := by kernel_rfl
/-- a block that is none of those that a doubles has -/
def FreeD (Db nb mb : Nat) (zt zf : Value) (q : Nat) : Prop := q ≠ Db ∧ q ≠ nb ∧ q ≠ mb ∧ zt.ownBlock ≠ some q ∧ zf.ownBlock ≠ some q
/-- what add does -/
def IsAdd (Db B nb mb n1 n2 : Nat) (yt yf : Value) (D : DataW Unit) (T : List Tl) (F : List (Nat × Nat)) (ks : List (List Int)) (t : Tl) (i j : Nat) (w : World) (e : Ending) (w' : World) : Prop :=
  e = .returned (.tuple #[]) ∧ Below B w w' ∧ ∃ zt zf m2, m2 ≤ n2 + 1 ∧ Dbl w' Db B zt zf nb mb n1 m2 D (metP T t) (metP T t) (metF T F t (i, j)) ks ∧ ∀ q, q < w.heap.size → FreeD Db nb mb yt yf q → w'.heap[q]? = w.heap[q]? ∧ FreeD Db nb mb zt zf q
set_option maxHeartbeats 4000000 in
theorem sadd_any (w : World) (Db B : Nat) (zt zf : Value) (nb mb n1 n2 : Nat) (D : DataW Unit) (T : List Tl) (F : List (Nat × Nat)) (ks : List (List Int)) (h : Dbl w Db B zt zf nb mb n1 n2 D T T F ks) (t : Tl) (ht : twf t) (hT : ∀ u ∈ T, twf u) (i j : Nat) (hi : i ≤ 1000000) (hj : j ≤ 1000000) (hn : n2 ≤ 999999998) (hTl : T.length ≤ 1000000) (hFl : F.length ≤ 1000000) :
    Calls Tryd.prog 33 #[.pointer (some ⟨Db, 0, none⟩), .agg #[.int .i64 t.n, .int .i64 t.e, .int .i64 t.s, .int .i64 t.w], .int .i64 (i : Int), .int .i64 (j : Int)] w (IsAdd Db B nb mb n1 n2 zt zf D T F ks t i j w) := by
  obtain ⟨W1, hW1⟩ : ∃ W1, W1 = w.alloc (.cells #[.int .i64 t.n, .int .i64 t.e, .int .i64 t.s, .int .i64 t.w] 53) := ⟨_, rfl⟩
  have hb1 : Below w.heap.size w W1 := by rw [hW1]; exact (Below.refl _ _).alloc (Nat.le_refl _) _
  have hd1 := h.keep hb1
  have hBs : B ≤ w.heap.size := Nat.le_trans h.hB.1 (Nat.le_of_lt (Array.getElem?_eq_some_iff.1 h.box).1)
  have ht1 : W1.heap[w.heap.size]? = some (.cells #[.int .i64 t.n, .int .i64 t.e, .int .i64 t.s, .int .i64 t.w] 53 (0, 0)) := by rw [hW1]; exact heap_at _ _ _ rfl
  have hmbw : mb < w.heap.size := h.met.lt
  have hDbw : Db < w.heap.size := (Array.getElem?_eq_some_iff.1 h.box).1
  have HTL : Hid (∀ k, zt.ownBlock = some k → B ≤ k ∧ k < w.heap.size) := fun k e => h.tiles.lt k e
  have HFL : Hid (∀ k, zf.ownBlock = some k → B ≤ k ∧ k < w.heap.size) := fun k e => h.froms.lt k e
  obtain ⟨x0, x1, x2, x3, -⟩ := zcells4i ht1
  obtain ⟨b0, b1, b2, b3, -⟩ := zcells4i hd1.box
  have f0 := ext_cell x0
  have f1 := ext_cell x1
  have f2 := ext_cell x2
  have f3 := ext_cell x3
  have f4 := ext_cell b3
  have hlk := fun x : Ext W1 => look_extB hd1.met hT ht x
  obtain ⟨r, hr⟩ : ∃ r, r = decide (t ∈ T) := ⟨_, rfl⟩
  rw [← hr] at hlk
  have HW1 := Lib.hid hW1
  have HB1 := Lib.hid hb1
  have HD1 := Lib.hid hd1
  have HT1 := Lib.hid ht1
  have HKEY : Hid (keyOf Tryd.prog 53 (.agg #[.int .i64 t.n, .int .i64 t.e, .int .i64 t.s, .int .i64 t.w]) = some (kl t)) := keyOf_tile t ht
  have HRR := Lib.hid hr
  have hBmb : B ≤ mb := h.hB.2.2
  have hBDb : B ≤ Db := h.hB.1
  have hnz := h.ne
  have HNE := Lib.hid hnz
  clear hW1 hb1 hd1 ht1 h x0 x1 x2 x3 b0 b1 b2 b3 hT ht hr hnz
  go_enter Tryd.func33, Tryd.ntmps33
  go_wp2_with fail
  rw [← HW1.out]
  refine wp_region_ext (by kernel_rfl) (by kernel_rfl) ?_
  repeat (go_big_quiet_step (fail))
  refine wpQuiet_nil ?_
  intro _ hw'
  obtain ⟨xq, rfl⟩ := hw'
  obtain ⟨W6, hb6, he6⟩ : ∃ W6, Below W1.heap.size W1 W6 ∧ ext W1 xq = W6 := ⟨_, ext_below _, rfl⟩
  rw [he6]
  have hd6 := HD1.out.keep hb6
  have HD6 := Lib.hid hd6
  have hbB6 : Below B w W6 := (HB1.out.trans (hb6.mono HB1.out.size)).mono hBs
  have HB6 := Lib.hid hbB6
  have hT6 := (hb6.block w.heap.size (Array.getElem?_eq_some_iff.1 HT1.out).1).trans HT1.out
  have HT6 := Lib.hid hT6
  clear hlk he6 xq f0 f1 f2 f3 f4 hd6 hbB6 hT6
  cases r
  rotate_left
  · have hin : t ∈ T := of_decide_eq_true HRR.out.symm
    have hm : Hid (metP T t = T ∧ metF T F t (i, j) = F) := ⟨if_pos hin, if_pos hin⟩
    clear hin
    go_wp2_with fail
    refine bodyPost_ret (results_none rfl _ _ _) rfl ?_
    refine ⟨rfl, HB6.out, zt, zf, n2, by omega, ?_, fun q h1 h2 => ⟨(hb6.block q (by have := HB1.out.size; omega)).trans (HB1.out.block q h1), h2⟩⟩
    rw [hm.out.1, hm.out.2]
    exact HD6.out
  · have hin : t ∉ T := of_decide_eq_false HRR.out.symm
    have hm : Hid (metP T t = T ++ [t] ∧ metF T F t (i, j) = F ++ [(i, j)]) := ⟨if_neg hin, if_neg hin⟩
    obtain ⟨x0, x1, x2, x3, -⟩ := zcells4i HT6.out
    obtain ⟨b0, b1, b2, b3, -⟩ := zcells4i HD6.out.box
    have f0 := ext_cell x0
    have f1 := ext_cell x1
    have f2 := ext_cell x2
    have f3 := ext_cell x3
    have f4 := ext_cell b3
    clear hin x0 x1 x2 x3 b0 b1 b2 b3
    go_wp2_with fail
    refine wp_region_ext_tail 5 (by kernel_rfl) (by kernel_rfl) ?_
    simp only [List.take_succ_cons, List.take_zero, List.drop_succ_cons, List.drop_zero]
    repeat (go_big_quiet_step (fail))
    refine wpQuiet_nil ?_
    intro _ hw'
    obtain ⟨xq, rfl⟩ := hw'
    obtain ⟨W7, hb7, he7⟩ : ∃ W7, Below W6.heap.size W6 W7 ∧ ext W6 xq = W7 := ⟨_, ext_below _, rfl⟩
    rw [he7]
    have hd7 := HD6.out.keep hb7
    have HD7 := Lib.hid hd7
    have HT7 := Lib.hid ((hb7.block w.heap.size (Array.getElem?_eq_some_iff.1 HT6.out).1).trans HT6.out)
    have hBs6 : B ≤ W6.heap.size := Nat.le_trans hBs HB6.out.size
    have HB7 := Lib.hid (HB6.out.trans (hb7.mono hBs6))
    have hmet7 := Lib.hid hd7.met
    have HQ7 : Hid (∀ q, q < w.heap.size → W7.heap[q]? = w.heap[q]?) := fun q h1 => (hb7.block q (by have := HB1.out.size; have := hb6.size; omega)).trans ((hb6.block q (by have := HB1.out.size; omega)).trans (HB1.out.block q h1))
    have hs17 : w.heap.size ≤ W7.heap.size := Nat.le_trans HB1.out.size (Nat.le_trans hb6.size hb7.size)
    clear he7 xq f0 f1 f2 f3 f4 hd7
    go_upto_region 3 with (at_mapUpdate; refine wpList_mapUpdate_own _ rfl _ _ _ 69 rfl 53 4 tile_law Tryd.underlying69 _ mb n2 _ rfl hmet7.out (by unfold maxLen; omega) _ _ _ rfl rfl HKEY.out _ [] (plainElem_bool Tryd.underlying4 true) ?_; intro w8 hown8 hgrow8)
    rw [← seen_snoc] at hown8
    have hd8 := HD7.out.mets hgrow8 hown8
    have hT8 := keepZ hgrow8 HT7.out (by simp; omega)
    have hBs7 : B ≤ W7.heap.size := Nat.le_trans hBs6 hb7.size
    have hbB8 : Below B w w8 := HB7.out.grown hgrow8 hBs7 (fun k e => by cases e; exact hBmb)
    have hBs8 : B ≤ w8.heap.size := Nat.le_trans hBs7 hgrow8.size
    have HD8 := Lib.hid hd8
    have HT8 := Lib.hid hT8
    have HB8 := Lib.hid hbB8
    have HG8 := Lib.hid hgrow8
    obtain ⟨i1, gi, gz0, gz1, gz2⟩ := info_parts tile_info
    obtain ⟨x0, x1, x2, x3, -⟩ := zcells4i hT8
    obtain ⟨b0, -, -, -, -⟩ := zcells4i hd8.box
    obtain ⟨d0, -, -, -, -⟩ := zcells4i (heap_kp hd8.box (.cells #[.int .i64 t.n, .int .i64 t.e, .int .i64 t.s, .int .i64 t.w] 53))
    have HOWN : Hid (∀ W : World, Below w8.heap.size w8 W → W.ownsRow B 53 4 zt T.length (tcells T)) := fun W hW => own_keep' hd8.tiles hW
    obtain ⟨tn, htn⟩ : ∃ tn, tn = T.length := ⟨_, rfl⟩
    rw [← htn] at HOWN hTl
    have HTN := Lib.hid htn
    clear hown8 hgrow8 hd8 hT8 hbB8 htn hmet7
    go_region_law (first
      | ((with_reducible refine step_append_own2 rfl (.tmp 23) (.tmp 25) 22 rfl B 53 i1 (.agg #[.int .i64 0, .int .i64 0, .int .i64 0, .int .i64 0]) 4 32 Tryd.underlying22 gi gz0 gz1 gz2 rfl (by decide) zt tn (tcells T) ?_ ?_ ⟨w8.heap.size, 0, none⟩ 1 1 (tc t) ?_ rfl ?_ ?_ ?_ ?_ ?_ ?_); (focus (first | rfl | (simp [Act.eval, Act.put]; done))); (focus (refine HOWN.out _ ?_; first | exact ((Below.refl _ _).alloc (Nat.le_refl _) _).drew | exact (Below.refl _ _).drew.alloc (Nat.le_refl _) _ | exact (Below.refl _ _).alloc (Nat.le_refl _) _)); (focus (first | rfl | (simp [Act.eval, Act.put]; done))); (focus (exact fun jj uu hh => cell_news w8 w8.heap.size rfl (tc t) _ jj uu hh)); (focus (intro u hu; simp [tc] at hu; rcases hu with h | h | h | h <;> (rw [h]; rfl))); (focus (simp only [maxLen]; omega)); (focus omega); (focus (first | (simp; omega) | omega)); intro v9 w9 hown9 hgrow9 hat9; rw [tcells_snoc] at hown9; have hown9' := hown9; obtain ⟨A9, c9, rfl, -⟩ := own_set hown9'; clear hown9'; have hbx9 := keepZ hgrow9 (heap_kp HD8.out.box _) (fun e => HD8.out.tne.1 e.symm); obtain ⟨y0, y1, y2, y3, y4⟩ := zcells4i hbx9)
      | fail)
    all_goals
      have hg9 : w8.grownBy w9 zt.ownBlock := (grown_drew (World.grownBy_alloc w8 _ _)).trans hgrow9
      have ha9 : (Value.slice A9 (tn + 1) c9).ownBlock = zt.ownBlock ∨ ∃ q, (Value.slice A9 (tn + 1) c9).ownBlock = some q ∧ w8.heap.size ≤ q := hat9.imp id fun e => ⟨_, e, by simp⟩
      have hd10 := HD8.out.tile t hg9 (by rw [List.length_append, ← HTN.out]; exact hown9) ha9
      obtain ⟨w10, hw10⟩ : ∃ w10, w10 = w9.setCell ⟨Db, 0, none⟩ (.slice A9 (tn + 1) c9) := ⟨_, rfl⟩
      have hb10 : Below B w w10 := by rw [hw10]; exact (HB8.out.grown hg9 hBs8 (fun k e => (HTL.out k e).1)).setCell (p := ⟨Db, 0, none⟩) hBDb _
      have hs10 : B ≤ w10.heap.size := by rw [hw10]; have := hg9.size; simp; omega
      rw [← hw10] at hd10 ⊢
      have HD10 := Lib.hid hd10
      have HG9 := Lib.hid hg9
      have HA9 := Lib.hid ha9
      have HW10 := Lib.hid hw10
      have HB10 := Lib.hid hb10
      obtain ⟨-, k1, -, -, -⟩ := zcells4i hd10.box
      obtain ⟨i2, ji, jz0, jz1, jz2⟩ := info_parts pair_info
      obtain ⟨fl, hfl⟩ : ∃ fl, fl = F.length := ⟨_, rfl⟩
      have hfr := hd10.froms
      rw [← hfl] at hFl hfr
      have HFN := Lib.hid hfl
      have HFR := Lib.hid hfr
      clear hw10 hd10 hb10 hg9 ha9 hown9 hgrow9 hat9 hbx9 y0 y1 y2 y3 y4 hfl hfr x0 x1 x2 x3 b0 d0
      go_wp2_with (at_builtin; refine wpList_append_own_at _ rfl _ _ 35 rfl B 76 i2 _ 2 16 Tryd.underlying35 ji jz0 jz1 jz2 rfl (by decide) zf fl (pcells F) rfl (HFR.out.alloc _) ⟨w10.heap.size, 0, none⟩ 1 1 [.int .i64 (i : Int), .int .i64 (j : Int)] rfl rfl (fun jj uu hh => cell_news w10 w10.heap.size rfl [.int .i64 (i : Int), .int .i64 (j : Int)] _ jj uu hh) (by intro u hu; simp at hu; rcases hu with h | h <;> (rw [h]; rfl)) (by simp only [maxLen]; omega) (by omega) (by simp; omega) ?_; intro v11 w11 hown11 hgrow11 hnil11 hat11; obtain ⟨A11, c11, rfl⟩ : ∃ A c, v11 = .slice A (fl + 1) c := (by rcases hown11.2 with ⟨rfl, h0⟩ | ⟨_, _, _, rfl, _⟩; (focus omega); exact ⟨_, _, rfl⟩); have hbx11 := keepZ hgrow11 (heap_kp HD10.out.box _) (fun e => HD10.out.fne.1 e.symm); obtain ⟨z0, z1, z2, z3, z4⟩ := zcells4i hbx11)
      go_end0
      have hg11 : w10.grownBy w11 zf.ownBlock := (World.grownBy_alloc w10 _ _).trans hgrow11
      have ha11 : (Value.slice A11 (fl + 1) c11).ownBlock = zf.ownBlock ∨ ∃ q, (Value.slice A11 (fl + 1) c11).ownBlock = some q ∧ w10.heap.size ≤ q := hat11.imp id fun e => ⟨_, e, by simp⟩
      have hd12 := HD10.out.pair (i, j) hg11 (by rw [List.length_append, ← HFN.out]; have e : pcells F ++ [.int .i64 (i : Int), .int .i64 (j : Int)] = pcells (F ++ [(i, j)]) := by simp [pcells]
                                                 rw [← e]; exact hown11) ha11
      refine ⟨rfl, (HB10.out.grown hg11 hs10 (fun k e => (HFL.out k e).1)).setCell (p := ⟨Db, 1, none⟩) hBDb _, .slice A9 (tn + 1) c9, .slice A11 (fl + 1) c11, n2 + 1, Nat.le_refl _, ?_, fun q h1 h2 => ?_⟩
      · rw [hm.out.1, hm.out.2]
        exact hd12
      · obtain ⟨q1, q2, q3, q4, q5⟩ := h2
        have s8 := HG8.out.size
        have s9 := HG9.out.size
        have s10 : w10.heap.size = w9.heap.size := by rw [HW10.out]; simp
        refine ⟨?_, q1, q2, q3, fun e => ?_, fun e => ?_⟩
        · rw [Below.heap_setCell _ _ _ _ (by intro e; exact q1 e), hg11.block q (by omega) (ne_symm_some q5), HW10.out, Below.heap_setCell _ _ _ _ (by intro e; exact q1 e), HG9.out.block q (by omega) (ne_symm_some q4), HG8.out.block q (by omega) (by simpa using q3), HQ7.out q h1]
        · rcases HA9.out with e1 | ⟨r, e1, e2⟩
          · rw [e1] at e; exact q4 e
          · rw [e1] at e; injection e with e; omega
        · rcases ha11 with e1 | ⟨r, e1, e2⟩
          · rw [e1] at e; exact q5 e
          · rw [e1] at e; injection e with e; omega
end Go.Proofs.YtgadfmknjpanpaaDoor

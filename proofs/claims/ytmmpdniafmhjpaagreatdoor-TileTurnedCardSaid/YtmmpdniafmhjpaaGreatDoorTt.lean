/-
  groutworklaw01.TileTurned, walked.
-/
import Derived.Test.YtmmpdniafmhjpaaGreatDoorPq
import Derived.Deep.RegionHeld3
import Derived.IntWalk
import Derived.Deep.CutRange
import Derived.Deep.DeepCutAuto
namespace Go.Proofs.YtmmpdniafmhjpaaGreatDoor
open Go.RowKit Go.Maps Go.BigFrame
set_option linter.unusedVariables false
set_option maxRecDepth 100000

theorem fits_ofr' (s : List Tl) (a b : Int) (cs : List Int) (h : vld s = true) : ofr (a - 1) (b - 1) s ⟨a, b, cs⟩ = fits s ⟨a, b, cs⟩ := by
  unfold ofr fits
  rw [h]; rfl

theorem SetNew.set' {w : World} {lo : Nat} {A : Option Addr} {s : List Tl} (h : SetNew w lo A s) {p : Addr} (hp : p.block < lo) (u : Value) : SetNew (w.setCell p u) lo A s := fun hn => by
  obtain ⟨b, off, hA, hlo, hlt, hc⟩ := h hn
  have k : ∀ o, (w.setCell p u).cell? ⟨b, o, none⟩ = w.cell? ⟨b, o, none⟩ := fun o => World.cell?_setCell_other w p ⟨b, o, none⟩ u (fun e => by rw [e] at hp; simp at hp; omega)
  refine ⟨b, off, hA, hlo, by simpa [World.setCell] using hlt, fun i hi => ?_⟩
  rw [k, k, k, k]
  exact hc i hi
theorem rem_run (p q : Nat) (x y : Int) (hx : x = p) (hy : y = q) (hq : 0 < q) (W : World) : (Op.intDiv .rem .i64 x y).run Tryz.prog W = .ok (.int .i64 ((p % q : Nat) : Int)) W := by
  subst hx
  subst hy
  unfold Op.intDiv
  simp [go_sem]
  rw [if_neg (by omega), Int.tmod_eq_emod_of_nonneg (by omega)]
def itMS (s : List Tl) : Nat → List Tl
  | 0 => s
  | k + 1 => ((itMS s k).map mirT).map upT
def itMP (p : Pt) : Nat → Pt
  | 0 => p
  | k + 1 => upP (mirP (itMP p k))
theorem itMS_two (s : List Tl) : itMS s 2 = s := by
  simp only [itMS, List.map_map]
  exact map_id_of (f := ((upT ∘ mirT) ∘ upT) ∘ mirT) (fun t => rfl) s
theorem itMP_two {p : Pt} (h : form p = true) : itMP p 2 = p := umP_two h
def itS (s : List Tl) : Nat → List Tl
  | 0 => s
  | k + 1 => (itS s k).map turT
def itP (p : Pt) : Nat → Pt
  | 0 => p
  | k + 1 => turP (itP p k)
theorem itS_four (s : List Tl) : itS s 4 = s := by
  simp only [itS, List.map_map]
  exact map_id_of (f := ((turT ∘ turT) ∘ turT) ∘ turT) (fun t => rfl) s
theorem itP_four {p : Pt} (h : form p = true) : itP p 4 = p := turP_four h
theorem pt_inj {a b a' b' : Nat} {cs cs' : List Int} (h : (⟨(a : Int), (b : Int), cs⟩ : Pt) = ⟨(a' : Int), (b' : Int), cs'⟩) : a = a' ∧ b = b' ∧ cs = cs' := by
  injection h with h1 h2 h3
  exact ⟨by omega, by omega, h3⟩
/-- three cells of a block that the call has made -/
def Box (w : World) (b : Nat) (x y z : Value) : Prop := (w.cell? ⟨b, 0, none⟩ = some x ∧ w.cell? ⟨b, 1, none⟩ = some y ∧ w.cell? ⟨b, 2, none⟩ = some z) ∧ ∀ o, w.frozen? ⟨b, o, none⟩ = false
theorem Box.lt {w : World} {b : Nat} {x y z : Value} (h : Box w b x y z) : b < w.heap.size := World.block_lt_of_cell? w _ h.1.1
theorem Box.keep {w w' : World} {b : Nat} {x y z : Value} (h : Box w b x y z) (hb : Below w.heap.size w w') : Box w' b x y z :=
  ⟨⟨(hb.cell (p := ⟨b, 0, none⟩) h.lt).trans h.1.1, (hb.cell (p := ⟨b, 1, none⟩) h.lt).trans h.1.2.1, (hb.cell (p := ⟨b, 2, none⟩) h.lt).trans h.1.2.2⟩, fun o => (hb.frozen (p := ⟨b, o, none⟩) h.lt).trans (h.2 o)⟩
theorem Box.new (w : World) (t : TypeId) (x y z : Value) (b : Nat) (hb : b = w.heap.size) : Box (w.alloc (.cells #[x, y, z] t)) b x y z := by
  subst hb
  exact ⟨⟨by simp, by simp, by simp⟩, fun o => World.frozen?_alloc_at _ _ _ _ (by simp)⟩
theorem Box.set {w : World} {b : Nat} {x y z : Value} (h : Box w b x y z) (x' y' z' : Value) : Box (((w.setCell ⟨b, 0, none⟩ x').setCell ⟨b, 1, none⟩ y').setCell ⟨b, 2, none⟩ z') b x' y' z' := by
  have ne : ∀ i j : Nat, i ≠ j → (⟨b, i, none⟩ : Addr) ≠ ⟨b, j, none⟩ := fun i j h e => h (by injection e)
  refine ⟨⟨?_, ?_, ?_⟩, fun o => ?_⟩
  · rw [World.cell?_setCell_other _ _ _ _ (ne _ _ (by omega)), World.cell?_setCell_other _ _ _ _ (ne _ _ (by omega))]
    exact World.cell?_setCell_same _ _ _ h.1.1
  · rw [World.cell?_setCell_other _ _ _ _ (ne _ _ (by omega))]
    exact World.cell?_setCell_same _ _ _ ((World.cell?_setCell_other _ _ _ _ (ne _ _ (by omega))).trans h.1.2.1)
  · exact World.cell?_setCell_same _ _ _ ((World.cell?_setCell_other _ _ _ _ (ne _ _ (by omega))).trans ((World.cell?_setCell_other _ _ _ _ (ne _ _ (by omega))).trans h.1.2.2))
  · rw [World.frozen?_setCell, World.frozen?_setCell, World.frozen?_setCell]
    exact h.2 o
theorem s3_call {wi w1 w2 : World} {a0 a1 a2 : Addr} {v0 v1 v2 : Value} (h : Below wi.heap.size wi w1 ∧ w1.cell? a0 = some v0 ∧ w1.cell? a1 = some v1 ∧ w1.cell? a2 = some v2) (hb : Below w1.heap.size w1 w2) :
    Below wi.heap.size wi w2 ∧ w2.cell? a0 = some v0 ∧ w2.cell? a1 = some v1 ∧ w2.cell? a2 = some v2 := by
  obtain ⟨h, h0, h1, h2⟩ := h
  have k := fun (a : Addr) (v : Value) (hc : w1.cell? a = some v) => (hb.cell (p := a) (World.block_lt_of_cell? w1 a hc)).trans hc
  exact ⟨h.trans (hb.mono h.size), k _ _ h0, k _ _ h1, k _ _ h2⟩
theorem s3_alloc {wi w1 : World} {a0 a1 a2 : Addr} {v0 v1 v2 : Value} (o : Obj) (h : Below wi.heap.size wi w1 ∧ w1.cell? a0 = some v0 ∧ w1.cell? a1 = some v1 ∧ w1.cell? a2 = some v2) :
    Below wi.heap.size wi (w1.alloc o) ∧ (w1.alloc o).cell? a0 = some v0 ∧ (w1.alloc o).cell? a1 = some v1 ∧ (w1.alloc o).cell? a2 = some v2 := s3_call h ((Below.refl _ _).alloc (Nat.le_refl _) o)
theorem s3_of {wi w1 : World} {b : Nat} {v0 v1 v2 : Value} (hlt : b < wi.heap.size) (h0 : wi.cell? ⟨b, 0, none⟩ = some v0) (h1 : wi.cell? ⟨b, 1, none⟩ = some v1) (h2 : wi.cell? ⟨b, 2, none⟩ = some v2) (hb : Below wi.heap.size wi w1) :
    Below wi.heap.size wi w1 ∧ w1.cell? ⟨b, 0, none⟩ = some v0 ∧ w1.cell? ⟨b, 1, none⟩ = some v1 ∧ w1.cell? ⟨b, 2, none⟩ = some v2 :=
  ⟨hb, (hb.cell (p := ⟨b, 0, none⟩) hlt).trans h0, (hb.cell (p := ⟨b, 1, none⟩) hlt).trans h1, (hb.cell (p := ⟨b, 2, none⟩) hlt).trans h2⟩
theorem be_drew {wi wn : World} (hn : Below wi.drew.heap.size wi.drew wn) : Below wi.heap.size wi wn := (Below.refl _ _).drew.trans hn
theorem be_alloc {wi wn : World} (hn : Below wi.heap.size wi wn) (o : Obj) : Below wi.heap.size wi (wn.alloc o) := hn.alloc hn.size o
theorem be_adrew {wi wn : World} {o : Obj} (hn : Below (wi.alloc o).drew.heap.size (wi.alloc o).drew wn) : Below wi.heap.size wi wn :=
  (((Below.refl _ _).alloc (Nat.le_refl _) o).drew).trans (hn.mono (by simp))
theorem s3_fst {wi w1 : World} {X : Prop} (h : Below wi.heap.size wi w1 ∧ X) : Below wi.heap.size wi w1 := h.1
/-- the set and the pattern that are changed, where they lie -/
structure Lie (m n : Nat) (s : List Tl) (a b : Nat) (cs : List Int) (Sk Bk : Option Addr) (ck QB : Nat) (w : World) : Prop where
  set : SetIn w w.heap.size Sk s
  ints : IntsIn w w.heap.size Bk cs
  box : Box w QB (.int .i64 (a : Int)) (.int .i64 (b : Int)) (.slice Bk n ck)
theorem Lie.store {m n : Nat} {s : List Tl} {a b : Nat} {cs : List Int} {Sk Bk : Option Addr} {ck QB lo lo' : Nat} {w : World} {x y z : Value} (hS : SetNew w lo Sk s) (hI : IntsNew w lo' Bk cs) (hq : QB < lo) (hq' : QB < lo') (hbx : Box w QB x y z) :
    Lie m n s a b cs Sk Bk ck QB ((((w.setCell ⟨QB, 0, none⟩ (.int .i64 (a : Int))).setCell ⟨QB, 1, none⟩ (.int .i64 (b : Int))).setCell ⟨QB, 2, none⟩ (.slice Bk n ck)).drew) := by
  have hd : ∀ W : World, Below W.heap.size W W.drew := fun W => (Below.refl _ _).drew
  refine ⟨?_, ?_, ?_⟩
  · exact ((((hS.set' (p := ⟨QB, 0, none⟩) hq _).set' (p := ⟨QB, 1, none⟩) hq _).set' (p := ⟨QB, 2, none⟩) hq _).keep (hd _)).old
  · exact ((((hI.set (p := ⟨QB, 0, none⟩) hq' _).set (p := ⟨QB, 1, none⟩) hq' _).set (p := ⟨QB, 2, none⟩) hq' _).keep (hd _)).old
  · exact (hbx.set _ _ _).keep (hd _)

set_option maxHeartbeats 8000000 in
theorem tt_main (R : Bool) (a b : Nat) (cs : List Int) (s : List Tl) (A S : Option Addr) (m n c d : Nat) (x y wd hg : Nat) (w : World) (hst : St R m n s a b cs) (hmd : m ≤ d) (hm2 : m ≤ 200) (hn5 : n ≤ 5000)
    (hx : x < 256) (hy : y < 256) (hwd : wd < 256) (hhg : hg < 256) (hS : SetIn w w.heap.size S s) (hP : IntsIn w w.heap.size A cs) (hml : d ≤ 9223372036854775807) (h : Env w) :
    Calls Tryz.prog 4 #[.slice S m d, .agg #[.int .i64 (a : Int), .int .i64 (b : Int), .slice A n c], .int .u8 (x : Int), .int .u8 (y : Int), .int .u8 (wd : Int), .int .u8 (hg : Int)] w fun e w' => e = .returned (.bool true) ∧ Below w.heap.size w w' := by
  have HST := Lib.hid hst
  have HS := Lib.hid hS
  have HPI := Lib.hid hP
  have hRF : fits s ⟨a, b, cs⟩ = true := hst.fit
  have HRF := Lib.hid hRF
  obtain ⟨W0, hW0⟩ : ∃ W0, W0 = w.alloc (.cells #[.int .i64 (a : Int), .int .i64 (b : Int), .slice A n c] 24) := ⟨_, rfl⟩
  have hb0 : Below w.heap.size w W0 := by rw [hW0]; exact (Below.refl _ _).alloc (Nat.le_refl _) _
  have q0 : W0.cell? ⟨w.heap.size, 0, none⟩ = some (.int .i64 (a : Int)) := by rw [hW0]; simp
  have q1 : W0.cell? ⟨w.heap.size, 1, none⟩ = some (.int .i64 (b : Int)) := by rw [hW0]; simp
  have q2 : W0.cell? ⟨w.heap.size, 2, none⟩ = some (.slice A n c) := by rw [hW0]; simp
  have hz : w.heap.size < W0.heap.size := by rw [hW0]; simp
  clear hst hS hP hRF
  go_enter Tryz.func4, Tryz.ntmps4
  go_wp2_with fail
  rw [← hW0]
  clear hW0
  refine (rfits_any a b cs s A S m n c d _ W0 HST.out.hm HST.out.hn hmd HRF.out (HS.out.keep hb0 hb0.size) (HPI.out.keep hb0 hb0.size) hml (by omega)).mono ?_
  rintro e W1 ⟨rfl, hb1⟩
  have p0 := (hb1.cell (p := ⟨w.heap.size, 0, none⟩) hz).trans q0
  have p1 := (hb1.cell (p := ⟨w.heap.size, 1, none⟩) hz).trans q1
  have p2 := (hb1.cell (p := ⟨w.heap.size, 2, none⟩) hz).trans q2
  have hb01 : Below w.heap.size w W1 := hb0.trans (hb1.mono hb0.size)
  have hz1 : w.heap.size < W1.heap.size := Nat.lt_of_lt_of_le hz hb1.size
  clear q0 q1 q2 hb0
  go_wp2_with fail
  refine (reps_m HST.out (by omega) (by omega) (HS.out.keep hb01 hb01.size) (HPI.out.keep hb01 hb01.size)).mono ?_
  rintro e W2 ⟨rfl, hb2⟩
  have q0 := (hb2.cell (p := ⟨w.heap.size, 0, none⟩) hz1).trans p0
  have q1 := (hb2.cell (p := ⟨w.heap.size, 1, none⟩) hz1).trans p1
  have q2 := (hb2.cell (p := ⟨w.heap.size, 2, none⟩) hz1).trans p2
  have hb02 : Below w.heap.size w W2 := hb01.trans (hb2.mono hb01.size)
  have hz2 : w.heap.size < W2.heap.size := Nat.lt_of_lt_of_le hz1 hb2.size
  clear p0 p1 p2 hb1 hb2 hb01
  go_wp2_with fail
  go_region
  go_wp2_with fail
  obtain ⟨W3, hW3⟩ : ∃ W3, W3 = (W2.alloc (.cells #[.int .i64 (a : Int), .int .i64 (b : Int), .slice A n c] 24)).drew := ⟨_, rfl⟩
  have hb3 : Below W2.heap.size W2 W3 := by rw [hW3]; exact ((Below.refl _ _).alloc (Nat.le_refl _) _).drew
  have hb03 : Below w.heap.size w W3 := hb02.trans (hb3.mono hb02.size)
  have hz3 : W3.heap.size = W2.heap.size + 1 := by rw [hW3]; simp
  have HQ3 : Hid (Box W3 W2.heap.size (.int .i64 (a : Int)) (.int .i64 (b : Int)) (.slice A n c)) := by
    rw [hW3]
    exact Box.new W2 24 _ _ _ _ rfl
  have HB : Hid (W2.cell? ⟨w.heap.size, 0, none⟩ = some (.int .i64 (a : Int)) ∧ W2.cell? ⟨w.heap.size, 1, none⟩ = some (.int .i64 (b : Int)) ∧ W2.cell? ⟨w.heap.size, 2, none⟩ = some (.slice A n c)) := ⟨q0, q1, q2⟩
  rw [← hW3]
  clear hW3 q0 q1 q2
  have HL0 : Hid (Lie m n s a b cs S A c W2.heap.size W3) := ⟨HS.out.keep hb03 hb03.size, HPI.out.keep hb03 hb03.size, HQ3.out⟩
  go_loopw [14, 16] (fun u i wr => ∃ (k : Nat) (sk : List Tl) (ak bk : Nat) (csk : List Int) (Sk Bk : Option Addr) (dk ck : Nat), k ≤ 4 ∧ i = .int .i64 k ∧ u = .slice Sk m dk ∧ Hid (St R m n sk ak bk csk ∧ sk = itS s k ∧ (⟨ak, bk, csk⟩ : Pt) = itP ⟨a, b, cs⟩ k) ∧ Hid (Lie m n sk ak bk csk Sk Bk ck W2.heap.size wr) ∧ Below W2.heap.size W3 wr) (fun _ i _ => 4 - (intOf i).toNat)
  case atStart => exact ⟨0, s, a, b, cs, S, A, d, c, by omega, rfl, rfl, ⟨HST.out, rfl, rfl⟩, HL0, Below.refl _ _⟩
  case round =>
    clear HL0 HQ3
    obtain ⟨k, sk, ak, bk, csk, Sk, Bk, dk, ck, hk, rfl, rfl, hsk, hli, hbr⟩ := hrel
    obtain ⟨wi, rfl⟩ : ∃ wi : World, wi = wr := ⟨_, rfl⟩
    have hszi := hbr.size
    by_cases hlt : k < 4
    · have HT := Lib.hid hsk.out.1.tur
      have HI : Hid ((sk.map turT) = itS s (k + 1) ∧ (⟨bk, ak, (turP ⟨ak, bk, csk⟩).c⟩ : Pt) = itP ⟨a, b, cs⟩ (k + 1)) := by
        refine ⟨by rw [hsk.out.2.1]; rfl, ?_⟩
        rw [← turP_is hsk.out.1.form, hsk.out.2.2]
        rfl
      obtain ⟨s', hs'⟩ : ∃ s', s' = sk.map turT := ⟨_, rfl⟩
      obtain ⟨cs', hcs'⟩ : ∃ cs', cs' = (turP ⟨ak, bk, csk⟩).c := ⟨_, rfl⟩
      have ht1 := tur_m (d := dk) hsk.out.1 hli.out.set
      have ht2 := fun (W : World) (hW : Below wi.heap.size wi W) => turP_m (c := ck) hsk.out.1 (hli.out.ints.keep hW hW.size)
      rw [← hs', ← hcs'] at HT HI
      rw [← hs'] at ht1
      rw [← hcs'] at ht2
      clear hs' hcs'
      go_wp2_with fail
      refine ht1.mono ?_
      rintro e w1 ⟨hb1, A1, c1, rfl, hs1⟩
      have bx1 := hli.out.box.keep hb1
      have g0 := bx1.1.1
      have g1 := bx1.1.2.1
      have g2 := bx1.1.2.2
      have hl1 := bx1.lt
      have HS1 := Lib.hid hs1
      have HBX := Lib.hid bx1
      clear bx1 ht1 hs1
      go_wp2_with fail
      refine (ht2 _ hb1).mono ?_
      rintro e w2 ⟨hb2, B1, cc1, rfl, hi1⟩
      have HI1 := Lib.hid hi1
      obtain ⟨W4, hW4⟩ : ∃ W4, W4 = w2.alloc (.cells #[.int .i64 (bk : Int), .int .i64 (ak : Int), .slice B1 n cc1] 24) := ⟨_, rfl⟩
      have hb4 : Below w2.heap.size w2 W4 := by rw [hW4]; exact (Below.refl _ _).alloc (Nat.le_refl _) _
      have HR4 : Hid (Box W4 w2.heap.size (.int .i64 (bk : Int)) (.int .i64 (ak : Int)) (.slice B1 n cc1)) := by rw [hW4]; exact Box.new _ _ _ _ _ _ rfl
      have r2 := HR4.out.1.1
      have r3 := HR4.out.1.2.1
      have r4 := HR4.out.1.2.2
      have hl4 := HR4.out.lt
      clear g0 g1 g2 hi1 ht2
      go_wp2_with fail
      rw [← hW4]
      clear hW4
      have hb14 : Below w1.heap.size w1 W4 := hb2.trans (hb4.mono hb2.size)
      refine (fits_m HT.out (by omega) (by omega) (HS1.out.keep hb14).old (HI1.out.keep hb4).old).mono ?_
      rintro e w5 ⟨rfl, hb5⟩
      have bx5 := HR4.out.keep hb5
      have t2 := bx5.1.1
      have t3 := bx5.1.2.1
      have t4 := bx5.1.2.2
      have hl5 := bx5.lt
      clear r2 r3 r4 bx5
      go_wp2_with fail
      have hb15 : Below w1.heap.size w1 w5 := hb14.trans (hb5.mono hb14.size)
      have hb25 : Below w2.heap.size w2 w5 := hb4.trans (hb5.mono hb4.size)
      refine (reps_m HT.out (by omega) (by omega) (HS1.out.keep hb15).old (HI1.out.keep hb25).old).mono ?_
      rintro e w6 ⟨rfl, hb6⟩
      clear t2 t3 t4
      have hb16 : Below w1.heap.size w1 w6 := hb15.trans (hb6.mono hb15.size)
      have hb26 : Below w2.heap.size w2 w6 := hb25.trans (hb6.mono hb25.size)
      have hb46 : Below W4.heap.size W4 w6 := hb5.trans (hb6.mono hb5.size)
      have bq := HBX.out.keep hb16
      have bx := HR4.out.keep hb46
      have g0 := bq.1.1
      have g1 := bq.1.2.1
      have g2 := bq.1.2.2
      have g3 := bq.2
      have hlq := bq.lt
      have t2 := bx.1.1
      have t3 := bx.1.2.1
      have t4 := bx.1.2.2
      have hlx := bx.lt
      clear bx bq
      go_wp2_with fail
      go_region
      go_wp2_with fail
      go_roundw
      case rel =>
        have hw1 : wi.heap.size ≤ w1.heap.size := hb1.size
        refine ⟨k + 1, s', bk, ak, cs', A1, B1, c1, cc1, by omega, by go_num, rfl, ⟨HT.out, HI.out.1, HI.out.2⟩, ?_, ?_⟩
        · exact Lie.store (HS1.out.keep hb16) (HI1.out.keep hb26) (by omega) (by omega) (HBX.out.keep hb16)
        · exact (((((hbr.trans (hb1.mono (by omega))).trans (hb16.mono (by omega))).setCell (Nat.le_refl _) _).setCell (Nat.le_refl _) _).setCell (Nat.le_refl _) _).drew
      case measure => simp [intOf]; omega
    · have e4 : k = 4 := by omega
      subst e4
      have hs4 : sk = s := hsk.out.2.1.trans (itS_four s)
      obtain ⟨rfl, rfl, rfl⟩ := pt_inj (hsk.out.2.2.trans (itP_four HST.out.form))
      subst hs4
      clear hsk
      have hbi : Below w.heap.size w wi := hb03.trans (hbr.mono (by omega))
      go_wp2_with fail
      refine (rsame_any sk sk Sk S m m dk d true wi HST.out.hm HST.out.hm (decide_eq_true rfl) (by omega) (by omega) hli.out.set (HS.out.keep hbi hbi.size)).mono ?_
      rintro e w1 ⟨rfl, hb1⟩
      have bx1 := hli.out.box.keep hb1
      have g0 := bx1.1.1
      have g1 := bx1.1.2.1
      have g2 := bx1.1.2.2
      have hl1 := bx1.lt
      have hk1 : Below W2.heap.size W2 w1 := (hb3.trans (hbr.mono (Nat.le_refl _))).trans (hb1.mono (by omega))
      have q0 := (hk1.cell (p := ⟨w.heap.size, 0, none⟩) hz2).trans HB.out.1
      have q1 := (hk1.cell (p := ⟨w.heap.size, 1, none⟩) hz2).trans HB.out.2.1
      have q2 := (hk1.cell (p := ⟨w.heap.size, 2, none⟩) hz2).trans HB.out.2.2
      have hlw : w.heap.size < w1.heap.size := by omega
      have hbi1 : Below w.heap.size w w1 := hbi.trans (hb1.mono hbi.size)
      go_wp2_with fail
      refine (rsameP_any ak bk csk Bk A n n ck c w1 HST.out.hn HST.out.hn (by omega) (hli.out.ints.keep hb1 hb1.size) (HPI.out.keep hbi1 hbi1.size)).mono ?_
      rintro e w2 ⟨rfl, hb2⟩
      clear g0 g1 g2 q0 q1 q2
      have hv0 : Below W2.heap.size W2 w2 := hk1.trans (hb2.mono (by omega))
      have hli2 : Hid (Lie m n sk ak bk csk Sk Bk ck W2.heap.size w2) := by
        have h12 := hb1.trans (hb2.mono hb1.size)
        exact ⟨hli.out.set.keep h12 h12.size, hli.out.ints.keep h12 h12.size, hli.out.box.keep h12⟩
      obtain ⟨V0, hV0⟩ : ∃ V, V = w2 := ⟨_, rfl⟩
      rw [← hV0] at hv0 hli2
      go_wp2_with fail
      rw [← hV0]
      clear hli hb1 hb2 hk1 hbi hbi1 hlt hk hbr hszi hl1 hlw bx1 hV0
      clear hb03 hb3 hz3
      go_loopw [14, 21] (fun u i wr => ∃ (k : Nat) (s2 : List Tl) (a2 b2 : Nat) (cs2 : List Int) (S2 B2 : Option Addr) (d2 c2 : Nat), k ≤ 2 ∧ i = .int .i64 k ∧ u = .slice S2 m d2 ∧ Hid (St R m n s2 a2 b2 cs2 ∧ s2 = itMS sk k ∧ (⟨a2, b2, cs2⟩ : Pt) = itMP ⟨ak, bk, csk⟩ k) ∧ Hid (Lie m n s2 a2 b2 cs2 S2 B2 c2 W2.heap.size wr) ∧ Below W2.heap.size V0 wr) (fun _ i _ => 2 - (intOf i).toNat)
      case atStart => exact ⟨0, sk, ak, bk, csk, Sk, Bk, dk, ck, by omega, rfl, rfl, ⟨HST.out, rfl, rfl⟩, hli2, Below.refl _ _⟩
      case round =>
        clear hli2
        obtain ⟨k, s2, a2, b2, cs2, S2, B2, d2, c2, hk, rfl, rfl, hsk, hli, hbr⟩ := hrel
        obtain ⟨wi, rfl⟩ : ∃ wi : World, wi = wr := ⟨_, rfl⟩
        have hszi := hbr.size
        have hszv := hv0.size
        by_cases hlt : k < 2
        · have HTm := Lib.hid hsk.out.1.mir
          have HTu := Lib.hid hsk.out.1.mir.up
          have HI : Hid ((s2.map mirT).map upT = itMS sk (k + 1) ∧ (⟨a2, b2, (upP ⟨a2, b2, (mirP ⟨a2, b2, cs2⟩).c⟩).c⟩ : Pt) = itMP ⟨ak, bk, csk⟩ (k + 1)) := by
            refine ⟨by rw [hsk.out.2.1]; rfl, ?_⟩
            rw [← upP_is hsk.out.1.mir.form, ← mirP_is hsk.out.1.form, hsk.out.2.2]
            rfl
          have ht1 := mir_m (d := d2) hsk.out.1 hli.out.set
          have ht2 := fun (W : World) (c' : Nat) (A' : Option Addr) (hW : SetIn W W.heap.size A' (s2.map mirT)) => up_m (d := c') hsk.out.1.mir hW
          have ht3 := fun (W : World) (hW : Below wi.heap.size wi W) => mirP_m (c := c2) hsk.out.1 (hli.out.ints.keep hW hW.size)
          have ht4 := fun (W : World) (c' : Nat) (A' : Option Addr) (hW : IntsIn W W.heap.size A' (mirP ⟨a2, b2, cs2⟩).c) => upP_m (c := c') hsk.out.1.mir hW
          obtain ⟨csu, hcsu⟩ : ∃ x, x = (upP ⟨a2, b2, (mirP ⟨a2, b2, cs2⟩).c⟩).c := ⟨_, rfl⟩
          rw [← hcsu] at HTu HI ht4
          clear hcsu
          obtain ⟨csm, hcsm⟩ : ∃ x, x = (mirP ⟨a2, b2, cs2⟩).c := ⟨_, rfl⟩
          rw [← hcsm] at HTm ht3 ht4
          clear hcsm
          obtain ⟨su, hsu⟩ : ∃ x, x = (s2.map mirT).map upT := ⟨_, rfl⟩
          rw [← hsu] at HTu HI ht2
          clear hsu
          obtain ⟨sm, hsm⟩ : ∃ x, x = s2.map mirT := ⟨_, rfl⟩
          rw [← hsm] at HTm ht1 ht2
          clear hsm
          go_wp2_with fail
          refine ht1.mono ?_
          rintro e w1 ⟨hb1, A1, c1, rfl, hs1⟩
          have HS1 := Lib.hid hs1
          clear ht1
          go_wp2_with fail
          refine (ht2 _ _ _ hs1.old).mono ?_
          rintro e w2 ⟨hb2, A2, c3, rfl, hs2⟩
          have HS2 := Lib.hid hs2
          have hi2 : Below wi.heap.size wi w2 := hb1.trans (hb2.mono hb1.size)
          have HBX := Lib.hid (hli.out.box.keep hi2)
          have g0 := HBX.out.1.1
          have g1 := HBX.out.1.2.1
          have g2 := HBX.out.1.2.2
          have hl1 := HBX.out.lt
          clear ht2 hs1 hs2
          go_wp2_with fail
          refine (ht3 _ hi2).mono ?_
          rintro e w3 ⟨hb3, B3, c4, rfl, hi3⟩
          have HI3 := Lib.hid hi3
          obtain ⟨W4, hW4⟩ : ∃ W4, W4 = w3.alloc (.cells #[.int .i64 (a2 : Int), .int .i64 (b2 : Int), .slice B3 n c4] 24) := ⟨_, rfl⟩
          have hb4 : Below w3.heap.size w3 W4 := by rw [hW4]; exact (Below.refl _ _).alloc (Nat.le_refl _) _
          have HR4 : Hid (Box W4 w3.heap.size (.int .i64 (a2 : Int)) (.int .i64 (b2 : Int)) (.slice B3 n c4)) := by rw [hW4]; exact Box.new _ _ _ _ _ _ rfl
          clear g0 g1 g2 ht3 hi3
          go_wp2_with fail
          rw [← hW4]
          clear hW4
          have hi4 := (HI3.out.keep hb4)
          refine (ht4 _ _ _ hi4.old).mono ?_
          rintro e w5 ⟨hb5, B5, c5, rfl, hi5⟩
          have HI5 := Lib.hid hi5
          obtain ⟨W6, hW6⟩ : ∃ W6, W6 = w5.alloc (.cells #[.int .i64 (a2 : Int), .int .i64 (b2 : Int), .slice B5 n c5] 24) := ⟨_, rfl⟩
          have hb6 : Below w5.heap.size w5 W6 := by rw [hW6]; exact (Below.refl _ _).alloc (Nat.le_refl _) _
          have HR6 : Hid (Box W6 w5.heap.size (.int .i64 (a2 : Int)) (.int .i64 (b2 : Int)) (.slice B5 n c5)) := by rw [hW6]; exact Box.new _ _ _ _ _ _ rfl
          have h46 : Below W4.heap.size W4 W6 := hb5.trans (hb6.mono hb5.size)
          have br := HR4.out.keep hb5
          have r0 := br.1.1
          have r1 := br.1.2.1
          have r2 := br.1.2.2
          have hlr := br.lt
          clear ht4 hi4 hi5 br
          go_wp2_with fail
          rw [← hW6]
          clear hW6
          have h36 : Below w3.heap.size w3 W6 := hb4.trans (h46.mono hb4.size)
          have h26 : Below w2.heap.size w2 W6 := hb3.trans (h36.mono hb3.size)
          have h16 : Below w1.heap.size w1 W6 := hb2.trans (h26.mono hb2.size)
          refine (fits_m HTm.out (by omega) (by omega) (HS1.out.keep h16).old (HI3.out.keep h36).old).mono ?_
          rintro e w7 ⟨rfl, hb7⟩
          have bu7 := HR6.out.keep hb7
          have u0 := bu7.1.1
          have u1 := bu7.1.2.1
          have u2 := bu7.1.2.2
          have hlu := bu7.lt
          clear r0 r1 r2 bu7
          go_wp2_with fail
          have h27 := h26.trans (hb7.mono h26.size)
          have h57 : Below w5.heap.size w5 w7 := hb6.trans (hb7.mono hb6.size)
          refine (fits_m HTu.out (by omega) (by omega) (HS2.out.keep h27).old (HI5.out.keep h57).old).mono ?_
          rintro e w8 ⟨rfl, hb8⟩
          have h68 : Below W6.heap.size W6 w8 := hb7.trans (hb8.mono hb7.size)
          have h48 := h46.trans (h68.mono h46.size)
          have h38 := h36.trans (h68.mono h36.size)
          have h18 := h16.trans (h68.mono h16.size)
          have br := HR4.out.keep h48
          have r0 := br.1.1
          have r1 := br.1.2.1
          have r2 := br.1.2.2
          have hlr8 := br.lt
          clear u0 u1 u2 br
          go_wp2_with fail
          refine (reps_m HTm.out (by omega) (by omega) (HS1.out.keep h18).old (HI3.out.keep h38).old).mono ?_
          rintro e w9 ⟨rfl, hb9⟩
          have h69 : Below W6.heap.size W6 w9 := h68.trans (hb9.mono h68.size)
          have h29 := h26.trans (h69.mono h26.size)
          have h59 : Below w5.heap.size w5 w9 := hb6.trans (h69.mono hb6.size)
          have bu := HR6.out.keep h69
          have u0 := bu.1.1
          have u1 := bu.1.2.1
          have u2 := bu.1.2.2
          have hlu9 := bu.lt
          clear r0 r1 r2 bu
          go_wp2_with fail
          refine (reps_m HTu.out (by omega) (by omega) (HS2.out.keep h29).old (HI5.out.keep h59).old).mono ?_
          rintro e w10 ⟨rfl, hb10⟩
          clear u0 u1 u2
          have h610 : Below W6.heap.size W6 w10 := h69.trans (hb10.mono h69.size)
          have h210 := h26.trans (h610.mono h26.size)
          have h510 : Below w5.heap.size w5 w10 := hb6.trans (h610.mono hb6.size)
          have bq := HBX.out.keep h210
          have g0 := bq.1.1
          have g1 := bq.1.2.1
          have g2 := bq.1.2.2
          have g3 := bq.2
          have hlq := bq.lt
          have bu := HR6.out.keep h610
          have u0 := bu.1.1
          have u1 := bu.1.2.1
          have u2 := bu.1.2.2
          have hlu10 := bu.lt
          clear bu bq
          go_wp2_with fail
          go_region
          go_wp2_with fail
          go_roundw
          case rel =>
            have z0 : W2.heap.size < wi.heap.size := hli.out.box.lt
            have z1 : wi.heap.size ≤ w2.heap.size := hi2.size
            have z2 := hb3.size
            have z3 := h36.size
            have z4 := hb4.size
            have z5 := hb5.size
            have z6 := hb1.size
            refine ⟨k + 1, su, a2, b2, csu, A2, B5, c3, c5, by omega, by go_num, rfl, ⟨HTu.out, HI.out.1, HI.out.2⟩, ?_, ?_⟩
            · exact Lie.store (HS2.out.keep h210) (HI5.out.keep h510) (by omega) (by omega) (HBX.out.keep h210)
            · exact (((((hbr.trans (hi2.mono (by omega))).trans (h210.mono (by omega))).setCell (Nat.le_refl _) _).setCell (Nat.le_refl _) _).setCell (Nat.le_refl _) _).drew
          case measure => simp [intOf]; omega
        · have e2 : k = 2 := by omega
          subst e2
          have hs2 : s2 = sk := hsk.out.2.1.trans (itMS_two sk)
          obtain ⟨rfl, rfl, rfl⟩ := pt_inj (hsk.out.2.2.trans (itMP_two HST.out.form))
          subst hs2
          clear hsk
          have hki : Below W2.heap.size W2 wi := hv0.trans hbr
          have hbi : Below w.heap.size w wi := hb02.trans (hki.mono (by omega))
          go_wp2_with fail
          refine (rsame_any s2 s2 S2 S m m d2 d true wi HST.out.hm HST.out.hm (decide_eq_true rfl) (by omega) (by omega) hli.out.set (HS.out.keep hbi hbi.size)).mono ?_
          rintro e w1 ⟨rfl, hb1⟩
          have bx1 := hli.out.box.keep hb1
          have g0 := bx1.1.1
          have g1 := bx1.1.2.1
          have g2 := bx1.1.2.2
          have hl1 := bx1.lt
          have hk1 : Below W2.heap.size W2 w1 := hki.trans (hb1.mono hki.size)
          have q0 := (hk1.cell (p := ⟨w.heap.size, 0, none⟩) hz2).trans HB.out.1
          have q1 := (hk1.cell (p := ⟨w.heap.size, 1, none⟩) hz2).trans HB.out.2.1
          have q2 := (hk1.cell (p := ⟨w.heap.size, 2, none⟩) hz2).trans HB.out.2.2
          have hlw : w.heap.size < w1.heap.size := by omega
          have hbi1 : Below w.heap.size w w1 := hbi.trans (hb1.mono hbi.size)
          go_wp2_with fail
          refine (rsameP_any a2 b2 cs2 B2 A n n c2 c w1 HST.out.hn HST.out.hn (by omega) (hli.out.ints.keep hb1 hb1.size) (HPI.out.keep hbi1 hbi1.size)).mono ?_
          rintro e w2 ⟨rfl, hb2⟩
          have hk2 : Below W2.heap.size W2 w2 := hk1.trans (hb2.mono hk1.size)
          have hb02' : Below w.heap.size w w2 := hbi1.trans (hb2.mono hbi1.size)
          have HT := Lib.hid hk2
          have hlw2 : w.heap.size < w2.heap.size := Nat.lt_of_lt_of_le hz2 hk2.size
          clear g0 g1 g2 q0 q1 q2 hli hv0 hbr hki hbi hk hlt hb1 hk1 bx1 hl1 hlw hbi1 hb2 hszi hszv hk2
          have q0 := (HT.out.cell (p := ⟨w.heap.size, 0, none⟩) hz2).trans HB.out.1
          have q1 := (HT.out.cell (p := ⟨w.heap.size, 1, none⟩) hz2).trans HB.out.2.1
          have q2 := (HT.out.cell (p := ⟨w.heap.size, 2, none⟩) hz2).trans HB.out.2.2
          obtain ⟨a', b', e1, e2, h1, h2, h3, h4⟩ := form_nat HST.out.form
          have e1' : a2 = a' := by have : (a2 : Int) = a' := e1; omega
          have e2' : b2 = b' := by have : (b2 : Int) = b' := e2; omega
          subst e1'
          subst e2'
          clear e1 e2 h4
          have a40 : a2 ≤ 40000 := by have := Nat.le_mul_of_pos_right a2 (show 0 < b2 by omega); omega
          have b40 : b2 ≤ 40000 := by have := Nat.le_mul_of_pos_left b2 (show 0 < a2 by omega); omega
          clear h3
          obtain ⟨I, hI⟩ : ∃ I, I = x % a2 := ⟨_, rfl⟩
          obtain ⟨J, hJ⟩ : ∃ J, J = y % b2 := ⟨_, rfl⟩
          have hIa : I < a2 := by rw [hI]; exact Nat.mod_lt _ (by omega)
          have hJb : J < b2 := by rw [hJ]; exact Nat.mod_lt _ (by omega)
          have eI : (x : Int) % (a2 : Int) = (I : Int) := by rw [hI, Int.natCast_emod]
          have eJ : (y : Int) % (b2 : Int) = (J : Int) := by rw [hJ, Int.natCast_emod]
          clear hI hJ
          go_wp2_with fail
          have f0 := ext_cell q0
          have f1 := ext_cell q1
          refine wp_region_ext (by kernel_rfl) (by kernel_rfl) ?_
          repeat (go_big_quiet_step (fail))
          refine wpQuiet_nil ?_
          intro _ hw'
          obtain ⟨xq, rfl⟩ := hw'
          obtain ⟨W6, hb6, he6⟩ : ∃ W6, Below w2.heap.size w2 W6 ∧ ext w2 xq = W6 := ⟨_, ext_below _, rfl⟩
          rw [he6, eI, eJ]
          clear he6 xq f0 f1 eI eJ
          have hlw6 : w.heap.size < W6.heap.size := Nat.lt_of_lt_of_le hlw2 hb6.size
          have t0 := (hb6.cell (p := ⟨w.heap.size, 0, none⟩) hlw2).trans q0
          have t1 := (hb6.cell (p := ⟨w.heap.size, 1, none⟩) hlw2).trans q1
          have t2 := (hb6.cell (p := ⟨w.heap.size, 2, none⟩) hlw2).trans q2
          have hb06 : Below w.heap.size w W6 := hb02'.trans (hb6.mono hb02'.size)
          clear q0 q1 q2
          obtain ⟨U, hU⟩ : ∃ U, U = 1 + wd % (a2 - I) := ⟨_, rfl⟩
          obtain ⟨V, hV⟩ : ∃ V, V = 1 + hg % (b2 - J) := ⟨_, rfl⟩
          have hu1 : wd % (a2 - I) < a2 - I := Nat.mod_lt _ (by omega)
          have hv1 : hg % (b2 - J) < b2 - J := Nat.mod_lt _ (by omega)
          have hIU : I + U ≤ a2 := by omega
          have hU1 : 1 ≤ U := by omega
          have hV1 : 1 ≤ V := by omega
          have hJV : J + V ≤ b2 := by omega
          obtain ⟨a3, ha3⟩ : ∃ a3, a3 = a2 - I := ⟨_, rfl⟩
          obtain ⟨b3, hb3⟩ : ∃ b3, b3 = b2 - J := ⟨_, rfl⟩
          have m1 : IntKind.i64.wrap ((a2 : Int) - (I : Int)) = (a3 : Int) := by rw [IntWalk.i64_in _ (by omega)]; omega
          have m2 : IntKind.i64.wrap ((b2 : Int) - (J : Int)) = (b3 : Int) := by rw [IntWalk.i64_in _ (by omega)]; omega
          rw [← ha3] at hu1 hU
          rw [← hb3] at hv1 hV
          obtain ⟨Xm, hXm⟩ : ∃ Xm, Xm = wd % a3 := ⟨_, rfl⟩
          obtain ⟨Ym, hYm⟩ : ∃ Ym, Ym = hg % b3 := ⟨_, rfl⟩
          rw [← hXm] at hu1 hU
          rw [← hYm] at hv1 hV
          have r1 : ∀ W : World, (Op.intDiv .rem .i64 (wd : Int) (a3 : Int)).run Tryz.prog W = .ok (.int .i64 (Xm : Int)) W := fun W => by rw [hXm]; exact rem_run wd a3 _ _ rfl rfl (by omega) W
          have r2 : ∀ W : World, (Op.intDiv .rem .i64 (hg : Int) (b3 : Int)).run Tryz.prog W = .ok (.int .i64 (Ym : Int)) W := fun W => by rw [hYm]; exact rem_run hg b3 _ _ rfl rfl (by omega) W
          have g1 : ¬ a3 = 0 := by omega
          have g2 : ¬ b3 = 0 := by omega
          have g3 : (wd : Int).tmod (a3 : Int) = (Xm : Int) := by rw [hXm, Int.tmod_eq_emod_of_nonneg (by omega), Int.natCast_emod]
          have g4 : (hg : Int).tmod (b3 : Int) = (Ym : Int) := by rw [hYm, Int.tmod_eq_emod_of_nonneg (by omega), Int.natCast_emod]
          have m3 : IntKind.i64.wrap (wd : Int) = (wd : Int) := IntWalk.i64_in _ (by omega)
          have m4 : IntKind.i64.wrap (hg : Int) = (hg : Int) := IntWalk.i64_in _ (by omega)
          have m5 : IntKind.i64.wrap (1 + (Xm : Int)) = (U : Int) := by rw [IntWalk.i64_in _ (by omega)]; omega
          have m6 : IntKind.i64.wrap (1 + (Ym : Int)) = (V : Int) := by rw [IntWalk.i64_in _ (by omega)]; omega
          have cC : ∀ W : World, Below W6.heap.size W6 W → Calls Tryz.prog 10 #[.agg #[.int .i64 (a2 : Int), .int .i64 (b2 : Int), .slice A n c], .int .i64 (I : Int), .int .i64 (J : Int), .int .i64 (U : Int), .int .i64 (V : Int)] W (IsPatM U V (U * V) (cutP ⟨a2, b2, cs2⟩ I J U V).c W) := fun W hW => by
            have hww := hb06.trans (hW.mono hb06.size)
            refine (cut_in a2 b2 I J U V _ _ _ _ cs2 A n c W rfl rfl rfl rfl HST.out.form HST.out.hn (HPI.out.keep hww hww.size) (by omega) (by omega) hIU hJV).mono fun _ _ hh => hh.m rfl rfl (by simp [cutP, rel])
          clear hu1 hv1 hU hV ha3 hb3 hXm hYm
          obtain ⟨N7, hN7⟩ : ∃ N7, N7 = U * V := ⟨_, rfl⟩
          have HN7 : Hid (N7 = (cutP ⟨a2, b2, cs2⟩ I J U V).c.length) := by show _ = _; rw [hN7]; simp [cutP, rel]
          have HCF : Hid (fits s2 (cutP ⟨a2, b2, cs2⟩ I J U V) = true) := cut_fits s2 ⟨a2, b2, cs2⟩ I J U V hU1 hV1 (by simpa using hIU) (by simpa using hJV) HST.out.fit
          have HCP : Hid (cutP ⟨a2, b2, cs2⟩ I J U V = ⟨U, V, (cutP ⟨a2, b2, cs2⟩ I J U V).c⟩) := rfl
          rw [← hN7] at cC
          obtain ⟨CQ, hCQ⟩ : ∃ CQ, CQ = (cutP ⟨a2, b2, cs2⟩ I J U V).c := ⟨_, rfl⟩
          have HCF2 : Hid (fits s2 ⟨U, V, CQ⟩ = true) := by rw [hCQ, ← HCP.out]; exact HCF.out
          rw [← hCQ] at cC HN7
          have hN7s : N7 ≤ 9223372036854775807 := by
            have q1 : U * V ≤ 40000 * 40000 := Nat.mul_le_mul (by omega) (by omega)
            omega
          clear hCQ HCF HCP hN7
          have HBX6 : Hid (Box (W6.alloc (.cells #[.int .i64 0, .int .i64 0, .slice none 0 0] 24)).drew W6.heap.size (.int .i64 0) (.int .i64 0) (.slice none 0 0)) := Box.new W6 24 _ _ _ _ rfl
          go_upto_region 28 with fail
          go_cut [32, 33] from 187 to 209 (fun u v wx => ∃ (CB : Nat) (B7 : Option Addr) (c7 : Nat), u = .pointer (some ⟨CB, 0, none⟩) ∧ v = .int .i64 0 ∧ Hid (Box wx CB (.int .i64 (U : Int)) (.int .i64 (V : Int)) (.slice B7 N7 c7)) ∧ Hid (IntsIn wx wx.heap.size B7 CQ) ∧ Below W6.heap.size W6 wx)
          case first =>
            go_region_held3 (fun w' => Below W6.heap.size W6 w' ∧ w'.cell? ⟨w.heap.size, 0, none⟩ = some (.int .i64 (a2 : Int)) ∧ w'.cell? ⟨w.heap.size, 1, none⟩ = some (.int .i64 (b2 : Int)) ∧ w'.cell? ⟨w.heap.size, 2, none⟩ = some (.slice A n c)) (first | exact ⟨(Below.refl _ _).drew, t0, t1, t2⟩ | exact s3_call (by assumption) hn | exact s3_alloc _ (by assumption) | exact s3_of hlw6 t0 t1 t2 (be_alloc (be_drew hn) _) | exact s3_of hlw6 t0 t1 t2 ((((s3_fst (by assumption)).setCell (Nat.le_refl _) _).setCell (Nat.le_refl _) _).setCell (Nat.le_refl _) _))
              (first | (go_at_call 10; (with_reducible refine (cC _ ?_).mono ?_); (focus (first | exact s3_fst (by assumption) | exact (Below.refl _ _).drew)); rintro e wn ⟨hn, B7, c7, rfl, hi7⟩; have hbx := HBX6.out.keep hn; obtain ⟨⟨y0, y1, y2⟩, y3⟩ := hbx) | (go_at_call 10; (with_reducible refine (cC _ ?_).mono ?_); (focus (first | exact s3_fst (by assumption) | exact (Below.refl _ _).drew)); rintro e wn ⟨hn, B7, c7, rfl, hi7⟩))
            all_goals (go_wp2_with fail; go_meet)
            all_goals first
              | exact ⟨_, B7, c7, rfl, rfl, Box.new _ _ _ _ _ _ rfl, (hi7.keep ((Below.refl _ _).alloc (Nat.le_refl _) _)).old, be_alloc (be_drew hn) _⟩
              | exact ⟨_, B7, c7, rfl, rfl, (HBX6.out.keep hn).set _ _ _, (((hi7.set (by simp) _).set (by simp) _).set (by simp) _).old, (((be_adrew hn).setCell (Nat.le_refl _) _).setCell (Nat.le_refl _) _).setCell (Nat.le_refl _) _⟩
          case rest =>
          obtain ⟨CB, B7, c7, rfl, rfl, hbx, hi7, hb67⟩ := hcut
          have g0 := hbx.out.1.1
          have g1 := hbx.out.1.2.1
          have g2 := hbx.out.1.2.2
          have hl7 := hbx.out.lt
          have hb07 : Below w.heap.size w wc := hb06.trans (hb67.mono hb06.size)
          have u0 := (hb67.cell (p := ⟨w.heap.size, 0, none⟩) hlw6).trans t0
          have u1 := (hb67.cell (p := ⟨w.heap.size, 1, none⟩) hlw6).trans t1
          have u2 := (hb67.cell (p := ⟨w.heap.size, 2, none⟩) hlw6).trans t2
          clear t0 t1 t2 m1 m2 m3 m4 m5 m6 g3 g4 r1 r2 cC
          go_wp2_with fail
          have hff := fits_any (U : Int) (V : Int) CQ s2 B7 S m N7 c7 d wc HST.out.hm HN7.out (HS.out.keep hb07 hb07.size) hi7.out HST.out.wf (by omega) hN7s
          rw [HCF2.out] at hff
          refine hff.mono ?_
          rintro e w8 ⟨rfl, hb8⟩
          have hb08 : Below w.heap.size w w8 := hb07.trans (hb8.mono hb07.size)
          have hlwc : w.heap.size < wc.heap.size := Nat.lt_of_lt_of_le hlw6 hb67.size
          have t0 := (hb8.cell (p := ⟨w.heap.size, 0, none⟩) hlwc).trans u0
          have t1 := (hb8.cell (p := ⟨w.heap.size, 1, none⟩) hlwc).trans u1
          have t2 := (hb8.cell (p := ⟨w.heap.size, 2, none⟩) hlwc).trans u2
          have hlw8 : w.heap.size < w8.heap.size := Nat.lt_of_lt_of_le hlwc hb8.size
          have e1 : (1 : Int) + (wd : Int) = ((1 + wd : Nat) : Int) := by omega
          have e2 : (1 : Int) + (hg : Int) = ((1 + hg : Nat) : Int) := by omega
          clear g0 g1 g2 hff u0 u1 u2 hbx hl7
          by_cases hsz : (1 + wd) * (1 + hg) ≤ 40000
          · have hrep := repeat_ok a2 b2 cs2 A n c (1 + (wd : Int)) (1 + (hg : Int)) (1 + wd) (1 + hg) w8 e1 e2 HST.out.form HST.out.hn (by omega) (HPI.out.keep hb08 hb08.size) (by omega) (by omega) hsz
            clear e1 e2
            obtain ⟨N9, hN9⟩ : ∃ N9, N9 = (1 + wd) * (1 + hg) := ⟨_, rfl⟩
            have HN9 : Hid (N9 = (win ⟨a2, b2, cs2⟩ 0 0 (1 + wd) (1 + hg)).c.length) := by show _ = _; rw [hN9]; simp [win]
            have hN9s : N9 ≤ 40000 := by omega
            have HW : Hid (reps s2 ⟨a2, b2, cs2⟩ = true → fits s2 (win ⟨a2, b2, cs2⟩ 0 0 (1 + wd) (1 + hg)) = true) := fun hr => win_fits s2 _ 0 0 _ _ (by omega) (by omega) hsz hr
            have HWP : Hid (win ⟨a2, b2, cs2⟩ 0 0 (1 + wd) (1 + hg) = ⟨((1 + wd : Nat) : Int), ((1 + hg : Nat) : Int), (win ⟨a2, b2, cs2⟩ 0 0 (1 + wd) (1 + hg)).c⟩) := rfl
            unfold IsRep at hrep
            rw [← hN9] at hrep
            obtain ⟨WQ, hWQ⟩ : ∃ WQ, WQ = (win ⟨a2, b2, cs2⟩ 0 0 (1 + wd) (1 + hg)).c := ⟨_, rfl⟩
            have HWF : Hid (R = true → fits s2 ⟨((1 + wd : Nat) : Int), ((1 + hg : Nat) : Int), WQ⟩ = true) := fun hr => by
              rw [hWQ, ← HWP.out]
              exact HW.out (by rw [HST.out.rep]; exact hr)
            rw [← hWQ] at hrep HN9
            clear hWQ hN9 HWP HW
            obtain ⟨P, hPP⟩ : ∃ P, P = 1 + wd := ⟨_, rfl⟩
            obtain ⟨Q, hQQ⟩ : ∃ Q, Q = 1 + hg := ⟨_, rfl⟩
            rw [← hPP, ← hQQ] at hrep HWF
            clear hPP hQQ hsz
            go_wp2_with fail
            refine hrep.mono ?_
            rintro e w9 ⟨B9, c9, rfl, hi9, hb9⟩
            have HI9 := Lib.hid hi9
            have hb09 : Below w.heap.size w w9 := hb08.trans (hb9.mono hb08.size)
            have hba : Below w.heap.size w (w9.alloc (.cells #[.int .i64 (P : Int), .int .i64 (Q : Int), .slice B9 N9 c9] 24)) := hb09.alloc hb09.size _
            clear hrep hi9
            cases R
            · go_wp2_with fail
              refine (awake_any _ (h.keep hba)).mono ?_
              rintro e w10 ⟨rfl, hb10⟩
              go_wp2_with fail
              go_ret
              exact ⟨rfl, hba.trans (hb10.mono hba.size)⟩
            · have hff := fits_any (P : Int) (Q : Int) WQ s2 B9 S m N9 c9 d _ HST.out.hm HN9.out (HS.out.keep hba hba.size) (HI9.out.keep ((Below.refl _ _).alloc (Nat.le_refl _) _)).old HST.out.wf (by omega) (by omega)
              rw [HWF.out rfl] at hff
              go_wp2_with fail
              refine hff.mono ?_
              rintro e w10 ⟨rfl, hb10⟩
              have hb010 := hba.trans (hb10.mono hba.size)
              go_wp2_with fail
              refine (awake_any _ (h.keep hb010)).mono ?_
              rintro e w11 ⟨rfl, hb11⟩
              go_wp2_with fail
              go_ret
              exact ⟨rfl, hb010.trans (hb11.mono hb010.size)⟩
          · have hin : incl (1 + (wd : Int)) (1 + (hg : Int)) = false := by
              unfold incl
              refine decide_eq_false fun hh => hsz ?_
              have := hh.2.2
              rw [e1, e2, ← Int.natCast_mul] at this
              omega
            have hrep := rep_size (a2 : Int) (b2 : Int) (1 + (wd : Int)) (1 + (hg : Int)) cs2 A n c w8 HST.out.form HST.out.hn (by omega) (by omega) (by omega) hin
            clear e1 e2 hin
            go_wp2_with fail
            refine hrep.mono ?_
            rintro e w9 ⟨hb9, rfl⟩
            have hb09 : Below w.heap.size w w9 := hb08.trans (hb9.mono hb08.size)
            have hba : Below w.heap.size w (w9.alloc (.cells #[.int .i64 0, .int .i64 0, .slice none 0 0] 24)) := hb09.alloc hb09.size _
            go_wp2_with fail
            refine (awake_any _ (h.keep hba)).mono ?_
            rintro e w10 ⟨rfl, hb10⟩
            go_wp2_with fail
            go_ret
            exact ⟨rfl, hba.trans (hb10.mono hba.size)⟩

set_option maxHeartbeats 2000000 in
theorem tileTurned_any (a b : Int) (cs : List Int) (s : List Tl) (A S : Option Addr) (m n c d : Nat) (x y wd hg : Nat) (w : World) (hm : m = s.length) (hn : n = cs.length) (hmd : m ≤ d) (hx : x < 256) (hy : y < 256) (hwd : wd < 256) (hhg : hg < 256)
    (hS : SetIn w w.heap.size S s) (hP : IntsIn w w.heap.size A cs) (hwf : ∀ t ∈ s, twf t) (hml : d ≤ 9223372036854775807) (hnl : n ≤ 9223372036854775807) (h : Env w) :
    Calls Tryz.prog 4 #[.slice S m d, .agg #[.int .i64 a, .int .i64 b, .slice A n c], .int .u8 (x : Int), .int .u8 (y : Int), .int .u8 (wd : Int), .int .u8 (hg : Int)] w fun e w' => e = .returned (.bool true) ∧ Below w.heap.size w w' := by
  obtain ⟨W0, hW0⟩ : ∃ W0, W0 = w.alloc (.cells #[.int .i64 a, .int .i64 b, .slice A n c] 24) := ⟨_, rfl⟩
  have hb0 : Below w.heap.size w W0 := by rw [hW0]; exact (Below.refl _ _).alloc (Nat.le_refl _) _
  by_cases hm2 : m ≤ 200
  rotate_left
  · clear hm hn hS hP hwf
    go_enter Tryz.func4, Tryz.ntmps4
    go_wp2_with fail
    rw [← hW0]
    refine (awake_any _ (h.keep hb0)).mono ?_
    rintro e w2 ⟨rfl, hb2⟩
    go_wp2_with fail
    go_ret
    exact ⟨rfl, hb0.trans (hb2.mono hb0.size)⟩
  by_cases hn5 : n ≤ 5000
  rotate_left
  · clear hm hn hS hP hwf
    go_enter Tryz.func4, Tryz.ntmps4
    go_wp2_with fail
    rw [← hW0]
    refine (awake_any _ (h.keep hb0)).mono ?_
    rintro e w2 ⟨rfl, hb2⟩
    go_wp2_with fail
    go_ret
    exact ⟨rfl, hb0.trans (hb2.mono hb0.size)⟩
  cases hF : fits s ⟨a, b, cs⟩
  · have hff := rfits_any a b cs s A S m n c d _ W0 hm hn hmd hF (hS.keep hb0 hb0.size) (hP.keep hb0 hb0.size) hml hnl
    clear hm hn hS hP hwf hF
    go_enter Tryz.func4, Tryz.ntmps4
    go_wp2_with fail
    rw [← hW0]
    clear hW0
    refine hff.mono ?_
    rintro e w1 ⟨rfl, hb1⟩
    have hb01 := hb0.trans (hb1.mono hb0.size)
    go_wp2_with fail
    refine (awake_any _ (h.keep hb01)).mono ?_
    rintro e w2 ⟨rfl, hb2⟩
    go_wp2_with fail
    go_ret
    exact ⟨rfl, hb01.trans (hb2.mono hb01.size)⟩
  · have hfo : form ⟨a, b, cs⟩ = true := by
      have := hF
      simp only [fits, Bool.and_eq_true] at this
      exact this.2.1
    obtain ⟨a', b', e1, e2, _⟩ := form_nat hfo
    have e1' : a = a' := e1
    have e2' : b = b' := e2
    subst e1'
    subst e2'
    clear hW0 hb0
    exact tt_main (reps s ⟨a', b', cs⟩) a' b' cs s A S m n c d x y wd hg w ⟨hm, hn, hwf, hF, rfl⟩ hmd hm2 hn5 hx hy hwd hhg hS hP hml h
end Go.Proofs.YtmmpdniafmhjpaaGreatDoor

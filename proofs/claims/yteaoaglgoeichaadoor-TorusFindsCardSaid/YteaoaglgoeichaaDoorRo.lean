/-
  groutworkref03.round: the rows whose last east is their first west, in order.
-/
import Derived.Test.YteaoaglgoeichaaDoorRk
import Derived.Test.YteaoaglgoeichaaDoorTz
import Derived.Test.YteaoaglgoeichaaDoorFg
namespace Go.Proofs.YteaoaglgoeichaaDoor
open Go.RowKit Go.Maps Go.BigFrame
set_option linter.unusedVariables false
set_option linter.unusedSimpArgs false
set_option maxRecDepth 100000

def ringB (s : List Tl) (r : List Nat) : Bool := decide (east s r = west s r)
/-- what round returns -/
def IsRing (s : List Tl) (wd : Nat) (W : World) (e : Ending) (w' : World) : Prop :=
  ∃ v Z, e = .returned v ∧ Z.map (·.2.2) = ringsE s wd ∧ w'.ownsRow W.heap.size 82 3 v Z.length (Z.flatMap (rz s)) ∧ ZOk w' W.heap.size v.ownBlock Z ∧ Below W.heap.size W w'
def ringZ (s : List Tl) (Z : List (Nat × Nat × List Nat)) : List (Nat × Nat × List Nat) := Z.filter fun z => ringB s z.2.2
theorem ringZ_yes (s : List Tl) (Z : List (Nat × Nat × List Nat)) (k : Nat) (z) (hz : Z[k]? = some z) (h : ringB s z.2.2 = true) : ringZ s (Z.take (k + 1)) = ringZ s (Z.take k) ++ [z] := by
  unfold ringZ
  rw [List.take_add_one, hz, List.filter_append]
  simp [h]
theorem ringZ_no (s : List Tl) (Z : List (Nat × Nat × List Nat)) (k : Nat) (z) (hz : Z[k]? = some z) (h : ringB s z.2.2 = false) : ringZ s (Z.take (k + 1)) = ringZ s (Z.take k) := by
  unfold ringZ
  rw [List.take_add_one, hz, List.filter_append]
  simp [h]
theorem ringZ_map (s : List Tl) (Z : List (Nat × Nat × List Nat)) : (ringZ s Z).map (·.2.2) = (Z.map (·.2.2)).filter (ringB s) := by
  unfold ringZ
  rw [List.filter_map]
  rfl
theorem ringZ_le (s : List Tl) (Z : List (Nat × Nat × List Nat)) (k : Nat) : (ringZ s (Z.take k)).length ≤ k := by
  unfold ringZ
  refine Nat.le_trans (List.length_filter_le _ _) ?_
  rw [List.length_take]
  omega

set_option maxHeartbeats 8000000 in
theorem rround_any (s : List Tl) (S : Option Addr) (m sc a : Nat) (w : World) (hcR : Calls Tryd.prog 38 #[.slice S m sc, .int .i64 (a : Int)] w (IsRowsR s a w))
    (hm : m = s.length) (hml : m ≤ 1000) (hS : SetIn w w.heap.size S s) (ha1 : 1 ≤ a) (ha8 : a ≤ 8) (hN : (rws s a).length ≤ 1000000000) :
    Calls Tryd.prog 25 #[.slice S m sc, .int .i64 (a : Int)] w (IsRing s a w) := by
  obtain ⟨i1, gi, gz0, gz1, gz2⟩ := info_parts rrow_info
  have HM := Lib.hid hm
  have HN := Lib.hid hN
  clear hm hN
  go_enter Tryd.func25, Tryd.ntmps25
  go_wp2_with fail
  refine hcR.mono ?_
  rintro e2 w2 ⟨V2, Z, rfl, hZ, hown2, hzok, hb2⟩
  obtain ⟨zn, hzn⟩ : ∃ zn, zn = Z.length := ⟨_, rfl⟩
  rw [← hzn] at hown2
  obtain ⟨A2, c2, rfl, hzc, hflat, hbase⟩ := own_flat hown2 (fun z hz => rz_len s z) hzn.symm
  have hzl : zn ≤ 1000000000 := by rw [hzn, ← List.length_map (f := fun z : Nat × Nat × List Nat => z.2.2), hZ]; exact HN.out
  have HFLAT := Lib.hid hflat
  have HZOK := Lib.hid hzok
  have HZ := Lib.hid hZ
  have HZN := Lib.hid hzn
  clear hown2 hzok hflat hbase hZ hzn hcR
  go_wp2_with fail
  go_loopw [5, 7] (fun v i wr => ∃ (k : Nat), k ≤ zn ∧ i = .int .i64 k ∧ Hid (wr.ownsRow w2.heap.size 82 3 v (ringZ s (Z.take k)).length ((ringZ s (Z.take k)).flatMap (rz s))) ∧ Hid (Below w2.heap.size w2 wr)) (fun _ i _ => zn - (intOf i).toNat)
  case atStart => exact ⟨0, Nat.zero_le _, rfl, World.ownsRow_nil _ _ _ _, Below.refl _ _⟩
  case round =>
    obtain ⟨k, hk, rfl, hown, hbr⟩ := hrel
    obtain ⟨wo, rfl⟩ : ∃ wo : World, wo = wr := ⟨_, rfl⟩
    by_cases hkz : k < zn
    · have hkZ : k < Z.length := by rw [← HZN.out]; exact hkz
      obtain ⟨⟨rb, rc, r⟩, hzk⟩ : ∃ z, Z[k]? = some z := ⟨_, List.getElem?_eq_getElem hkZ⟩
      obtain ⟨g, rfl, hgl, hrows⟩ := HFLAT.out (fun e => by rw [e] at hkZ; simp at hkZ)
      have hrR : r ∈ rws s a := by rw [← HZ.out]; exact List.mem_map_of_mem (f := fun z : Nat × Nat × List Nat => z.2.2) (List.mem_of_getElem? hzk)
      obtain ⟨-, hrb2, -, hrr⟩ := HZOK.out _ (List.mem_of_getElem? hzk)
      have hrange := rangeAt_keep (hrows k _ hzk) hbr.out hgl
      have hla : r.length = a := rws_len s a r hrR
      obtain ⟨K, hK⟩ : ∃ K, K = numS s r := ⟨_, rfl⟩
      obtain ⟨M, hM⟩ : ∃ M, M = numN s r := ⟨_, rfl⟩
      have k0 : wo.cell? ⟨g, k * 3, none⟩ = some (.slice (some ⟨rb, 0, none⟩) a rc) := hrange 0 _ (by simp [rz, hla])
      have k1 : wo.cell? ⟨g, k * 3 + 1, none⟩ = some (.int .i64 K) := hrange 1 _ (by rw [hK]; rfl)
      have k2 : wo.cell? ⟨g, k * 3 + 2, none⟩ = some (.int .i64 M) := hrange 2 _ (by rw [hM]; rfl)
      have hix : ∀ x, x < a → r.getD x 0 < s.length := ((mem_rws s a r).1 hrR).2.1
      have hrc : ∀ x, x < a → wo.cell? ⟨rb, x, none⟩ = some (.int .i64 ((r.getD x 0 : Nat) : Int)) := fun x hx => by
        have h1 := hrr x (.int .i64 ((r.getD x 0 : Nat) : Int)) (by
          rw [vals, idxI, List.map_map, List.getElem?_map, List.getElem?_eq_getElem (show x < r.length by omega), getD_of_lt r x 0 (by omega)]
          rfl)
        rw [Nat.zero_add] at h1
        exact (hbr.out.cell (p := ⟨rb, x, none⟩) hrb2).trans h1
      have hbwo : Below w.heap.size w wo := hb2.trans (hbr.out.mono hb2.size)
      obtain ⟨i0, hi0⟩ : ∃ i0, i0 = r.getD 0 0 := ⟨_, rfl⟩
      obtain ⟨i9, hi9⟩ : ∃ i9, i9 = r.getD (a - 1) 0 := ⟨_, rfl⟩
      have g0 := hrc 0 (by omega)
      have g9 := hrc (a - 1) (by omega)
      have hl0 := hix 0 (by omega)
      have hl9 := hix (a - 1) (by omega)
      rw [← hi0] at g0 hl0
      rw [← hi9] at g9 hl9
      obtain ⟨sb, so, rfl, hsb, -, -, -, t0⟩ := set_at hS hbwo hl0
      obtain ⟨sb', so', hse, -, -, t9, -, -⟩ := set_at hS hbwo hl9
      obtain ⟨rfl, rfl⟩ : sb = sb' ∧ so = so' := by injection hse with h; injection h with h1 h2; exact ⟨h1, h2⟩
      obtain ⟨v0, hv0⟩ : ∃ v, v = (s.getD i0 ⟨0, 0, 0, 0⟩).w := ⟨_, rfl⟩
      obtain ⟨v9, hv9⟩ : ∃ v, v = (s.getD i9 ⟨0, 0, 0, 0⟩).e := ⟨_, rfl⟩
      rw [← hv0] at t0
      rw [← hv9] at t9
      have hring : ringB s r = decide (v9 = v0) := by
        unfold ringB
        rw [east_getD s r a ha1 hla, west_getD s r (by omega), ← hi0, ← hi9, hv0, hv9]
        rfl
      have hm0 : (i0 : Int) < (m : Int) := by have := HM.out; omega
      have hm9 : (i9 : Int) < (m : Int) := by have := HM.out; omega
      have hp0 : (0 : Int) ≤ (i0 : Int) := by omega
      have hp9 : (0 : Int) ≤ (i9 : Int) := by omega
      have hwr : IntKind.i64.wrap ((a : Int) - 1) = ((a - 1 : Nat) : Int) := by rw [IntWalk.i64_in _ (by omega)]; omega
      obtain ⟨a9, ha9⟩ : ∃ a9, a9 = a - 1 := ⟨_, rfl⟩
      rw [← ha9] at g9 hwr
      have hw2 : (0 : Int) ≤ (a9 : Int) := by omega
      have hw3 : (a9 : Int) < (a : Int) := by omega
      have hw4 : (0 : Int) < (a : Int) := by omega
      have hk0 : (0 : Int) ≤ (k : Int) := by omega
      have hkz' : (k : Int) < (zn : Int) := by omega
      have hrl := ringZ_le s Z k
      have hzr : rz s (rb, rc, r) = [.slice (some ⟨rb, 0, none⟩) a rc, .int .i64 K, .int .i64 M] := by rw [hK, hM, ← hla]; rfl
      have HZR := Lib.hid hzr
      have HZK := Lib.hid hzk
      have HRING := Lib.hid hring
      have HRL := Lib.hid hrl
      clear hkZ hzk hrows hrR hrb2 hrr hrange hla hK hM hix hrc hbwo hi0 hi9 hl0 hl9 hse hv0 hv9 ha9 hring hrl hzr hsb hS
      by_cases hvv : v9 = v0
      · subst hvv
        have hyes := ringZ_yes s Z k _ HZK.out (by show ringB s r = true; rw [HRING.out]; exact decide_eq_true rfl)
        have HYES := Lib.hid hyes
        have HBW := Lib.hid hbr.out.size
        clear hyes
        go_wp2_with fail
        go_region
        go_wp2_with (at_builtin; refine wpList_append_own_at _ rfl _ _ 56 rfl w2.heap.size 82 i1 _ 3 40 Tryd.underlying56 gi gz0 gz1 gz2 rfl (by decide) _ _ _ rfl ((hown.out.alloc _).drew) ⟨wo.heap.size, 0, none⟩ 1 1 [.slice (some ⟨rb, 0, none⟩) a rc, .int .i64 K, .int .i64 M] rfl rfl (fun jj uu hh => cell_news wo wo.heap.size rfl [.slice (some ⟨rb, 0, none⟩) a rc, .int .i64 K, .int .i64 M] _ jj uu hh) (by rw [← HZR.out]; exact rz_one _ _) (by have := HRL.out; simp only [maxLen]; omega) (by have := HRL.out; omega) (by have := HBW.out; simp; omega) ?_; intro v' w4 hown4 hgrow4 hnil4 hat4)
        have hb4 : Go.RowKit.Below w2.heap.size w2 w4 := hbr.out.trans ((Below.refl w2.heap.size wo).grown (grown_drew (World.grownBy_alloc wo _ _) |>.trans hgrow4) HBW.out (fun j e => (hown.out.lt j e).1))
        go_roundw
        case rel => exact ⟨k + 1, by omega, by go_num, by show World.ownsRow _ _ _ _ _ _ _; rw [HYES.out, List.length_append, List.flatMap_append]; simpa [HZR.out] using hown4, hb4⟩
        case measure => simp [intOf]; omega
      · have hno := ringZ_no s Z k _ HZK.out (by show ringB s r = false; rw [HRING.out]; exact decide_eq_false hvv)
        have HNO := Lib.hid hno
        clear hno
        go_wp2_with fail
        go_region
        go_wp2_with fail
        go_roundw
        case rel => exact ⟨k + 1, by omega, by go_num, by rw [HNO.out]; exact hown.out, hbr.out.drew⟩
        case measure => simp [intOf]; omega
    · have hke : k = zn := by omega
      subst hke
      have hfin := hown.out
      rw [HZN.out, List.take_length] at hfin
      have HF := Lib.hid hfin
      have HB := Lib.hid (hb2.trans (hbr.out.mono hb2.size))
      have HS := Lib.hid hb2.size
      have HBR := hbr
      clear hown hfin hb2 hbr
      go_wp2_with fail
      go_ret
      refine ⟨_, ringZ s Z, rfl, by rw [ringZ_map, HZ.out]; rfl, own_mono HF.out HS.out, fun z hz => ?_, HB.out⟩
      obtain ⟨h1, h2, h3, h4⟩ := HZOK.out z (List.mem_filter.1 hz).1
      refine ⟨h1, Nat.lt_of_lt_of_le h2 HBR.out.size, fun e => ?_, rangeAt_keep h4 HBR.out h2⟩
      have := (HF.out.lt _ e.symm).1
      omega
end Go.Proofs.YteaoaglgoeichaaDoor

/-
  ref02: Colours, Light.
-/
import Derived.Test.YteaoaglgoeichaaDoorFh
import Derived.Test.YteaoaglgoeichaaDoorFb
import Derived.Test.YteaoaglgoeichaaDoorFp
namespace Go.Proofs.YteaoaglgoeichaaDoor
open Go.RowKit Go.Maps Go.BigFrame Go.Sort
set_option linter.unusedVariables false
set_option maxRecDepth 100000

def colsTake (s : List Tl) (k : Nat) : List Int := colsOf (s.take k)
theorem colsTake_succ (s : List Tl) (k : Nat) (h : k < s.length) : colsTake s (k + 1) = addIf (addIf (colsTake s k) (ti s k).n) (ti s k).s := by
  unfold colsTake colsOf
  rw [List.take_succ_eq_append_getElem h, List.foldl_append]
  unfold ti
  rw [getD_of_lt s k _ h]
  rfl
set_option maxHeartbeats 4000000 in
theorem rcolours_any (s : List Tl) (S : Option Addr) (m d : Nat) (w : World) (hm : m = s.length) (hS : SetIn w w.heap.size S s) (hml : m ≤ 100000000) :
    Calls Tryd.prog 24 #[.slice S m d] w fun e w' => ∃ V, e = .returned V ∧ w'.ownsRow w.heap.size 3 1 V (colsOf s).length ((colsOf s).map (Value.int .i64)) ∧ Below w.heap.size w w' := by
  have HM := Lib.hid hm
  clear hm
  go_enter Tryd.func24, Tryd.ntmps24
  go_wp2
  go_loopw [3, 4] (fun v i wr => ∃ (k : Nat) (l : List Int), k ≤ m ∧ i = .int .i64 k ∧ Hid (l = colsTake s k) ∧ wr.ownsRow w.heap.size 3 1 v l.length (l.map (Value.int .i64)) ∧ Below w.heap.size w wr) (fun _ i _ => m - (intOf i).toNat)
  case atStart => exact ⟨0, [], Nat.zero_le _, rfl, rfl, World.ownsRow_nil _ _ _ _, Below.refl _ _⟩
  case round =>
    obtain ⟨k, l, hk, rfl, hl, hown, hbw⟩ := hrel
    obtain ⟨wo, rfl⟩ : ∃ wo : World, wo = wr := ⟨_, rfl⟩
    by_cases hlt : k < m
    · have hkl : k < s.length := by rw [← HM.out]; exact hlt
      obtain ⟨sb, so, rfl, hsb, c0, c1, c2, c3⟩ := set_at hS hbw hkl
      have ht' : s.getD k ⟨0, 0, 0, 0⟩ = ti s k := rfl
      rw [ht'] at c0 c1 c2 c3
      have hstep : Hid (addIf (addIf l (ti s k).n) (ti s k).s = colsTake s (k + 1)) := by show _ = _; rw [hl.out, ← colsTake_succ s k hkl]
      have hlen : l.length ≤ 2 * m := by
        rw [hl.out]
        refine Nat.le_trans (cols_len _) ?_
        rw [List.length_take]
        omega
      obtain ⟨t, ht⟩ : ∃ t, t = ti s k := ⟨_, rfl⟩
      rw [← ht] at c0 c1 c2 c3 hstep
      have hk0 : (0 : Int) ≤ (k : Int) := by omega
      have hkm : (k : Int) < (m : Int) := by omega
      have hbs : w.heap.size ≤ wo.heap.size := hbw.size
      have r0 : ∀ w', Below w.heap.size wo w' → w'.cell? ⟨sb, so + k * 4, none⟩ = some (.int .i64 t.n) := fun w' h => (h.cell (p := ⟨sb, so + k * 4, none⟩) hsb).trans c0
      have r2 : ∀ w', Below w.heap.size wo w' → w'.cell? ⟨sb, so + k * 4 + 2, none⟩ = some (.int .i64 t.s) := fun w' h => (h.cell (p := ⟨sb, so + k * 4 + 2, none⟩) hsb).trans c2
      have hl1 := addIf_len (l := l) (n := t.n)
      have hw1 := fun (W : World) V (hB : w.heap.size ≤ W.heap.size) (h : W.ownsRow w.heap.size 3 1 V l.length (l.map (Value.int .i64))) => rwith_any l V l.length t.n w.heap.size W rfl (by omega) hB h
      have hw2 := fun (W : World) V (hB : w.heap.size ≤ W.heap.size) (h : W.ownsRow w.heap.size 3 1 V (addIf l t.n).length ((addIf l t.n).map (Value.int .i64))) => rwith_any (addIf l t.n) V (addIf l t.n).length t.s w.heap.size W rfl (by omega) hB h
      have HW1 := Lib.hid hw1
      have HW2 := Lib.hid hw2
      have hownd : wo.drew.ownsRow w.heap.size 3 1 _ l.length (l.map (Value.int .i64)) := hown
      have hbsd : w.heap.size ≤ wo.drew.heap.size := hbs
      have HO := Lib.hid hownd
      clear c0 c1 c2 c3 ht ht' hl hkl hw1 hw2 hl1 hown hownd
      go_wp2_with fail
      go_region_held3 (fun w' => Below w.heap.size wo w') (first | exact (Below.refl _ _).drew | (refine Below.trans ?_ hb2; assumption) | (refine Below.trans ?_ hb1; assumption))
        (first | (go_at_call 37; (with_reducible refine (HW1.out _ _ hbsd HO.out).mono ?_); rintro e w1 ⟨V1, rfl, hown1, hb1⟩) | (go_at_call 37; (with_reducible refine (HW2.out _ _ (Nat.le_trans hbsd hb1.size) hown1).mono ?_); rintro e w2 ⟨V2, rfl, hown2, hb2⟩))
      have hb3 : Below w.heap.size w w2 := hbw.trans (((Below.refl w.heap.size wo).drew.trans hb1).trans hb2)
      rw [hstep.out] at hown2
      have HO2 := Lib.hid hown2
      have hst : Hid (colsTake s (k + 1) = colsTake s (k + 1)) := rfl
      clear hown1 hown2 hb1 hb2 hstep r0 r2
      go_wp2_with fail
      go_roundw
      case rel => exact ⟨k + 1, colsTake s (k + 1), by omega, by go_num, rfl, HO2.out, hb3⟩
      case measure => simp [intOf]; omega
    · have e : k = m := by omega
      subst e
      have HL : Hid (l = colsOf s) := by
        show _ = _
        rw [hl.out]
        unfold colsTake
        rw [List.take_of_length_le (by rw [← HM.out]; omega)]
      have hown2 := hown
      rw [HL.out] at hown2
      have HO := Lib.hid hown2
      clear hl hown hown2 HL
      go_wp2_with fail
      go_ret
      exact ⟨_, rfl, HO.out, hbw⟩
def lightB (s : List Tl) (k : Nat) : Bool := decide (pw (colsOf s).length k ≤ 1500) && decide (pw s.length k ≤ 40000)
end Go.Proofs.YteaoaglgoeichaaDoor

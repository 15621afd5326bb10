/-
  groutworklaw04.part: the tiles of a set with some indices.
-/
import Derived.Test.YtgadfmknjpanpaaDoorSd
import Derived.Test.YtgadfmknjpanpaaDoorSp
import Derived.OneCell
namespace Go.Proofs.YtgadfmknjpanpaaDoor
open Go.RowKit Go.Maps Go.BigFrame
set_option linter.unusedVariables false
set_option linter.unusedSimpArgs false
set_option maxRecDepth 100000

/-- the tiles with some indices -/
def partL (s : List Tl) (l : List Nat) : List Tl := l.map (ti s)
set_option maxHeartbeats 2000000 in
theorem part_any (s : List Tl) (l : List Nat) (S A : Option Addr) (m d n c : Nat) (w : World) (hm : m = s.length) (hml : m ≤ 1000) (hn : n = l.length) (hnl : n ≤ 1000) (hl : ∀ i ∈ l, i < s.length) (hS : SetIn w w.heap.size S s) (hA : IntsIn w w.heap.size A (idxI l)) :
    Calls Tryd.prog 20 #[.slice S m d, .slice A n c] w fun e w' => ∃ B c', e = .returned (.tuple #[.slice B n c', .bool true]) ∧ SetNew w' w.heap.size B (partL s l) ∧ Below w.heap.size w w' := by
  obtain ⟨i1, gi, gz0, gz1, gz2⟩ := info_parts tile_info
  have HM := Lib.hid hm
  have HN := Lib.hid hn
  have HL := Lib.hid hl
  have HS := Lib.hid hS
  have HA := Lib.hid hA
  have hnl2 : n ≤ 9223372036854775807 := by omega
  clear hm hn hl hS hA
  go_enter Tryd.func20, Tryd.ntmps20
  go_wp2_with fail
  go_loopw [6, 7] (fun ov iv wr => ∃ (i : Nat) (v : Value), i ≤ n ∧ iv = .int .i64 (i : Int) ∧ ov = v ∧ Hid (wr.ownsRow w.heap.size 53 4 v i (tcells (partL s (l.take i)))) ∧ Hid (Below w.heap.size w wr)) (fun ov iv _ => n - (intOf iv).toNat)
  case atStart => exact ⟨0, .slice none 0 0, Nat.zero_le _, rfl, rfl, World.ownsRow_nil _ _ _ _, Lib.hid (Below.refl _ _)⟩
  case round =>
    obtain ⟨i, v, hi, rfl, hov, hown, hbr⟩ := hrel
    have hov' := hov.symm
    clear hov
    subst hov'
    obtain ⟨wo, rfl⟩ : ∃ wo : World, wo = wr := ⟨_, rfl⟩
    by_cases hin : i < n
    · have hil : i < l.length := by rw [← HN.out]; exact hin
      obtain ⟨j, hj⟩ : ∃ j, l[i]? = some j := ⟨_, List.getElem?_eq_getElem hil⟩
      have hjs : j < s.length := HL.out j (List.mem_of_getElem? hj)
      obtain ⟨ab, ao, rfl, ca⟩ := intsL_at HA.out hbr.out hj
      obtain ⟨xa, xo, rfl, hxa, t0, t1, t2, t3⟩ := set_at HS.out hbr.out hjs
      obtain ⟨t, ht⟩ : ∃ t, t = ti s j := ⟨_, rfl⟩
      have t0' : wo.cell? ⟨xa, xo + j * 4, none⟩ = some (.int .i64 t.n) := by rw [t0, ht]; rfl
      have t1' : wo.cell? ⟨xa, xo + j * 4 + 1, none⟩ = some (.int .i64 t.e) := by rw [t1, ht]; rfl
      have t2' : wo.cell? ⟨xa, xo + j * 4 + 2, none⟩ = some (.int .i64 t.s) := by rw [t2, ht]; rfl
      have t3' : wo.cell? ⟨xa, xo + j * 4 + 3, none⟩ = some (.int .i64 t.w) := by rw [t3, ht]; rfl
      have hj0 : (0 : Int) ≤ (j : Int) := by omega
      have hjm : (j : Int) < (m : Int) := by rw [HM.out]; omega
      have hi0 : (0 : Int) ≤ (i : Int) := by omega
      have hin' : (i : Int) < (n : Int) := by omega
      have hev : Hid (tcells (partL s (l.take i)) ++ tc t = tcells (partL s (l.take (i + 1)))) := by
        show _ = _
        rw [tcells_snoc, List.take_add_one, hj]
        unfold partL
        rw [List.map_append, ht]
        rfl
      have hbs := hbr.out.size
      have HOWN : Hid (∀ W : World, Below wo.heap.size wo W → W.ownsRow w.heap.size 53 4 v i (tcells (partL s (l.take i)))) := fun W hW => own_keep' hown.out hW
      have HLT : Hid (∀ q, v.ownBlock = some q → w.heap.size ≤ q) := fun q e => (hown.out.lt q e).1
      clear hown hil hj hjs hxa t0 t1 t2 t3 ht
      go_wp2_with (at_builtin; refine wpList_append_own_at _ rfl _ _ 22 rfl w.heap.size 53 i1 _ 4 32 Tryd.underlying22 gi gz0 gz1 gz2 rfl (by decide) v i (tcells (partL s (l.take i))) rfl (HOWN.out _ ((Below.refl _ _).alloc (Nat.le_refl _) _)) ⟨wo.heap.size, 0, none⟩ 1 1 (tc t) rfl rfl (fun jj uu hh => cell_news wo wo.heap.size rfl (tc t) _ jj uu hh) (by intro u hu; simp [tc] at hu; rcases hu with h | h | h | h <;> (rw [h]; rfl)) (by simp only [maxLen]; omega) (by omega) (by simp; omega) ?_; intro v7 w7 hown7 hgrow7 hnil7 hat7; rw [hev.out] at hown7)
      have hb7 : Below w.heap.size w w7 := (hbr.out.alloc hbs _).grown hgrow7 (Nat.le_trans hbs (by simp)) (fun q e => HLT.out q e)
      have HO7 : Hid (w7.ownsRow w.heap.size 53 4 v7 (i + 1) (tcells (partL s (l.take (i + 1))))) := hown7
      have HB7 := Lib.hid hb7
      clear hown7 hgrow7 hnil7 hat7 hb7
      go_roundw
      case rel => exact ⟨i + 1, v7, by omega, by go_num, rfl, HO7, HB7⟩
      case measure => simp [intOf]; omega
    · obtain rfl : i = n := by omega
      obtain ⟨B, c', rfl, -, -, hS⟩ := own_set hown.out
      rw [HN.out, List.take_length] at hS
      have HSN := Lib.hid hS
      have HB := Lib.hid hbr.out
      clear hS hown hbr
      go_wp2_with fail
      go_ret2
      exact ⟨B, c', rfl, HSN.out, HB.out⟩
end Go.Proofs.YtgadfmknjpanpaaDoor

/-
  ref02: extend, Rows: all rows of a width, with their numbers.
-/
import Derived.Test.YteaoaglgoeichaaDoorFi
import Derived.Test.YteaoaglgoeichaaDoorSo
import Derived.Test.YteaoaglgoeichaaDoorFg
import Derived.Deep.Cut
import Derived.Deep.CutRange
import Derived.Deep.RegionHeld3
import Derived.Deep.DrawnRows
namespace Go.Proofs.YteaoaglgoeichaaDoor
open Go.RowKit Go.Maps Go.BigFrame Go.Sort
set_option linter.unusedVariables false
set_option linter.unusedSimpArgs false
set_option maxRecDepth 100000

/-- all rows that begin with a row and are longer by k tiles -/
def exts (s : List Tl) : Nat → List Nat → List (List Nat)
  | 0, r => [r]
  | k + 1, r => (longer s r).flatMap (exts s k)
theorem exts_rws (s : List Tl) : ∀ k x, (rws s x).flatMap (exts s k) = rws s (x + k)
  | 0, x => by simp [exts]
  | k + 1, x => by
    have := exts_rws s k (x + 1)
    rw [show x + (k + 1) = x + 1 + k by omega, ← this]
    simp only [rws, exts, List.flatMap_assoc]
theorem exts_nil (s : List Tl) (k : Nat) : exts s k [] = rws s k := by
  have := exts_rws s k 0
  rw [Nat.zero_add] at this
  rw [← this]
  simp [rws]
theorem longer_mem {s : List Tl} {x : Nat} {r q : List Nat} (hr : r ∈ rws s x) (hq : q ∈ longer s r) : q ∈ rws s (x + 1) := by
  simp only [rws, List.mem_flatMap]
  exact ⟨r, hr, hq⟩
/-- the cells of a row's struct: its tiles' place, the numbers of its lines -/
def rz (s : List Tl) (z : Nat × Nat × List Nat) : List Value := [.slice (some ⟨z.1, 0, none⟩) z.2.2.length z.2.1, .int .i64 (numS s z.2.2), .int .i64 (numN s z.2.2)]
/-- each row's tiles lie in a block of their own, from base on, which is not g -/
def ZOk (w : World) (base : Nat) (g : Option Nat) (Z : List (Nat × Nat × List Nat)) : Prop := ∀ z ∈ Z, base ≤ z.1 ∧ z.1 < w.heap.size ∧ some z.1 ≠ g ∧ w.rangeAt z.1 0 (vals (idxI z.2.2))
theorem ZOk.grown {w w' : World} {base : Nat} {g g' : Option Nat} {Z : List (Nat × Nat × List Nat)} (h : ZOk w base g Z) (hg : w.grownBy w' g) (hne : g' = g ∨ ∃ b, g' = some b ∧ w.heap.size ≤ b) : ZOk w' base g' Z := fun z hz => by
  obtain ⟨h1, h2, h3, h4⟩ := h z hz
  refine ⟨h1, Nat.lt_of_lt_of_le h2 hg.size, ?_, fun j v hv => ?_⟩
  · rcases hne with e | ⟨b, e, hb⟩
    · rw [e]; exact h3
    · rw [e]
      intro e'
      have : z.1 = b := by simpa using e'
      omega
  · exact (World.cell?_of_block (hg.block z.1 h2 h3)).trans (h4 j v hv)
def IsExt (s : List Tl) (k : Nat) (r : List Nat) (base : Nat) (v : Value) (Z : List (Nat × Nat × List Nat)) (W : World) (e : Ending) (w' : World) : Prop :=
  ∃ v' Z', e = .returned v' ∧ Z'.map (·.2.2) = exts s k r ∧ w'.ownsRow base 82 3 v' (Z ++ Z').length ((Z ++ Z').flatMap (rz s)) ∧ ZOk w' base v'.ownBlock (Z ++ Z') ∧ W.grownBy w' v.ownBlock ∧
    (v'.ownBlock = v.ownBlock ∨ ∃ g, v'.ownBlock = some g ∧ W.heap.size ≤ g)
theorem rrow_info : (Tryd.prog.info? 82).map (fun i => (i.zero, i.size, i.bytes)) = some (some (.agg #[.slice none 0 0, .int .i64 0, .int .i64 0]), 3, 40) := by kernel_rfl
theorem rz_len (s : List Tl) (z : Nat × Nat × List Nat) : (rz s z).length = 3 := rfl
theorem rz_one (s : List Tl) (z : Nat × Nat × List Nat) : ∀ u ∈ rz s z, u.oneCell' = true := by
  intro u hu
  simp only [rz, List.mem_cons, List.not_mem_nil, or_false] at hu
  rcases hu with rfl | rfl | rfl <;> rfl
set_option maxHeartbeats 4000000 in
/-- a row that has its width -/
theorem rextend_zero (s : List Tl) (S C : Option Addr) (m d cn cd wd : Nat) (base : Nat) (r : List Nat) (b c : Nat) (by' : Int) (v : Value) (Z : List (Nat × Nat × List Nat)) (w : World)
    (hr : r.length = wd) (hw : wd ≤ 8) (hZn : Z.length ≤ 1000000000) (hbs : base ≤ w.heap.size)
    (hbb : base ≤ b) (hb : b < w.heap.size) (hbv : some b ≠ v.ownBlock) (hrow : w.rangeAt b 0 (vals (idxI r)))
    (hown : w.ownsRow base 82 3 v Z.length (Z.flatMap (rz s))) (hZ : ZOk w base v.ownBlock Z) :
    Calls Tryd.prog 44 #[.slice S m d, .slice C cn cd, .agg #[.slice (some ⟨b, 0, none⟩) r.length c, .int .i64 (numS s r), .int .i64 (numN s r)], .int .i64 wd, .int .i64 by', v] w (IsExt s 0 r base v Z w) := by
  obtain ⟨i0, hi, hz0, hz1, hz2⟩ := info_parts rrow_info
  obtain ⟨x, hx⟩ : ∃ x, x = numS s r := ⟨_, rfl⟩
  obtain ⟨y, hy⟩ : ∃ y, y = numN s r := ⟨_, rfl⟩
  have HO := Lib.hid hown
  have HZ := Lib.hid hZ
  have hv := hown.lt
  have HV := Lib.hid hv
  have HR := Lib.hid hrow
  have hz : rz s (b, c, r) = [.slice (some ⟨b, 0, none⟩) wd c, .int .i64 x, .int .i64 y] := by rw [hx, hy, ← hr]; rfl
  rw [← hx, ← hy, hr]
  have HRz := Lib.hid hz
  have HLen := Lib.hid hr
  clear hown hZ hx hy hv hrow hz hr
  go_enter Tryd.func44, Tryd.ntmps44
  go_wp2_with (at_builtin; refine wpList_append_own_at _ rfl _ _ 56 rfl base 82 i0 _ 3 40 Tryd.underlying56 hi hz0 hz1 hz2 rfl (by decide) _ _ _ rfl ((HO.out.alloc _).alloc _) ⟨w.heap.size + 1, 0, none⟩ 1 1 [.slice (some ⟨b, 0, none⟩) wd c, .int .i64 x, .int .i64 y] rfl rfl (cell_news _ _ (by simp) _ _) (by rw [← HRz.out]; exact rz_one _ _) (by simp only [maxLen]; omega) (by omega) (by simp; omega) ?_; intro v' w4 hown4 hgrow4 hnil4 hat4)
  have hg0 : w.grownBy w4 v.ownBlock := ((World.grownBy_alloc w _ v.ownBlock).trans (World.grownBy_alloc _ _ v.ownBlock)).trans hgrow4
  have hat5 : v'.ownBlock = v.ownBlock ∨ ∃ g, v'.ownBlock = some g ∧ w.heap.size ≤ g := hat4.imp id fun h => ⟨_, h, by simp; omega⟩
  have HG := Lib.hid hg0
  have HA := Lib.hid hat5
  have H4 := Lib.hid hown4
  have HA4 := Lib.hid hat4
  clear hown4 hgrow4 hnil4 hat4 hg0 hat5
  go_ret
  refine ⟨v', [(b, c, r)], rfl, by simp [exts], ?_, ?_, HG.out, HA.out⟩
  · rw [List.length_append, List.flatMap_append]
    have e : [(b, c, r)].flatMap (rz s) = [.slice (some ⟨b, 0, none⟩) wd c, .int .i64 x, .int .i64 y] := by rw [← HRz.out]; simp
    rw [e]
    exact H4.out
  · intro z hz
    rcases List.mem_append.1 hz with h | h
    · exact (HZ.out.grown HG.out HA.out) z h
    · rw [List.mem_singleton] at h
      subst h
      refine ⟨hbb, Nat.lt_of_lt_of_le hb HG.out.size, ?_, fun j u hu => (World.cell?_of_block (HG.out.block b hb hbv)).trans (HR.out j u hu)⟩
      rcases HA.out with e | ⟨g, e, hg⟩
      · rw [e]; exact hbv
      · rw [e]
        intro e'
        have : b = g := by simpa using e'
        omega
/-- where a row's tiles lie: nowhere, if it is empty -/
def RCell (w : World) (base : Nat) (g : Option Nat) (r : List Nat) (A : Option Addr) (c : Nat) : Prop :=
  (r = [] ∧ A = none ∧ c = 0) ∨ ∃ b, A = some ⟨b, 0, none⟩ ∧ base ≤ b ∧ b < w.heap.size ∧ some b ≠ g ∧ w.rangeAt b 0 (vals (idxI r))
/-- the rows that go on with one of the first j tiles -/
def extTo (s : List Tl) (k : Nat) (r : List Nat) (j : Nat) : List (List Nat) := ((List.range j).filter (mayJoin s r)).flatMap fun i => exts s k (r ++ [i])
theorem extTo_yes (s : List Tl) (k : Nat) (r : List Nat) (j : Nat) (h : mayJoin s r j = true) : extTo s k r (j + 1) = extTo s k r j ++ exts s k (r ++ [j]) := by
  unfold extTo
  rw [range_filter, if_pos h, List.flatMap_append]
  simp
theorem extTo_no (s : List Tl) (k : Nat) (r : List Nat) (j : Nat) (h : mayJoin s r j = false) : extTo s k r (j + 1) = extTo s k r j := by
  unfold extTo
  rw [range_filter, if_neg (by rw [h]; simp), List.append_nil]
theorem extTo_end (s : List Tl) (k : Nat) (r : List Nat) : extTo s k r s.length = exts s (k + 1) r := by
  unfold extTo
  simp only [exts, longer, List.flatMap_map]
theorem extTo_le (s : List Tl) (k : Nat) (r : List Nat) (j : Nat) (hj : j ≤ s.length) : (extTo s k r j).length ≤ (exts s (k + 1) r).length := by
  rw [← extTo_end]
  unfold extTo
  have e := List.take_append_drop j (List.range s.length)
  rw [List.take_range, Nat.min_eq_left hj] at e
  rw [← e, List.filter_append, List.flatMap_append, List.length_append]
  omega
end Go.Proofs.YteaoaglgoeichaaDoor

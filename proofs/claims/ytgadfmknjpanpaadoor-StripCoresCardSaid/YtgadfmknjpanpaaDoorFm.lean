/-
  Maps whose keys are lines: arrays of eight colours; how often each line is met.
-/
import Derived.Test.YtgadfmknjpanpaaDoorFl
import Derived.Maps.OwnOps
import Derived.Maps.RangeWalk
import Derived.Maps.Ext
namespace Go.Proofs.YtgadfmknjpanpaaDoor
open Go.RowKit Go.Maps Go.BigFrame Go.Sort
set_option linter.unusedVariables false
set_option linter.unusedSimpArgs false
set_option maxRecDepth 100000

theorem int_cells : Tryd.prog.cellsOf 3 = 1 := by kernel_rfl
theorem zero_int (w : World) : (zeroValue 3).run Tryd.prog w = .ok (.int .i64 0) w := by kernel_rfl
def lwf (l : List Int) : Prop := l.length = 8 ∧ ∀ v ∈ l, (Lit.int .i64 v).wf = true
/-- what a line reads as, as a key -/
def lk (l : List Int) : Lit := (DataW.agg (l.map fun v => .lit (.int .i64 v)) : DataW Unit).asKey
/-- a map from lines to numbers: its keys, once each, and the numbers; 0 stands for what is not there -/
structure Lv (D : DataW Unit) (ks : List (List Int)) (f : List Int → Nat) : Prop where
  isMap : Maps.IsMap D
  at_ : ∀ l, lwf l → D.atKey (lk l) (.lit (.int .i64 0)) = .lit (.int .i64 (f l))
  has_ : ∀ l, lwf l → Maps.has D (lk l) = decide (l ∈ ks)
  keys : ∀ kl, Maps.has D kl = true → ∃ l ∈ ks, kl = lk l
  wfk : ∀ l ∈ ks, lwf l
  nodup : ks.Nodup
  pos : ∀ l ∈ ks, 0 < f l
  zero : ∀ l, l ∉ ks → f l = 0
  le : ∀ l, f l ≤ cap
theorem Lv.empty : Lv (.map []) [] fun _ => 0 where
  isMap := Maps.isMap_empty
  at_ l hl := Maps.atKey_of_not_has (by simp [Maps.has]) _
  has_ l hl := by simp [Maps.has]
  keys kl h := by simp [Maps.has] at h
  wfk l h := by cases h
  nodup := List.nodup_nil
  pos l h := by cases h
  zero l h := rfl
  le l := Nat.zero_le _
theorem Lv.congr {D : DataW Unit} {ks : List (List Int)} {f g : List Int → Nat} (h : Lv D ks f) (e : ∀ l, f l = g l) : Lv D ks g := by
  have : f = g := funext e
  rwa [← this]
/-- the level under another one, by the first k rows -/
def undF (L : List (List Nat)) (adm : List Nat → Bool) (S N : List Nat → List Int) (g : List Int → Nat) (k : Nat) (l : List Int) : Nat := csum (((L.take k).filter fun r => adm r && decide (S r = l)).map fun r => g (N r))
theorem undF_yes (L : List (List Nat)) (adm : List Nat → Bool) (S N : List Nat → List Int) (g : List Int → Nat) (k : Nat) (r : List Nat) (hr : L[k]? = some r) (ha : adm r = true) :
    ∀ l, undF L adm S N g (k + 1) l = if l = S r then min (undF L adm S N g k (S r) + g (N r)) cap else undF L adm S N g k l := by
  intro l
  have hk := (List.getElem?_eq_some_iff.1 hr).1
  have e := (List.getElem?_eq_some_iff.1 hr).2
  unfold undF
  rw [List.take_succ_eq_append_getElem hk, e, List.filter_append]
  by_cases h : l = S r
  · subst h
    rw [if_pos rfl, List.filter_cons, if_pos (by simp [ha]), List.filter_nil, List.map_append, List.map_cons, List.map_nil, csum_snoc]
  · rw [if_neg h, List.filter_cons, if_neg (by simp [ha]; exact fun e => h e.symm), List.filter_nil, List.append_nil]
theorem undF_no (L : List (List Nat)) (adm : List Nat → Bool) (S N : List Nat → List Int) (g : List Int → Nat) (k : Nat) (r : List Nat) (hr : L[k]? = some r) (ha : adm r = false ∨ g (N r) = 0) :
    ∀ l, undF L adm S N g (k + 1) l = undF L adm S N g k l := by
  intro l
  have hk := (List.getElem?_eq_some_iff.1 hr).1
  have e := (List.getElem?_eq_some_iff.1 hr).2
  unfold undF
  rw [List.take_succ_eq_append_getElem hk, e, List.filter_append]
  by_cases h : adm r = true ∧ S r = l
  · have h0 : g (N r) = 0 := ha.resolve_left (by rw [h.1]; simp)
    rw [List.filter_cons, if_pos (by simp [h.1, h.2]), List.filter_nil, List.map_append, List.map_cons, List.map_nil, csum_snoc, h0, Nat.add_zero]
    exact Nat.min_eq_left (csum_le _)
  · rw [List.filter_cons, if_neg (by simpa using h), List.filter_nil, List.append_nil]
end Go.Proofs.YtgadfmknjpanpaaDoor

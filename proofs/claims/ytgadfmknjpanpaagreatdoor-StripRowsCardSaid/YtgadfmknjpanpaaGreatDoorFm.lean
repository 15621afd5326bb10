/-
  Maps whose keys are lines: arrays of eight colours; how often each line is met.
-/
import Derived.Test.YtgadfmknjpanpaaGreatDoorFl
import Derived.Maps.OwnOps
import Derived.Maps.RangeWalk
import Derived.Maps.Ext
namespace Go.Proofs.YtgadfmknjpanpaaGreatDoor
open Go.RowKit Go.Maps Go.BigFrame Go.Sort
set_option linter.unusedVariables false
set_option linter.unusedSimpArgs false
set_option maxRecDepth 100000

theorem line_row : (65 : TypeId) < Tryz.prog.types.size := of_decide_eq_true (by kernel_rfl)
theorem line_cells : Tryz.prog.cellsOf 65 = 8 := by kernel_rfl
theorem int_cells : Tryz.prog.cellsOf 3 = 1 := by kernel_rfl
theorem line_deep : Tryz.prog.keyTypeAt (Tryz.prog.types.size + 1) 65 = true := by kernel_rfl
theorem line_wide : (match Tryz.prog.underlying 65 with | some (.array _ _) | some (.struct _) => true | _ => false) = true := by kernel_rfl
theorem line_law : Keyed Tryz.prog 65 := Keyed.of_law (deep_law_laid tile_laidOut (m := 2) (by omega) line_row (by kernel_rfl) line_wide)
theorem zero_int (w : World) : (zeroValue 3).run Tryz.prog w = .ok (.int .i64 0) w := by kernel_rfl
def lwf (l : List Int) : Prop := l.length = 8 ∧ ∀ v ∈ l, (Lit.int .i64 v).wf = true
/-- what a line reads as, as a key -/
def lk (l : List Int) : Lit := (DataW.agg (l.map fun v => .lit (.int .i64 v)) : DataW Unit).asKey
theorem keyOf_line (l : List Int) (h : lwf l) : keyOf Tryz.prog 65 (.agg (vals l).toArray) = some (lk l) := by
  obtain ⟨a, b, c, d, e, f, g, i, rfl⟩ := len8 l h.1
  have hw := h.2
  simp only [List.mem_cons, List.not_mem_nil, or_false, forall_eq_or_imp, forall_eq] at hw
  obtain ⟨h0, h1, h2, h3, h4, h5, h6, h7⟩ := hw
  have ht : DataW.Trod (H := Unit) (fun _ => ()) Tryz.prog (default : World) 0 (fun _ => true) true 65 (.agg (vals [a, b, c, d, e, f, g, i]).toArray)
      (.agg [.lit (.int .i64 a), .lit (.int .i64 b), .lit (.int .i64 c), .lit (.int .i64 d), .lit (.int .i64 e), .lit (.int .i64 f), .lit (.int .i64 g), .lit (.int .i64 i)]) [] :=
    ⟨2, by simp [DataW.trod, Tryz.underlying65, Tryz.underlying3, int_cells, line_cells, vals, Value.cells, h0, h1, h2, h3, h4, h5, h6, h7, List.range, List.range.loop]⟩
  exact (keyOf_asKey line_deep line_wide (by simp [Value.formed, Tryz.underlying65, line_cells, vals]) ht).1
theorem lk_inj {l m : List Int} (h : lwf l) (h' : lwf m) (e : lk l = lk m) : l = m := by
  have h1 := keyOf_line l h
  have h2 := keyOf_line m h'
  rw [e] at h1
  have := line_law.inj h1 h2
  simp only [vals, Value.agg.injEq] at this
  have h3 : l.map (Value.int .i64) = m.map (Value.int .i64) := by simpa using this
  exact (List.map_inj_right (fun x y hxy => by simpa using hxy)).1 h3
theorem lk_key {l : List Int} (h : lwf l) : WideAt.IsKeyLit (lk l) := line_law.key (keyOf_line l h)
/-- a map from lines to numbers: its keys, once each, and the numbers; 0 stands for what is not there -/
structure Lv (D : DataW Unit) (ks : List (List Int)) (f : List Int → Nat) : Prop where
  isMap : Maps.IsMap D
  at_ : ∀ l, lwf l → D.atKey (lk l) (.lit (.int .i64 0)) = .lit (.int .i64 (f l))
  has_ : ∀ l, lwf l → Maps.has D (lk l) = decide (l ∈ ks)
  keys : ∀ kl, Maps.has D kl = true → ∃ l ∈ ks, kl = lk l
  wfk : ∀ l ∈ ks, lwf l
  nodup : ks.Nodup
  pos : ∀ l ∈ ks, 0 < f l
  zero : ∀ l, l ∉ ks → f l = 0
  le : ∀ l, f l ≤ cap
theorem Lv.empty : Lv (.map []) [] fun _ => 0 where
  isMap := Maps.isMap_empty
  at_ l hl := Maps.atKey_of_not_has (by simp [Maps.has]) _
  has_ l hl := by simp [Maps.has]
  keys kl h := by simp [Maps.has] at h
  wfk l h := by cases h
  nodup := List.nodup_nil
  pos l h := by cases h
  zero l h := rfl
  le l := Nat.zero_le _
theorem Lv.add {D : DataW Unit} {ks : List (List Int)} {f : List Int → Nat} (h : Lv D ks f) {m : List Int} (hm : lwf m) {v : Nat} (hv : 0 < v) (hvc : v ≤ cap) :
    Lv (D.put (lk m) (.lit (.int .i64 v))) (if m ∈ ks then ks else ks ++ [m]) fun l => if l = m then v else f l where
  isMap := h.isMap.put _ _
  at_ l hl := by
    by_cases e : l = m
    · subst e
      rw [Maps.atKey_put_same h.isMap (lk_key hl), if_pos rfl]
    · rw [Maps.atKey_put_other (fun e' => e (lk_inj hl hm e')), h.at_ l hl, if_neg e]
  has_ l hl := by
    by_cases e : l = m
    · subst e
      rw [Maps.has_put_same h.isMap (lk_key hl)]
      by_cases hk : l ∈ ks <;> simp [hk]
    · rw [Maps.has_put_other (fun e' => e (lk_inj hl hm e')), h.has_ l hl]
      by_cases hk : m ∈ ks <;> simp [hk, e]
  keys kl hk := by
    by_cases e : kl = lk m
    · refine ⟨m, ?_, e⟩
      by_cases hk : m ∈ ks <;> simp [hk]
    · rw [Maps.has_put_other e] at hk
      obtain ⟨l, hl, e'⟩ := h.keys kl hk
      refine ⟨l, ?_, e'⟩
      by_cases hk : m ∈ ks <;> simp [hk, hl]
  wfk l hl := by
    by_cases hk : m ∈ ks
    · rw [if_pos hk] at hl; exact h.wfk l hl
    · rw [if_neg hk] at hl
      rcases List.mem_append.1 hl with h1 | h1
      · exact h.wfk l h1
      · rw [List.mem_singleton] at h1; rw [h1]; exact hm
  nodup := by
    by_cases hk : m ∈ ks
    · rw [if_pos hk]; exact h.nodup
    · rw [if_neg hk, List.nodup_append]
      exact ⟨h.nodup, by simp, fun a ha b hb e => by rw [List.mem_singleton] at hb; exact hk (hb ▸ e ▸ ha)⟩
  pos l hl := by
    by_cases e : l = m
    · rw [if_pos e]; exact hv
    · rw [if_neg e]
      refine h.pos l ?_
      by_cases hk : m ∈ ks
      · rwa [if_pos hk] at hl
      · rw [if_neg hk] at hl
        exact (List.mem_append.1 hl).resolve_right (by simpa using e)
  zero l hl := by
    by_cases e : l = m
    · exfalso
      apply hl
      subst e
      by_cases hk : l ∈ ks <;> simp [hk]
    · rw [if_neg e]
      refine h.zero l fun h1 => hl ?_
      by_cases hk : m ∈ ks <;> simp [hk, h1]
  le l := by
    by_cases e : l = m
    · rw [if_pos e]; exact hvc
    · rw [if_neg e]; exact h.le l
theorem Lv.congr {D : DataW Unit} {ks : List (List Int)} {f g : List Int → Nat} (h : Lv D ks f) (e : ∀ l, f l = g l) : Lv D ks g := by
  have : f = g := funext e
  rwa [← this]
theorem lv_lookup {w : World} {b n : Nat} {D : DataW Unit} {ks : List (List Int)} {f : List Int → Nat} (h : w.ownsMap Tryz.prog 65 (plainElem Tryz.prog 3) b n D) (hL : Lv D ks f) {l : List Int} (hl : lwf l) :
    (Instr.lookup 63 (.map (some b)) (.agg (vals l).toArray) false).run Tryz.prog w = .ok (.int .i64 (f l)) w := by
  obtain ⟨c, hrun, hat, -⟩ := h.lookup_int line_law Tryz.underlying63 Tryz.underlying3 (zero_int w) (keyOf_line l hl)
  rw [hL.at_ l hl] at hat
  have : (c : Int) = f l := by simpa using hat.symm
  rw [hrun, this]
/-- the level under another one, by the first k rows -/
def undF (L : List (List Nat)) (adm : List Nat → Bool) (S N : List Nat → List Int) (g : List Int → Nat) (k : Nat) (l : List Int) : Nat := csum (((L.take k).filter fun r => adm r && decide (S r = l)).map fun r => g (N r))
theorem undF_yes (L : List (List Nat)) (adm : List Nat → Bool) (S N : List Nat → List Int) (g : List Int → Nat) (k : Nat) (r : List Nat) (hr : L[k]? = some r) (ha : adm r = true) :
    ∀ l, undF L adm S N g (k + 1) l = if l = S r then min (undF L adm S N g k (S r) + g (N r)) cap else undF L adm S N g k l := by
  intro l
  have hk := (List.getElem?_eq_some_iff.1 hr).1
  have e := (List.getElem?_eq_some_iff.1 hr).2
  unfold undF
  rw [List.take_succ_eq_append_getElem hk, e, List.filter_append]
  by_cases h : l = S r
  · subst h
    rw [if_pos rfl, List.filter_cons, if_pos (by simp [ha]), List.filter_nil, List.map_append, List.map_cons, List.map_nil, csum_snoc]
  · rw [if_neg h, List.filter_cons, if_neg (by simp [ha]; exact fun e => h e.symm), List.filter_nil, List.append_nil]
theorem undF_no (L : List (List Nat)) (adm : List Nat → Bool) (S N : List Nat → List Int) (g : List Int → Nat) (k : Nat) (r : List Nat) (hr : L[k]? = some r) (ha : adm r = false ∨ g (N r) = 0) :
    ∀ l, undF L adm S N g (k + 1) l = undF L adm S N g k l := by
  intro l
  have hk := (List.getElem?_eq_some_iff.1 hr).1
  have e := (List.getElem?_eq_some_iff.1 hr).2
  unfold undF
  rw [List.take_succ_eq_append_getElem hk, e, List.filter_append]
  by_cases h : adm r = true ∧ S r = l
  · have h0 : g (N r) = 0 := ha.resolve_left (by rw [h.1]; simp)
    rw [List.filter_cons, if_pos (by simp [h.1, h.2]), List.filter_nil, List.map_append, List.map_cons, List.map_nil, csum_snoc, h0, Nat.add_zero]
    exact Nat.min_eq_left (csum_le _)
  · rw [List.filter_cons, if_neg (by simpa using h), List.filter_nil, List.append_nil]
end Go.Proofs.YtgadfmknjpanpaaGreatDoor

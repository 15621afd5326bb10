/-
  Package torus: maps whose keys are lines of six colours, which number the lines in the order in which they are met.
-/
import Derived.Test.YthjponagoahdhaaDoorTe
import Derived.Test.YthjponagoahdhaaDoorFm
import Derived.Test.YthjponagoahdhaaDoorTp
import Derived.Maps.OwnSet
namespace Go.Proofs.YthjponagoahdhaaDoor
open Go.RowKit Go.Maps Go.BigFrame Go.Sort
set_option linter.unusedVariables false
set_option linter.unusedSimpArgs false
set_option maxRecDepth 100000

theorem len6 (l : List Int) (h : l.length = 6) : ∃ a b c d e f, l = [a, b, c, d, e, f] := by
  match l, h with
  | [a, b, c, d, e, f], _ => exact ⟨a, b, c, d, e, f, rfl⟩
theorem line_row6 : (77 : TypeId) < Tryd.prog.types.size := of_decide_eq_true (by kernel_rfl)
theorem line_cells6 : Tryd.prog.cellsOf 77 = 6 := by kernel_rfl
theorem line_deep6 : Tryd.prog.keyTypeAt (Tryd.prog.types.size + 1) 77 = true := by kernel_rfl
theorem line_wide6 : (match Tryd.prog.underlying 77 with | some (.array _ _) | some (.struct _) => true | _ => false) = true := by kernel_rfl
theorem line_law6 : Keyed Tryd.prog 77 := Keyed.of_law (deep_law_laid tile_laidOut (m := 2) (by omega) line_row6 (by kernel_rfl) line_wide6)
def lwf6 (l : List Int) : Prop := l.length = 6 ∧ ∀ v ∈ l, (Lit.int .i64 v).wf = true
theorem keyOf_line6 (l : List Int) (h : lwf6 l) : keyOf Tryd.prog 77 (.agg (vals l).toArray) = some (lk l) := by
  obtain ⟨a, b, c, d, e, f, rfl⟩ := len6 l h.1
  have hw := h.2
  simp only [List.mem_cons, List.not_mem_nil, or_false, forall_eq_or_imp, forall_eq] at hw
  obtain ⟨h0, h1, h2, h3, h4, h5⟩ := hw
  have ht : DataW.Trod (H := Unit) (fun _ => ()) Tryd.prog (default : World) 0 (fun _ => true) true 77 (.agg (vals [a, b, c, d, e, f]).toArray)
      (.agg [.lit (.int .i64 a), .lit (.int .i64 b), .lit (.int .i64 c), .lit (.int .i64 d), .lit (.int .i64 e), .lit (.int .i64 f)]) [] :=
    ⟨2, by simp [DataW.trod, Tryd.underlying77, Tryd.underlying3, int_cells, line_cells6, vals, Value.cells, h0, h1, h2, h3, h4, h5, List.range, List.range.loop]⟩
  exact (keyOf_asKey line_deep6 line_wide6 (by simp [Value.formed, Tryd.underlying77, line_cells6, vals]) ht).1
theorem lk_inj6 {l m : List Int} (h : lwf6 l) (h' : lwf6 m) (e : lk l = lk m) : l = m := by
  have h1 := keyOf_line6 l h
  have h2 := keyOf_line6 m h'
  rw [e] at h1
  have := line_law6.inj h1 h2
  simp only [vals, Value.agg.injEq] at this
  have h3 : l.map (Value.int .i64) = m.map (Value.int .i64) := by simpa using this
  exact (List.map_inj_right (fun x y hxy => by simpa using hxy)).1 h3
theorem lk_key6 {l : List Int} (h : lwf6 l) : WideAt.IsKeyLit (lk l) := line_law6.key (keyOf_line6 l h)
theorem pad6_wf (l : List Int) (h : l.length ≤ 6) (hw : ∀ v ∈ l, (Lit.int .i64 v).wf = true) : lwf6 (pad6 l) :=
  ⟨pad6_len l h, fun v hv => by
    unfold pad6 at hv
    rcases List.mem_append.1 hv with h1 | h1
    · exact hw v h1
    · rw [(List.mem_replicate.1 h1).2]; rfl⟩
theorem north_wf6 {s : List Tl} {r : List Nat} (hwf : ∀ t ∈ s, twf t) (hr : ∀ i ∈ r, i < s.length) (h8 : r.length ≤ 6) : lwf6 (north6 s r) :=
  pad6_wf _ (by rw [List.length_map]; exact h8) fun v hv => by
    obtain ⟨i, hi, rfl⟩ := List.mem_map.1 hv
    exact (hwf _ (ti_mem (hr i hi))).1
theorem south_wf6 {s : List Tl} {r : List Nat} (hwf : ∀ t ∈ s, twf t) (hr : ∀ i ∈ r, i < s.length) (h8 : r.length ≤ 6) : lwf6 (south6 s r) :=
  pad6_wf _ (by rw [List.length_map]; exact h8) fun v hv => by
    obtain ⟨i, hi, rfl⟩ := List.mem_map.1 hv
    exact (hwf _ (ti_mem (hr i hi))).2.2.1
/-- a map that numbers the lines of a list by their places in it -/
structure Nv (D : DataW Unit) (ks : List (List Int)) : Prop where
  tidy : Maps.Tidy D
  at_ : ∀ l, lwf6 l → l ∈ ks → D.atKey (lk l) (.lit (.int .i64 0)) = .lit (.int .i64 (ks.idxOf l : Nat))
  has_ : ∀ l, lwf6 l → Maps.has D (lk l) = decide (l ∈ ks)
  wfk : ∀ l ∈ ks, lwf6 l
  size : Maps.size D = ks.length
theorem Nv.empty : Nv (.map []) [] where
  tidy := Maps.tidy_empty
  at_ l hl h := by cases h
  has_ l hl := by simp [Maps.has]
  wfk l h := by cases h
  size := rfl
theorem Nv.add {D : DataW Unit} {ks : List (List Int)} (h : Nv D ks) {m : List Int} (hm : lwf6 m) (hn : m ∉ ks) :
    Nv (D.put (lk m) (.lit (.int .i64 (ks.length : Nat)))) (ks ++ [m]) where
  tidy := h.tidy.put (lk_key6 hm) _
  at_ l hl hk := by
    by_cases e : l = m
    · subst e
      rw [Maps.atKey_put_same h.tidy.isMap (lk_key6 hl), List.idxOf_append, if_neg hn, List.idxOf_cons_self]
      simp
    · have hk' : l ∈ ks := (List.mem_append.1 hk).resolve_right (by simpa using e)
      rw [Maps.atKey_put_other (fun e' => e (lk_inj6 hl hm e')), h.at_ l hl hk', List.idxOf_append, if_pos hk']
  has_ l hl := by
    by_cases e : l = m
    · subst e
      rw [Maps.has_put_same h.tidy.isMap (lk_key6 hl)]
      simp
    · rw [Maps.has_put_other (fun e' => e (lk_inj6 hl hm e')), h.has_ l hl]
      simp [e]
  wfk l hl := by
    rcases List.mem_append.1 hl with h1 | h1
    · exact h.wfk l h1
    · rw [List.mem_singleton] at h1; rw [h1]; exact hm
  size := by
    rw [Maps.size_put h.tidy, h.has_ m hm, decide_eq_false hn, h.size, List.length_append]
    rfl
/-- the lines of rings, in the order in which they are met: the south of each, then its north; filled up to six colours -/
def lines6 (s : List Tl) (rs : List (List Nat)) : List (List Int) := rs.foldl (fun l r => metT (metT l (south6 s r)) (north6 s r)) []
theorem lines6_snoc (s : List Tl) (rs : List (List Nat)) (r : List Nat) : lines6 s (rs ++ [r]) = metT (metT (lines6 s rs) (south6 s r)) (north6 s r) := by
  unfold lines6; rw [List.foldl_append]; rfl
theorem met_pre {β : Type} [DecidableEq β] (l : List β) (v : β) : l <+: metT l v := by
  unfold metT
  split
  · exact List.prefix_rfl
  · exact List.prefix_append _ _
theorem lines6_pre (s : List Tl) : ∀ (rs qs : List (List Nat)), lines6 s rs <+: lines6 s (rs ++ qs)
  | rs, [] => by rw [List.append_nil]; exact List.prefix_rfl
  | rs, q :: qs => by
    have h := lines6_pre s (rs ++ [q]) qs
    rw [List.append_assoc] at h
    refine List.IsPrefix.trans ?_ h
    rw [lines6_snoc]
    exact (met_pre _ _).trans (met_pre _ _)
theorem idx_pre {l m : List (List Int)} {v : List Int} (h : l <+: m) (hv : v ∈ l) : m.idxOf v = l.idxOf v := by
  obtain ⟨t, rfl⟩ := h
  rw [List.idxOf_append, if_pos hv]
theorem mem_lines6 (s : List Tl) (a : List Int) : ∀ rs : List (List Nat), (∃ r ∈ rs, a = south6 s r ∨ a = north6 s r) → a ∈ lines6 s rs := by
  intro rs ⟨r, hr, h⟩
  obtain ⟨p, q, rfl⟩ := List.append_of_mem hr
  have h1 := lines6_pre s (p ++ [r]) q
  rw [List.append_assoc] at h1
  refine h1.subset ?_
  rw [lines6_snoc]
  rcases h with h | h
  · rw [h]; exact (met_pre _ _).subset (mem_met.2 (Or.inr rfl))
  · rw [h]; exact mem_met.2 (Or.inr rfl)
theorem lines6_wf {s : List Tl} (hwf : ∀ t ∈ s, twf t) : ∀ rs : List (List Nat), (∀ r ∈ rs, r.length ≤ 6 ∧ ∀ i ∈ r, i < s.length) → ∀ l ∈ lines6 s rs, lwf6 l := by
  intro rs
  suffices h : ∀ (rs : List (List Nat)) (l0 : List (List Int)), (∀ l ∈ l0, lwf6 l) → (∀ r ∈ rs, r.length ≤ 6 ∧ ∀ i ∈ r, i < s.length) → ∀ l ∈ rs.foldl (fun l r => metT (metT l (south6 s r)) (north6 s r)) l0, lwf6 l from h rs [] (fun l hl => by cases hl)
  intro rs
  induction rs with
  | nil => intro l0 h0 _; exact h0
  | cons r rs ih =>
    intro l0 h0 hr
    refine ih _ ?_ fun q hq => hr q (by simp [hq])
    intro l hl
    rcases mem_met.1 hl with h1 | h1
    · rcases mem_met.1 h1 with h2 | h2
      · exact h0 l h2
      · rw [h2]; exact south_wf6 hwf (hr r (by simp)).2 (hr r (by simp)).1
    · rw [h1]; exact north_wf6 hwf (hr r (by simp)).2 (hr r (by simp)).1
theorem lines6_len (s : List Tl) (rs : List (List Nat)) : (lines6 s rs).length ≤ 2 * rs.length := by
  suffices h : ∀ (rs : List (List Nat)) (l0 : List (List Int)), (rs.foldl (fun l r => metT (metT l (south6 s r)) (north6 s r)) l0).length ≤ l0.length + 2 * rs.length by
    have := h rs []
    simpa [lines6] using this
  intro rs
  induction rs with
  | nil => intro l0; simp
  | cons r rs ih =>
    intro l0
    have h1 : ∀ (l : List (List Int)) v, (metT l v).length ≤ l.length + 1 := fun l v => by unfold metT; split <;> simp
    have h2 := ih (metT (metT l0 (south6 s r)) (north6 s r))
    have h3 := h1 (metT l0 (south6 s r)) (north6 s r)
    have h4 := h1 l0 (south6 s r)
    rw [List.foldl_cons, List.length_cons]
    omega
/-- the number of a line among the rings of a width -/
def numT (s : List Tl) (w : Nat) (l : List Int) : Nat := (lines6 s (ringsE s w)).idxOf (pad6 l)
theorem numT_inj (s : List Tl) (w : Nat) : ∀ q ∈ ringsE s w, ∀ r ∈ ringsE s w, numT s w (lineS s q) = numT s w (lineN s r) ↔ lineS s q = lineN s r := by
  intro q hq r hr
  have h1 := rws_len s w q (List.mem_filter.1 hq).1
  have h2 := rws_len s w r (List.mem_filter.1 hr).1
  have e := idx_inj (mem_lines6 s (south6 s q) _ ⟨q, hq, Or.inl rfl⟩) (mem_lines6 s (north6 s r) _ ⟨r, hr, Or.inr rfl⟩)
  have e1 : numT s w (lineS s q) = (lines6 s (ringsE s w)).idxOf (south6 s q) := rfl
  have e2 : numT s w (lineN s r) = (lines6 s (ringsE s w)).idxOf (north6 s r) := rfl
  rw [e1, e2, e]
  constructor
  · intro h
    exact pad6_inj (by simp [lineS, lineN, h1, h2]) h
  · intro h
    show pad6 (lineS s q) = pad6 (lineN s r)
    rw [h]
theorem numT_lt (s : List Tl) (w : Nat) {r : List Nat} (hr : r ∈ ringsE s w) : numT s w (lineS s r) < (lines6 s (ringsE s w)).length ∧ numT s w (lineN s r) < (lines6 s (ringsE s w)).length :=
  ⟨List.idxOf_lt_length_of_mem (mem_lines6 s (south6 s r) _ ⟨r, hr, Or.inl rfl⟩), List.idxOf_lt_length_of_mem (mem_lines6 s (north6 s r) _ ⟨r, hr, Or.inr rfl⟩)⟩
end Go.Proofs.YthjponagoahdhaaDoor

/-
  Package torus: maps whose keys are lines of six colours, which number the lines in the order in which they are met.
  Package torus: what a band is in memory: rings, and for each number of a line the indices of the rings over it.
  torus.number: the number of a line.
  't[i] = append(t[i], j)' over a table of rows: the invariant of the region that draws its order. No operation is walked here.
-/
import Derived.Test.YteaoaglgoeichaaDoorTe
import Derived.Test.YteaoaglgoeichaaDoorFm
import Derived.Test.YteaoaglgoeichaaDoorTp
import Derived.Maps.OwnSet
import Derived.Test.YteaoaglgoeichaaDoorFh
import Derived.StillTailTactics
import Derived.Test.YteaoaglgoeichaaDoorIv
namespace Go.Proofs.YteaoaglgoeichaaDoor
section
open Go.RowKit Go.Maps Go.BigFrame Go.Sort
set_option linter.unusedVariables false
set_option linter.unusedSimpArgs false
set_option maxRecDepth 100000

theorem len6 (l : List Int) (h : l.length = 6) : ∃ a b c d e f, l = [a, b, c, d, e, f] := by
  match l, h with
  | [a, b, c, d, e, f], _ => exact ⟨a, b, c, d, e, f, rfl⟩
theorem line_row6 : (70 : TypeId) < Tryd.prog.types.size := of_decide_eq_true (by kernel_rfl)
theorem line_cells6 : Tryd.prog.cellsOf 70 = 6 := by kernel_rfl
theorem line_deep6 : Tryd.prog.keyTypeAt (Tryd.prog.types.size + 1) 70 = true := by kernel_rfl
theorem line_wide6 : (match Tryd.prog.underlying 70 with | some (.array _ _) | some (.struct _) => true | _ => false) = true := by kernel_rfl
theorem line_law6 : Keyed Tryd.prog 70 := Keyed.of_law (deep_law_laid tile_laidOut (m := 2) (by omega) line_row6 (by kernel_rfl) line_wide6)
def lwf6 (l : List Int) : Prop := l.length = 6 ∧ ∀ v ∈ l, (Lit.int .i64 v).wf = true
theorem keyOf_line6 (l : List Int) (h : lwf6 l) : keyOf Tryd.prog 70 (.agg (vals l).toArray) = some (lk l) := by
  obtain ⟨a, b, c, d, e, f, rfl⟩ := len6 l h.1
  have hw := h.2
  simp only [List.mem_cons, List.not_mem_nil, or_false, forall_eq_or_imp, forall_eq] at hw
  obtain ⟨h0, h1, h2, h3, h4, h5⟩ := hw
  have ht : DataW.Trod (H := Unit) (fun _ => ()) Tryd.prog (default : World) 0 (fun _ => true) true 70 (.agg (vals [a, b, c, d, e, f]).toArray)
      (.agg [.lit (.int .i64 a), .lit (.int .i64 b), .lit (.int .i64 c), .lit (.int .i64 d), .lit (.int .i64 e), .lit (.int .i64 f)]) [] :=
    ⟨2, by simp [DataW.trod, Tryd.underlying70, Tryd.underlying3, int_cells, line_cells6, vals, Value.cells, h0, h1, h2, h3, h4, h5, List.range, List.range.loop]⟩
  exact (keyOf_asKey line_deep6 line_wide6 (by simp [Value.formed, Tryd.underlying70, line_cells6, vals]) ht).1
theorem lk_inj6 {l m : List Int} (h : lwf6 l) (h' : lwf6 m) (e : lk l = lk m) : l = m := by
  have h1 := keyOf_line6 l h
  have h2 := keyOf_line6 m h'
  rw [e] at h1
  have := line_law6.inj h1 h2
  simp only [vals, Value.agg.injEq] at this
  have h3 : l.map (Value.int .i64) = m.map (Value.int .i64) := by simpa using this
  exact (List.map_inj_right (fun x y hxy => by simpa using hxy)).1 h3
theorem lk_key6 {l : List Int} (h : lwf6 l) : WideAt.IsKeyLit (lk l) := line_law6.key (keyOf_line6 l h)
theorem pad6_wf (l : List Int) (h : l.length ≤ 6) (hw : ∀ v ∈ l, (Lit.int .i64 v).wf = true) : lwf6 (pad6 l) :=
  ⟨pad6_len l h, fun v hv => by
    unfold pad6 at hv
    rcases List.mem_append.1 hv with h1 | h1
    · exact hw v h1
    · rw [(List.mem_replicate.1 h1).2]; rfl⟩
theorem north_wf6 {s : List Tl} {r : List Nat} (hwf : ∀ t ∈ s, twf t) (hr : ∀ i ∈ r, i < s.length) (h8 : r.length ≤ 6) : lwf6 (north6 s r) :=
  pad6_wf _ (by rw [List.length_map]; exact h8) fun v hv => by
    obtain ⟨i, hi, rfl⟩ := List.mem_map.1 hv
    exact (hwf _ (ti_mem (hr i hi))).1
theorem south_wf6 {s : List Tl} {r : List Nat} (hwf : ∀ t ∈ s, twf t) (hr : ∀ i ∈ r, i < s.length) (h8 : r.length ≤ 6) : lwf6 (south6 s r) :=
  pad6_wf _ (by rw [List.length_map]; exact h8) fun v hv => by
    obtain ⟨i, hi, rfl⟩ := List.mem_map.1 hv
    exact (hwf _ (ti_mem (hr i hi))).2.2.1
/-- a map that numbers the lines of a list by their places in it -/
structure Nv (D : DataW Unit) (ks : List (List Int)) : Prop where
  tidy : Maps.Tidy D
  at_ : ∀ l, lwf6 l → l ∈ ks → D.atKey (lk l) (.lit (.int .i64 0)) = .lit (.int .i64 (ks.idxOf l : Nat))
  has_ : ∀ l, lwf6 l → Maps.has D (lk l) = decide (l ∈ ks)
  wfk : ∀ l ∈ ks, lwf6 l
  size : Maps.size D = ks.length
theorem Nv.empty : Nv (.map []) [] where
  tidy := Maps.tidy_empty
  at_ l hl h := by cases h
  has_ l hl := by simp [Maps.has]
  wfk l h := by cases h
  size := rfl
theorem Nv.add {D : DataW Unit} {ks : List (List Int)} (h : Nv D ks) {m : List Int} (hm : lwf6 m) (hn : m ∉ ks) :
    Nv (D.put (lk m) (.lit (.int .i64 (ks.length : Nat)))) (ks ++ [m]) where
  tidy := h.tidy.put (lk_key6 hm) _
  at_ l hl hk := by
    by_cases e : l = m
    · subst e
      rw [Maps.atKey_put_same h.tidy.isMap (lk_key6 hl), List.idxOf_append, if_neg hn, List.idxOf_cons_self]
      simp
    · have hk' : l ∈ ks := (List.mem_append.1 hk).resolve_right (by simpa using e)
      rw [Maps.atKey_put_other (fun e' => e (lk_inj6 hl hm e')), h.at_ l hl hk', List.idxOf_append, if_pos hk']
  has_ l hl := by
    by_cases e : l = m
    · subst e
      rw [Maps.has_put_same h.tidy.isMap (lk_key6 hl)]
      simp
    · rw [Maps.has_put_other (fun e' => e (lk_inj6 hl hm e')), h.has_ l hl]
      simp [e]
  wfk l hl := by
    rcases List.mem_append.1 hl with h1 | h1
    · exact h.wfk l h1
    · rw [List.mem_singleton] at h1; rw [h1]; exact hm
  size := by
    rw [Maps.size_put h.tidy, h.has_ m hm, decide_eq_false hn, h.size, List.length_append]
    rfl
/-- the lines of rings, in the order in which they are met: the south of each, then its north; filled up to six colours -/
def lines6 (s : List Tl) (rs : List (List Nat)) : List (List Int) := rs.foldl (fun l r => metT (metT l (south6 s r)) (north6 s r)) []
theorem lines6_snoc (s : List Tl) (rs : List (List Nat)) (r : List Nat) : lines6 s (rs ++ [r]) = metT (metT (lines6 s rs) (south6 s r)) (north6 s r) := by
  unfold lines6; rw [List.foldl_append]; rfl
theorem met_pre {β : Type} [DecidableEq β] (l : List β) (v : β) : l <+: metT l v := by
  unfold metT
  split
  · exact List.prefix_rfl
  · exact List.prefix_append _ _
theorem lines6_pre (s : List Tl) : ∀ (rs qs : List (List Nat)), lines6 s rs <+: lines6 s (rs ++ qs)
  | rs, [] => by rw [List.append_nil]; exact List.prefix_rfl
  | rs, q :: qs => by
    have h := lines6_pre s (rs ++ [q]) qs
    rw [List.append_assoc] at h
    refine List.IsPrefix.trans ?_ h
    rw [lines6_snoc]
    exact (met_pre _ _).trans (met_pre _ _)
theorem idx_pre {l m : List (List Int)} {v : List Int} (h : l <+: m) (hv : v ∈ l) : m.idxOf v = l.idxOf v := by
  obtain ⟨t, rfl⟩ := h
  rw [List.idxOf_append, if_pos hv]
theorem mem_lines6 (s : List Tl) (a : List Int) : ∀ rs : List (List Nat), (∃ r ∈ rs, a = south6 s r ∨ a = north6 s r) → a ∈ lines6 s rs := by
  intro rs ⟨r, hr, h⟩
  obtain ⟨p, q, rfl⟩ := List.append_of_mem hr
  have h1 := lines6_pre s (p ++ [r]) q
  rw [List.append_assoc] at h1
  refine h1.subset ?_
  rw [lines6_snoc]
  rcases h with h | h
  · rw [h]; exact (met_pre _ _).subset (mem_met.2 (Or.inr rfl))
  · rw [h]; exact mem_met.2 (Or.inr rfl)
theorem lines6_wf {s : List Tl} (hwf : ∀ t ∈ s, twf t) : ∀ rs : List (List Nat), (∀ r ∈ rs, r.length ≤ 6 ∧ ∀ i ∈ r, i < s.length) → ∀ l ∈ lines6 s rs, lwf6 l := by
  intro rs
  suffices h : ∀ (rs : List (List Nat)) (l0 : List (List Int)), (∀ l ∈ l0, lwf6 l) → (∀ r ∈ rs, r.length ≤ 6 ∧ ∀ i ∈ r, i < s.length) → ∀ l ∈ rs.foldl (fun l r => metT (metT l (south6 s r)) (north6 s r)) l0, lwf6 l from h rs [] (fun l hl => by cases hl)
  intro rs
  induction rs with
  | nil => intro l0 h0 _; exact h0
  | cons r rs ih =>
    intro l0 h0 hr
    refine ih _ ?_ fun q hq => hr q (by simp [hq])
    intro l hl
    rcases mem_met.1 hl with h1 | h1
    · rcases mem_met.1 h1 with h2 | h2
      · exact h0 l h2
      · rw [h2]; exact south_wf6 hwf (hr r (by simp)).2 (hr r (by simp)).1
    · rw [h1]; exact north_wf6 hwf (hr r (by simp)).2 (hr r (by simp)).1
theorem lines6_len (s : List Tl) (rs : List (List Nat)) : (lines6 s rs).length ≤ 2 * rs.length := by
  suffices h : ∀ (rs : List (List Nat)) (l0 : List (List Int)), (rs.foldl (fun l r => metT (metT l (south6 s r)) (north6 s r)) l0).length ≤ l0.length + 2 * rs.length by
    have := h rs []
    simpa [lines6] using this
  intro rs
  induction rs with
  | nil => intro l0; simp
  | cons r rs ih =>
    intro l0
    have h1 : ∀ (l : List (List Int)) v, (metT l v).length ≤ l.length + 1 := fun l v => by unfold metT; split <;> simp
    have h2 := ih (metT (metT l0 (south6 s r)) (north6 s r))
    have h3 := h1 (metT l0 (south6 s r)) (north6 s r)
    have h4 := h1 l0 (south6 s r)
    rw [List.foldl_cons, List.length_cons]
    omega
/-- the number of a line among the rings of a width -/
def numT (s : List Tl) (w : Nat) (l : List Int) : Nat := (lines6 s (ringsE s w)).idxOf (pad6 l)
theorem numT_inj (s : List Tl) (w : Nat) : ∀ q ∈ ringsE s w, ∀ r ∈ ringsE s w, numT s w (lineS s q) = numT s w (lineN s r) ↔ lineS s q = lineN s r := by
  intro q hq r hr
  have h1 := rws_len s w q (List.mem_filter.1 hq).1
  have h2 := rws_len s w r (List.mem_filter.1 hr).1
  have e := idx_inj (mem_lines6 s (south6 s q) _ ⟨q, hq, Or.inl rfl⟩) (mem_lines6 s (north6 s r) _ ⟨r, hr, Or.inr rfl⟩)
  have e1 : numT s w (lineS s q) = (lines6 s (ringsE s w)).idxOf (south6 s q) := rfl
  have e2 : numT s w (lineN s r) = (lines6 s (ringsE s w)).idxOf (north6 s r) := rfl
  rw [e1, e2, e]
  constructor
  · intro h
    exact pad6_inj (by simp [lineS, lineN, h1, h2]) h
  · intro h
    show pad6 (lineS s q) = pad6 (lineN s r)
    rw [h]
theorem numT_lt (s : List Tl) (w : Nat) {r : List Nat} (hr : r ∈ ringsE s w) : numT s w (lineS s r) < (lines6 s (ringsE s w)).length ∧ numT s w (lineN s r) < (lines6 s (ringsE s w)).length :=
  ⟨List.idxOf_lt_length_of_mem (mem_lines6 s (south6 s r) _ ⟨r, hr, Or.inl rfl⟩), List.idxOf_lt_length_of_mem (mem_lines6 s (north6 s r) _ ⟨r, hr, Or.inr rfl⟩)⟩
end
section
open Go.RowKit Go.Maps Go.BigFrame Go.Sort
set_option linter.unusedVariables false
set_option linter.unusedSimpArgs false
set_option maxRecDepth 100000

/-- the cells of a ring's struct: its tiles, the numbers of its north and of its south -/
def ringInts (s : List Tl) (x : Nat) (r : List Nat) : List Int := pad6 (idxI r) ++ [(numT s x (lineN s r) : Int), (numT s x (lineS s r) : Int)]
def ringV (s : List Tl) (x : Nat) (r : List Nat) : List Value := vals (ringInts s x r)
def ringA (s : List Tl) (x : Nat) (r : List Nat) : Array Value := (ringV s x r).toArray
theorem ringInts_len (s : List Tl) (x : Nat) (r : List Nat) (h : r.length ≤ 6) : (ringInts s x r).length = 8 := by
  unfold ringInts
  rw [List.length_append, pad6_len _ (by unfold idxI; rw [List.length_map]; exact h)]
  rfl
theorem ringV_len (s : List Tl) (x : Nat) (r : List Nat) (h : r.length ≤ 6) : (ringV s x r).length = 8 := by simp [ringV, vals, ringInts_len s x r h]
theorem ringA_size (s : List Tl) (x : Nat) (r : List Nat) (h : r.length ≤ 6) : (ringA s x r).size = 8 := by simp [ringA, ringV_len s x r h]
theorem ringA_one (s : List Tl) (x : Nat) (r : List Nat) : (ringA s x r).all (·.oneCell') = true := by
  rw [Array.all_eq_true_iff_forall_mem]
  exact fun v hv => vals_one (ringInts s x r) v (by simpa [ringA, ringV] using hv)
theorem ringA_at (s : List Tl) (x : Nat) (r : List Nat) (h : r.length ≤ 6) : (ringV s x r)[6]? = some (.int .i64 (numT s x (lineN s r))) ∧ (ringV s x r)[7]? = some (.int .i64 (numT s x (lineS s r))) := by
  have h1 : (pad6 (idxI r)).length = 6 := pad6_len _ (by unfold idxI; rw [List.length_map]; exact h)
  unfold ringV vals ringInts
  constructor
  · rw [List.getElem?_map, List.getElem?_append_right (by omega), h1]
    rfl
  · rw [List.getElem?_map, List.getElem?_append_right (by omega), h1]
    rfl
/-- how many lines the rings of a width have -/
def nlT (s : List Tl) (x : Nat) : Nat := (lines6 s (ringsE s x)).length
def ovT (s : List Tl) (x l : Nat) : List Nat := overT (ringsE s x) [] (lineS s) (numT s x) l
def noT (s : List Tl) (x i : Nat) : Nat := numT s x (lineN s ((ringsE s x).getD i []))
def soT (s : List Tl) (x i : Nat) : Nat := numT s x (lineS s ((ringsE s x).getD i []))
theorem ovT_lt {s : List Tl} {x l i : Nat} (h : i ∈ ovT s x l) : i < (ringsE s x).length := List.mem_range.1 (List.mem_filter.1 h).1
theorem ovT_len (s : List Tl) (x l : Nat) : (ovT s x l).length ≤ (ringsE s x).length := by
  have := List.length_filter_le (fun i => decide (numT s x (lineS s ((ringsE s x).getD i [])) = l)) (List.range (ringsE s x).length)
  rw [List.length_range] at this
  exact this
/-- the same for the first k rings -/
def ovK (s : List Tl) (x k l : Nat) : List Nat := (List.range k).filter fun i => decide (soT s x i = l)
theorem ovK_zero (s : List Tl) (x l : Nat) : ovK s x 0 l = [] := rfl
theorem ovK_succ (s : List Tl) (x k l : Nat) : ovK s x (k + 1) l = if l = soT s x k then ovK s x k (soT s x k) ++ [k] else ovK s x k l := by
  unfold ovK
  rw [List.range_succ, List.filter_append]
  by_cases h : l = soT s x k
  · subst h
    rw [if_pos rfl]
    simp
  · rw [if_neg h]
    have : ¬ soT s x k = l := fun e => h e.symm
    simp [this]
theorem ovK_all (s : List Tl) (x l : Nat) : ovK s x (ringsE s x).length l = ovT s x l := rfl
/-- a table of rows of numbers of a call's own: no two lie in one block -/
structure OvT (w : World) (B g n : Nat) (F : Nat → List Nat) : Prop where
  le : B ≤ g
  lt : g < w.heap.size
  fr : ∀ o, w.frozen? ⟨g, o, none⟩ = false
  row : ∀ l, l < n → ∃ v, w.cell? ⟨g, l, none⟩ = some v ∧ w.ownsRow B 3 1 v (F l).length (vals (idxI (F l))) ∧ v.ownBlock ≠ some g
  dis : ∀ l l' v v', l < n → l' < n → l ≠ l' → w.cell? ⟨g, l, none⟩ = some v → w.cell? ⟨g, l', none⟩ = some v' → v.ownBlock = none ∨ v.ownBlock ≠ v'.ownBlock
theorem OvT.keep {w w' : World} {B g n : Nat} {F : Nat → List Nat} (h : OvT w B g n F) (hb : Below w.heap.size w w') : OvT w' B g n F where
  le := h.le
  lt := Nat.lt_of_lt_of_le h.lt hb.size
  fr o := (hb.frozen (p := ⟨g, o, none⟩) h.lt).trans (h.fr o)
  row l hl := by
    obtain ⟨v, hc, ho, hne⟩ := h.row l hl
    exact ⟨v, (hb.cell (p := ⟨g, l, none⟩) h.lt).trans hc, own_keep' ho hb, hne⟩
  dis l l' v v' hl hl' hne hc hc' := h.dis l l' v v' hl hl' hne ((hb.cell (p := ⟨g, l, none⟩) h.lt).symm.trans hc) ((hb.cell (p := ⟨g, l', none⟩) h.lt).symm.trans hc')
theorem OvT.congr {w : World} {B g n : Nat} {F G : Nat → List Nat} (h : OvT w B g n F) (e : ∀ l, l < n → F l = G l) : OvT w B g n G where
  le := h.le
  lt := h.lt
  fr := h.fr
  row l hl := by rw [← e l hl]; exact h.row l hl
  dis := h.dis
theorem grown_one (w : World) (g o : Nat) (v : Value) : w.grownBy (w.setCell ⟨g, o, none⟩ v) (some g) := by
  have := (setCells_grown g [v] o w).1
  simpa [World.setCells] using this
theorem OvT.other {w w' : World} {B g n q : Nat} {F : Nat → List Nat} (h : OvT w B g n F) (hg : w.grownBy w' (some q)) (hq : q < B) : OvT w' B g n F := by
  have hne : some g ≠ some q := by intro e; injection e with e; have := h.le; omega
  have hc : ∀ o, w'.cell? ⟨g, o, none⟩ = w.cell? ⟨g, o, none⟩ := fun o => World.cell?_of_block (hg.block g h.lt hne)
  refine ⟨h.le, Nat.lt_of_lt_of_le h.lt hg.size, fun o => (World.frozen?_of_block (hg.block g h.lt hne)).trans (h.fr o), fun l hl => ?_, fun l l' v v' hl hl' hll hv hv' => h.dis l l' v v' hl hl' hll ((hc l).symm.trans hv) ((hc l').symm.trans hv')⟩
  obtain ⟨v, hv, ho, hb⟩ := h.row l hl
  exact ⟨v, (hc l).trans hv, ho.kept hg (Or.inr fun e => by have := (ho.lt _ e).1; omega), hb⟩
theorem OvT.made {w : World} {B b n c : Nat} {e : TypeId} {xs : List Value} (h : w.ownsRow B e 1 (.slice (some ⟨b, 0, none⟩) n c) n xs) (hx : ∀ i, i < n → xs[i]? = some (.slice none 0 0)) : OvT w B b n fun _ => [] := by
  obtain ⟨h1, h2, h3⟩ := own_words h
  have hc : ∀ l, l < n → w.cell? ⟨b, l, none⟩ = some (.slice none 0 0) := fun l hl => (h2 l hl).trans (hx l hl)
  refine ⟨(h.lt b rfl).1, h1, h3, fun l hl => ⟨_, hc l hl, World.ownsRow_nil _ _ _ _, by simp [Value.ownBlock]⟩, fun l l' v v' hl hl' _ hv hv' => ?_⟩
  rw [hc l hl] at hv
  cases hv
  exact Or.inl rfl
/-- a number joins a row: the row may have moved -/
theorem OvT.push {w w4 : World} {B g n : Nat} {F : Nat → List Nat} (h : OvT w B g n F) {l i : Nat} (hl : l < n) {v v' : Value} (hc : w.cell? ⟨g, l, none⟩ = some v) (hg : w.grownBy w4 v.ownBlock)
    (hown : w4.ownsRow B 3 1 v' (F l ++ [i]).length (vals (idxI (F l ++ [i])))) (hat : v'.ownBlock = v.ownBlock ∨ ∃ k, v'.ownBlock = some k ∧ w.heap.size ≤ k) :
    OvT (w4.setCell ⟨g, l, none⟩ v') B g n fun l' => if l' = l then F l ++ [i] else F l' := by
  obtain ⟨v0, hc0, ho0, hne0⟩ := h.row l hl
  have e0 : v0 = v := by rw [hc] at hc0; exact (Option.some.inj hc0).symm
  subst e0
  have hgb : some g ≠ v0.ownBlock := fun e => hne0 e.symm
  have cell4 : ∀ o u, w.cell? ⟨g, o, none⟩ = some u → w4.cell? ⟨g, o, none⟩ = some u := fun o u hu => hg.cell hu hgb
  have back4 : ∀ o, w4.cell? ⟨g, o, none⟩ = w.cell? ⟨g, o, none⟩ := fun o => World.cell?_of_block (hg.block g h.lt hgb)
  have hne' : v'.ownBlock ≠ some g := by
    rcases hat with e | ⟨k, e, hk⟩
    · rw [e]; exact hne0
    · rw [e]; intro e2; have := h.lt; injection e2 with e2; omega
  have hs4 := hg.size
  have G5 := grown_one w4 g l v'
  have row' : ∀ l', l' < n → l' ≠ l → ∃ u, w.cell? ⟨g, l', none⟩ = some u ∧ w4.cell? ⟨g, l', none⟩ = some u ∧ (w4.setCell ⟨g, l, none⟩ v').cell? ⟨g, l', none⟩ = some u ∧ w4.ownsRow B 3 1 u (F l').length (vals (idxI (F l'))) ∧ u.ownBlock ≠ some g ∧ (u.ownBlock = none ∨ u.ownBlock ≠ v'.ownBlock) := by
    intro l' hl' hne
    obtain ⟨u, hu, hou, hug⟩ := h.row l' hl'
    have hd := h.dis l' l u v0 hl' hl hne hu hc
    refine ⟨u, hu, cell4 _ _ hu, ?_, hou.kept hg hd, hug, ?_⟩
    · rw [World.cell?_setCell_other _ _ _ _ (fun e => by injection e with _ e2; exact hne e2.symm)]
      exact cell4 _ _ hu
    · rcases hat with e | ⟨k, e, hk⟩
      · rw [e]; exact hd
      · rw [e]
        cases hb : u.ownBlock with
        | none => exact Or.inl rfl
        | some q =>
          have := (hou.lt q hb).2
          refine Or.inr fun e2 => ?_
          injection e2 with e2
          omega
  have same : (w4.setCell ⟨g, l, none⟩ v').cell? ⟨g, l, none⟩ = some v' := World.cell?_setCell_same _ _ _ (cell4 _ _ hc)
  refine ⟨h.le, ?_, ?_, ?_, ?_⟩
  · have := h.lt
    simp only [setCell_heap_size]
    omega
  · intro o
    rw [World.frozen?_setCell]
    exact (World.frozen?_of_block (hg.block g h.lt hgb)).trans (h.fr o)
  · intro l' hl'
    by_cases e : l' = l
    · subst e
      refine ⟨v', same, ?_, hne'⟩
      simp only [if_true]
      exact hown.kept G5 (Or.inr hne')
    · obtain ⟨u, -, -, hc5, hou, hug, -⟩ := row' l' hl' e
      refine ⟨u, hc5, ?_, hug⟩
      simp only [if_neg e]
      exact hou.kept G5 (Or.inr hug)
  · intro a b u u' ha hb hab hu hu'
    by_cases ea : a = l
    · subst ea
      rw [same] at hu
      cases hu
      obtain ⟨q, -, -, hc5, -, -, hd⟩ := row' b hb (fun e => hab e.symm)
      rw [hc5] at hu'
      cases hu'
      rcases hd with hd | hd
      · cases hv : v'.ownBlock with
        | none => exact Or.inl rfl
        | some k => rw [hd]; exact Or.inr (by simp)
      · exact Or.inr fun e => hd e.symm
    · by_cases eb : b = l
      · subst eb
        rw [same] at hu'
        cases hu'
        obtain ⟨q, -, -, hc5, -, -, hd⟩ := row' a ha ea
        rw [hc5] at hu
        cases hu
        exact hd
      · obtain ⟨q, hq, -, hc5, -, -, -⟩ := row' a ha ea
        obtain ⟨q', hq', -, hc5', -, -, -⟩ := row' b hb eb
        rw [hc5] at hu
        rw [hc5'] at hu'
        cases hu
        cases hu'
        exact h.dis a b _ _ ha hb hab hq hq'
/-- what a band leads to -/
structure BandIn (s : List Tl) (x : Nat) (w : World) (B : Nat) (R : Option Addr) (O : Nat) : Prop where
  rings : FlatIn (ringV s x) 8 w B R (ringsE s x)
  lt : O < B
  over : ∀ l, l < nlT s x → ∃ A c, w.cell? ⟨O, l, none⟩ = some (.slice A (ovT s x l).length c) ∧ IntsIn w B A (idxI (ovT s x l))
theorem BandIn.keep {s : List Tl} {x : Nat} {w w' : World} {B B' : Nat} {R : Option Addr} {O : Nat} (h : BandIn s x w B R O) (hb : Below B w w') (hB : B ≤ B') : BandIn s x w' B' R O where
  rings := h.rings.keep hb hB
  lt := Nat.lt_of_lt_of_le h.lt hB
  over l hl := by
    obtain ⟨A, c, hc, hi⟩ := h.over l hl
    exact ⟨A, c, (hb.cell (p := ⟨O, l, none⟩) h.lt).trans hc, hi.keep hb hB⟩
/-- a band's memory lies from a block on -/
structure BandLo (lo : Nat) (w : World) (R : Option Addr) (O n : Nat) : Prop where
  r : ∀ b, R = some b → lo ≤ b.block
  o : lo ≤ O
  ov : ∀ l, l < n → ∀ A k c, w.cell? ⟨O, l, none⟩ = some (.slice A k c) → ∀ b, A = some b → lo ≤ b.block
theorem BandLo.keep {lo n : Nat} {w w' : World} {R : Option Addr} {O : Nat} (h : BandLo lo w R O n) (hO : O < w.heap.size) (hb : Below w.heap.size w w') : BandLo lo w' R O n :=
  ⟨h.r, h.o, fun l hl A k c hc => h.ov l hl A k c ((hb.cell (p := ⟨O, l, none⟩) hO).symm.trans hc)⟩
theorem BandLo.mono {lo lo' n : Nat} {w : World} {R : Option Addr} {O : Nat} (h : BandLo lo w R O n) (hl : lo' ≤ lo) : BandLo lo' w R O n :=
  ⟨fun b e => Nat.le_trans hl (h.r b e), Nat.le_trans hl h.o, fun l h1 A k c h2 b e => Nat.le_trans hl (h.ov l h1 A k c h2 b e)⟩
theorem BandLo.grown {lo n q : Nat} {w w' : World} {R : Option Addr} {O : Nat} (h : BandLo lo w R O n) (hO : O < w.heap.size) (hg : w.grownBy w' (some q)) (hq : q < lo) : BandLo lo w' R O n :=
  ⟨h.r, h.o, fun l hl A k c hc => h.ov l hl A k c ((World.cell?_of_block (a := ⟨O, l, none⟩) (hg.block O hO (by intro e; injection e with e; have := h.o; omega))).symm.trans hc)⟩
/-- a store below a band's memory -/
theorem BandIn.grown {s : List Tl} {x q lo : Nat} {w w' : World} {R : Option Addr} {O : Nat} (h : BandIn s x w w.heap.size R O) (l : BandLo lo w R O (nlT s x)) (hg : w.grownBy w' (some q)) (hq : q < lo) : BandIn s x w' w'.heap.size R O where
  rings hn := by
    obtain ⟨b, hR, hb, hc⟩ := h.rings hn
    have hbq := l.r _ hR
    have e : w'.heap[b]? = w.heap[b]? := hg.block b hb (by intro e; injection e with e; simp at hbq; omega)
    exact ⟨b, hR, Nat.lt_of_lt_of_le hb hg.size, fun i a hi j v hv => (World.cell?_of_block (a := ⟨b, i * 8 + j, none⟩) e).trans (hc i a hi j v hv)⟩
  lt := Nat.lt_of_lt_of_le h.lt hg.size
  over k hk := by
    obtain ⟨A, c, hc, hi⟩ := h.over k hk
    have hO := l.o
    refine ⟨A, c, (World.cell?_of_block (a := ⟨O, k, none⟩) (hg.block O h.lt (by intro e; injection e with e; omega))).trans hc, fun hn => ?_⟩
    obtain ⟨b, off, hA, hb, hcl⟩ := hi hn
    have hbq := l.ov k hk A _ c hc _ hA
    have e : w'.heap[b]? = w.heap[b]? := hg.block b hb (by intro e; injection e with e; simp at hbq; omega)
    exact ⟨b, off, hA, Nat.lt_of_lt_of_le hb hg.size, fun i hi' => (World.cell?_of_block (a := ⟨b, off + i, none⟩) e).trans (hcl i hi')⟩
theorem OvT.low {w : World} {B g n : Nat} {F : Nat → List Nat} (h : OvT w B g n F) (l : Nat) (hl : l < n) {A : Option Addr} {k c : Nat} (hc : w.cell? ⟨g, l, none⟩ = some (.slice A k c)) : ∀ b, A = some b → B ≤ b.block := by
  obtain ⟨v, hc', ho, -⟩ := h.row l hl
  obtain ⟨A', c', rfl, -, -, -, -, hA⟩ := own_ints ho
  rw [hc] at hc'
  simp at hc'
  rw [hc'.1]
  exact hA
theorem OvT.ints {w : World} {B g n : Nat} {F : Nat → List Nat} (h : OvT w B g n F) (l : Nat) (hl : l < n) : ∃ A c, w.cell? ⟨g, l, none⟩ = some (.slice A (F l).length c) ∧ IntsIn w w.heap.size A (idxI (F l)) := by
  obtain ⟨v, hc, ho, -⟩ := h.row l hl
  obtain ⟨A, c, rfl, -, -, -, hI, -⟩ := own_ints ho
  exact ⟨A, c, hc, hI⟩
end
section
open Go.RowKit Go.Maps Go.BigFrame Go.Sort
set_option linter.unusedVariables false
set_option linter.unusedSimpArgs false
set_option maxRecDepth 100000

/-- what number returns -/
def IsNum (ks : List (List Int)) (l : List Int) (b n : Nat) (W : World) (e : Ending) (w' : World) : Prop :=
  ∃ (n' : Nat) (D' : DataW Unit), e = .returned (.int .i64 ((metT ks l).idxOf l : Nat)) ∧ w'.ownsMap Tryd.prog 70 (plainElem Tryd.prog 3) b n' D' ∧ n' ≤ n + 1 ∧ Nv D' (metT ks l) ∧ W.grownBy w' (some b)
set_option maxHeartbeats 4000000 in
theorem number_any (l : List Int) (b n : Nat) (D : DataW Unit) (ks : List (List Int)) (w : World) (hown : w.ownsMap Tryd.prog 70 (plainElem Tryd.prog 3) b n D) (hN : Nv D ks) (hl : lwf6 l) (hn : n ≤ 1000000000) :
    Calls Tryd.prog 34 #[.map (some b), .agg (vals l).toArray] w (IsNum ks l b n w) := by
  have hkey := keyOf_line6 l hl
  have hhas := hN.has_ l hl
  obtain ⟨a0, a1, a2, a3, a4, a5, hla⟩ := len6 l hl.1
  have hv : (vals l).toArray = #[.int .i64 a0, .int .i64 a1, .int .i64 a2, .int .i64 a3, .int .i64 a4, .int .i64 a5] := by rw [hla]; rfl
  rw [hv] at hkey ⊢
  have hkl : ks.length ≤ n := by rw [← hN.size]; exact hown.size_le
  have hal := hown.kept (World.grownBy_alloc w (.cells #[.int .i64 a0, .int .i64 a1, .int .i64 a2, .int .i64 a3, .int .i64 a4, .int .i64 a5] 70) none) (by simp)
  have HA := Lib.hid hal
  have HNv := Lib.hid hN
  have HL := Lib.hid hl
  have HK := Lib.hid hkey
  have HO := Lib.hid hown
  by_cases hm : l ∈ ks
  · have hat := hN.at_ l hl hm
    have hd : Maps.has D (lk l) = true := by rw [hhas]; exact decide_eq_true hm
    have hmet : Hid (metT ks l = ks) := met_old hm
    obtain ⟨m, hmm⟩ : ∃ m : Nat, m = ks.idxOf l := ⟨_, rfl⟩
    rw [← hmm] at hat
    have HM := Lib.hid hmm
    have HAT := Lib.hid hat
    have HD := Lib.hid hd
    clear hmm hat hd hm hhas hv hla hal hN hl hkey hown
    go_enter Tryd.func34, Tryd.ntmps34
    go_wp2_with (first
      | (at_lookup; refine wpList_lookup_own_ok_int _ rfl _ _ 66 rfl 70 3 .i64 line_law6 Tryd.underlying66 Tryd.underlying3 (zero_int _) b n D rfl HA.out _ _ rfl HK.out ?_; intro c hat hwc; rw [HAT.out] at hat; rw [HD.out])
      | fail)
    go_ret
    obtain rfl : (m : Int) = c := by simpa using hat
    refine ⟨n, D, ?_, (HO.out.kept (World.grownBy_alloc w _ none) (by simp)), by omega, ?_, World.grownBy_alloc w _ _⟩
    · rw [hmet.out, ← HM.out]
      rfl
    · rw [hmet.out]
      exact HNv.out
  · have hd : Maps.has D (lk l) = false := by rw [hhas]; exact decide_eq_false hm
    have hmet : Hid (metT ks l = ks ++ [l]) := met_new hm
    have hidx : Hid ((ks ++ [l]).idxOf l = ks.length) := by
      show _ = _
      rw [List.idxOf_append, if_neg hm, List.idxOf_cons_self]
      simp
    have hsz := hN.size
    have hadd := hN.add hl hm
    obtain ⟨m, hmm⟩ : ∃ m : Nat, m = ks.length := ⟨_, rfl⟩
    rw [← hmm] at hsz hadd hkl
    have HADD := Lib.hid hadd
    have HM := Lib.hid hmm
    have HD := Lib.hid hd
    have HSZ := Lib.hid hsz
    clear hmm hd hm hhas hv hla hal hN hl hkey hown hsz hadd
    go_enter Tryd.func34, Tryd.ntmps34
    go_wp2_with (first
      | (at_lookup; refine wpList_lookup_own_ok_int _ rfl _ _ 66 rfl 70 3 .i64 line_law6 Tryd.underlying66 Tryd.underlying3 (zero_int _) b n D rfl HA.out _ _ rfl HK.out ?_; intro c hat hwc; rw [HD.out])
      | (at_len; refine wpList_len_own _ rfl _ 66 rfl 70 3 Tryd.underlying66 _ b n D rfl HA.out ?_; rw [HSZ.out])
      | (at_mapUpdate; refine wpList_mapUpdate_own _ rfl _ _ _ 66 rfl 70 3 line_law6 Tryd.underlying66 _ b n _ rfl HA.out (by unfold maxLen; omega) _ _ _ rfl rfl HK.out _ [] (plainElem_int Tryd.underlying3 (WalkArith.wf_i64 (by omega))) ?_; intro w7 hown7 hgrow7))
    go_ret
    refine ⟨n + 1, _, ?_, hown7, Nat.le_refl _, ?_, (World.grownBy_alloc w _ _).trans hgrow7⟩
    · rw [hmet.out, hidx.out, ← HM.out]
      rfl
    · rw [hmet.out]
      exact HADD.out
end
section
open Go.RowKit Go.Maps Go.BigFrame Go.Sort
set_option linter.unusedVariables false
set_option linter.unusedSimpArgs false

/-- the operations whose value does not hang on what came before -/
def qb (i : Nat) : Prop := i ≤ 13 ∧ i ≠ 11 ∧ i ≠ 12
theorem qb_of {i : Nat} (h : (Nat.ble i 13 && (!Nat.beq i 11 && !Nat.beq i 12)) = true) : qb i := by
  simp only [Bool.and_eq_true, Nat.ble_eq, Bool.not_eq_true'] at h
  obtain ⟨a, b, c⟩ := h
  exact ⟨a, (fun h => by rw [h] at b; cases b), (fun h => by rw [h] at c; cases c)⟩
theorem bfB {b : Bool} (h : b = true) (h' : b = false) : False := by rw [h] at h'; cases h'
structure RB (tI : TypeId) (wz : World) (O nl so nL : Nat) (vl : Value) (j : Nat) (F : Nat → List Nat) (cv : Nat → Value) (d : Nat → Bool) (u : Nat → Value) (q : Nat) (w : World) : Prop where
  gr : d 14 = false → wz.grownBy w vl.ownBlock
  cl12 : d 12 = true → d 11 = true
  cl14 : d 14 = true → ∀ k, k < 14 → d k = true
  con : ∀ i, qb i → d i = true → u (58 + i) = cv i
  o0 : d 12 = false → OvT w O O nl F ∧ Below wz.heap.size wz w
  f11 : d 11 = true → d 12 = false → u 69 = .slice (some ⟨q, 0, none⟩) 1 1 ∧ w.heap[q]? = some (.cells #[.int .i64 (j : Int)] tI (0, 0))
  f12 : d 12 = true → d 14 = false → (∃ A c, u 70 = .slice A (nL + 1) c) ∧ w.cell? ⟨O, so, none⟩ = some vl ∧ w.frozen? ⟨O, so, none⟩ = false ∧ OvT (w.setCell ⟨O, so, none⟩ (u 70)) O O nl fun l => if l = so then F so ++ [j] else F l
  f14 : d 14 = true → OvT w O O nl (fun l => if l = so then F so ++ [j] else F l) ∧ Below O wz w
variable {tI : TypeId} {wz w w' : World} {O nl so nL : Nat} {vl : Value} {j : Nat} {F : Nat → List Nat} {cv : Nat → Value} {d : Nat → Bool} {u : Nat → Value} {q : Nat}
theorem RB.start (u : Nat → Value) (q : Nat) (hb : Below wz.heap.size wz w) (ho : OvT w O O nl F) : RB tI wz O nl so nL vl j F cv (fun _ => false) u q w where
  gr _ := grown_of_below hb _
  cl12 h := by cases h
  cl14 h := by cases h
  con _ _ h := by cases h
  o0 _ := ⟨ho, hb⟩
  f11 h := by cases h
  f12 h := by cases h
  f14 h := by cases h
theorem RB.no14 (h : RB tI wz O nl so nL vl j F cv d u q w) {i : Nat} (hi : i < 14) (hd : d i = false) : d 14 = false := by
  cases e : d 14
  · rfl
  · exact (bfB (h.cl14 e i hi) hd).elim
theorem RB.quiet (h : RB tI wz O nl so nL vl j F cv d u q w) (i : Nat) (hi : qb i) (hd : d i = false) : RB tI wz O nl so nL vl j F cv (updD d i) (updU u (58 + i) (cv i)) q w := by
  have h14 := h.no14 (i := i) (by unfold qb at hi; omega) hd
  unfold qb at hi
  have e11 : updD d i 11 = d 11 := updD_ne (by omega)
  have e12 : updD d i 12 = d 12 := updD_ne (by omega)
  have e14 : updD d i 14 = d 14 := updD_ne (by omega)
  have v11 : updU u (58 + i) (cv i) 69 = u 69 := updU_ne (by omega)
  have v12 : updU u (58 + i) (cv i) 70 = u 70 := updU_ne (by omega)
  refine ⟨?_, ?_, ?_, ?_, ?_, ?_, ?_, ?_⟩
  · rw [e14]; exact h.gr
  · rw [e11, e12]; exact h.cl12
  · rw [e14, h14]; intro e; cases e
  · intro k hk hd'
    by_cases e : k = i
    · subst e; exact updU_same _ _ _
    · rw [updU_ne (by omega)]
      rw [updD_ne e] at hd'
      exact h.con k hk hd'
  · rw [e12]; exact h.o0
  · rw [e11, e12, v11]; exact h.f11
  · rw [e12, e14, v12]; exact h.f12
  · rw [e14, h14]; intro e; cases e
theorem conB_keep {i k : Nat} {v : Value} (hc : ∀ i, qb i → d i = true → u (58 + i) = cv i) (hi : ¬ qb i) (hk : ∀ m, qb m → 58 + m ≠ k) : ∀ m, qb m → updD d i m = true → updU u k v (58 + m) = cv m := fun m hm hd => by
  rw [updU_ne (hk m hm)]
  rw [updD_ne (fun e => hi (by rw [← e]; exact hm))] at hd
  exact hc m hm hd
/-- '[]int{j}' -/
theorem RB.s11 (h : RB tI wz O nl so nL vl j F cv d u q w) (hd : d 11 = false) : RB tI wz O nl so nL vl j F cv (updD d 11) (updU u 69 (.slice (some ⟨w.heap.size, 0, none⟩) 1 1)) w.heap.size (w.alloc (.cells #[.int .i64 (j : Int)] tI)) := by
  have h14 := h.no14 (i := 11) (by omega) hd
  have h12 : d 12 = false := by cases e : d 12; rfl; exact (bfB (h.cl12 e) hd).elim
  obtain ⟨o1, o2⟩ := h.o0 h12
  have e14 : updD d 11 14 = false := by rw [updD_ne (by omega)]; exact h14
  have e12 : updD d 11 12 = false := by rw [updD_ne (by omega)]; exact h12
  refine ⟨fun _ => ((h.gr h14).trans (World.grownBy_alloc w _ _)), fun e => (bfB e e12).elim, fun e => (bfB e e14).elim, conB_keep h.con (by unfold qb; omega) (by unfold qb; omega), fun _ => ⟨o1.keep ((Below.refl _ _).alloc (Nat.le_refl _) _), o2.alloc o2.size _⟩, fun _ _ => ⟨updU_same _ _ _, heap_alloc_new _ _⟩, fun e => (bfB e e12).elim, fun e => (bfB e e14).elim⟩
/-- the append -/
theorem RB.s12 (h : RB tI wz O nl so nL vl j F cv d u q w) (hd : d 12 = false) (h11 : d 11 = true) (hso : so < nl) (hc : wz.cell? ⟨O, so, none⟩ = some vl) (hO : O < wz.heap.size) {A : Option Addr} {c : Nat}
    (hown : w'.ownsRow O 3 1 (.slice A (nL + 1) c) (F so ++ [j]).length (vals (idxI (F so ++ [j])))) (hg : w.grownBy w' vl.ownBlock) (hat : (Value.slice A (nL + 1) c).ownBlock = vl.ownBlock ∨ (Value.slice A (nL + 1) c).ownBlock = some w.heap.size) (hne : vl.ownBlock ≠ some O) :
    RB tI wz O nl so nL vl j F cv (updD d 12) (updU u 70 (.slice A (nL + 1) c)) q w' := by
  have h14 := h.no14 (i := 12) (by omega) hd
  obtain ⟨o1, o2⟩ := h.o0 hd
  have e14 : updD d 12 14 = false := by rw [updD_ne (by omega)]; exact h14
  have e12 : updD d 12 12 = true := updD_same _ _
  have hcw : w.cell? ⟨O, so, none⟩ = some vl := (o2.cell (p := ⟨O, so, none⟩) hO).trans hc
  have hp := o1.push hso hcw hg hown (hat.imp id fun e => ⟨_, e, Nat.le_refl _⟩)
  have hOw : O < w.heap.size := o1.lt
  refine ⟨fun _ => (h.gr h14).trans hg, fun _ => by rw [updD_ne (by omega)]; exact h11, fun e => (bfB e e14).elim, conB_keep h.con (by unfold qb; omega) (by unfold qb; omega), fun e => (bfB e12 e).elim, fun _ e => (bfB e12 e).elim, fun _ _ => ⟨⟨A, c, updU_same _ _ _⟩, ?_, ?_, ?_⟩, fun e => (bfB e e14).elim⟩
  · exact (World.cell?_of_block (hg.block O hOw (fun e => hne e.symm))).trans hcw
  · exact (World.frozen?_of_block (hg.block O hOw (fun e => hne e.symm))).trans (o1.fr so)
  · rw [updU_same]; exact hp
/-- the store -/
theorem RB.s14 (h : RB tI wz O nl so nL vl j F cv d u q w) (hd : d 14 = false) (hall : ∀ k, k < 14 → d k = true) (hle : ∀ g, vl.ownBlock = some g → O ≤ g) (hO : O < wz.heap.size) :
    RB tI wz O nl so nL vl j F cv (updD d 14) u q (w.setCell ⟨O, so, none⟩ (u 70)) := by
  obtain ⟨-, -, -, ho⟩ := h.f12 (hall 12 (by omega)) hd
  have e14 : updD d 14 14 = true := updD_same _ _
  have hall' : ∀ k, k < 14 → updD d 14 k = true := fun k hk => by rw [updD_ne (by omega)]; exact hall k hk
  have hgr := h.gr hd
  refine ⟨fun e => (bfB e14 e).elim, fun _ => hall' 11 (by omega), fun _ => hall', fun i hi hd' => h.con i hi (hall i (by unfold qb at hi; omega)), fun e => (bfB (hall' 12 (by omega)) e).elim, fun _ e => (bfB (hall' 12 (by omega)) e).elim, fun _ e => (bfB e14 e).elim, fun _ => ⟨ho, ?_⟩⟩
  have hb : Below O wz w := (Below.refl O wz).grown hgr (Nat.le_of_lt hO) hle
  exact hb.grown (grown_one w O so _) (Nat.le_trans (Nat.le_of_lt hO) hgr.size) fun g e => by cases e; exact Nat.le_refl _
end
end Go.Proofs.YteaoaglgoeichaaDoor

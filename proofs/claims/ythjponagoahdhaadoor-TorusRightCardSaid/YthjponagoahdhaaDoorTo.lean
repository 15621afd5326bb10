/-
  Package torus: what a band is in memory: rings, and for each number of a line the indices of the rings over it.
-/
import Derived.Test.YthjponagoahdhaaDoorTm
import Derived.Test.YthjponagoahdhaaDoorFh
namespace Go.Proofs.YthjponagoahdhaaDoor
open Go.RowKit Go.Maps Go.BigFrame Go.Sort
set_option linter.unusedVariables false
set_option linter.unusedSimpArgs false
set_option maxRecDepth 100000

/-- the cells of a ring's struct: its tiles, the numbers of its north and of its south -/
def ringInts (s : List Tl) (x : Nat) (r : List Nat) : List Int := pad6 (idxI r) ++ [(numT s x (lineN s r) : Int), (numT s x (lineS s r) : Int)]
def ringV (s : List Tl) (x : Nat) (r : List Nat) : List Value := vals (ringInts s x r)
def ringA (s : List Tl) (x : Nat) (r : List Nat) : Array Value := (ringV s x r).toArray
theorem ringInts_len (s : List Tl) (x : Nat) (r : List Nat) (h : r.length ≤ 6) : (ringInts s x r).length = 8 := by
  unfold ringInts
  rw [List.length_append, pad6_len _ (by unfold idxI; rw [List.length_map]; exact h)]
  rfl
theorem ringV_len (s : List Tl) (x : Nat) (r : List Nat) (h : r.length ≤ 6) : (ringV s x r).length = 8 := by simp [ringV, vals, ringInts_len s x r h]
theorem ringA_size (s : List Tl) (x : Nat) (r : List Nat) (h : r.length ≤ 6) : (ringA s x r).size = 8 := by simp [ringA, ringV_len s x r h]
theorem ringA_one (s : List Tl) (x : Nat) (r : List Nat) : (ringA s x r).all (·.oneCell') = true := by
  rw [Array.all_eq_true_iff_forall_mem]
  exact fun v hv => vals_one (ringInts s x r) v (by simpa [ringA, ringV] using hv)
theorem ringA_at (s : List Tl) (x : Nat) (r : List Nat) (h : r.length ≤ 6) : (ringV s x r)[6]? = some (.int .i64 (numT s x (lineN s r))) ∧ (ringV s x r)[7]? = some (.int .i64 (numT s x (lineS s r))) := by
  have h1 : (pad6 (idxI r)).length = 6 := pad6_len _ (by unfold idxI; rw [List.length_map]; exact h)
  unfold ringV vals ringInts
  constructor
  · rw [List.getElem?_map, List.getElem?_append_right (by omega), h1]
    rfl
  · rw [List.getElem?_map, List.getElem?_append_right (by omega), h1]
    rfl
/-- how many lines the rings of a width have -/
def nlT (s : List Tl) (x : Nat) : Nat := (lines6 s (ringsE s x)).length
def ovT (s : List Tl) (x l : Nat) : List Nat := overT (ringsE s x) [] (lineS s) (numT s x) l
def noT (s : List Tl) (x i : Nat) : Nat := numT s x (lineN s ((ringsE s x).getD i []))
def soT (s : List Tl) (x i : Nat) : Nat := numT s x (lineS s ((ringsE s x).getD i []))
theorem ovT_lt {s : List Tl} {x l i : Nat} (h : i ∈ ovT s x l) : i < (ringsE s x).length := List.mem_range.1 (List.mem_filter.1 h).1
theorem ovT_len (s : List Tl) (x l : Nat) : (ovT s x l).length ≤ (ringsE s x).length := by
  have := List.length_filter_le (fun i => decide (numT s x (lineS s ((ringsE s x).getD i [])) = l)) (List.range (ringsE s x).length)
  rw [List.length_range] at this
  exact this
/-- the same for the first k rings -/
def ovK (s : List Tl) (x k l : Nat) : List Nat := (List.range k).filter fun i => decide (soT s x i = l)
theorem ovK_zero (s : List Tl) (x l : Nat) : ovK s x 0 l = [] := rfl
theorem ovK_succ (s : List Tl) (x k l : Nat) : ovK s x (k + 1) l = if l = soT s x k then ovK s x k (soT s x k) ++ [k] else ovK s x k l := by
  unfold ovK
  rw [List.range_succ, List.filter_append]
  by_cases h : l = soT s x k
  · subst h
    rw [if_pos rfl]
    simp
  · rw [if_neg h]
    have : ¬ soT s x k = l := fun e => h e.symm
    simp [this]
theorem ovK_all (s : List Tl) (x l : Nat) : ovK s x (ringsE s x).length l = ovT s x l := rfl
/-- a table of rows of numbers of a call's own: no two lie in one block -/
structure OvT (w : World) (B g n : Nat) (F : Nat → List Nat) : Prop where
  le : B ≤ g
  lt : g < w.heap.size
  fr : ∀ o, w.frozen? ⟨g, o, none⟩ = false
  row : ∀ l, l < n → ∃ v, w.cell? ⟨g, l, none⟩ = some v ∧ w.ownsRow B 3 1 v (F l).length (vals (idxI (F l))) ∧ v.ownBlock ≠ some g
  dis : ∀ l l' v v', l < n → l' < n → l ≠ l' → w.cell? ⟨g, l, none⟩ = some v → w.cell? ⟨g, l', none⟩ = some v' → v.ownBlock = none ∨ v.ownBlock ≠ v'.ownBlock
theorem OvT.keep {w w' : World} {B g n : Nat} {F : Nat → List Nat} (h : OvT w B g n F) (hb : Below w.heap.size w w') : OvT w' B g n F where
  le := h.le
  lt := Nat.lt_of_lt_of_le h.lt hb.size
  fr o := (hb.frozen (p := ⟨g, o, none⟩) h.lt).trans (h.fr o)
  row l hl := by
    obtain ⟨v, hc, ho, hne⟩ := h.row l hl
    exact ⟨v, (hb.cell (p := ⟨g, l, none⟩) h.lt).trans hc, own_keep' ho hb, hne⟩
  dis l l' v v' hl hl' hne hc hc' := h.dis l l' v v' hl hl' hne ((hb.cell (p := ⟨g, l, none⟩) h.lt).symm.trans hc) ((hb.cell (p := ⟨g, l', none⟩) h.lt).symm.trans hc')
theorem OvT.congr {w : World} {B g n : Nat} {F G : Nat → List Nat} (h : OvT w B g n F) (e : ∀ l, l < n → F l = G l) : OvT w B g n G where
  le := h.le
  lt := h.lt
  fr := h.fr
  row l hl := by rw [← e l hl]; exact h.row l hl
  dis := h.dis
theorem grown_one (w : World) (g o : Nat) (v : Value) : w.grownBy (w.setCell ⟨g, o, none⟩ v) (some g) := by
  have := (setCells_grown g [v] o w).1
  simpa [World.setCells] using this
theorem OvT.other {w w' : World} {B g n q : Nat} {F : Nat → List Nat} (h : OvT w B g n F) (hg : w.grownBy w' (some q)) (hq : q < B) : OvT w' B g n F := by
  have hne : some g ≠ some q := by intro e; injection e with e; have := h.le; omega
  have hc : ∀ o, w'.cell? ⟨g, o, none⟩ = w.cell? ⟨g, o, none⟩ := fun o => World.cell?_of_block (hg.block g h.lt hne)
  refine ⟨h.le, Nat.lt_of_lt_of_le h.lt hg.size, fun o => (World.frozen?_of_block (hg.block g h.lt hne)).trans (h.fr o), fun l hl => ?_, fun l l' v v' hl hl' hll hv hv' => h.dis l l' v v' hl hl' hll ((hc l).symm.trans hv) ((hc l').symm.trans hv')⟩
  obtain ⟨v, hv, ho, hb⟩ := h.row l hl
  exact ⟨v, (hc l).trans hv, ho.kept hg (Or.inr fun e => by have := (ho.lt _ e).1; omega), hb⟩
theorem OvT.made {w : World} {B b n c : Nat} {e : TypeId} {xs : List Value} (h : w.ownsRow B e 1 (.slice (some ⟨b, 0, none⟩) n c) n xs) (hx : ∀ i, i < n → xs[i]? = some (.slice none 0 0)) : OvT w B b n fun _ => [] := by
  obtain ⟨h1, h2, h3⟩ := own_words h
  have hc : ∀ l, l < n → w.cell? ⟨b, l, none⟩ = some (.slice none 0 0) := fun l hl => (h2 l hl).trans (hx l hl)
  refine ⟨(h.lt b rfl).1, h1, h3, fun l hl => ⟨_, hc l hl, World.ownsRow_nil _ _ _ _, by simp [Value.ownBlock]⟩, fun l l' v v' hl hl' _ hv hv' => ?_⟩
  rw [hc l hl] at hv
  cases hv
  exact Or.inl rfl
/-- a number joins a row: the row may have moved -/
theorem OvT.push {w w4 : World} {B g n : Nat} {F : Nat → List Nat} (h : OvT w B g n F) {l i : Nat} (hl : l < n) {v v' : Value} (hc : w.cell? ⟨g, l, none⟩ = some v) (hg : w.grownBy w4 v.ownBlock)
    (hown : w4.ownsRow B 3 1 v' (F l ++ [i]).length (vals (idxI (F l ++ [i])))) (hat : v'.ownBlock = v.ownBlock ∨ ∃ k, v'.ownBlock = some k ∧ w.heap.size ≤ k) :
    OvT (w4.setCell ⟨g, l, none⟩ v') B g n fun l' => if l' = l then F l ++ [i] else F l' := by
  obtain ⟨v0, hc0, ho0, hne0⟩ := h.row l hl
  have e0 : v0 = v := by rw [hc] at hc0; exact (Option.some.inj hc0).symm
  subst e0
  have hgb : some g ≠ v0.ownBlock := fun e => hne0 e.symm
  have cell4 : ∀ o u, w.cell? ⟨g, o, none⟩ = some u → w4.cell? ⟨g, o, none⟩ = some u := fun o u hu => hg.cell hu hgb
  have back4 : ∀ o, w4.cell? ⟨g, o, none⟩ = w.cell? ⟨g, o, none⟩ := fun o => World.cell?_of_block (hg.block g h.lt hgb)
  have hne' : v'.ownBlock ≠ some g := by
    rcases hat with e | ⟨k, e, hk⟩
    · rw [e]; exact hne0
    · rw [e]; intro e2; have := h.lt; injection e2 with e2; omega
  have hs4 := hg.size
  have G5 := grown_one w4 g l v'
  have row' : ∀ l', l' < n → l' ≠ l → ∃ u, w.cell? ⟨g, l', none⟩ = some u ∧ w4.cell? ⟨g, l', none⟩ = some u ∧ (w4.setCell ⟨g, l, none⟩ v').cell? ⟨g, l', none⟩ = some u ∧ w4.ownsRow B 3 1 u (F l').length (vals (idxI (F l'))) ∧ u.ownBlock ≠ some g ∧ (u.ownBlock = none ∨ u.ownBlock ≠ v'.ownBlock) := by
    intro l' hl' hne
    obtain ⟨u, hu, hou, hug⟩ := h.row l' hl'
    have hd := h.dis l' l u v0 hl' hl hne hu hc
    refine ⟨u, hu, cell4 _ _ hu, ?_, hou.kept hg hd, hug, ?_⟩
    · rw [World.cell?_setCell_other _ _ _ _ (fun e => by injection e with _ e2; exact hne e2.symm)]
      exact cell4 _ _ hu
    · rcases hat with e | ⟨k, e, hk⟩
      · rw [e]; exact hd
      · rw [e]
        cases hb : u.ownBlock with
        | none => exact Or.inl rfl
        | some q =>
          have := (hou.lt q hb).2
          refine Or.inr fun e2 => ?_
          injection e2 with e2
          omega
  have same : (w4.setCell ⟨g, l, none⟩ v').cell? ⟨g, l, none⟩ = some v' := World.cell?_setCell_same _ _ _ (cell4 _ _ hc)
  refine ⟨h.le, ?_, ?_, ?_, ?_⟩
  · have := h.lt
    simp only [setCell_heap_size]
    omega
  · intro o
    rw [World.frozen?_setCell]
    exact (World.frozen?_of_block (hg.block g h.lt hgb)).trans (h.fr o)
  · intro l' hl'
    by_cases e : l' = l
    · subst e
      refine ⟨v', same, ?_, hne'⟩
      simp only [if_true]
      exact hown.kept G5 (Or.inr hne')
    · obtain ⟨u, -, -, hc5, hou, hug, -⟩ := row' l' hl' e
      refine ⟨u, hc5, ?_, hug⟩
      simp only [if_neg e]
      exact hou.kept G5 (Or.inr hug)
  · intro a b u u' ha hb hab hu hu'
    by_cases ea : a = l
    · subst ea
      rw [same] at hu
      cases hu
      obtain ⟨q, -, -, hc5, -, -, hd⟩ := row' b hb (fun e => hab e.symm)
      rw [hc5] at hu'
      cases hu'
      rcases hd with hd | hd
      · cases hv : v'.ownBlock with
        | none => exact Or.inl rfl
        | some k => rw [hd]; exact Or.inr (by simp)
      · exact Or.inr fun e => hd e.symm
    · by_cases eb : b = l
      · subst eb
        rw [same] at hu'
        cases hu'
        obtain ⟨q, -, -, hc5, -, -, hd⟩ := row' a ha ea
        rw [hc5] at hu
        cases hu
        exact hd
      · obtain ⟨q, hq, -, hc5, -, -, -⟩ := row' a ha ea
        obtain ⟨q', hq', -, hc5', -, -, -⟩ := row' b hb eb
        rw [hc5] at hu
        rw [hc5'] at hu'
        cases hu
        cases hu'
        exact h.dis a b _ _ ha hb hab hq hq'
/-- what a band leads to -/
structure BandIn (s : List Tl) (x : Nat) (w : World) (B : Nat) (R : Option Addr) (O : Nat) : Prop where
  rings : FlatIn (ringV s x) 8 w B R (ringsE s x)
  lt : O < B
  over : ∀ l, l < nlT s x → ∃ A c, w.cell? ⟨O, l, none⟩ = some (.slice A (ovT s x l).length c) ∧ IntsIn w B A (idxI (ovT s x l))
theorem BandIn.keep {s : List Tl} {x : Nat} {w w' : World} {B B' : Nat} {R : Option Addr} {O : Nat} (h : BandIn s x w B R O) (hb : Below B w w') (hB : B ≤ B') : BandIn s x w' B' R O where
  rings := h.rings.keep hb hB
  lt := Nat.lt_of_lt_of_le h.lt hB
  over l hl := by
    obtain ⟨A, c, hc, hi⟩ := h.over l hl
    exact ⟨A, c, (hb.cell (p := ⟨O, l, none⟩) h.lt).trans hc, hi.keep hb hB⟩
/-- a band's memory lies from a block on -/
structure BandLo (lo : Nat) (w : World) (R : Option Addr) (O n : Nat) : Prop where
  r : ∀ b, R = some b → lo ≤ b.block
  o : lo ≤ O
  ov : ∀ l, l < n → ∀ A k c, w.cell? ⟨O, l, none⟩ = some (.slice A k c) → ∀ b, A = some b → lo ≤ b.block
theorem BandLo.keep {lo n : Nat} {w w' : World} {R : Option Addr} {O : Nat} (h : BandLo lo w R O n) (hO : O < w.heap.size) (hb : Below w.heap.size w w') : BandLo lo w' R O n :=
  ⟨h.r, h.o, fun l hl A k c hc => h.ov l hl A k c ((hb.cell (p := ⟨O, l, none⟩) hO).symm.trans hc)⟩
theorem BandLo.mono {lo lo' n : Nat} {w : World} {R : Option Addr} {O : Nat} (h : BandLo lo w R O n) (hl : lo' ≤ lo) : BandLo lo' w R O n :=
  ⟨fun b e => Nat.le_trans hl (h.r b e), Nat.le_trans hl h.o, fun l h1 A k c h2 b e => Nat.le_trans hl (h.ov l h1 A k c h2 b e)⟩
theorem BandLo.grown {lo n q : Nat} {w w' : World} {R : Option Addr} {O : Nat} (h : BandLo lo w R O n) (hO : O < w.heap.size) (hg : w.grownBy w' (some q)) (hq : q < lo) : BandLo lo w' R O n :=
  ⟨h.r, h.o, fun l hl A k c hc => h.ov l hl A k c ((World.cell?_of_block (a := ⟨O, l, none⟩) (hg.block O hO (by intro e; injection e with e; have := h.o; omega))).symm.trans hc)⟩
/-- a store below a band's memory -/
theorem BandIn.grown {s : List Tl} {x q lo : Nat} {w w' : World} {R : Option Addr} {O : Nat} (h : BandIn s x w w.heap.size R O) (l : BandLo lo w R O (nlT s x)) (hg : w.grownBy w' (some q)) (hq : q < lo) : BandIn s x w' w'.heap.size R O where
  rings hn := by
    obtain ⟨b, hR, hb, hc⟩ := h.rings hn
    have hbq := l.r _ hR
    have e : w'.heap[b]? = w.heap[b]? := hg.block b hb (by intro e; injection e with e; simp at hbq; omega)
    exact ⟨b, hR, Nat.lt_of_lt_of_le hb hg.size, fun i a hi j v hv => (World.cell?_of_block (a := ⟨b, i * 8 + j, none⟩) e).trans (hc i a hi j v hv)⟩
  lt := Nat.lt_of_lt_of_le h.lt hg.size
  over k hk := by
    obtain ⟨A, c, hc, hi⟩ := h.over k hk
    have hO := l.o
    refine ⟨A, c, (World.cell?_of_block (a := ⟨O, k, none⟩) (hg.block O h.lt (by intro e; injection e with e; omega))).trans hc, fun hn => ?_⟩
    obtain ⟨b, off, hA, hb, hcl⟩ := hi hn
    have hbq := l.ov k hk A _ c hc _ hA
    have e : w'.heap[b]? = w.heap[b]? := hg.block b hb (by intro e; injection e with e; simp at hbq; omega)
    exact ⟨b, off, hA, Nat.lt_of_lt_of_le hb hg.size, fun i hi' => (World.cell?_of_block (a := ⟨b, off + i, none⟩) e).trans (hcl i hi')⟩
theorem OvT.low {w : World} {B g n : Nat} {F : Nat → List Nat} (h : OvT w B g n F) (l : Nat) (hl : l < n) {A : Option Addr} {k c : Nat} (hc : w.cell? ⟨g, l, none⟩ = some (.slice A k c)) : ∀ b, A = some b → B ≤ b.block := by
  obtain ⟨v, hc', ho, -⟩ := h.row l hl
  obtain ⟨A', c', rfl, -, -, -, -, hA⟩ := own_ints ho
  rw [hc] at hc'
  simp at hc'
  rw [hc'.1]
  exact hA
theorem OvT.ints {w : World} {B g n : Nat} {F : Nat → List Nat} (h : OvT w B g n F) (l : Nat) (hl : l < n) : ∃ A c, w.cell? ⟨g, l, none⟩ = some (.slice A (F l).length c) ∧ IntsIn w w.heap.size A (idxI (F l)) := by
  obtain ⟨v, hc, ho, -⟩ := h.row l hl
  obtain ⟨A, c, rfl, -, -, -, hI, -⟩ := own_ints ho
  exact ⟨A, c, hc, hI⟩
end Go.Proofs.YthjponagoahdhaaDoor

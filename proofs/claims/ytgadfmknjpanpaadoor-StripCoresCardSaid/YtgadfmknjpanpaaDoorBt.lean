/-
  Tables of bools, and a table of such tables. No program.
-/
import Derived.Test.YtgadfmknjpanpaaDoorSo
import Derived.Test.YtgadfmknjpanpaaDoorFh
namespace Go.Proofs.YtgadfmknjpanpaaDoor
open Go.RowKit Go.Maps Go.BigFrame Go.Sort
set_option linter.unusedVariables false

theorem grown_setB {w wr : World} {q : Nat} (h : w.grownBy wr (some q)) (o : Nat) (v : Value) : w.grownBy (wr.setCell ⟨q, o, none⟩ v) (some q) := by
  refine ⟨h.os, h.tape, h.output, by simpa using h.size, fun k hk hne => ?_⟩
  rw [Below.heap_setCell _ _ _ _ (by intro e; exact hne (by rw [e]))]
  exact h.block k hk hne
def BTab (w : World) (q n : Nat) (f : Int → Bool) : Prop := q < w.heap.size ∧ (∀ L, L < n → w.cell? ⟨q, L, none⟩ = some (.bool (f (L : Int)))) ∧ ∀ o, w.frozen? ⟨q, o, none⟩ = false
theorem BTab.keep {w w' : World} {q n : Nat} {f : Int → Bool} (h : BTab w q n f) (hb : Below w.heap.size w w') : BTab w' q n f :=
  ⟨Nat.lt_of_lt_of_le h.1 hb.size, fun L hL => (hb.cell (p := ⟨q, L, none⟩) h.1).trans (h.2.1 L hL), fun o => (hb.frozen (p := ⟨q, o, none⟩) h.1).trans (h.2.2 o)⟩
theorem BTab.grown {w w' : World} {q n : Nat} {f : Int → Bool} {g : Option Nat} (h : BTab w q n f) (hg : w.grownBy w' g) (hne : some q ≠ g) : BTab w' q n f :=
  ⟨Nat.lt_of_lt_of_le h.1 hg.size, fun L hL => (World.cell?_of_block (hg.block q h.1 hne)).trans (h.2.1 L hL), fun o => (World.frozen?_of_block (hg.block q h.1 hne)).trans (h.2.2 o)⟩
theorem BTab.drew {w : World} {q n : Nat} {f : Int → Bool} (h : BTab w q n f) : BTab w.drew q n f := ⟨h.1, h.2.1, h.2.2⟩
theorem BTab.congr {w : World} {q n : Nat} {f g : Int → Bool} (h : BTab w q n f) (e : ∀ L, L < n → f (L : Int) = g (L : Int)) : BTab w q n g := ⟨h.1, fun L hL => by rw [← e L hL]; exact h.2.1 L hL, h.2.2⟩
theorem BTab.set {w : World} {q n : Nat} {f g : Int → Bool} (h : BTab w q n f) (K : Nat) (hK : K < n) (x : Bool) (hx : x = g (K : Int)) (e : ∀ L, L < n → L ≠ K → f (L : Int) = g (L : Int)) : BTab (w.setCell ⟨q, K, none⟩ (.bool x)) q n g := by
  refine ⟨by simpa using h.1, fun L hL => ?_, fun o => (World.frozen?_setCell _ _ _ _).trans (h.2.2 o)⟩
  by_cases hLK : L = K
  · subst hLK
    rw [World.cell?_setCell_same _ _ _ (h.2.1 L hL), hx]
  · rw [World.cell?_setCell_other _ _ _ _ (fun e => by injection e with _ e2; omega), ← e L hL hLK]
    exact h.2.1 L hL
theorem later_cellO {W W' : World} {p o : Nat} {u : Value} (hb : Below W.heap.size W W') (h : W.cell? ⟨p, o, none⟩ = some u) (hf : W.frozen? ⟨p, o, none⟩ = false) : W'.cell? ⟨p, o, none⟩ = some u ∧ W'.frozen? ⟨p, o, none⟩ = false :=
  ⟨(hb.cell (World.block_lt_of_cell? W _ h)).trans h, (World.frozen?_of_block (hb.block _ (World.block_lt_of_cell? W _ h))).trans hf⟩
/-- the table of tables: from row y0 on each cell leads to a table of its own -/
structure MayT (w : World) (mb x b y0 : Nat) (F : Nat → Int → Bool) : Prop where
  lt : mb < w.heap.size
  cell : ∀ y, y ≤ b → ∃ v, w.cell? ⟨mb, y, none⟩ = some v
  fr : ∀ o, w.frozen? ⟨mb, o, none⟩ = false
  tab : ∀ y, y0 ≤ y → y ≤ b → ∃ q, q ≠ mb ∧ w.cell? ⟨mb, y, none⟩ = some (.slice (some ⟨q, 0, none⟩) x x) ∧ BTab w q x (F y)
theorem MayT.keep {w w' : World} {mb x b y0 : Nat} {F : Nat → Int → Bool} (h : MayT w mb x b y0 F) (hb : Below w.heap.size w w') : MayT w' mb x b y0 F where
  lt := Nat.lt_of_lt_of_le h.lt hb.size
  cell y hy := by obtain ⟨v, hv⟩ := h.cell y hy; exact ⟨v, (hb.cell (p := ⟨mb, y, none⟩) h.lt).trans hv⟩
  fr o := (hb.frozen (p := ⟨mb, o, none⟩) h.lt).trans (h.fr o)
  tab y h0 hy := by
    obtain ⟨q, hq, hc, ht⟩ := h.tab y h0 hy
    exact ⟨q, hq, (hb.cell (p := ⟨mb, y, none⟩) h.lt).trans hc, ht.keep hb⟩
/-- a store into a table that is none of these -/
theorem MayT.grown {w w' : World} {mb x b y0 g : Nat} {F : Nat → Int → Bool} (h : MayT w mb x b y0 F) (hg : w.grownBy w' (some g)) (hm : mb ≠ g) (hn : ∀ y, y0 ≤ y → y ≤ b → w.cell? ⟨mb, y, none⟩ ≠ some (.slice (some ⟨g, 0, none⟩) x x)) : MayT w' mb x b y0 F where
  lt := Nat.lt_of_lt_of_le h.lt hg.size
  cell y hy := by obtain ⟨v, hv⟩ := h.cell y hy; exact ⟨v, (World.cell?_of_block (hg.block mb h.lt (by simpa using hm))).trans hv⟩
  fr o := (World.frozen?_of_block (hg.block mb h.lt (by simpa using hm))).trans (h.fr o)
  tab y h0 hy := by
    obtain ⟨q, hq, hc, ht⟩ := h.tab y h0 hy
    refine ⟨q, hq, (World.cell?_of_block (hg.block mb h.lt (by simpa using hm))).trans hc, ht.grown hg fun e => ?_⟩
    cases e
    exact hn y h0 hy hc
theorem MayT.drew {w : World} {mb x b y0 : Nat} {F : Nat → Int → Bool} (h : MayT w mb x b y0 F) : MayT w.drew mb x b y0 F := ⟨h.lt, h.cell, h.fr, h.tab⟩
/-- one row more: a new table is laid into the cell before -/
theorem MayT.more {w : World} {mb x b y0 q : Nat} {F : Nat → Int → Bool} (h : MayT w mb x b (y0 + 1) F) (hy : y0 ≤ b) (hq : q ≠ mb) (ht : BTab w q x (F y0)) : MayT (w.setCell ⟨mb, y0, none⟩ (.slice (some ⟨q, 0, none⟩) x x)) mb x b y0 F := by
  have hg := grown_setB (World.grownBy.refl w (some mb)) y0 (.slice (some ⟨q, 0, none⟩) x x)
  obtain ⟨v0, hv0⟩ := h.cell y0 hy
  refine ⟨by simpa using h.lt, fun y hy' => ?_, fun o => (World.frozen?_setCell _ _ _ _).trans (h.fr o), fun y h0 hy' => ?_⟩
  · by_cases e : y = y0
    · subst e; exact ⟨_, World.cell?_setCell_same _ _ _ hv0⟩
    · obtain ⟨v, hv⟩ := h.cell y hy'
      exact ⟨v, (World.cell?_setCell_other _ _ _ _ (fun e' => by injection e' with _ e2; omega)).trans hv⟩
  · by_cases e : y = y0
    · subst e
      exact ⟨q, hq, World.cell?_setCell_same _ _ _ hv0, ht.grown hg (by simpa using hq)⟩
    · obtain ⟨q', hq', hc, ht'⟩ := h.tab y (by omega) hy'
      exact ⟨q', hq', (World.cell?_setCell_other _ _ _ _ (fun e' => by injection e' with _ e2; omega)).trans hc, ht'.grown hg (by simpa using hq')⟩
/-- a store into the table of tables, below the rows that are done -/
theorem MayT.low {w : World} {mb x b y0 y : Nat} {F : Nat → Int → Bool} (h : MayT w mb x b y0 F) (hy : y < y0) (hyb : y ≤ b) (v : Value) : MayT (w.setCell ⟨mb, y, none⟩ v) mb x b y0 F := by
  have hg := grown_setB (World.grownBy.refl w (some mb)) y v
  obtain ⟨v0, hv0⟩ := h.cell y hyb
  refine ⟨by simpa using h.lt, fun y' hy' => ?_, fun o => (World.frozen?_setCell _ _ _ _).trans (h.fr o), fun y' h0 hy' => ?_⟩
  · by_cases e : y' = y
    · subst e; exact ⟨_, World.cell?_setCell_same _ _ _ hv0⟩
    · obtain ⟨u, hu⟩ := h.cell y' hy'
      exact ⟨u, (World.cell?_setCell_other _ _ _ _ (fun e' => by injection e' with _ e2; omega)).trans hu⟩
  · obtain ⟨q', hq', hc, ht'⟩ := h.tab y' h0 hy'
    exact ⟨q', hq', (World.cell?_setCell_other _ _ _ _ (fun e' => by injection e' with _ e2; omega)).trans hc, ht'.grown hg (by simpa using hq')⟩
theorem MayT.down {w : World} {mb x b y0 q : Nat} {F : Nat → Int → Bool} (h : MayT w mb x b (y0 + 1) F) (hc : w.cell? ⟨mb, y0, none⟩ = some (.slice (some ⟨q, 0, none⟩) x x)) (hq : q ≠ mb) (ht : BTab w q x (F y0)) : MayT w mb x b y0 F := by
  refine ⟨h.lt, h.cell, h.fr, fun y h0 hy => ?_⟩
  by_cases e : y = y0
  · subst e; exact ⟨q, hq, hc, ht⟩
  · exact h.tab y (by omega) hy
end Go.Proofs.YtgadfmknjpanpaaDoor

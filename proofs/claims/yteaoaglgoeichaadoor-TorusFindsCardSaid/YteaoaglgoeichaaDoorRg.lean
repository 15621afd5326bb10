/-
  Tables of bools, and a table of such tables: what groutworkref02.First keeps. No program.
-/
import Derived.Test.YteaoaglgoeichaaDoorRk
namespace Go.Proofs.YteaoaglgoeichaaDoor
open Go.RowKit Go.Maps Go.BigFrame Go.Sort
set_option linter.unusedVariables false

def BTab (w : World) (q n : Nat) (f : Int → Bool) : Prop := q < w.heap.size ∧ (∀ L, L < n → w.cell? ⟨q, L, none⟩ = some (.bool (f (L : Int)))) ∧ ∀ o, w.frozen? ⟨q, o, none⟩ = false
theorem BTab.keep {w w' : World} {q n : Nat} {f : Int → Bool} (h : BTab w q n f) (hb : Below w.heap.size w w') : BTab w' q n f :=
  ⟨Nat.lt_of_lt_of_le h.1 hb.size, fun L hL => (hb.cell (p := ⟨q, L, none⟩) h.1).trans (h.2.1 L hL), fun o => (hb.frozen (p := ⟨q, o, none⟩) h.1).trans (h.2.2 o)⟩
theorem BTab.grown {w w' : World} {q n : Nat} {f : Int → Bool} {g : Option Nat} (h : BTab w q n f) (hg : w.grownBy w' g) (hne : some q ≠ g) : BTab w' q n f :=
  ⟨Nat.lt_of_lt_of_le h.1 hg.size, fun L hL => (World.cell?_of_block (hg.block q h.1 hne)).trans (h.2.1 L hL), fun o => (World.frozen?_of_block (hg.block q h.1 hne)).trans (h.2.2 o)⟩
theorem BTab.drew {w : World} {q n : Nat} {f : Int → Bool} (h : BTab w q n f) : BTab w.drew q n f := ⟨h.1, h.2.1, h.2.2⟩
theorem BTab.congr {w : World} {q n : Nat} {f g : Int → Bool} (h : BTab w q n f) (e : ∀ L, L < n → f (L : Int) = g (L : Int)) : BTab w q n g := ⟨h.1, fun L hL => by rw [← e L hL]; exact h.2.1 L hL, h.2.2⟩
theorem BTab.set {w : World} {q n : Nat} {f g : Int → Bool} (h : BTab w q n f) (K : Nat) (hK : K < n) (x : Bool) (hx : x = g (K : Int)) (e : ∀ L, L < n → L ≠ K → f (L : Int) = g (L : Int)) : BTab (w.setCell ⟨q, K, none⟩ (.bool x)) q n g := by
  refine ⟨by simpa using h.1, fun L hL => ?_, fun o => (World.frozen?_setCell _ _ _ _).trans (h.2.2 o)⟩
  by_cases hLK : L = K
  · subst hLK
    rw [World.cell?_setCell_same _ _ _ (h.2.1 L hL), hx]
  · rw [World.cell?_setCell_other _ _ _ _ (fun e => by injection e with _ e2; omega), ← e L hL hLK]
    exact h.2.1 L hL
theorem later_cellO {W W' : World} {p o : Nat} {u : Value} (hb : Below W.heap.size W W') (h : W.cell? ⟨p, o, none⟩ = some u) (hf : W.frozen? ⟨p, o, none⟩ = false) : W'.cell? ⟨p, o, none⟩ = some u ∧ W'.frozen? ⟨p, o, none⟩ = false :=
  ⟨(hb.cell (World.block_lt_of_cell? W _ h)).trans h, (World.frozen?_of_block (hb.block _ (World.block_lt_of_cell? W _ h))).trans hf⟩
/-- the table of tables: from row y0 on each cell leads to a table of its own -/
structure MayT (w : World) (mb x b y0 : Nat) (F : Nat → Int → Bool) : Prop where
  lt : mb < w.heap.size
  cell : ∀ y, y ≤ b → ∃ v, w.cell? ⟨mb, y, none⟩ = some v
  fr : ∀ o, w.frozen? ⟨mb, o, none⟩ = false
  tab : ∀ y, y0 ≤ y → y ≤ b → ∃ q, q ≠ mb ∧ w.cell? ⟨mb, y, none⟩ = some (.slice (some ⟨q, 0, none⟩) x x) ∧ BTab w q x (F y)
theorem MayT.keep {w w' : World} {mb x b y0 : Nat} {F : Nat → Int → Bool} (h : MayT w mb x b y0 F) (hb : Below w.heap.size w w') : MayT w' mb x b y0 F where
  lt := Nat.lt_of_lt_of_le h.lt hb.size
  cell y hy := by obtain ⟨v, hv⟩ := h.cell y hy; exact ⟨v, (hb.cell (p := ⟨mb, y, none⟩) h.lt).trans hv⟩
  fr o := (hb.frozen (p := ⟨mb, o, none⟩) h.lt).trans (h.fr o)
  tab y h0 hy := by
    obtain ⟨q, hq, hc, ht⟩ := h.tab y h0 hy
    exact ⟨q, hq, (hb.cell (p := ⟨mb, y, none⟩) h.lt).trans hc, ht.keep hb⟩
/-- a store into a table that is none of these -/
theorem MayT.grown {w w' : World} {mb x b y0 g : Nat} {F : Nat → Int → Bool} (h : MayT w mb x b y0 F) (hg : w.grownBy w' (some g)) (hm : mb ≠ g) (hn : ∀ y, y0 ≤ y → y ≤ b → w.cell? ⟨mb, y, none⟩ ≠ some (.slice (some ⟨g, 0, none⟩) x x)) : MayT w' mb x b y0 F where
  lt := Nat.lt_of_lt_of_le h.lt hg.size
  cell y hy := by obtain ⟨v, hv⟩ := h.cell y hy; exact ⟨v, (World.cell?_of_block (hg.block mb h.lt (by simpa using hm))).trans hv⟩
  fr o := (World.frozen?_of_block (hg.block mb h.lt (by simpa using hm))).trans (h.fr o)
  tab y h0 hy := by
    obtain ⟨q, hq, hc, ht⟩ := h.tab y h0 hy
    refine ⟨q, hq, (World.cell?_of_block (hg.block mb h.lt (by simpa using hm))).trans hc, ht.grown hg fun e => ?_⟩
    cases e
    exact hn y h0 hy hc
theorem MayT.drew {w : World} {mb x b y0 : Nat} {F : Nat → Int → Bool} (h : MayT w mb x b y0 F) : MayT w.drew mb x b y0 F := ⟨h.lt, h.cell, h.fr, h.tab⟩
/-- one row more: a new table is laid into the cell before -/
theorem MayT.more {w : World} {mb x b y0 q : Nat} {F : Nat → Int → Bool} (h : MayT w mb x b (y0 + 1) F) (hy : y0 ≤ b) (hq : q ≠ mb) (ht : BTab w q x (F y0)) : MayT (w.setCell ⟨mb, y0, none⟩ (.slice (some ⟨q, 0, none⟩) x x)) mb x b y0 F := by
  have hg := grown_set (World.grownBy.refl w (some mb)) y0 (.slice (some ⟨q, 0, none⟩) x x)
  obtain ⟨v0, hv0⟩ := h.cell y0 hy
  refine ⟨by simpa using h.lt, fun y hy' => ?_, fun o => (World.frozen?_setCell _ _ _ _).trans (h.fr o), fun y h0 hy' => ?_⟩
  · by_cases e : y = y0
    · subst e; exact ⟨_, World.cell?_setCell_same _ _ _ hv0⟩
    · obtain ⟨v, hv⟩ := h.cell y hy'
      exact ⟨v, (World.cell?_setCell_other _ _ _ _ (fun e' => by injection e' with _ e2; omega)).trans hv⟩
  · by_cases e : y = y0
    · subst e
      exact ⟨q, hq, World.cell?_setCell_same _ _ _ hv0, ht.grown hg (by simpa using hq)⟩
    · obtain ⟨q', hq', hc, ht'⟩ := h.tab y (by omega) hy'
      exact ⟨q', hq', (World.cell?_setCell_other _ _ _ _ (fun e' => by injection e' with _ e2; omega)).trans hc, ht'.grown hg (by simpa using hq')⟩
/-- a store into the table of tables, below the rows that are done -/
theorem MayT.low {w : World} {mb x b y0 y : Nat} {F : Nat → Int → Bool} (h : MayT w mb x b y0 F) (hy : y < y0) (hyb : y ≤ b) (v : Value) : MayT (w.setCell ⟨mb, y, none⟩ v) mb x b y0 F := by
  have hg := grown_set (World.grownBy.refl w (some mb)) y v
  obtain ⟨v0, hv0⟩ := h.cell y hyb
  refine ⟨by simpa using h.lt, fun y' hy' => ?_, fun o => (World.frozen?_setCell _ _ _ _).trans (h.fr o), fun y' h0 hy' => ?_⟩
  · by_cases e : y' = y
    · subst e; exact ⟨_, World.cell?_setCell_same _ _ _ hv0⟩
    · obtain ⟨u, hu⟩ := h.cell y' hy'
      exact ⟨u, (World.cell?_setCell_other _ _ _ _ (fun e' => by injection e' with _ e2; omega)).trans hu⟩
  · obtain ⟨q', hq', hc, ht'⟩ := h.tab y' h0 hy'
    exact ⟨q', hq', (World.cell?_setCell_other _ _ _ _ (fun e' => by injection e' with _ e2; omega)).trans hc, ht'.grown hg (by simpa using hq')⟩
theorem MayT.down {w : World} {mb x b y0 q : Nat} {F : Nat → Int → Bool} (h : MayT w mb x b (y0 + 1) F) (hc : w.cell? ⟨mb, y0, none⟩ = some (.slice (some ⟨q, 0, none⟩) x x)) (hq : q ≠ mb) (ht : BTab w q x (F y0)) : MayT w mb x b y0 F := by
  refine ⟨h.lt, h.cell, h.fr, fun y h0 hy => ?_⟩
  by_cases e : y = y0
  · subst e; exact ⟨q, hq, hc, ht⟩
  · exact h.tab y (by omega) hy
theorem own_form' {w : World} {base n : Nat} {e : TypeId} {v : Value} {xs : List Value} (h : w.ownsRow base e 1 v n xs) : ∃ A c, v = .slice A n c := by
  rcases h.2 with ⟨rfl, h0⟩ | ⟨g, cap, cur, rfl, _⟩
  · subst h0; exact ⟨none, 0, rfl⟩
  · exact ⟨_, _, rfl⟩
theorem row_set {w : World} {q : Nat} {z0 z1 z2 a b c : Value} {t : TypeId} (h : w.heap[q]? = some (.cells #[z0, z1, z2] t (0, 0))) :
    (((w.setCell ⟨q, 0, none⟩ a).setCell ⟨q, 1, none⟩ b).setCell ⟨q, 2, none⟩ c).heap[q]? = some (.cells #[a, b, c] t (0, 0)) := by
  have h1 := heap_setCell_same _ q 2 _ t c (heap_setCell_same _ q 1 _ t b (heap_setCell_same w q 0 _ t a h))
  rw [h1]
  rfl
section
variable (R : List (List Nat)) (adm : Nat → List Nat → Bool) (fS fN : List Nat → Int) (b : Nat)
/-- a row y may be laid over a line -/
def mayF (y : Nat) (l : Int) : Bool := decide (0 < ways R adm fS fN (b - y) y l)
/-- so it is with one of the first i rows -/
def mayG (y i : Nat) (l : Int) : Bool := decide (0 < pOf R adm fS fN b y i l)
theorem mayF_top (l : Int) : mayF R adm fS fN b b l = true := by unfold mayF; rw [Nat.sub_self]; rfl
theorem mayG_zero (y : Nat) (l : Int) : mayG R adm fS fN b y 0 l = false := by unfold mayG; rw [pOf_zero]; rfl
theorem mayG_all (y : Nat) (hy : y < b) (l : Int) : mayG R adm fS fN b y R.length l = mayF R adm fS fN b y l := by unfold mayG mayF; rw [pOf_all R adm fS fN b y hy]
theorem mayG_no (y i : Nat) (r : List Nat) (hr : R[i]? = some r) (ha : (mayF R adm fS fN b (y + 1) (fN r) && adm y r) = false) (l : Int) : mayG R adm fS fN b y (i + 1) l = mayG R adm fS fN b y i l := by
  unfold mayG
  cases h : adm y r
  · rw [pOf_no R adm fS fN b y i r hr h]
  · rw [pOf_yes R adm fS fN b y i r hr h]
    have hv : vOf R adm fS fN b y r = 0 := by
      rw [h, Bool.and_true] at ha
      unfold mayF at ha
      rw [decide_eq_false_iff_not] at ha
      unfold vOf
      omega
    rw [hv]
    split <;> simp
theorem mayG_yes (y i : Nat) (r : List Nat) (hr : R[i]? = some r) (ha : (mayF R adm fS fN b (y + 1) (fN r) && adm y r) = true) (l : Int) : mayG R adm fS fN b y (i + 1) l = if fS r = l then true else mayG R adm fS fN b y i l := by
  rw [Bool.and_eq_true] at ha
  unfold mayG
  rw [pOf_yes R adm fS fN b y i r hr ha.2]
  have hv : 0 < vOf R adm fS fN b y r := of_decide_eq_true ha.1
  split
  · exact decide_eq_true (by omega)
  · rw [Nat.add_zero]
/-- may this row come next? -/
def nextB (y : Nat) (below : Option Int) (r : List Nat) : Bool := stands fS below r && (mayF R adm fS fN b (y + 1) (fN r) && adm y r)
theorem next_found {y : Nat} (hy : y < b) {below : Option Int} {P : List (List Nat)} {X : Option (List (List Nat))} (hX : X = (stk R adm fS fN (b - y) y below).head?.map (P ++ ·)) {i : Nat} {r : List Nat} (hr : R[i]? = some r)
    (hno : ∀ k, k < i → ∀ q, R[k]? = some q → nextB R adm fS fN b y below q = false) (hyes : nextB R adm fS fN b y below r = true) : X = (stk R adm fS fN (b - (y + 1)) (y + 1) (some (fN r))).head?.map ((P ++ [r]) ++ ·) := by
  have e : b - y = (b - (y + 1)) + 1 := by omega
  have hp : pick R adm fS fN (b - (y + 1)) y below = some r := by
    unfold pick
    rw [List.find?_eq_some_iff_getElem]
    refine ⟨hyes, i, (List.getElem?_eq_some_iff.1 hr).1, (List.getElem?_eq_some_iff.1 hr).2, fun k hk => ?_⟩
    have hkl : k < R.length := Nat.lt_trans hk (List.getElem?_eq_some_iff.1 hr).1
    have := hno k hk _ (List.getElem?_eq_getElem hkl)
    unfold nextB mayF at this
    rw [this]
    rfl
  rw [hX, e, first_step, hp]
  simp only [Option.bind_some, Option.map_map]
  congr 1
  funext t
  simp
theorem next_none {y : Nat} (hy : y < b) {below : Option Int} {P : List (List Nat)} {X : Option (List (List Nat))} (hX : X = (stk R adm fS fN (b - y) y below).head?.map (P ++ ·))
    (hno : ∀ k, k < R.length → ∀ q, R[k]? = some q → nextB R adm fS fN b y below q = false) : X = none := by
  have e : b - y = (b - (y + 1)) + 1 := by omega
  have hp : pick R adm fS fN (b - (y + 1)) y below = none := by
    unfold pick
    rw [List.find?_eq_none]
    intro q hq
    obtain ⟨k, hk, rfl⟩ := List.mem_iff_getElem.1 hq
    have := hno k hk _ (List.getElem?_eq_getElem hk)
    unfold nextB mayF at this
    rw [this]
    simp
  rw [hX, e, first_step, hp]
  rfl
end
end Go.Proofs.YteaoaglgoeichaaDoor

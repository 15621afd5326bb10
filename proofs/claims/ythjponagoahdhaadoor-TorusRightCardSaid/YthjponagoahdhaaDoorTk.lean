/-
  Package torus: what climb keeps: the tower, how many rings over each of its rings were tried, the lines that are dead.
-/
import Derived.Test.YthjponagoahdhaaDoorTo
import Derived.Test.YthjponagoahdhaaDoorRg
namespace Go.Proofs.YthjponagoahdhaaDoor
open Go.RowKit Go.Maps Go.BigFrame Go.Sort
set_option linter.unusedVariables false
set_option linter.unusedSimpArgs false
set_option maxRecDepth 100000

/-- the tower: from its lowest ring up -/
def twr (r : Nat) (T : List (Nat × Nat)) : List Nat := (r :: T.map Prod.fst).reverse
theorem twr_len (r : Nat) (T : List (Nat × Nat)) : (twr r T).length = T.length + 1 := by simp [twr]
theorem twr_top (r : Nat) (T : List (Nat × Nat)) : (twr r T)[T.length]? = some r := by
  unfold twr
  rw [List.reverse_cons, List.getElem?_append_right (by simp)]
  simp
theorem twr_put (q r i : Nat) (T : List (Nat × Nat)) : twr q ((r, i) :: T) = twr r T ++ [q] := by simp [twr]
theorem twr_fall (r r' i : Nat) (T : List (Nat × Nat)) : (twr r ((r', i) :: T)).take (T.length + 1) = twr r' T := by
  rw [twr_put, List.take_left' (twr_len r' T)]
/-- how many rings over each ring were tried -/
def TrOk (f : Nat → Nat) : Nat → List (Nat × Nat) → Prop
  | i, [] => f 0 = i
  | i, (_, i') :: T => f (T.length + 1) = i ∧ TrOk f i' T
theorem TrOk.top {f : Nat → Nat} {i : Nat} {T : List (Nat × Nat)} (h : TrOk f i T) : f T.length = i := by
  cases T with
  | nil => exact h
  | cons p T => exact h.1
theorem TrOk.congr {f g : Nat → Nat} : ∀ {T : List (Nat × Nat)} {i : Nat}, TrOk f i T → (∀ j, j ≤ T.length → f j = g j) → TrOk g i T
  | [], i, h, e => by rw [TrOk, ← e 0 (by simp)]; exact h
  | (_, i') :: T, i, h, e => ⟨by rw [← e (T.length + 1) (by simp)]; exact h.1, TrOk.congr h.2 fun j hj => e j (by simp; omega)⟩
def updF (f : Nat → Nat) (k v : Nat) : Nat → Nat := fun j => if j = k then v else f j
theorem TrOk.set {f : Nat → Nat} {i : Nat} {T : List (Nat × Nat)} (h : TrOk f i T) (v : Nat) : TrOk (updF f T.length v) v T := by
  cases T with
  | nil => simp [TrOk, updF]
  | cons p T => exact ⟨by simp [updF], h.2.congr fun j hj => by simp [updF]; intro e; omega⟩
theorem TrOk.put {f : Nat → Nat} {i r : Nat} {T : List (Nat × Nat)} (h : TrOk f i T) : TrOk (updF f (T.length + 1) 0) 0 ((r, i) :: T) :=
  ⟨by simp [updF], h.congr fun j hj => by simp [updF]; intro e; omega⟩
/-- a table of numbers -/
structure ITab (w : World) (q n : Nat) (f : Nat → Nat) : Prop where
  lt : q < w.heap.size
  at_ : ∀ j, j < n → w.cell? ⟨q, j, none⟩ = some (.int .i64 (f j : Nat))
  fr : ∀ o, w.frozen? ⟨q, o, none⟩ = false
theorem ITab.keep {w w' : World} {q n : Nat} {f : Nat → Nat} (h : ITab w q n f) (hb : Below w.heap.size w w') : ITab w' q n f :=
  ⟨Nat.lt_of_lt_of_le h.lt hb.size, fun j hj => (hb.cell (p := ⟨q, j, none⟩) h.lt).trans (h.at_ j hj), fun o => (hb.frozen (p := ⟨q, o, none⟩) h.lt).trans (h.fr o)⟩
theorem ITab.grown {w w' : World} {q n : Nat} {f : Nat → Nat} {g : Option Nat} (h : ITab w q n f) (hg : w.grownBy w' g) (hne : some q ≠ g) : ITab w' q n f :=
  ⟨Nat.lt_of_lt_of_le h.lt hg.size, fun j hj => (World.cell?_of_block (hg.block q h.lt hne)).trans (h.at_ j hj), fun o => (World.frozen?_of_block (hg.block q h.lt hne)).trans (h.fr o)⟩
theorem ITab.set {w : World} {q n : Nat} {f : Nat → Nat} (h : ITab w q n f) (k v : Nat) (hk : k < n) : ITab (w.setCell ⟨q, k, none⟩ (.int .i64 (v : Nat))) q n (updF f k v) := by
  refine ⟨by simpa using h.lt, fun j hj => ?_, fun o => (World.frozen?_setCell _ _ _ _).trans (h.fr o)⟩
  by_cases e : j = k
  · subst e
    rw [World.cell?_setCell_same _ _ _ (h.at_ j hj)]
    simp [updF]
  · rw [World.cell?_setCell_other _ _ _ _ (fun e' => by injection e' with _ e2; omega), h.at_ j hj]
    simp [updF, e]
/-- the lines that are dead: a table of tables, each of its own; all lie from block B on and below block T -/
structure DeadT (w : World) (B T mb x h : Nat) (Q : Nat → Nat) (F : Nat → Nat → Bool) : Prop where
  le : B ≤ mb
  lt : mb < T
  up : T ≤ w.heap.size
  fr : ∀ o, w.frozen? ⟨mb, o, none⟩ = false
  tab : ∀ y, y < h → Q y ≠ mb ∧ B ≤ Q y ∧ Q y < T ∧ w.cell? ⟨mb, y, none⟩ = some (.slice (some ⟨Q y, 0, none⟩) x x) ∧ BTab w (Q y) x (fun l => F y l.toNat)
  inj : ∀ y y', y < h → y' < h → Q y = Q y' → y = y'
theorem DeadT.keep {w w' : World} {B T mb x h : Nat} {Q : Nat → Nat} {F : Nat → Nat → Bool} (d : DeadT w B T mb x h Q F) (hb : Below T w w') : DeadT w' B T mb x h Q F where
  le := d.le
  lt := d.lt
  up := Nat.le_trans d.up hb.size
  fr o := (hb.frozen (p := ⟨mb, o, none⟩) d.lt).trans (d.fr o)
  tab y hy := by
    obtain ⟨h1, h2, h3, h4, h5⟩ := d.tab y hy
    refine ⟨h1, h2, h3, (hb.cell (p := ⟨mb, y, none⟩) d.lt).trans h4, Nat.lt_of_lt_of_le h5.1 hb.size, fun L hL => (hb.cell (p := ⟨Q y, L, none⟩) h3).trans (h5.2.1 L hL), fun o => (hb.frozen (p := ⟨Q y, o, none⟩) h3).trans (h5.2.2 o)⟩
  inj := d.inj
theorem DeadT.mono {w : World} {B T T' mb x h : Nat} {Q : Nat → Nat} {F : Nat → Nat → Bool} (d : DeadT w B T mb x h Q F) (h1 : T ≤ T') (h2 : T' ≤ w.heap.size) : DeadT w B T' mb x h Q F where
  le := d.le
  lt := Nat.lt_of_lt_of_le d.lt h1
  up := h2
  fr := d.fr
  tab y hy := by
    obtain ⟨a, b, c, e, f⟩ := d.tab y hy
    exact ⟨a, b, Nat.lt_of_lt_of_le c h1, e, f⟩
  inj := d.inj
/-- a store into one of the tables -/
theorem DeadT.set {w w' : World} {B T mb x h : Nat} {Q : Nat → Nat} {F : Nat → Nat → Bool} (d : DeadT w B T mb x h Q F) (y : Nat) (hy : y < h) (hg : w.grownBy w' (some (Q y))) (G : Nat → Bool) (hb : BTab w' (Q y) x (fun l => G l.toNat)) :
    DeadT w' B T mb x h Q (fun y' l => if y' = y then G l else F y' l) := by
  obtain ⟨a0, b0, c0, e0, f0⟩ := d.tab y hy
  have hmb : mb < w.heap.size := Nat.lt_of_lt_of_le d.lt d.up
  have hne : some mb ≠ some (Q y) := fun e => by injection e with e; exact a0 e.symm
  refine ⟨d.le, d.lt, Nat.le_trans d.up hg.size, fun o => (World.frozen?_of_block (hg.block mb hmb hne)).trans (d.fr o), fun y' hy' => ?_, d.inj⟩
  obtain ⟨a, b, c, e, f⟩ := d.tab y' hy'
  refine ⟨a, b, c, (World.cell?_of_block (hg.block mb hmb hne)).trans e, ?_⟩
  by_cases hyy : y' = y
  · subst hyy
    simpa using hb
  · simp only [if_neg hyy]
    exact f.grown hg fun e => by injection e with e; exact hyy (d.inj y' y hy' hy e)
theorem DeadT.mark {w : World} {B T mb x h : Nat} {Q : Nat → Nat} {F : Nat → Nat → Bool} (d : DeadT w B T mb x h Q F) (y l : Nat) (hy : y < h) (hl : l < x) :
    DeadT (w.setCell ⟨Q y, l, none⟩ (.bool true)) B T mb x h Q (fun y' l' => if y' = y ∧ l' = l then true else F y' l') := by
  obtain ⟨a0, b0, c0, e0, f0⟩ := d.tab y hy
  have h1 := d.set y hy (grown_one w (Q y) l (.bool true)) (fun l' => if l' = l then true else F y l') (f0.set l hl true (by simp) (fun L hL hne => by simp [hne]))
  have e : (fun y' l' => if y' = y then (if l' = l then true else F y l') else F y' l') = fun y' l' => if y' = y ∧ l' = l then true else F y' l' := by
    funext y' l'
    by_cases h1 : y' = y
    · subst h1; simp
    · simp [h1]
  rw [e] at h1
  exact h1
theorem DeadT.at_ {w : World} {B T mb x h : Nat} {Q : Nat → Nat} {F : Nat → Nat → Bool} (d : DeadT w B T mb x h Q F) (y l : Nat) (hy : y < h) (hl : l < x) : w.cell? ⟨Q y, l, none⟩ = some (.bool (F y l)) := by
  have := (d.tab y hy).2.2.2.2.2.1 l hl
  simpa using this
/-- the first numbers of a row -/
theorem own_prefix {w : World} {base n y c : Nat} {e : TypeId} {A : Option Addr} {xs : List Value} (h : w.ownsRow base e 1 (.slice A n c) n xs) (hy : y ≤ n) : w.ownsRow base e 1 (.slice A y c) y (xs.take y) := by
  have hl := h.1
  rcases h.2 with ⟨h0, h1⟩ | ⟨g, cap, cur, hv, hg, hh, hnc, hm, hs, hx⟩
  · simp at h0
    obtain ⟨rfl, rfl, rfl⟩ := h0
    have : y = 0 := by omega
    subst this
    exact ⟨by simp, Or.inl ⟨rfl, rfl⟩⟩
  · simp at hv
    obtain ⟨rfl, rfl⟩ := hv
    refine ⟨by simp; omega, Or.inr ⟨g, c, cur, rfl, hg, hh, by omega, hm, hs, ?_⟩⟩
    rw [← hx, List.take_take]
    congr 1
    omega
/-- what climb hands back -/
def IsClimb (over : Nat → List Nat) (nor sou : Nat → Nat) (B T mb x h bottom : Nat) (Q : Nat → Nat) (W : World) (e : Ending) (w' : World) : Prop :=
  ∃ v F', e = .returned v ∧ Below B W w' ∧ DeadT w' B T mb x h Q F' ∧ match towerT over nor sou h bottom with
    | none => v = .slice none 0 0
    | some u => ∃ A c, v = .slice A u.length c ∧ IntsIn w' w'.heap.size A (idxI u)
end Go.Proofs.YthjponagoahdhaaDoor

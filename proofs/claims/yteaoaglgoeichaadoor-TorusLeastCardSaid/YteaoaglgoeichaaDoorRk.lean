/-
  groutworkref02.Count: how many patterns there are, if Rows returns the rows.
-/
import Derived.Test.YteaoaglgoeichaaDoorFj
import Derived.Test.YteaoaglgoeichaaDoorFc
import Derived.Test.YteaoaglgoeichaaDoorRn
import Derived.Deep.Cut
import Derived.Deep.CutRange
namespace Go.Proofs.YteaoaglgoeichaaDoor
open Go.RowKit Go.Maps Go.BigFrame Go.Sort
set_option linter.unusedVariables false
set_option linter.unusedSimpArgs false
set_option maxRecDepth 100000

/-- what Rows returns -/
def IsRowsR (s : List Tl) (wd : Nat) (W : World) (e : Ending) (w' : World) : Prop :=
  ∃ v Z, e = .returned v ∧ Z.map (·.2.2) = rws s wd ∧ w'.ownsRow W.heap.size 82 3 v Z.length (Z.flatMap (rz s)) ∧ ZOk w' W.heap.size v.ownBlock Z ∧ Below W.heap.size W w'
/-- a table of capped numbers -/
def Tab (w : World) (q n : Nat) (f : Int → Nat) : Prop := q < w.heap.size ∧ (∀ L, L < n → w.cell? ⟨q, L, none⟩ = some (.int .i64 ((min (f (L : Int)) cap : Nat) : Int))) ∧ ∀ o, w.frozen? ⟨q, o, none⟩ = false
theorem Tab.keep {w w' : World} {q n : Nat} {f : Int → Nat} (h : Tab w q n f) (hb : Below w.heap.size w w') : Tab w' q n f :=
  ⟨Nat.lt_of_lt_of_le h.1 hb.size, fun L hL => (hb.cell (p := ⟨q, L, none⟩) h.1).trans (h.2.1 L hL), fun o => (hb.frozen (p := ⟨q, o, none⟩) h.1).trans (h.2.2 o)⟩
theorem Tab.drew {w : World} {q n : Nat} {f : Int → Nat} (h : Tab w q n f) : Tab w.drew q n f := ⟨h.1, h.2.1, h.2.2⟩
theorem Tab.congr {w : World} {q n : Nat} {f g : Int → Nat} (h : Tab w q n f) (e : ∀ L, L < n → f (L : Int) = g (L : Int)) : Tab w q n g := ⟨h.1, fun L hL => by rw [← e L hL]; exact h.2.1 L hL, h.2.2⟩
theorem Tab.set {w : World} {q n : Nat} {f g : Int → Nat} (h : Tab w q n f) (K : Nat) (hK : K < n) (x : Nat) (hx : x = min (g (K : Int)) cap) (e : ∀ L, L < n → L ≠ K → f (L : Int) = g (L : Int)) : Tab (w.setCell ⟨q, K, none⟩ (.int .i64 (x : Int))) q n g := by
  refine ⟨by simpa using h.1, fun L hL => ?_, fun o => (World.frozen?_setCell _ _ _ _).trans (h.2.2 o)⟩
  by_cases hLK : L = K
  · subst hLK
    rw [World.cell?_setCell_same _ _ _ (h.2.1 L hL), hx]
  · rw [World.cell?_setCell_other _ _ _ _ (fun e => by injection e with _ e2; omega), ← e L hL hLK]
    exact h.2.1 L hL
theorem zrow_at {s : List Tl} {wd : Nat} {Z : List (Nat × Nat × List Nat)} (hZ : Z.map (·.2.2) = rws s wd) {i : Nat} {z : Nat × Nat × List Nat} (hz : Z[i]? = some z) : (rws s wd)[i]? = some z.2.2 := by rw [← hZ, List.getElem?_map, hz]; rfl
theorem zcells4 {w : World} {q : Nat} {a b c d : Value} {t : TypeId} (h : w.heap[q]? = some (.cells #[a, b, c, d] t (0, 0))) : w.cell? ⟨q, 0, none⟩ = some a ∧ w.cell? ⟨q, 1, none⟩ = some b ∧ w.cell? ⟨q, 2, none⟩ = some c ∧ w.cell? ⟨q, 3, none⟩ = some d ∧ ∀ o, w.frozen? ⟨q, o, none⟩ = false := by
  refine ⟨?_, ?_, ?_, ?_, fun o => ?_⟩ <;> simp [World.cell?, World.frozen?, h]
theorem grown_set {w wr : World} {q : Nat} (h : w.grownBy wr (some q)) (o : Nat) (v : Value) : w.grownBy (wr.setCell ⟨q, o, none⟩ v) (some q) := by
  refine ⟨h.os, h.tape, h.output, by simpa using h.size, fun k hk hne => ?_⟩
  rw [Below.heap_setCell _ _ _ _ (by intro e; exact hne (by rw [e]))]
  exact h.block k hk hne
theorem grown_below {w w' w2 : World} {q : Nat} (h : w.grownBy w' (some q)) (hb : Below w'.heap.size w' w2) : w.grownBy w2 (some q) :=
  ⟨hb.os.trans h.os, hb.tape.trans h.tape, hb.output.trans h.output, Nat.le_trans h.size hb.size, fun k hk hne => (hb.block k (Nat.lt_of_lt_of_le hk h.size)).trans (h.block k hk hne)⟩
end Go.Proofs.YteaoaglgoeichaaDoor

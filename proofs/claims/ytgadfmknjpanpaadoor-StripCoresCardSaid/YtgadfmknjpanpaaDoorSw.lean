/-
  Structs and arrays of many cells, whole: loads and stores at a block that is known whole; rows of such structs.
  A slice literal of one struct of many cells.
-/
import Derived.Test.YtgadfmknjpanpaaDoorAE
import Derived.Deep.MidRow
import Derived.Laws.Rows
namespace Go.Proofs.YtgadfmknjpanpaaDoor
section
open Go.RowKit Go.Maps Go.BigFrame
set_option linter.unusedVariables false

theorem setCell_heap_size (w : World) (a : Addr) (v : Value) : (w.setCell a v).heap.size = w.heap.size := by simp [World.setCell]
theorem setCells_grown (b : Nat) : ∀ (vs : List Value) (o : Nat) (w : World), w.grownBy (w.setCells b o vs) (some b) ∧ (w.setCells b o vs).heap.size = w.heap.size
  | [], o, w => ⟨⟨rfl, rfl, rfl, Nat.le_refl _, fun _ _ _ => rfl⟩, rfl⟩
  | v :: vs, o, w => by
    obtain ⟨h1, h2⟩ := setCells_grown b vs (o + 1) (w.setCell ⟨b, o, none⟩ v)
    have hs := setCell_heap_size w ⟨b, o, none⟩ v
    refine ⟨⟨h1.os, h1.tape, h1.output, by have := h1.size; rw [hs] at this; exact this, fun k hk hne => ?_⟩, h2.trans hs⟩
    have e : k ≠ b := fun e => hne (by rw [e])
    exact (h1.block k (by rw [hs]; exact hk) hne).trans (heap_setCell_other w ⟨b, o, none⟩ k v e)
theorem setCells_block (b : Nat) (t : TypeId) : ∀ (vs : List Value) (pre zs : List Value) (w : World), w.heap[b]? = some (.cells (pre ++ zs).toArray t (0, 0)) → zs.length = vs.length → b < w.heap.size →
    (w.setCells b pre.length vs).heap[b]? = some (.cells (pre ++ vs).toArray t (0, 0))
  | [], pre, zs, w, h, hl, _ => by
    have : zs = [] := List.eq_nil_of_length_eq_zero hl
    subst this
    exact h
  | v :: vs, pre, [], w, h, hl, _ => by simp at hl
  | v :: vs, pre, z :: zs, w, h, hl, hb => by
    have h1 := heap_setCell_same w b pre.length (pre ++ z :: zs).toArray t v h
    have e : ((pre ++ z :: zs).toArray.setIfInBounds pre.length v) = ((pre ++ [v]) ++ zs).toArray := by simp
    have h2 : (w.setCell ⟨b, pre.length, none⟩ v).heap[b]? = some (.cells ((pre ++ [v]) ++ zs).toArray t (0, 0)) := by
      rw [← e]
      exact h1
    have h3 := setCells_block b t vs (pre ++ [v]) zs _ h2 (by simpa using hl) (by rw [setCell_heap_size]; exact hb)
    rw [List.append_assoc] at h3
    rw [List.length_append] at h3
    exact h3
theorem there_block {w : World} {b : Nat} {zs : Array Value} {t : TypeId} (h : w.heap[b]? = some (.cells zs t (0, 0))) : w.there b 0 zs.size := fun j hj => by
  refine ⟨?_, by simp [World.frozen?, h]⟩
  rw [Nat.zero_add, cell_of_row w b j zs t (0, 0) h, Array.getElem?_eq_getElem hj]
  rfl
/-- A store of a whole struct or array into a block of its own. -/
theorem wpList_store_whole {P : Program} {ops : Array Oper} {rest : List Oper} {op : Oper} {a : Act} {w : World} {Q : Exit → Act → World → Prop} (hgd : op.guard = none) (ty : TypeId) (x y : Operand) (ho : op.op = .store ty x y)
    (b : Nat) (cells : Array Value) (hx : a.eval x = .pointer (some ⟨b, 0, none⟩)) (hy : a.eval y = .agg cells) (zs : Array Value) (t : TypeId) (hb : w.heap[b]? = some (.cells zs t (0, 0))) (hz : zs.size = cells.size)
    (hi : (P.info? ty).map (·.size) = some cells.size) (h1 : cells.all (·.oneCell') = true)
    (h : ∀ W', w.grownBy W' (some b) → W'.heap.size = w.heap.size → W'.heap[b]? = some (.cells cells t (0, 0)) → wpList P ops Q rest (a.put op.dst undef) W') : wpList P ops Q (op :: rest) a w := by
  refine wpList_store_mid hgd ty x y ho b 0 cells hx hy (by rw [← hz]; exact there_block hb) hi h1 ?_
  obtain ⟨g1, g2⟩ := setCells_grown b cells.toList 0 w
  refine h _ g1 g2 ?_
  have := setCells_block b t cells.toList [] zs.toList w (by simpa using hb) (by simpa using hz) (Array.getElem?_eq_some_iff.1 hb).1
  simpa using this
theorem below_of_grown {w w' : World} {b B : Nat} (h : w.grownBy w' (some b)) (hB : B ≤ b) (hl : B ≤ w.heap.size) : Below B w w' :=
  ⟨h.os, h.tape, h.output, h.size, fun k hk => h.block k (by omega) (by simp; omega)⟩

theorem below_two (w : World) (A B : Obj) : Below w.heap.size w ((w.alloc A).alloc B) := ((Below.refl w.heap.size w).alloc (Nat.le_refl _) _).alloc (by simp) _
theorem wpList_wanted {P : Program} {ops : Array Oper} {rest : List Oper} {o : Oper} {a : Act} {w : World} {Q : Exit → Act → World → Prop} (hw : Region.wanted o (yielded ops a.tmps) = true)
    (h : ∀ K : Act → World → Prop, (∀ a w, wpList P ops Q rest a w → K a w) → o.wp P a w K Q) : wpList P ops Q (o :: rest) a w :=
  wpList_step fun K hK => by simp only [hw, if_true]; exact h K hK
/-- a load of a whole struct behind a guard that lets it run -/
theorem wpList_load_row_g {P : Program} {ops : Array Oper} {rest : List Oper} {o : Oper} {a : Act} {w : World} {Q : Exit → Act → World → Prop} (hw : Region.wanted o (yielded ops a.tmps) = true) (ty : TypeId) (x : Operand) (ho : o.op = .load ty x)
    (g : Nat) (hx : a.eval x = .pointer (some ⟨g, 0, none⟩)) (t : TypeId) (cs : Array Value) (fr : Nat × Nat) (d : TypeDesc) (hg : w.heap[g]? = some (.cells cs t fr))
    (hu : P.underlying ty = some d) (hd : (match d with | .struct _ | .array _ _ => true | _ => false) = true) (hi : (P.info? ty).map (·.size) = some cs.size)
    (h : wpList P ops Q rest (a.put o.dst (.agg cs)) w) : wpList P ops Q (o :: rest) a w :=
  wpList_wanted hw fun _ hK => wp_load_row ty x ho g hx t cs fr d hg hu hd hi (hK _ _ h)
/-- a variable that is made and filled -/
theorem below_var {wo wz : World} {o : Obj} (hg : (wo.alloc o).grownBy wz (some wo.heap.size)) : Below wo.heap.size wo wz :=
  ⟨hg.os, hg.tape, hg.output, by have := hg.size; simp at this; omega, fun j hj => (hg.block j (by simp; omega) (by simp; omega)).trans (by show (wo.heap.push o)[j]? = _; rw [Array.getElem?_push, if_neg (by omega)])⟩
/-! rows of structs: the cells of the elements, one behind the other -/
theorem flat_len {α : Type} (f : α → List Value) (k : Nat) : ∀ l : List α, (∀ a ∈ l, (f a).length = k) → (l.flatMap f).length = l.length * k
  | [], _ => by simp
  | a :: l, h => by rw [List.flatMap_cons, List.length_append, h a (by simp), flat_len f k l fun b hb => h b (by simp [hb]), List.length_cons, Nat.add_mul, Nat.one_mul, Nat.add_comm]
theorem flat_at {α : Type} (f : α → List Value) (k : Nat) : ∀ (l : List α), (∀ a ∈ l, (f a).length = k) → ∀ (i : Nat) (a : α), l[i]? = some a → ∀ j, j < k → (l.flatMap f)[i * k + j]? = (f a)[j]?
  | [], _, i, a, h, _, _ => by simp at h
  | b :: l, hf, 0, a, h, j, hj => by
    have e : b = a := by simpa using h
    subst e
    rw [List.flatMap_cons, Nat.zero_mul, Nat.zero_add, List.getElem?_append_left (by rw [hf b (by simp)]; exact hj)]
  | b :: l, hf, i + 1, a, h, j, hj => by
    rw [List.flatMap_cons, List.getElem?_append_right (by rw [hf b (by simp), Nat.add_mul]; omega), hf b (by simp), show (i + 1) * k + j - k = i * k + j by rw [Nat.add_mul]; omega]
    exact flat_at f k l (fun c hc => hf c (by simp [hc])) i a (by simpa using h) j hj
/-- a row of structs of k cells each, below block B -/
def FlatIn {α : Type} (f : α → List Value) (k : Nat) (w : World) (B : Nat) (A : Option Addr) (l : List α) : Prop :=
  l ≠ [] → ∃ b, A = some ⟨b, 0, none⟩ ∧ b < B ∧ ∀ i a, l[i]? = some a → w.rangeAt b (i * k) (f a)
theorem rangeAt_keep {w w' : World} {b o : Nat} {cs : List Value} (h : w.rangeAt b o cs) {B : Nat} (hb : Below B w w') (hlt : b < B) : w'.rangeAt b o cs := fun j v hv => (hb.cell (p := ⟨b, o + j, none⟩) hlt).trans (h j v hv)
theorem FlatIn.keep {α : Type} {f : α → List Value} {k : Nat} {w w' : World} {B B' : Nat} {A : Option Addr} {l : List α} (h : FlatIn f k w B A l) (hb : Below B w w') (hB : B ≤ B') : FlatIn f k w' B' A l := fun hn => by
  obtain ⟨b, hA, hlt, hc⟩ := h hn
  exact ⟨b, hA, by omega, fun i a hi => rangeAt_keep (hc i a hi) hb hlt⟩
theorem own_flat {α : Type} {f : α → List Value} {k : Nat} {w : World} {base n : Nat} {e : TypeId} {v : Value} {l : List α} (h : w.ownsRow base e k v n (l.flatMap f)) (hf : ∀ a ∈ l, (f a).length = k) (hn : l.length = n) :
    ∃ A c, v = .slice A n c ∧ n ≤ c ∧ FlatIn f k w w.heap.size A l ∧ ∀ b, A = some b → base ≤ b.block := by
  rcases h.2 with ⟨rfl, h0⟩ | ⟨g, cap, cur, rfl, hb, hh, hnc, hm, hs, hx⟩
  · subst h0
    exact ⟨none, 0, rfl, by omega, fun hne => absurd (List.eq_nil_of_length_eq_zero hn) hne, fun b hb => by cases hb⟩
  · refine ⟨_, cap, rfl, hnc, fun _ => ⟨g, rfl, (Array.getElem?_eq_some_iff.1 hh).1, fun i a hi j u hu => ?_⟩, fun b hb' => by cases hb'; exact hb⟩
    have hil : i < l.length := (List.getElem?_eq_some_iff.1 hi).1
    have ha : a ∈ l := List.mem_of_getElem? hi
    have hj : j < k := by rw [← hf a ha]; exact (List.getElem?_eq_some_iff.1 hu).1
    have h1 : i * k + j < n * k := by
      have : (i + 1) * k ≤ n * k := Nat.mul_le_mul_right k (by omega)
      rw [Nat.add_mul] at this
      omega
    rw [h.cellAt (i * k + j) h1, flat_at f k l hf i a hi j hj, hu]
/-- the element that an append lays into a block of its own first -/
theorem cell_news (w : World) (n : Nat) (hn : n = w.heap.size) (cs : List Value) (t : TypeId) : ∀ j u, cs[j]? = some u → (w.alloc (.cells cs.toArray t)).cell? ((⟨n, 0, none⟩ : Addr).add j) = some u := by
  intro j u hj
  subst hn
  rw [Addr.add_mid, Nat.zero_add, cell_of_row _ _ _ _ _ _ (heap_alloc_new w _)]
  simpa using hj
theorem own_one (w : World) (cs : List Value) (k : Nat) (t : TypeId) (hk : cs.length = k) : (w.alloc (.cells cs.toArray t)).ownsRow w.heap.size t k (.slice (some ⟨w.heap.size, 0, none⟩) 1 1) 1 cs :=
  ⟨by rw [hk, Nat.one_mul], Or.inr ⟨w.heap.size, 1, cs.toArray, rfl, Nat.le_refl _, heap_alloc_new w _, Nat.le_refl _, by simp [maxLen], by simp [hk], by rw [Nat.one_mul]; exact List.take_of_length_le (by simp; omega)⟩⟩
end
section
open Go.RowKit Go.Maps Go.BigFrame
set_option linter.unusedVariables false

theorem fold_set (g : Array Value → Value × Nat → Array Value) (hg : ∀ cs c j, g cs (c, j) = cs.setIfInBounds j c) : ∀ (rest pre zs : List Value), zs.length = rest.length → (rest.zipIdx pre.length).foldl g (pre ++ zs).toArray = (pre ++ rest).toArray
  | [], pre, zs, h => by
    have : zs = [] := List.eq_nil_of_length_eq_zero h
    subst this
    rfl
  | v :: rest, pre, [], h => by simp at h
  | v :: rest, pre, z :: zs, h => by
    rw [List.zipIdx_cons, List.foldl_cons, hg]
    have e : (pre ++ z :: zs).toArray.setIfInBounds pre.length v = ((pre ++ [v]) ++ zs).toArray := by simp
    have := fold_set g hg rest (pre ++ [v]) zs (by simpa using h)
    rw [List.length_append] at this
    rw [e]
    refine Eq.trans this ?_
    simp
theorem fold_all (g : Array Value → Value × Nat → Array Value) (hg : ∀ cs c j, g cs (c, j) = cs.setIfInBounds j c) (Z V : Array Value) (h : Z.size = V.size) : V.zipIdx.foldl g Z = V := by
  have := fold_set g hg V.toList [] Z.toList (by simpa using h)
  rw [← Array.foldl_toList, Array.toList_zipIdx]
  simpa using this
theorem run_buildSlice_one {P : Program} (w : World) (t e : TypeId) (V : Array Value) (ht : P.underlying t = some (.slice e)) (i : TypeInfo) (z : Value) (hi : P.info? e = some i) (hz : i.zero = some z) (size : Nat) (hs : i.size = size) (hV : V.size = size) (h0 : 0 < size) (hs2 : size ≤ 16777216) (hzs : z.cells.size = size) :
    (Instr.buildSlice t 1 #[(0, .agg V)]).run P w = .ok (.slice (some ⟨w.heap.size, 0, none⟩) 1 1) (w.alloc (.cells V e)) := by
  have hzero : (zeroValue e).run P w = .ok z w := by simp [zeroValue, Sem.run_bind, run_typeInfo w hi, hz]
  have hsz : (sizeOf e).run P w = .ok size w := by simp [sizeOf, run_typeInfo w hi, hs]
  have hf : Instr.fill (fun i => some (i * size, size)) ((Array.range (1 * size)).map (z.cells[· % z.cells.size]!)) [(0, .agg V)] = some V := by
    unfold Instr.fill
    simp only [Value.cells, Nat.zero_mul, Nat.zero_add]
    rw [if_neg (by simp [hV])]
    unfold Instr.fill
    congr 1
    exact fold_all _ (fun _ _ _ => rfl) _ _ (by simp [hV])
  have e1 : ¬ (1 * size > 2 ^ 24) := by omega
  have e2 : ¬ (1 * size = 0) := by omega
  have hf' : Instr.fill (fun i => some (i * size, size)) ((Array.range (1 * size)).map (z.cells[· % z.cells.size]!)) (#[(0, Value.agg V)] : Array (Nat × Value)).toList = some V := hf
  unfold Instr.buildSlice
  simp only [Sem.run_bind, run_underlying ht, Result.andThen_ok, hsz, e1, e2, if_false, hzero, Sem.run_pure, hf']
  simp [newRow, go_sem]
theorem wpList_buildSlice_one {P : Program} {ops : Array Oper} {rest : List Oper} {o : Oper} {a : Act} {w : World} {Q : Exit → Act → World → Prop} (hgd : o.guard = none) (t : TypeId) (x : Operand) (ho : o.op = .buildSlice t 1 #[(0, x)])
    (V : Array Value) (hx : a.eval x = .agg V) (e : TypeId) (ht : P.underlying t = some (.slice e)) (i : TypeInfo) (z : Value) (hi : P.info? e = some i) (hz : i.zero = some z) (size : Nat) (hs : i.size = size) (hV : V.size = size) (h0 : 0 < size) (hs2 : size ≤ 16777216) (hzs : z.cells.size = size)
    (h : wpList P ops Q rest (a.put o.dst (.slice (some ⟨w.heap.size, 0, none⟩) 1 1)) (w.alloc (.cells V e))) : wpList P ops Q (o :: rest) a w := by
  refine wpList_plain hgd fun K hK => ?_
  unfold Oper.wp execOp
  simp [ho, hx, run_buildSlice_one w t e V ht i z hi hz size hs hV h0 hs2 hzs, Result.andThen_ok]
  exact hK _ _ h
end
end Go.Proofs.YtgadfmknjpanpaaDoor

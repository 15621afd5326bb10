/-
  A map of tiles that a call makes: the tiles seen so far.
-/
import Derived.Test.YtnmigjohomdbnaaDoorB
import Derived.Maps.OwnSet
import Derived.Maps.OwnOps
import Derived.DeepKeys4
import Derived.MapViews
import Derived.Lib.SmallJoins
namespace Go.Proofs.YtnmigjohomdbnaaDoor
open Go.RowKit Go.Maps
set_option linter.unusedVariables false
set_option maxRecDepth 100000

theorem tile_laidOut : laidOutB Tryd.prog = true := by kernel_rfl
theorem tile_row : (65 : TypeId) < Tryd.prog.types.size := of_decide_eq_true (by kernel_rfl)
theorem tile_cells : Tryd.prog.cellsOf 65 = 4 := by kernel_rfl
theorem tile_deep : Tryd.prog.keyTypeAt (Tryd.prog.types.size + 1) 65 = true := by kernel_rfl
theorem tile_wide : (match Tryd.prog.underlying 65 with | some (.array _ _) | some (.struct _) => true | _ => false) = true := by kernel_rfl
theorem tile_law : Keyed Tryd.prog 65 := Keyed.of_law (deep_law_laid tile_laidOut (m := 2) (by omega) tile_row (by kernel_rfl) tile_wide)
theorem zero_bool (w : World) : (zeroValue 4).run Tryd.prog w = .ok (.bool false) w := by kernel_rfl

def twf (t : Tl) : Prop := (Lit.int .i64 t.n).wf = true ∧ (Lit.int .i64 t.e).wf = true ∧ (Lit.int .i64 t.s).wf = true ∧ (Lit.int .i64 t.w).wf = true
/-- what a tile reads as, as a key -/
def kl (t : Tl) : Lit := (DataW.agg [.lit (.int .i64 t.n), .lit (.int .i64 t.e), .lit (.int .i64 t.s), .lit (.int .i64 t.w)] : DataW Unit).asKey

theorem keyOf_tile (t : Tl) (h : twf t) : keyOf Tryd.prog 65 (.agg #[.int .i64 t.n, .int .i64 t.e, .int .i64 t.s, .int .i64 t.w]) = some (kl t) := by
  obtain ⟨h0, h1, h2, h3⟩ := h
  have ht : DataW.Trod (H := Unit) (fun _ => ()) Tryd.prog (default : World) 0 (fun _ => true) true 65 (.agg #[.int .i64 t.n, .int .i64 t.e, .int .i64 t.s, .int .i64 t.w])
      (.agg [.lit (.int .i64 t.n), .lit (.int .i64 t.e), .lit (.int .i64 t.s), .lit (.int .i64 t.w)]) [] :=
    Joins.shut_agg4 (y0 := (.lit (.int .i64 t.n), [])) (y1 := (.lit (.int .i64 t.e), [])) (y2 := (.lit (.int .i64 t.s), [])) (y3 := (.lit (.int .i64 t.w), [])) Tryd.underlying65 (by kernel_rfl) tile_cells
      ⟨1, by simp [DataW.trod, Tryd.underlying3, h0]⟩ ⟨1, by simp [DataW.trod, Tryd.underlying3, h1]⟩ ⟨1, by simp [DataW.trod, Tryd.underlying3, h2]⟩ ⟨1, by simp [DataW.trod, Tryd.underlying3, h3]⟩
  exact (keyOf_asKey tile_deep tile_wide (by simp [Value.formed, Tryd.underlying65, tile_cells]) ht).1
theorem kl_inj {t u : Tl} (h : twf t) (h' : twf u) (e : kl t = kl u) : t = u := by
  have h1 := keyOf_tile t h
  have h2 := keyOf_tile u h'
  rw [e] at h1
  have := tile_law.inj h1 h2
  obtain ⟨a, b, c, d⟩ := t
  obtain ⟨a', b', c', d'⟩ := u
  simpa using this
theorem kl_key {t : Tl} (h : twf t) : WideAt.IsKeyLit (kl t) := tile_law.key (keyOf_tile t h)

theorem at_fold {H : Type} (u z : DataW H) (k : Lit) (hk : WideAt.IsKeyLit k) : ∀ (acc : List Lit) (m : DataW H), IsMap m → (∀ x ∈ acc, WideAt.IsKeyLit x) →
    (acc.foldl (fun m x => m.put x u) m).atKey k z = if acc.any (fun x => x.sameKey k) then u else m.atKey k z
  | [], m, _, _ => by simp
  | x :: acc, m, hm, hx => by
    simp only [List.foldl_cons, List.any_cons]
    rw [at_fold u z k hk acc (m.put x u) (hm.put x u) (fun y hy => hx y (by simp [hy]))]
    by_cases e : x = k
    · subst e
      simp [WideAt.sameKey_self hk, atKey_put_same hm hk]
    · simp [sameKey_ne e, atKey_put_other (D := m) (fun h : k = x => e h.symm)]
theorem at_setOf {H : Type} (u z : DataW H) (k : Lit) (hk : WideAt.IsKeyLit k) (acc : List Lit) (h : ∀ x ∈ acc, WideAt.IsKeyLit x) : (setOf u acc).atKey k z = if acc.any (fun x => x.sameKey k) then u else z := by
  unfold setOf
  rw [at_fold u z k hk acc _ isMap_empty h, atKey_of_not_has (by simp [Maps.has])]
/-- the tiles seen, as a map -/
def seen (l : List Tl) : DataW Unit := setOf (.lit (.bool true)) (l.map kl)
theorem seen_at (l : List Tl) (t : Tl) (hl : ∀ u ∈ l, twf u) (ht : twf t) : (seen l).atKey (kl t) (.lit (.bool false)) = .lit (.bool (decide (t ∈ l))) := by
  unfold seen
  rw [at_setOf _ _ _ (kl_key ht) _ (fun x hx => by obtain ⟨u, hu, rfl⟩ := List.mem_map.1 hx; exact kl_key (hl u hu))]
  by_cases h : t ∈ l
  · rw [if_pos (by rw [List.any_eq_true]; exact ⟨kl t, List.mem_map.2 ⟨t, h, rfl⟩, WideAt.sameKey_self (kl_key ht)⟩)]
    simp [h]
  · rw [if_neg (by
      rw [List.any_eq_true]
      rintro ⟨x, hx, hs⟩
      obtain ⟨u, hu, rfl⟩ := List.mem_map.1 hx
      exact h (kl_inj (hl u hu) ht (WideAt.sameKey_eq hs) ▸ hu))]
    simp [h]
theorem seen_snoc (l : List Tl) (t : Tl) : seen (l ++ [t]) = (seen l).put (kl t) (.lit (.bool true)) := by
  unfold seen
  rw [List.map_append]
  exact setOf_snoc _ _ _
theorem plainElem_bool_inv {H : Type} {P : Program} {e : TypeId} (he : P.underlying e = some .bool) {v : Value} {z : DataW H × List MemPlace} (h : plainElem P e v = some z) : ∃ x, v = .bool x ∧ z = (.lit (.bool x), []) := by
  unfold plainElem at h
  rw [he] at h
  cases v <;> simp at h
  exact ⟨_, rfl, h.symm⟩
/-- 'm[k]' at elements that are bools, in a map that the call made. -/
theorem wpList_lookup_own_bool {H : Type} {P : Program} (w : World) {ops : Array Oper} {rest : List Oper} {o : Oper} {a : Act} {Q : Exit → Act → World → Prop}
    (hg : o.guard = none) (m x : Operand) (t : TypeId) (hop : o.op = Op.lookup t m x false)
    (k e : TypeId) (K : Keyed P k) (ht : P.underlying t = some (.map k e)) (he : P.underlying e = some .bool) (hz : (zeroValue e).run P w = .ok (.bool false) w) (b n : Nat) (D : DataW H)
    (hm : a.eval m = .map (some b)) (hown : w.ownsMap P k (plainElem P e) b n D) (key : Value) (kl : Lit) (hx : a.eval x = key) (hkey : keyOf P k key = some kl)
    (c : Bool) (hat : D.atKey kl (.lit (.bool false)) = .lit (.bool c)) (hK : wpList P ops Q rest (a.put o.dst (.bool c)) w) :
    wpList P ops Q (o :: rest) a w := by
  refine wpList_plain hg fun K' hK' => ?_
  obtain ⟨v, ps, hrun, hv⟩ := hown.lookup K ht hz (plainElem_bool he false) hkey
  obtain ⟨c', rfl, hc⟩ := plainElem_bool_inv he hv
  simp only [Prod.mk.injEq] at hc
  have : c' = c := by
    have h := hc.1.symm.trans hat
    injection h with h
    injection h
  subst this
  unfold Oper.wp
  simp [execOp, hop, hm, hx, hrun, Result.andThen]
  exact hK' _ _ hK
theorem grown_of_below {a w : World} (h : Below a.heap.size a w) (row : Option Nat) : a.grownBy w row := ⟨h.os, h.tape, h.output, h.size, fun i hi _ => h.block i hi⟩
theorem bcell {W w1 : World} (hb : Below W.heap.size W w1) : (∀ b o, b < W.heap.size → w1.cell? ⟨b, o, none⟩ = W.cell? ⟨b, o, none⟩) ∧ (∀ b o, b < W.heap.size → w1.frozen? ⟨b, o, none⟩ = W.frozen? ⟨b, o, none⟩) :=
  ⟨fun b o h => hb.cell (p := ⟨b, o, none⟩) h, fun b o h => hb.frozen (p := ⟨b, o, none⟩) h⟩
theorem run_makeMap_hint {P : Program} (t k e : TypeId) (kd : IntKind) (n : Int) (ht : P.underlying t = some (.map k e)) (w : World) :
    (Instr.makeMap t (some (.int kd n))).run P w = .ok (.map (some w.heap.size)) (w.alloc (.map #[] 0)) := by
  simp [Instr.makeMap, run_underlying ht]; rfl
end Go.Proofs.YtnmigjohomdbnaaDoor

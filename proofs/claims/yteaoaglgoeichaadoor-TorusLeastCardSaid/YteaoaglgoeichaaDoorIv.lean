/-
  A region that draws its order, by an invariant over the operations that are done: each operation is walked once, whatever came before it.
-/
import Derived.Test.YteaoaglgoeichaaDoorSo
import Derived.Deep.RegionHeld3
namespace Go.Proofs.YteaoaglgoeichaaDoor
open Go.RowKit Go.Maps Go.BigFrame
set_option linter.unusedVariables false
set_option linter.unusedSimpArgs false

section
variable {P : Program} {ops : Array Oper} {Q : Exit → Act → World → Prop} {md : Region.Mode}
/-- what is done, and this one too -/
def updD (d : Nat → Bool) (i : Nat) : Nat → Bool := fun j => if j = i then true else d j
theorem updD_same (d : Nat → Bool) (i : Nat) : updD d i i = true := by simp [updD]
theorem updD_ne {d : Nat → Bool} {i j : Nat} (h : j ≠ i) : updD d i j = d j := by simp [updD, h]
/-- one operation is walked; behind a structure: else Lean carries the operation out by itself wherever it looks at the goal -/
structure StepOk (P : Program) (ops : Array Oper) (Q : Exit → Act → World → Prop) (o : Oper) (a : Act) (w : World) (K : Act → World → Prop) : Prop where
  out : if Region.wanted o (yielded ops a.tmps) = true then Oper.wp P o a w K Q else K (a.put o.dst undef) w
/-- one operation, in whatever state it may come up -/
def OpOk (P : Program) (ops : Array Oper) (Q : Exit → Act → World → Prop) (md : Region.Mode) (Inv : (Nat → Bool) → Act → World → Prop) (i : Nat) (o : Oper) : Prop :=
  ∀ d a w, d i = false → (∀ e ∈ o.after, Region.binds md e = true → d e.on = true) → Inv d a w →
    ∀ K : Act → World → Prop, (∀ a' w', Inv (updD d i) a' w' → K a' w') → StepOk P ops Q o a w K
inductive AllOps (Pr : Nat → Oper → Prop) : Nat → List Oper → Prop
  | nil {n : Nat} : AllOps Pr n []
  | cons {n : Nat} {o : Oper} {l : List Oper} (h : Pr n o) (t : AllOps Pr (n + 1) l) : AllOps Pr n (o :: l)
theorem AllOps.get {Pr : Nat → Oper → Prop} : ∀ {l : List Oper} {n : Nat}, AllOps Pr n l → ∀ i o, l[i]? = some o → Pr (n + i) o
  | _, _, .nil, i, o, h => by simp at h
  | _, _, .cons (n := n) h t, i, o, ho => by
    cases i with
    | zero => simp at ho; subst ho; exact h
    | succ i => have := t.get i o (by simpa using ho); rwa [show n + 1 + i = n + (i + 1) by omega] at this
theorem filter_drop {n : Nat} {p p' : Nat → Bool} {i : Nat} (hi : i < n) (h1 : p i = true) (h2 : p' i = false) (h : ∀ j, p' j = true → p j = true) : ((List.range n).filter p').length < ((List.range n).filter p).length := by
  have e : (List.range n).filter p' = ((List.range n).filter p).filter p' := by
    rw [List.filter_filter]
    refine List.filter_congr fun j _ => ?_
    cases hp : p' j
    · simp
    · simp [h j hp]
  rw [e]
  exact List.length_filter_lt_length_iff_exists.2 ⟨i, List.mem_filter.2 ⟨List.mem_range.2 hi, h1⟩, by simp [h2]⟩
theorem wpAny_inv (Inv : (Nat → Bool) → Act → World → Prop) (hac : ∀ (i : Nat) (o : Oper), ops[i]? = some o → ∀ e ∈ o.after, e.on < i)
    (step : ∀ i o, ops[i]? = some o → OpOk P ops Q md Inv i o) (fin : ∀ d a w, (∀ i, i < ops.size → d i = true) → Inv d a w → Q .normal a w) :
    ∀ (fuel : Nat) (listed : Array Bool) (a : Act) (w : World), listed.size = ops.size → ((List.range ops.size).filter fun i => !listed.getD i false).length ≤ fuel → Inv (fun i => listed.getD i false) a w → wpAny P md ops Q fuel listed a w := by
  have hfin : ∀ (listed : Array Bool) (a : Act) (w : World), listed.size = ops.size → Region.ready md ops listed = [] → Inv (fun i => listed.getD i false) a w → Q .normal a w := fun listed a w hl hr hI => by
    refine fin _ a w (fun i => ?_) hI
    induction i using Nat.strongRecOn with
    | _ i ih =>
      intro hi
      cases hd : listed.getD i false
      · exfalso
        have hm : i ∈ Region.ready md ops listed := by
          refine mem_ready.2 ⟨?_, ops[i], Array.getElem?_eq_getElem hi, fun e he hb => ?_⟩
          · have h1 : i < listed.size := by omega
            simp [Array.getD, h1] at hd ⊢
            exact hd
          · have := hac i _ (Array.getElem?_eq_getElem hi) e he
            exact ih e.on this (by omega)
        rw [hr] at hm
        cases hm
      · rfl
  intro fuel
  induction fuel with
  | zero =>
    intro listed a w hl hf hI
    have hall : ∀ i, i < ops.size → listed.getD i false = true := fun i hi => by
      have h0 := List.eq_nil_of_length_eq_zero (Nat.le_zero.1 hf)
      cases hd : listed.getD i false
      · have : i ∈ (List.range ops.size).filter fun i => !listed.getD i false := List.mem_filter.2 ⟨List.mem_range.2 hi, by simp only [hd]; rfl⟩
        rw [h0] at this
        cases this
      · rfl
    have hr : Region.ready md ops listed = [] := by
      cases hq : Region.ready md ops listed with
      | nil => rfl
      | cons j l =>
        have hj : j ∈ Region.ready md ops listed := by rw [hq]; simp
        obtain ⟨h1, o, ho, _⟩ := mem_ready.1 hj
        have hjs := (Array.getElem?_eq_some_iff.1 ho).1
        have h2 := hall j hjs
        have h3 : j < listed.size := by omega
        simp [Array.getD, h3] at h1 h2
        rw [h1] at h2
        cases h2
    exact ⟨hr, hfin listed a w hl hr hI⟩
  | succ fuel ih =>
    intro listed a w hl hf hI
    refine ⟨fun hr => hfin listed a w hl hr hI, fun i hi => ?_⟩
    obtain ⟨h1, o, ho, hp⟩ := mem_ready.1 hi
    have his := (Array.getElem?_eq_some_iff.1 ho).1
    have hil : i < listed.size := by omega
    have hd : listed.getD i false = false := by simp [Array.getD, hil] at h1 ⊢; exact h1
    refine wpOp_step ho (fun K' hK => (step i o ho _ a w hd hp hI K' fun a' w' hI' => hK a' w' ?_).out)
    refine ih _ a' w' (by simpa using hl) ?_ ?_
    · refine Nat.le_of_lt_succ (Nat.lt_of_lt_of_le (filter_drop (i := i) his (by simp only [hd]; rfl) ?_ fun j hj => ?_) hf)
      · simp [Array.getD, hil]
      · by_cases e : j = i
        · subst e; simp [Array.getD, hil] at hj
        · have : (listed.setIfInBounds i true).getD j false = listed.getD j false := by
            rw [Array.getD_eq_getD_getElem?, Array.getD_eq_getD_getElem?, Array.getElem?_setIfInBounds_ne (by omega)]
          rw [this] at hj
          exact hj
    · have e : (fun j => (listed.setIfInBounds i true).getD j false) = updD (fun j => listed.getD j false) i := by
        funext j
        by_cases e : j = i
        · subst e; rw [updD_same]; simp [Array.getD, hil]
        · rw [updD_ne e, Array.getD_eq_getD_getElem?, Array.getD_eq_getD_getElem?, Array.getElem?_setIfInBounds_ne (by omega)]
      rw [e]
      exact hI'
def acyclic (ops : Array Oper) : Bool := (List.range ops.size).all fun i => match ops[i]? with
  | some o => o.after.all fun e => decide (e.on < i)
  | none => true
theorem acyclic_spec (h : acyclic ops = true) : ∀ (i : Nat) (o : Oper), ops[i]? = some o → ∀ e ∈ o.after, e.on < i := fun i o ho e he => by
  unfold acyclic at h
  rw [List.all_eq_true] at h
  have h1 := h i (List.mem_range.2 (Array.getElem?_eq_some_iff.1 ho).1)
  rw [ho] at h1
  simp only [Array.all_eq_true_iff_forall_mem] at h1
  exact of_decide_eq_true (h1 e he)
/-- THE LAW -/
theorem wp_region_inv {id : Nat} {a : Act} {w : World} (hm : P.follows .mixedOrders = true) (hac : acyclic ops = true) (Inv : (Nat → Bool) → Act → World → Prop) (h0 : Inv (fun _ => false) a w.drew)
    (fin : ∀ d a w, (∀ i, i < ops.size → d i = true) → Inv d a w → Q .normal a w) (step : AllOps (OpOk P ops Q .any Inv) 0 ops.toList) : (Code.region id ops true).wp P Q a w := by
  refine wp_region_any hm (wpAny_inv Inv (acyclic_spec hac) (fun i o ho => ?_) fin ops.size _ a _ (by simp) ?_ ?_)
  · have := step.get i o (by rw [← ho]; simp)
    rwa [Nat.zero_add] at this
  · exact Nat.le_trans (List.length_filter_le _ _) (by simp)
  · have e : (fun i => (Array.replicate ops.size false).getD i false) = fun _ => false := by
      funext i
      rw [Array.getD_eq_getD_getElem?, Array.getElem?_replicate]
      split <;> rfl
    rw [e]
    exact h0

/-! the slots: what lay in them at the region's beginning, and what the region wrote -/
def fillA (t0 : Array Value) (D : List Nat) (u : Nat → Value) : Array Value := D.foldl (fun t k => t.setIfInBounds k (u k)) t0
def updU (u : Nat → Value) (k : Nat) (v : Value) : Nat → Value := fun j => if j = k then v else u j
theorem updU_same (u : Nat → Value) (k : Nat) (v : Value) : updU u k v k = v := by simp [updU]
theorem updU_ne {u : Nat → Value} {k j : Nat} {v : Value} (h : j ≠ k) : updU u k v j = u j := by simp [updU, h]
theorem fill_size (u : Nat → Value) : ∀ (D : List Nat) (t0 : Array Value), (fillA t0 D u).size = t0.size
  | [], _ => rfl
  | k :: D, t0 => by have := fill_size u D (t0.setIfInBounds k (u k)); simp [fillA] at this ⊢; exact this
theorem fill_get (u : Nat → Value) (j : Nat) : ∀ (D : List Nat) (t0 : Array Value), (fillA t0 D u).getD j undef = if j ∈ D ∧ j < t0.size then u j else t0.getD j undef
  | [], t0 => by simp [fillA]
  | k :: D, t0 => by
    have h := fill_get u j D (t0.setIfInBounds k (u k))
    have e : fillA t0 (k :: D) u = fillA (t0.setIfInBounds k (u k)) D u := rfl
    rw [e, h]
    simp only [Array.size_setIfInBounds, List.mem_cons]
    by_cases hj : j < t0.size
    · by_cases hd : j ∈ D
      · simp [hd, hj]
      · by_cases hk : j = k
        · subst hk; simp [hd, hj, Array.getD]
        · simp only [hd, hk, false_or, false_and, if_false]
          rw [Array.getD_eq_getD_getElem?, Array.getD_eq_getD_getElem?, Array.getElem?_setIfInBounds_ne (by omega)]
    · simp [hj, Array.getD]
theorem fill_ext {t t' : Array Value} (hs : t.size = t'.size) (h : ∀ j, j < t.size → t.getD j undef = t'.getD j undef) : t = t' := by
  refine Array.ext hs fun j h1 h2 => ?_
  have := h j h1
  simpa [Array.getD, h1, h2] using this
theorem fill_put (t0 : Array Value) (D : List Nat) (u : Nat → Value) (k : Nat) (v : Value) (hk : k ∈ D) : (fillA t0 D u).setIfInBounds k v = fillA t0 D (updU u k v) := by
  refine fill_ext (by simp [fill_size]) fun j hj => ?_
  rw [Array.size_setIfInBounds, fill_size] at hj
  rw [fill_get]
  by_cases e : j = k
  · subst e
    rw [updU_same, if_pos ⟨hk, hj⟩]
    have : j < (fillA t0 D u).size := by rw [fill_size]; exact hj
    simp [Array.getD, this]
  · rw [updU_ne e]
    have := fill_get u j D t0
    rw [← this, Array.getD_eq_getD_getElem?, Array.getD_eq_getD_getElem?, Array.getElem?_setIfInBounds_ne (by omega)]
theorem fill_self (t0 : Array Value) (D : List Nat) : fillA t0 D (fun j => t0.getD j undef) = t0 := by
  refine fill_ext (fill_size _ _ _) fun j hj => ?_
  rw [fill_get]
  split <;> rfl
theorem eval_in {t0 : Array Value} {D : List Nat} {u : Nat → Value} {df : List Deferred} {k : Nat} (h : k ∈ D) (hs : k < t0.size) : Act.eval ⟨fillA t0 D u, df⟩ (.tmp k) = u k := by
  show (fillA t0 D u).getD k undef = _
  rw [fill_get, if_pos ⟨h, hs⟩]
theorem eval_out {t0 : Array Value} {D : List Nat} {u : Nat → Value} {df : List Deferred} {k : Nat} (h : k ∉ D) : Act.eval ⟨fillA t0 D u, df⟩ (.tmp k) = t0.getD k undef := by
  show (fillA t0 D u).getD k undef = _
  rw [fill_get, if_neg (fun hh => h hh.1)]
theorem put_in {t0 : Array Value} {D : List Nat} {u : Nat → Value} {df : List Deferred} {k : Nat} {v : Value} (h : k ∈ D) : Act.put ⟨fillA t0 D u, df⟩ (some k) v = ⟨fillA t0 D (updU u k v), df⟩ := by
  show (⟨(fillA t0 D u).setIfInBounds k v, df⟩ : Act) = _
  rw [fill_put _ _ _ _ _ h]
/-- an operation that yields a value -/
theorem step_run {o : Oper} {a : Act} {w w' : World} {v : Value} {K : Act → World → Prop} (hg : o.guard = none) (hr : (execOp a.eval o).run P w = .ok (.value v) w') (hK : K (a.put o.dst v) w') :
    StepOk P ops Q o a w K := by
  refine ⟨?_⟩
  have hw : Region.wanted o (yielded ops a.tmps) = true := by simp [Region.wanted, hg]
  rw [if_pos hw]
  unfold Oper.wp
  rw [hr]
  exact hK
/-- an operation that yields nothing -/
theorem step_skip {o : Oper} {a : Act} {w w' : World} {K : Act → World → Prop} (hg : o.guard = none) (hr : (execOp a.eval o).run P w = .ok .skip w') (hK : K (a.put o.dst undef) w') :
    StepOk P ops Q o a w K := by
  refine ⟨?_⟩
  have hw : Region.wanted o (yielded ops a.tmps) = true := by simp [Region.wanted, hg]
  rw [if_pos hw]
  unfold Oper.wp
  rw [hr]
  exact hK
/-- a call of a Go function -/
theorem step_enter {o : Oper} {a : Act} {w w' : World} {f : FuncId} {args : Array Value} {K : Act → World → Prop} {R : Ending → World → Prop} (hg : o.guard = none) (hr : (execOp a.eval o).run P w = .ok (.enter f args) w') (hc : Calls P f args w' R)
    (hK : ∀ e w'', R e w'' → ∃ v, e = .returned v ∧ K (a.put o.dst v) w'') :
    StepOk P ops Q o a w K := by
  refine ⟨?_⟩
  have hw : Region.wanted o (yielded ops a.tmps) = true := by simp [Region.wanted, hg]
  rw [if_pos hw]
  unfold Oper.wp
  rw [hr, Oper.upon_enter]
  refine hc.mono fun e w'' he => ?_
  obtain ⟨v, rfl, hk⟩ := hK e w'' he
  exact hk
/-- append to a row of the call's own -/
theorem step_app {o : Oper} {a : Act} {w : World} {K : Act → World → Prop} (hg : o.guard = none) (s x : Operand) (t : TypeId)
    (hop : o.op = Op.call { callee := Callee.builtin Builtin.append, args := #[s, x], argTypes := #[t, t] })
    (base : Nat) (e : TypeId) (i : TypeInfo) (z : Value) (size bytes : Nat) (ht : P.underlying t = some (.slice e)) (hi : P.info? e = some i) (hz : i.zero = some z)
    (hsize : i.size = size) (hby : i.bytes = bytes) (hzs : z.cells.size = size) (hsz : 0 < size)
    (v : Value) (n : Nat) (xs : List Value) (hs : a.eval s = v) (hown : w.ownsRow base e size v n xs)
    (ad : Addr) (m c : Nat) (news : List Value) (hx : a.eval x = .slice (some ad) m c) (hl : news.length = m * size) (hnews : ∀ j u, news[j]? = some u → w.cell? (ad.add j) = some u) (h1 : ∀ u ∈ news, u.oneCell' = true)
    (h63 : n + m ≤ maxLen) (hbytes : (n + m) * bytes ≤ 140737488355328) (hbase : base ≤ w.heap.size)
    (hK : ∀ v' w', w'.ownsRow base e size v' (n + m) (xs ++ news) → w.grownBy w' v.ownBlock → (v'.ownBlock = v.ownBlock ∨ v'.ownBlock = some w.heap.size) → K (a.put o.dst v') w') : StepOk P ops Q o a w K :=
  ⟨step_append_own2 hg s x t hop base e i z size bytes ht hi hz hsize hby hzs hsz v n xs hs hown ad m c news hx hl hnews h1 h63 hbytes hbase hK⟩
/-- the slots become a letter -/
theorem wp_act {c : Code} {a : Act} {w : World} (hd : a.defers = []) (h : ∀ t0, a.tmps = t0 → c.wp P Q ⟨t0, []⟩ w) : c.wp P Q a w := by
  have := h a.tmps rfl
  rw [← hd] at this
  exact this
end
end Go.Proofs.YteaoaglgoeichaaDoor

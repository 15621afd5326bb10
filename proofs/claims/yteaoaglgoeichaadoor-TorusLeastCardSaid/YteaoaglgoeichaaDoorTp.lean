/-
  Towers (package torus): the search of the first tower over a ring, one ring at a time, with lines that are known to be dead: what is kept, what falls, what is found. No program, no memory.
-/
import Derived.Test.YteaoaglgoeichaaDoorTz
namespace Go.Proofs.YteaoaglgoeichaaDoor

/-- the first list of k rings over the line l that ends under the line s -/
def fstT (over : Nat → List Nat) (nor : Nat → Nat) (s : Nat) : Nat → Nat → Option (List Nat)
  | 0, l => if l = s then some [] else none
  | k + 1, l => (over l).findSome? fun r => (fstT over nor s k (nor r)).map (r :: ·)
/-- the same, if the first i rings over l are left out -/
def restT (over : Nat → List Nat) (nor : Nat → Nat) (s k l i : Nat) : Option (List Nat) :=
  ((over l).drop i).findSome? fun r => (fstT over nor s k (nor r)).map (r :: ·)
theorem fst_rest (over : Nat → List Nat) (nor : Nat → Nat) (s k l : Nat) : fstT over nor s (k + 1) l = restT over nor s k l 0 := rfl
theorem rest_at {over : Nat → List Nat} {nor : Nat → Nat} {s k l i r : Nat} (h : (over l)[i]? = some r) :
    restT over nor s k l i = ((fstT over nor s k (nor r)).map (r :: ·)).or (restT over nor s k l (i + 1)) := by
  obtain ⟨hi, e⟩ := List.getElem?_eq_some_iff.1 h
  unfold restT
  rw [List.drop_eq_getElem_cons hi, List.findSome?_cons, e]
  cases fstT over nor s k (nor r) <;> rfl
theorem rest_end {over : Nat → List Nat} {nor : Nat → Nat} {s k l i : Nat} (h : (over l).length ≤ i) : restT over nor s k l i = none := by
  unfold restT; rw [List.drop_eq_nil_of_le h]; rfl
theorem rest_skip {over : Nat → List Nat} {nor : Nat → Nat} {s k l i r : Nat} (h : (over l)[i]? = some r) (hd : fstT over nor s k (nor r) = none) :
    restT over nor s k l i = restT over nor s k l (i + 1) := by rw [rest_at h, hd]; rfl

/-- what lies under the ring r, over which k rings are wanted: rings, each with how many rings over it were tried -/
inductive Low (over : Nat → List Nat) (nor : Nat → Nat) (s b : Nat) : Nat → Nat → List (Nat × Nat) → Prop
  | bottom (k : Nat) : Low over nor s b k b []
  | on {k r r' i : Nat} {T : List (Nat × Nat)} (at_ : (over (nor r'))[i]? = some r) (kept : fstT over nor s (k + 1) (nor r') = restT over nor s k (nor r') i)
      (low : Low over nor s b (k + 1) r' T) : Low over nor s b k r ((r', i + 1) :: T)
/-- what is found over the uppermost ring is what is found -/
theorem Low.found {over : Nat → List Nat} {nor : Nat → Nat} {s b k r : Nat} {T : List (Nat × Nat)} (h : Low over nor s b k r T) :
    ∀ {u : List Nat}, fstT over nor s k (nor r) = some u → (fstT over nor s (k + T.length) (nor b)).map (b :: ·) = some ((r :: T.map Prod.fst).reverse ++ u) := by
  induction h with
  | bottom k => intro u hu; simp [hu]
  | @on k r r' i T at_ kept low ih =>
    intro u hu
    have e : fstT over nor s (k + 1) (nor r') = some (r :: u) := by rw [kept, rest_at at_, hu]; rfl
    have := ih e
    rw [List.length_cons, show k + (T.length + 1) = k + 1 + T.length by omega, this]
    simp
/-- the uppermost ring falls -/
theorem Low.falls {over : Nat → List Nat} {nor : Nat → Nat} {s b k r r' i : Nat} {T : List (Nat × Nat)} (h : Low over nor s b k r ((r', i) :: T)) (hd : fstT over nor s k (nor r) = none) :
    Low over nor s b (k + 1) r' T ∧ fstT over nor s (k + 1) (nor r') = restT over nor s k (nor r') i := by
  cases h with
  | on at_ kept low => exact ⟨low, by rw [kept, rest_skip at_ hd]⟩
/-- another ring is put on -/
theorem Low.put {over : Nat → List Nat} {nor : Nat → Nat} {s b k r i q : Nat} {T : List (Nat × Nat)} (h : Low over nor s b (k + 1) r T) (kept : fstT over nor s (k + 1) (nor r) = restT over nor s k (nor r) i)
    (at_ : (over (nor r))[i]? = some q) : Low over nor s b k q ((r, i + 1) :: T) := .on at_ kept h
theorem Low.len {over : Nat → List Nat} {nor : Nat → Nat} {s b k r : Nat} {T : List (Nat × Nat)} (h : Low over nor s b k r T) : T.length = 0 → r = b := by
  cases h with
  | bottom => intro _; rfl
  | on => intro h; simp at h
/-- the lines that are marked dead are: y rings lie under them, h rings are wanted in all -/
def DeadOk (over : Nat → List Nat) (nor : Nat → Nat) (s h : Nat) (dead : Nat → Nat → Bool) : Prop := ∀ y l, y < h → dead y l = true → fstT over nor s (h - 1 - y) l = none
theorem DeadOk.mark {over : Nat → List Nat} {nor : Nat → Nat} {s h : Nat} {dead : Nat → Nat → Bool} (d : DeadOk over nor s h dead) {y l : Nat} (e : fstT over nor s (h - 1 - y) l = none) :
    DeadOk over nor s h fun y' l' => if y' = y ∧ l' = l then true else dead y' l' := by
  intro y' l' hy hd
  by_cases c : y' = y ∧ l' = l
  · rw [c.1, c.2]; exact e
  · simp only [c, if_false] at hd; exact d y' l' hy hd

/-- how much work is left over a line at most -/
def cstT (over : Nat → List Nat) (nor : Nat → Nat) : Nat → Nat → Nat
  | 0, _ => 0
  | k + 1, l => ((over l).map fun r => 2 + cstT over nor k (nor r)).sum
def lftT (over : Nat → List Nat) (nor : Nat → Nat) (k l i : Nat) : Nat := (((over l).drop i).map fun r => 2 + cstT over nor k (nor r)).sum
theorem lft_at {over : Nat → List Nat} {nor : Nat → Nat} {k l i r : Nat} (h : (over l)[i]? = some r) : lftT over nor k l i = 2 + cstT over nor k (nor r) + lftT over nor k l (i + 1) := by
  obtain ⟨hi, e⟩ := List.getElem?_eq_some_iff.1 h
  unfold lftT
  rw [List.drop_eq_getElem_cons hi, List.map_cons, List.sum_cons, e]
/-- the work that is left under a ring -/
def lowC (over : Nat → List Nat) (nor : Nat → Nat) : Nat → List (Nat × Nat) → Nat
  | _, [] => 0
  | k, (r, i) :: T => 1 + lftT over nor k (nor r) i + lowC over nor (k + 1) T
/-- the work that is left, with the uppermost ring's: over it k rings are wanted, i were tried -/
def topC (over : Nat → List Nat) (nor : Nat → Nat) : Nat → Nat → Nat → Nat
  | 0, _, _ => 1
  | k + 1, l, i => 1 + lftT over nor k l i
theorem top_fresh (over : Nat → List Nat) (nor : Nat → Nat) (k l : Nat) : topC over nor k l 0 = 1 + cstT over nor k l := by cases k <;> rfl
theorem put_less {over : Nat → List Nat} {nor : Nat → Nat} {k r i q : Nat} {T : List (Nat × Nat)} (h : (over (nor r))[i]? = some q) :
    topC over nor k (nor q) 0 + lowC over nor k ((r, i + 1) :: T) < topC over nor (k + 1) (nor r) i + lowC over nor (k + 1) T := by
  rw [top_fresh]; simp only [lowC, topC]; rw [lft_at h]; omega
theorem skip_less {over : Nat → List Nat} {nor : Nat → Nat} {k l i q : Nat} (h : (over l)[i]? = some q) : topC over nor (k + 1) l (i + 1) < topC over nor (k + 1) l i := by
  simp only [topC]; rw [lft_at h]; omega
theorem fall_less {over : Nat → List Nat} {nor : Nat → Nat} {k l j r i : Nat} {T : List (Nat × Nat)} :
    topC over nor (k + 1) (nor r) i + lowC over nor (k + 1) T < topC over nor k l j + lowC over nor k ((r, i) :: T) := by
  have h : 1 ≤ topC over nor k l j := by cases k <;> simp [topC]
  have e : topC over nor (k + 1) (nor r) i = 1 + lftT over nor k (nor r) i := rfl
  simp only [lowC]; rw [e]; omega

/-- the first tower of h rings over the ring b -/
def towerT (over : Nat → List Nat) (nor sou : Nat → Nat) (h b : Nat) : Option (List Nat) := (fstT over nor (sou b) (h - 1) (nor b)).map (b :: ·)
theorem fst_len (over : Nat → List Nat) (nor : Nat → Nat) (s : Nat) : ∀ (k l : Nat) (u : List Nat), fstT over nor s k l = some u → u.length = k
  | 0, l, u, h => by
    simp only [fstT] at h
    split at h
    · cases h; rfl
    · cases h
  | k + 1, l, u, h => by
    obtain ⟨r, _, hr⟩ := List.exists_of_findSome?_eq_some h
    cases e : fstT over nor s k (nor r) with
    | none => rw [e] at hr; cases hr
    | some v => rw [e] at hr; cases hr; simp [fst_len over nor s k _ v e]
theorem tower_len {over : Nat → List Nat} {nor sou : Nat → Nat} {h b : Nat} (hh : 1 ≤ h) {u : List Nat} (e : towerT over nor sou h b = some u) : u.length = h := by
  unfold towerT at e
  cases e' : fstT over nor (sou b) (h - 1) (nor b) with
  | none => rw [e'] at e; cases e
  | some v => rw [e'] at e; cases e; have := fst_len _ _ _ _ _ _ e'; simp; omega
section
variable {α κ : Type} [DecidableEq κ]
theorem findSome_filter {β γ : Type} (p : β → Bool) (f : β → Option γ) : ∀ l : List β, (l.filter p).findSome? f = l.findSome? fun b => if p b = true then f b else none
  | [] => rfl
  | b :: l => by
    rw [List.filter_cons, List.findSome?_cons]
    cases h : p b
    · simpa using findSome_filter p f l
    · simp only [if_true, List.findSome?_cons]; rw [findSome_filter p f l]
theorem findSome_congr' {β γ : Type} (f g : β → Option γ) : ∀ l : List β, (∀ b ∈ l, f b = g b) → l.findSome? f = l.findSome? g
  | [], _ => rfl
  | b :: l, h => by rw [List.findSome?_cons, List.findSome?_cons, h b (by simp), findSome_congr' f g l fun c hc => h c (by simp [hc])]
theorem findSome_map {β γ δ : Type} (f : β → Option γ) (g : γ → δ) : ∀ l : List β, (l.findSome? f).map g = l.findSome? fun b => (f b).map g
  | [] => rfl
  | b :: l => by
    rw [List.findSome?_cons, List.findSome?_cons, ← findSome_map f g l]
    cases f b <;> rfl
theorem list_range_getD {β : Type} (L : List β) (d : β) : L = (List.range L.length).map fun i => L.getD i d := by
  apply List.ext_getElem
  · simp
  · intro i h _
    simp [h]
theorem getD_mem' {β : Type} {L : List β} {d : β} {i : Nat} (h : i < L.length) : L.getD i d ∈ L := by
  have e : L.getD i d = L[i] := by simp [h]
  rw [e]; exact List.getElem_mem _
theorem findSome_getD {β γ : Type} (g : β → Option γ) (L : List β) (d : β) : L.findSome? g = (List.range L.length).findSome? fun i => g (L.getD i d) := by
  conv => lhs; rw [list_range_getD L d]
  rw [List.findSome?_map]; rfl
/-- the rings over a line, rising, where f numbers the lines -/
def overT (L : List α) (d : α) (S : α → κ) (f : κ → Nat) (l : Nat) : List Nat := (List.range L.length).filter fun i => decide (f (S (L.getD i d)) = l)
theorem fst_stk (L : List α) (d : α) (S N : α → κ) (f : κ → Nat) (hinj : ∀ q ∈ L, ∀ r ∈ L, f (S q) = f (N r) ↔ S q = N r) (h : Nat) (b : α) (hb : b ∈ L) (adm : Nat → α → Bool)
    (hadm : ∀ y q, adm y q = (decide (y + 1 < h) || decide (N q = S b))) :
    ∀ k q, q ∈ L → k + 1 ≤ h → (fstT (overT L d S f) (fun i => f (N (L.getD i d))) (f (S b)) k (f (N q))).map (fun u => u.map fun i => L.getD i d)
      = if adm (h - 1 - k) q = true then (stk L adm S N k (h - k) (some (N q))).head? else none
  | 0, q, hq, hk => by
    have e1 : ¬ h - 1 - 0 + 1 < h := by omega
    have e2 : f (N q) = f (S b) ↔ N q = S b := by
      have := hinj b hb q hq
      constructor
      · intro e; exact (this.1 e.symm).symm
      · intro e; exact (this.2 e.symm).symm
    rw [hadm]
    simp only [e1, decide_false, Bool.false_or, decide_eq_true_eq, stk, fstT, List.head?_cons]
    by_cases c : N q = S b
    · simp [c]
    · simp [c, mt e2.1 c]
  | k + 1, q, hq, hk => by
    have e1 : h - 1 - (k + 1) + 1 < h := by omega
    have e3 : h - (k + 1) + 1 = h - k := by omega
    have e4 : h - (k + 1) = h - 1 - k := by omega
    rw [hadm]
    simp only [e1, decide_true, Bool.true_or, if_true, stk, fstT]
    rw [List.head?_flatMap, e3, findSome_map]
    unfold overT cand
    rw [findSome_filter, findSome_filter]
    rw [findSome_getD _ L d]
    apply findSome_congr'
    intro i hi
    have hm : L.getD i d ∈ L := getD_mem' (List.mem_range.1 hi)
    have ih := fst_stk L d S N f hinj h b hb adm hadm k (L.getD i d) hm (by omega)
    simp only [stands, decide_eq_true_eq, Bool.and_eq_true]
    by_cases c : S (L.getD i d) = N q
    · have c' := (hinj _ hm q hq).2 c
      simp only [c, if_true, and_true, e4, List.head?_map]
      unfold overT at ih
      by_cases c2 : adm (h - 1 - k) (L.getD i d) = true
      · rw [if_pos c2] at ih; rw [if_pos c2, ← ih]
        cases fstT (fun l => (List.range L.length).filter fun i => decide (f (S (L.getD i d)) = l)) (fun i => f (N (L.getD i d))) (f (S b)) k (f (N (L.getD i d))) <;> rfl
      · rw [if_neg c2] at ih; rw [if_neg c2]
        cases e : fstT (fun l => (List.range L.length).filter fun i => decide (f (S (L.getD i d)) = l)) (fun i => f (N (L.getD i d))) (f (S b)) k (f (N (L.getD i d))) with
        | none => rfl
        | some v => rw [e] at ih; cases ih
    · have c' := mt (hinj _ hm q hq).1 c
      rw [if_neg c', if_neg fun x => c x.2]
end
/-- THE FIRST TOWER IS THE FIRST TORUS: the rings of a width, each line with a number -/
theorem tower_first (s : List Tl) (w h : Nat) (hh : 1 ≤ h) (f : List Int → Nat) (hinj : ∀ q ∈ ringsE s w, ∀ r ∈ ringsE s w, f (lineS s q) = f (lineN s r) ↔ lineS s q = lineN s r) :
    ((List.range (ringsE s w).length).findSome? fun b => (towerT (overT (ringsE s w) [] (lineS s) f) (fun i => f (lineN s ((ringsE s w).getD i []))) (fun i => f (lineS s ((ringsE s w).getD i []))) h b).map fun u => u.map fun i => (ringsE s w).getD i [])
      = (torsE s w h).head? := by
  unfold torsE
  rw [List.head?_flatMap, findSome_getD _ (ringsE s w) []]
  apply findSome_congr'
  intro i hi
  have hm : (ringsE s w).getD i [] ∈ ringsE s w := getD_mem' (List.mem_range.1 hi)
  have e := fst_stk (ringsE s w) [] (lineS s) (lineN s) f hinj h _ hm (admT s h ((ringsE s w).getD i [])) (fun y q => rfl) (h - 1) _ hm (by omega)
  unfold towerT torsFrom
  rw [show h - 1 - (h - 1) = 0 by omega, show h - (h - 1) = 1 by omega] at e
  by_cases c : admT s h ((ringsE s w).getD i []) 0 ((ringsE s w).getD i []) = true
  · rw [if_pos c] at e; rw [if_pos c, List.head?_map, ← e]
    cases fstT (overT (ringsE s w) [] (lineS s) f) (fun i => f (lineN s ((ringsE s w).getD i []))) (f (lineS s ((ringsE s w).getD i []))) (h - 1) (f (lineN s ((ringsE s w).getD i []))) <;> rfl
  · rw [if_neg c] at e; rw [if_neg c]
    cases e' : fstT (overT (ringsE s w) [] (lineS s) f) (fun i => f (lineN s ((ringsE s w).getD i []))) (f (lineS s ((ringsE s w).getD i []))) (h - 1) (f (lineN s ((ringsE s w).getD i []))) with
    | none => rfl
    | some v => rw [e'] at e; cases e
section
variable {β : Type} [BEq β] [LawfulBEq β] [DecidableEq β]
/-- what is met joins a list at its end, unless it is there -/
def metT {β : Type} [DecidableEq β] (l : List β) (v : β) : List β := if v ∈ l then l else l ++ [v]
omit [BEq β] [LawfulBEq β] in
theorem met_old {l : List β} {v : β} (h : v ∈ l) : metT l v = l := if_pos h
omit [BEq β] [LawfulBEq β] in
theorem met_new {l : List β} {v : β} (h : v ∉ l) : metT l v = l ++ [v] := if_neg h
omit [BEq β] [LawfulBEq β] in
theorem mem_met {l : List β} {v a : β} : a ∈ metT l v ↔ a ∈ l ∨ a = v := by
  unfold metT
  split
  · constructor
    · exact .inl
    · rintro (h | rfl)
      · exact h
      · assumption
  · simp
/-- a number stays -/
theorem met_idx {l : List β} {v a : β} (h : a ∈ l) : (metT l v).idxOf a = l.idxOf a := by
  unfold metT
  split
  · rfl
  · rw [List.idxOf_append, if_pos h]
/-- a new one has the next number -/
theorem met_next {l : List β} {v : β} (h : v ∉ l) : (metT l v).idxOf v = l.length := by
  rw [met_new h, List.idxOf_append, if_neg h]; simp
omit [DecidableEq β] in
theorem idx_inj {l : List β} {a b : β} (ha : a ∈ l) (hb : b ∈ l) : l.idxOf a = l.idxOf b ↔ a = b := by
  constructor
  · intro e
    have h1 := List.idxOf_lt_length_of_mem ha
    have h2 := List.idxOf_lt_length_of_mem hb
    have e1 : l[l.idxOf a] = a := List.getElem_idxOf h1
    have e2 : l[l.idxOf b] = b := List.getElem_idxOf h2
    rw [← e1, ← e2]; simp only [e]
  · rintro rfl; rfl
end
/-- the lines of the first rings, in the order in which they are met: a ring's lower line before its upper one -/
def linesT (s : List Tl) (rs : List (List Nat)) : List (List Int) := rs.foldl (fun l r => metT (metT l (lineS s r)) (lineN s r)) []
theorem linesT_snoc (s : List Tl) (rs : List (List Nat)) (r : List Nat) : linesT s (rs ++ [r]) = metT (metT (linesT s rs) (lineS s r)) (lineN s r) := by
  unfold linesT; rw [List.foldl_append]; rfl
theorem mem_linesT (s : List Tl) (a : List Int) : ∀ rs : List (List Nat), a ∈ linesT s rs ↔ ∃ r ∈ rs, a = lineS s r ∨ a = lineN s r := by
  have h : ∀ (rs : List (List Nat)) (l : List (List Int)), a ∈ rs.foldl (fun l r => metT (metT l (lineS s r)) (lineN s r)) l ↔ a ∈ l ∨ ∃ r ∈ rs, a = lineS s r ∨ a = lineN s r := by
    intro rs
    induction rs with
    | nil => intro l; simp
    | cons r rs ih =>
      intro l
      rw [List.foldl_cons, ih, mem_met, mem_met]
      simp only [List.mem_cons, exists_eq_or_imp, or_assoc]
  intro rs
  unfold linesT
  rw [h]; simp
/-- the numbers of the lines of the rings tell them apart -/
theorem linesT_inj (s : List Tl) (rs : List (List Nat)) : ∀ q ∈ rs, ∀ r ∈ rs, (linesT s rs).idxOf (lineS s q) = (linesT s rs).idxOf (lineN s r) ↔ lineS s q = lineN s r :=
  fun q hq r hr => idx_inj ((mem_linesT s _ rs).2 ⟨q, hq, .inl rfl⟩) ((mem_linesT s _ rs).2 ⟨r, hr, .inr rfl⟩)
/-- over a line there is a ring of the first list: the first over which there is a list -/
theorem findSome_pick {β γ : Type} (f : β → Option γ) : ∀ l : List β, l.findSome? f = (l.find? fun b => (f b).isSome).bind f
  | [] => rfl
  | b :: l => by
    rw [List.findSome?_cons, List.find?_cons, findSome_pick f l]
    cases h : f b <;> simp [h]
theorem fst_succ (over : Nat → List Nat) (nor : Nat → Nat) (s k l : Nat) : fstT over nor s (k + 1) l = (over l).findSome? fun r => (fstT over nor s k (nor r)).map (r :: ·) := rfl
theorem fst_pick (over : Nat → List Nat) (nor : Nat → Nat) (s k l : Nat) :
    fstT over nor s (k + 1) l = ((over l).find? fun r => (fstT over nor s k (nor r)).isSome).bind fun r => (fstT over nor s k (nor r)).map (r :: ·) := by
  rw [fst_succ, findSome_pick]
  simp only [Option.isSome_map]
theorem fst_there (over : Nat → List Nat) (nor : Nat → Nat) (s k l : Nat) : (fstT over nor s (k + 1) l).isSome = true ↔ ∃ r ∈ over l, (fstT over nor s k (nor r)).isSome = true := by
  rw [fst_succ, List.findSome?_isSome_iff]
  simp only [Option.isSome_map]
theorem over_find {α κ : Type} [DecidableEq κ] (L : List α) (d : α) (S : α → κ) (f : κ → Nat) (l : Nat) (p : Nat → Bool) :
    (overT L d S f l).find? p = (List.range L.length).find? fun i => decide (f (S (L.getD i d)) = l) && p i := by
  unfold overT
  rw [List.find?_filter]
  congr 1; funext i
  cases p i <;> simp
theorem fst_top (over : Nat → List Nat) (nor : Nat → Nat) (s l : Nat) : (fstT over nor s 0 l).isSome = true ↔ l = s := by
  unfold fstT
  split <;> simp_all
/-- the reference's numbers of the rings' lines -/
def nSou (s : List Tl) (l : List Int) : Nat := (numL (colsOf s) l).toNat
theorem nSou_inj (s : List Tl) (w : Nat) : ∀ q ∈ ringsE s w, ∀ r ∈ ringsE s w, nSou s (lineS s q) = nSou s (lineN s r) ↔ lineS s q = lineN s r := by
  intro q hq r hr
  have hq' := (List.mem_filter.1 hq).1
  have hr' := (List.mem_filter.1 hr).1
  have h1 := numS_range hq'
  have h2 := numN_range hr'
  rw [line_num s w q hq' r hr']
  unfold nSou numS numN
  unfold numS at h1; unfold numN at h2
  omega
/-- what the reference's table says: from which lines h - y rings lead to the line of the lowest one -/
def mayT (s : List Tl) (w h b y l : Nat) : Bool :=
  (fstT (overT (ringsE s w) [] (lineS s) (nSou s)) (fun i => nSou s (lineN s ((ringsE s w).getD i []))) (nSou s (lineS s ((ringsE s w).getD b []))) (h - y) l).isSome
theorem mayT_top (s : List Tl) (w h b l : Nat) : mayT s w h b h l = true ↔ l = nSou s (lineS s ((ringsE s w).getD b [])) := by
  unfold mayT; rw [Nat.sub_self, fst_top]
theorem mayT_down (s : List Tl) (w h b y l : Nat) (hy : y < h) :
    mayT s w h b y l = true ↔ ∃ i, i < (ringsE s w).length ∧ nSou s (lineS s ((ringsE s w).getD i [])) = l ∧ mayT s w h b (y + 1) (nSou s (lineN s ((ringsE s w).getD i []))) = true := by
  unfold mayT
  rw [show h - y = h - (y + 1) + 1 by omega, fst_there]
  unfold overT
  simp only [List.mem_filter, List.mem_range, decide_eq_true_eq, and_assoc]
/-- the ring that the reference puts on a line: the first that stands on it and may go on -/
theorem mayT_pick (s : List Tl) (w h b y l : Nat) (hy : y < h) :
    fstT (overT (ringsE s w) [] (lineS s) (nSou s)) (fun i => nSou s (lineN s ((ringsE s w).getD i []))) (nSou s (lineS s ((ringsE s w).getD b []))) (h - y) l
      = ((List.range (ringsE s w).length).find? fun i => decide (nSou s (lineS s ((ringsE s w).getD i [])) = l) && mayT s w h b (y + 1) (nSou s (lineN s ((ringsE s w).getD i [])))).bind fun i =>
        (fstT (overT (ringsE s w) [] (lineS s) (nSou s)) (fun i => nSou s (lineN s ((ringsE s w).getD i []))) (nSou s (lineS s ((ringsE s w).getD b []))) (h - (y + 1)) (nSou s (lineN s ((ringsE s w).getD i [])))).map (i :: ·) := by
  rw [show h - y = h - (y + 1) + 1 by omega, fst_pick, over_find]
  rfl
/-- all sizes with sides of at most m, by their cells and then by their width -/
def sizesT (m : Nat) : List (Nat × Nat) := (List.range (m * m)).flatMap fun c => (List.range m).filterMap fun w => if (c + 1) % (w + 1) = 0 ∧ (c + 1) / (w + 1) ≤ m then some (w + 1, (c + 1) / (w + 1)) else none
theorem mem_sizesT_at {m c : Nat} {p : Nat × Nat} (h : p ∈ (List.range m).filterMap fun w => if (c + 1) % (w + 1) = 0 ∧ (c + 1) / (w + 1) ≤ m then some (w + 1, (c + 1) / (w + 1)) else none) :
    1 ≤ p.1 ∧ p.1 ≤ m ∧ 1 ≤ p.2 ∧ p.2 ≤ m ∧ p.1 * p.2 = c + 1 := by
  obtain ⟨w, hw, e⟩ := List.mem_filterMap.1 h
  have hw' := List.mem_range.1 hw
  split at e
  · rename_i c1
    cases e
    have h2 : (w + 1) * ((c + 1) / (w + 1)) = c + 1 := Nat.mul_div_cancel' (Nat.dvd_of_mod_eq_zero c1.1)
    refine ⟨by simp, hw', ?_, c1.2, h2⟩
    rcases Nat.eq_zero_or_pos ((c + 1) / (w + 1)) with z | z
    · rw [z] at h2; omega
    · exact z
  · cases e
theorem mem_sizesT {m a b : Nat} : (a, b) ∈ sizesT m ↔ 1 ≤ a ∧ a ≤ m ∧ 1 ≤ b ∧ b ≤ m := by
  unfold sizesT
  rw [List.mem_flatMap]
  constructor
  · rintro ⟨c, _, h⟩
    obtain ⟨h1, h2, h3, h4, _⟩ := mem_sizesT_at h
    exact ⟨h1, h2, h3, h4⟩
  · rintro ⟨h1, h2, h3, h4⟩
    have h5 : 1 ≤ a * b := Nat.mul_pos h1 h3
    have h6 : a * b ≤ m * m := Nat.mul_le_mul h2 h4
    have e1 : a * b - 1 + 1 = a * b := by omega
    have e2 : a - 1 + 1 = a := by omega
    have e3 : a * b / a = b := Nat.mul_div_cancel_left b h1
    refine ⟨a * b - 1, List.mem_range.2 (by omega), List.mem_filterMap.2 ⟨a - 1, List.mem_range.2 (by omega), ?_⟩⟩
    rw [e1, e2, e3, if_pos ⟨Nat.mul_mod_right a b, h4⟩]
theorem pairwise_all {β : Type} {R : β → β → Prop} : ∀ l : List β, (∀ a ∈ l, ∀ b ∈ l, R a b) → l.Pairwise R
  | [], _ => .nil
  | a :: l, h => .cons (fun b hb => h a (by simp) b (by simp [hb])) (pairwise_all l fun x hx y hy => h x (by simp [hx]) y (by simp [hy]))
theorem sizesT_sorted (m : Nat) : (sizesT m).Pairwise fun p q => p.1 * p.2 ≤ q.1 * q.2 := by
  unfold sizesT
  rw [List.pairwise_flatMap]
  refine ⟨fun c _ => pairwise_all _ fun p hp q hq => ?_, ?_⟩
  · rw [(mem_sizesT_at hp).2.2.2.2, (mem_sizesT_at hq).2.2.2.2]; exact Nat.le_refl _
  · refine List.Pairwise.imp (fun {c d} hcd p hp q hq => ?_) (List.pairwise_lt_range)
    rw [(mem_sizesT_at hp).2.2.2.2, (mem_sizesT_at hq).2.2.2.2]; omega
/-- the torus of the first size of which there is one -/
def leastE (s : List Tl) (m : Nat) : Option (Nat × Nat × List (List Nat)) := (sizesT m).findSome? fun p => (torsE s p.1 p.2).head?.map fun t => (p.1, p.2, t)
theorem leastE_none {s : List Tl} {m : Nat} (h : leastE s m = none) {w k : Nat} (hw : 1 ≤ w) (hwm : w ≤ m) (hk : 1 ≤ k) (hkm : k ≤ m) : torsE s w k = [] := by
  have := List.findSome?_eq_none_iff.1 h (w, k) (mem_sizesT.2 ⟨hw, hwm, hk, hkm⟩)
  simpa using this
theorem leastE_some {s : List Tl} {m a b : Nat} {t : List (List Nat)} (h : leastE s m = some (a, b, t)) :
    1 ≤ a ∧ a ≤ m ∧ 1 ≤ b ∧ b ≤ m ∧ (torsE s a b).head? = some t ∧ ∀ w k, 1 ≤ w → w ≤ m → 1 ≤ k → k ≤ m → torsE s w k ≠ [] → a * b ≤ w * k := by
  obtain ⟨l1, p, l2, e, ep, hn⟩ := List.findSome?_eq_some_iff.1 h
  have hp : p = (a, b) ∧ (torsE s a b).head? = some t := by
    cases e1 : (torsE s p.1 p.2).head? with
    | none => rw [e1] at ep; cases ep
    | some u => rw [e1] at ep; cases ep; exact ⟨rfl, e1⟩
  obtain ⟨rfl, ht⟩ := hp
  have hm : (a, b) ∈ sizesT m := by rw [e]; simp
  obtain ⟨h1, h2, h3, h4⟩ := mem_sizesT.1 hm
  refine ⟨h1, h2, h3, h4, ht, fun w k hw hwm hk hkm hne => ?_⟩
  have hin : (w, k) ∈ l1 ++ (a, b) :: l2 := by rw [← e]; exact mem_sizesT.2 ⟨hw, hwm, hk, hkm⟩
  have hs := sizesT_sorted m
  rw [e, List.pairwise_append] at hs
  rcases List.mem_append.1 hin with hi | hi
  · have := hn _ hi
    simp only [Option.map_eq_none_iff, List.head?_eq_none_iff] at this
    exact absurd this hne
  · rcases List.mem_cons.1 hi with hi | hi
    · cases hi; exact Nat.le_refl _
    · exact (List.pairwise_cons.1 hs.2.1).1 _ hi
end Go.Proofs.YteaoaglgoeichaaDoor

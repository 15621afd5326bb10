/-
  Rows of tiles and capped sums: the plain mathematics of package fill. No program, no memory.
  Stacks of rows: how many there are, and the first one. The plain mathematics of package fill. No program, no memory.
  Rectangles with edges: how many patterns there are, and the first one. The plain mathematics of package fill. No program, no memory.
  What a stack of rows is, cell by cell: it is there exactly if the cells agree and the edges are met. The plain mathematics of package fill. No program, no memory.
  Counts of turned sets, counts as sums over the colours of an edge, counts of two parts. The plain mathematics of package fill. No program, no memory.
  What First finds is a pattern with these edges; with its own edges on all sides there is one, too. The plain mathematics of FillThere. No program, no memory.
-/
import Derived.Test.YtgadfmknjpanpaaDoorPure
namespace Go.Proofs.YtgadfmknjpanpaaDoor
section
set_option linter.unusedVariables false

/-! sums that are cut at 2^60 + 1 -/
def cap : Nat := 1152921504606846977
def csum (l : List Nat) : Nat := l.foldl (fun a n => min (a + n) cap) 0
theorem csum_from (l : List Nat) : ∀ a, l.foldl (fun a n => min (a + n) cap) (min a cap) = min (a + l.sum) cap := by
  induction l with
  | nil => intro a; simp
  | cons n l ih =>
    intro a
    rw [List.foldl_cons, List.sum_cons]
    have e : min (min a cap + n) cap = min (a + n) cap := by omega
    rw [e, ih (a + n)]
    congr 1
    omega
theorem csum_eq (l : List Nat) : csum l = min l.sum cap := by
  have h := csum_from l 0
  rw [show min 0 cap = 0 by simp] at h
  unfold csum
  rw [h, Nat.zero_add]
theorem csum_snoc (l : List Nat) (n : Nat) : csum (l ++ [n]) = min (csum l + n) cap := by
  unfold csum
  rw [List.foldl_append]
  rfl
theorem csum_le (l : List Nat) : csum l ≤ cap := by rw [csum_eq]; exact Nat.min_le_right _ _
theorem sum_cap (l : List Nat) : min (l.map fun n => min n cap).sum cap = min l.sum cap := by
  induction l with
  | nil => rfl
  | cons n l ih =>
    rw [List.map_cons, List.sum_cons, List.sum_cons]
    omega
/-- a capped sum of capped parts is the capped sum of the whole -/
theorem csum_parts {α : Type} (l : List α) (f : α → List Nat) : csum (l.map fun a => csum (f a)) = csum (l.flatMap f) := by
  rw [csum_eq, csum_eq]
  have e : (l.map fun a => csum (f a)) = (l.map fun a => (f a).sum).map fun n => min n cap := by
    rw [List.map_map]
    exact List.map_congr_left fun a _ => csum_eq _
  rw [e, sum_cap]
  congr 1
  induction l with
  | nil => rfl
  | cons a l ih =>
    rw [List.map_cons, List.sum_cons, List.flatMap_cons, List.sum_append]
    rw [ih (by rw [List.map_map]; exact List.map_congr_left fun a _ => csum_eq _)]
theorem sum_zero {κ : Type} : ∀ ks : List κ, (ks.map fun _ => (0 : Nat)).sum = 0
  | [] => rfl
  | _ :: ks => by rw [List.map_cons, List.sum_cons, sum_zero ks]
/-- what is summed by keys is summed whole, if each key is there once -/
theorem sum_keys {α κ : Type} [DecidableEq κ] (l : List α) (key : α → κ) (v : α → Nat) : ∀ ks : List κ, ks.Nodup → (∀ a ∈ l, key a ∈ ks) →
    ((ks.map fun k => ((l.filter fun a => decide (key a = k)).map v).sum).sum) = (l.map v).sum := by
  induction l with
  | nil =>
    intro ks _ _
    simp only [List.filter_nil, List.map_nil, List.sum_nil]
    exact sum_zero ks
  | cons a l ih =>
    intro ks hn hk
    rw [List.map_cons, List.sum_cons, ← ih ks hn fun b hb => hk b (by simp [hb])]
    have ha := hk a (by simp)
    clear ih hk
    induction ks with
    | nil => cases ha
    | cons k ks ihk =>
      rw [List.nodup_cons] at hn
      rw [List.map_cons, List.sum_cons, List.map_cons, List.sum_cons]
      by_cases e : key a = k
      · have h0 : ∀ k' ∈ ks, ((a :: l).filter fun b => decide (key b = k')) = (l.filter fun b => decide (key b = k')) := fun k' hk' => by
          rw [List.filter_cons, if_neg]
          intro hh
          have := of_decide_eq_true hh
          exact hn.1 (by rw [← e, this]; exact hk')
        have e2 : (ks.map fun k' => (((a :: l).filter fun b => decide (key b = k')).map v).sum) = ks.map fun k' => ((l.filter fun b => decide (key b = k')).map v).sum := List.map_congr_left fun k' hk' => by simp only [h0 k' hk']
        rw [e2, List.filter_cons, if_pos (decide_eq_true e), List.map_cons, List.sum_cons]
        omega
      · have hin : key a ∈ ks := by
          rcases List.mem_cons.1 ha with h | h
          · exact absurd h e
          · exact h
        rw [ihk hn.2 hin, List.filter_cons, if_neg (by simpa using e)]
        omega
/-- the same, capped: in whatever order the keys come -/
theorem csum_keys {α κ : Type} [DecidableEq κ] (l : List α) (key : α → κ) (v : α → Nat) (ks : List κ) (hn : ks.Nodup) (hk : ∀ a ∈ l, key a ∈ ks) :
    csum (ks.map fun k => csum ((l.filter fun a => decide (key a = k)).map v)) = csum (l.map v) := by
  rw [csum_eq, csum_eq]
  have e : (ks.map fun k => csum ((l.filter fun a => decide (key a = k)).map v)) = (ks.map fun k => ((l.filter fun a => decide (key a = k)).map v).sum).map fun n => min n cap := by
    rw [List.map_map]
    exact List.map_congr_left fun a _ => csum_eq _
  rw [e, sum_cap, sum_keys l key v ks hn hk]

/-! rows: lists of indices of tiles -/
def ti (s : List Tl) (i : Nat) : Tl := s.getD i ⟨0, 0, 0, 0⟩
def east (s : List Tl) (r : List Nat) : Int := match r.getLast? with
  | some i => (ti s i).e
  | none => 0
def west (s : List Tl) (r : List Nat) : Int := match r.head? with
  | some i => (ti s i).w
  | none => 0
/-- a list of at most eight numbers, with zeros behind it -/
def pad8 (l : List Int) : List Int := l ++ List.replicate (8 - l.length) 0
def north (s : List Tl) (r : List Nat) : List Int := pad8 (r.map fun i => (ti s i).n)
def south (s : List Tl) (r : List Nat) : List Int := pad8 (r.map fun i => (ti s i).s)
/-- the cells of a row's struct: its tiles, its north, its south, its east and its west -/
def rowInts (s : List Tl) (r : List Nat) : List Int := pad8 (r.map fun i : Nat => (i : Int)) ++ (north s r ++ (south s r ++ [east s r, west s r]))
def mayJoin (s : List Tl) (r : List Nat) (i : Nat) : Bool := decide (r = [] ∨ east s r = (ti s i).w)
/-- the rows that are longer by one tile -/
def longer (s : List Tl) (r : List Nat) : List (List Nat) := ((List.range s.length).filter (mayJoin s r)).map fun i => r ++ [i]
/-- all rows of a width, in the order of their cells -/
def rws (s : List Tl) : Nat → List (List Nat)
  | 0 => [[]]
  | x + 1 => (rws s x).flatMap (longer s)
theorem rws_len (s : List Tl) : ∀ x, ∀ r ∈ rws s x, r.length = x
  | 0, r, h => by simp [rws] at h; rw [h]; rfl
  | x + 1, r, h => by
    simp only [rws, List.mem_flatMap, longer, List.mem_map] at h
    obtain ⟨q, hq, i, _, rfl⟩ := h
    rw [List.length_append, rws_len s x q hq]
    rfl
theorem rws_idx (s : List Tl) : ∀ x, ∀ r ∈ rws s x, ∀ i ∈ r, i < s.length
  | 0, r, h, i, hi => by simp [rws] at h; rw [h] at hi; cases hi
  | x + 1, r, h, i, hi => by
    simp only [rws, List.mem_flatMap, longer, List.mem_map, List.mem_filter, List.mem_range] at h
    obtain ⟨q, hq, j, ⟨hj, _⟩, rfl⟩ := h
    rcases List.mem_append.1 hi with h1 | h1
    · exact rws_idx s x q hq i h1
    · rw [List.mem_singleton] at h1
      rw [h1]
      exact hj
theorem pad8_len (l : List Int) (h : l.length ≤ 8) : (pad8 l).length = 8 := by
  unfold pad8
  rw [List.length_append, List.length_replicate]
  omega
theorem pad8_at (l : List Int) (j : Nat) (h : j < 8) : (pad8 l)[j]? = some (l.getD j 0) ∨ 8 < l.length := by
  by_cases h8 : 8 < l.length
  · exact Or.inr h8
  · left
    unfold pad8
    by_cases hj : j < l.length
    · rw [List.getElem?_append_left hj, List.getElem?_eq_getElem hj, List.getD_eq_getElem?_getD, List.getElem?_eq_getElem hj]
      rfl
    · rw [List.getElem?_append_right (by omega), List.getElem?_replicate, if_pos (by omega), List.getD_eq_getElem?_getD, List.getElem?_eq_none (by omega)]
      rfl
theorem pad8_snoc (l : List Int) (v : Int) (h : l.length < 8) : pad8 (l ++ [v]) = (pad8 l).set l.length v := by
  unfold pad8
  obtain ⟨k, hk⟩ : ∃ k, 8 - l.length = k + 1 := ⟨8 - l.length - 1, by omega⟩
  rw [hk, List.replicate_succ, List.set_append_right _ _ (Nat.le_refl _), Nat.sub_self, List.set_cons_zero, List.append_assoc]
  congr 1
  rw [List.length_append, List.length_singleton, show 8 - (l.length + 1) = k by omega]
  rfl
theorem north_snoc (s : List Tl) (r : List Nat) (i : Nat) (h : r.length < 8) : north s (r ++ [i]) = (north s r).set r.length (ti s i).n := by
  unfold north
  rw [List.map_append, List.map_cons, List.map_nil, pad8_snoc _ _ (by rw [List.length_map]; exact h), List.length_map]
theorem south_snoc (s : List Tl) (r : List Nat) (i : Nat) (h : r.length < 8) : south s (r ++ [i]) = (south s r).set r.length (ti s i).s := by
  unfold south
  rw [List.map_append, List.map_cons, List.map_nil, pad8_snoc _ _ (by rw [List.length_map]; exact h), List.length_map]
theorem east_snoc (s : List Tl) (r : List Nat) (i : Nat) : east s (r ++ [i]) = (ti s i).e := by
  unfold east
  rw [List.getLast?_append]
  rfl
theorem west_snoc (s : List Tl) (r : List Nat) (i : Nat) : west s (r ++ [i]) = if r = [] then (ti s i).w else west s r := by
  cases r with
  | nil => rfl
  | cons a r => rfl
theorem north_len (s : List Tl) (r : List Nat) (h : r.length ≤ 8) : (north s r).length = 8 := pad8_len _ (by rw [List.length_map]; exact h)
theorem south_len (s : List Tl) (r : List Nat) (h : r.length ≤ 8) : (south s r).length = 8 := pad8_len _ (by rw [List.length_map]; exact h)
theorem rowInts_len (s : List Tl) (r : List Nat) (h : r.length ≤ 8) : (rowInts s r).length = 26 := by
  unfold rowInts
  rw [List.length_append, List.length_append, List.length_append, north_len s r h, south_len s r h, pad8_len _ (by rw [List.length_map]; exact h)]
  rfl
theorem set_four (P N S T : List Int) (h1 : P.length = 8) (h2 : N.length = 8) (h3 : S.length = 8) (k : Nat) (hk : k < 8) (a b c d e : Int) (hT : T.length = 2) :
    (((((P ++ (N ++ (S ++ T))).set k a).set (8 + k) b).set (16 + k) c).set 24 d).set 25 e = P.set k a ++ (N.set k b ++ (S.set k c ++ [d, e])) := by
  have e1 : (P ++ (N ++ (S ++ T))).set k a = P.set k a ++ (N ++ (S ++ T)) := List.set_append_left _ _ (by omega)
  have l1 : (P.set k a).length = 8 := by rw [List.length_set, h1]
  generalize P.set k a = P' at e1 l1 ⊢
  have e2 : (P' ++ (N ++ (S ++ T))).set (8 + k) b = P' ++ (N.set k b ++ (S ++ T)) := by
    rw [List.set_append_right _ _ (by omega), l1, show 8 + k - 8 = k by omega, List.set_append_left _ _ (by omega)]
  have l2 : (N.set k b).length = 8 := by rw [List.length_set, h2]
  generalize N.set k b = N' at e2 l2 ⊢
  have e3 : (P' ++ (N' ++ (S ++ T))).set (16 + k) c = P' ++ (N' ++ (S.set k c ++ T)) := by
    rw [List.set_append_right _ _ (by omega), l1, show 16 + k - 8 = 8 + k by omega, List.set_append_right _ _ (by omega), l2, show 8 + k - 8 = k by omega, List.set_append_left _ _ (by omega)]
  have l3 : (S.set k c).length = 8 := by rw [List.length_set, h3]
  generalize S.set k c = S' at e3 l3 ⊢
  have e4 (T : List Int) (v : Int) (j : Nat) : (P' ++ (N' ++ (S' ++ T))).set (24 + j) v = P' ++ (N' ++ (S' ++ T.set j v)) := by
    rw [List.set_append_right _ _ (by omega), l1, show 24 + j - 8 = 16 + j by omega, List.set_append_right _ _ (by omega), l2, show 16 + j - 8 = 8 + j by omega, List.set_append_right _ _ (by omega), l3, show 8 + j - 8 = j by omega]
  have e40 := e4 T d 0
  have e41 := e4 (T.set 0 d) e 1
  rw [e1, e2, e3, show (24 : Nat) = 24 + 0 from rfl, e40, show (25 : Nat) = 24 + 1 from rfl, e41]
  match T, hT with
  | [x, y], _ => rfl
/-- a row that is longer by one tile, cell by cell -/
theorem rowInts_snoc (s : List Tl) (r : List Nat) (i : Nat) (h : r.length < 8) :
    rowInts s (r ++ [i]) = (((((rowInts s r).set r.length (i : Int)).set (8 + r.length) (ti s i).n).set (16 + r.length) (ti s i).s).set 24 (ti s i).e).set 25 (if r = [] then (ti s i).w else west s r) := by
  have h1 := pad8_len (r.map fun i : Nat => (i : Int)) (by rw [List.length_map]; omega)
  have h2 := north_len s r (by omega)
  have h3 := south_len s r (by omega)
  unfold rowInts
  rw [List.map_append, List.map_cons, List.map_nil, pad8_snoc _ _ (by rw [List.length_map]; exact h), List.length_map, north_snoc s r i h, south_snoc s r i h, east_snoc, west_snoc]
  obtain ⟨P, hP⟩ : ∃ P, P = pad8 (r.map fun i : Nat => (i : Int)) := ⟨_, rfl⟩
  obtain ⟨N, hN⟩ : ∃ N, N = north s r := ⟨_, rfl⟩
  obtain ⟨S, hS⟩ : ∃ S, S = south s r := ⟨_, rfl⟩
  rw [← hP] at h1 ⊢
  rw [← hN] at h2 ⊢
  rw [← hS] at h3 ⊢
  rw [set_four P N S _ h1 h2 h3 r.length h _ _ _ _ _ rfl]
end
section
set_option linter.unusedVariables false

section
variable {α κ : Type} [DecidableEq κ]
/-- may a row stand on a line? -/
def stands (S : α → κ) (b : Option κ) (r : α) : Bool := match b with
  | none => true
  | some l => decide (S r = l)
/-- the rows that may be row y over b -/
def cand (R : List α) (adm : Nat → α → Bool) (S : α → κ) (y : Nat) (b : Option κ) : List α := R.filter fun r => adm y r && stands S b r
/-- all stacks of k rows, from row y on, over the line b -/
def stk (R : List α) (adm : Nat → α → Bool) (S N : α → κ) : Nat → Nat → Option κ → List (List α)
  | 0, _, _ => [[]]
  | k + 1, y, b => (cand R adm S y b).flatMap fun r => (stk R adm S N k (y + 1) (some (N r))).map (r :: ·)
/-- in how many ways k rows can be filled from row y on, over the line l -/
def ways (R : List α) (adm : Nat → α → Bool) (S N : α → κ) : Nat → Nat → κ → Nat
  | 0, _, _ => 1
  | k + 1, y, l => ((cand R adm S y (some l)).map fun r => ways R adm S N k (y + 1) (N r)).sum
/-- in how many ways h rows can be filled -/
def total (R : List α) (adm : Nat → α → Bool) (S N : α → κ) (h : Nat) : Nat := ((cand R adm S 0 none).map fun r => ways R adm S N (h - 1) 1 (N r)).sum

theorem ways_stk (R : List α) (adm : Nat → α → Bool) (S N : α → κ) : ∀ k y l, ways R adm S N k y l = (stk R adm S N k y (some l)).length
  | 0, _, _ => rfl
  | k + 1, y, l => by
    simp only [ways, stk, List.length_flatMap, List.length_map]
    congr 1
    exact List.map_congr_left fun r _ => ways_stk R adm S N k (y + 1) (N r)
theorem total_stk (R : List α) (adm : Nat → α → Bool) (S N : α → κ) (h : Nat) (hh : 1 ≤ h) : total R adm S N h = (stk R adm S N h 0 none).length := by
  obtain ⟨k, rfl⟩ : ∃ k, h = k + 1 := ⟨h - 1, by omega⟩
  simp only [total, stk, List.length_flatMap, List.length_map, Nat.add_sub_cancel]
  congr 1
  exact List.map_congr_left fun r _ => ways_stk R adm S N k (0 + 1) (N r)
/-- the first row that may be row y over b, with k rows above it -/
def pick (R : List α) (adm : Nat → α → Bool) (S N : α → κ) (k y : Nat) (b : Option κ) : Option α := R.find? fun r => stands S b r && (decide (0 < ways R adm S N k (y + 1) (N r)) && adm y r)
theorem head_flatMap {β γ : Type} (f : β → List γ) (p : β → Bool) : ∀ (l : List β), (∀ a ∈ l, p a = true ↔ f a ≠ []) → (l.flatMap f).head? = (l.find? p).bind fun a => (f a).head?
  | [], _ => rfl
  | a :: l, h => by
    have ih := head_flatMap f p l fun b hb => h b (by simp [hb])
    rw [List.flatMap_cons, List.find?_cons, List.head?_append]
    cases hp : p a
    · have e : f a = [] := by
        cases hf : f a with
        | nil => rfl
        | cons c t => have := (h a (by simp)).2 (by rw [hf]; simp); rw [hp] at this; cases this
      simp [e, ih]
    · have e := (h a (by simp)).1 hp
      cases hf : f a with
      | nil => exact absurd hf e
      | cons c t => simp [hf]
theorem find_filter {β : Type} (p q : β → Bool) : ∀ l : List β, (l.filter p).find? q = l.find? fun a => q a && p a
  | [] => rfl
  | a :: l => by
    have ih := find_filter p q l
    cases hp : p a <;> cases hq : q a <;> simp [hp, hq, ih]
theorem find_congr {β : Type} (p q : β → Bool) : ∀ l : List β, (∀ a ∈ l, p a = q a) → l.find? p = l.find? q
  | [], _ => rfl
  | a :: l, h => by
    rw [List.find?_cons, List.find?_cons, h a (by simp), find_congr p q l fun b hb => h b (by simp [hb])]
/-- the first stack goes on by the row that is picked -/
theorem first_step (R : List α) (adm : Nat → α → Bool) (S N : α → κ) (k y : Nat) (b : Option κ) :
    (stk R adm S N (k + 1) y b).head? = (pick R adm S N k y b).bind fun r => (stk R adm S N k (y + 1) (some (N r))).head?.map (r :: ·) := by
  simp only [stk]
  rw [head_flatMap _ (fun r => decide (0 < ways R adm S N k (y + 1) (N r)))]
  · unfold cand pick
    rw [find_filter]
    have e : (List.find? (fun a => decide (0 < ways R adm S N k (y + 1) (N a)) && (adm y a && stands S b a)) R) = List.find? (fun r => stands S b r && (decide (0 < ways R adm S N k (y + 1) (N r)) && adm y r)) R :=
      find_congr _ _ _ fun a _ => by cases stands S b a <;> cases adm y a <;> simp
    rw [e]
    congr 1
    funext r
    rw [List.head?_map]
  · intro r _
    rw [decide_eq_true_eq, ways_stk]
    simp [List.length_pos_iff]
/-- if there is a stack, a row is picked over which there is one -/
theorem pick_some (R : List α) (adm : Nat → α → Bool) (S N : α → κ) (k y : Nat) (b : Option κ) (h : stk R adm S N (k + 1) y b ≠ []) :
    ∃ r, pick R adm S N k y b = some r ∧ r ∈ R ∧ stk R adm S N k (y + 1) (some (N r)) ≠ [] := by
  have h1 := first_step R adm S N k y b
  cases hp : pick R adm S N k y b with
  | none =>
    rw [hp] at h1
    simp at h1
    exact absurd h1 h
  | some r =>
    refine ⟨r, rfl, List.mem_of_find?_eq_some hp, ?_⟩
    have := List.find?_some hp
    simp only [Bool.and_eq_true, decide_eq_true_eq, ways_stk] at this
    exact List.length_pos_iff.1 this.2.1
/-- two readings of the lines that agree on what is the same give the same numbers -/
theorem stk_congr {κ' : Type} [DecidableEq κ'] (R : List α) (adm : Nat → α → Bool) (S N : α → κ) (S' N' : α → κ') (h : ∀ r ∈ R, ∀ q ∈ R, S r = N q ↔ S' r = N' q) :
    ∀ k y, (∀ q ∈ R, stk R adm S N k y (some (N q)) = stk R adm S' N' k y (some (N' q))) ∧ stk R adm S N k y none = stk R adm S' N' k y none := by
  intro k
  induction k with
  | zero => intro y; exact ⟨fun _ _ => rfl, rfl⟩
  | succ k ih =>
    intro y
    have e : ∀ l l' : List α, l = l' → (∀ r ∈ l, r ∈ R) → (l.flatMap fun r => (stk R adm S N k (y + 1) (some (N r))).map (r :: ·)) = l'.flatMap fun r => (stk R adm S' N' k (y + 1) (some (N' r))).map (r :: ·) := by
      intro l l' el hl
      subst el
      induction l with
      | nil => rfl
      | cons r l ihl =>
        rw [List.flatMap_cons, List.flatMap_cons, (ih (y + 1)).1 r (hl r (by simp)), ihl fun q hq => hl q (by simp [hq])]
    refine ⟨fun q hq => e _ _ ?_ fun r hr => (List.mem_filter.1 hr).1, e _ _ rfl fun r hr => (List.mem_filter.1 hr).1⟩
    unfold cand
    refine List.filter_congr fun r hr => ?_
    simp only [stands]
    rw [show decide (S r = N q) = decide (S' r = N' q) from decide_eq_decide.2 (h r hr q hq)]
theorem total_congr {κ' : Type} [DecidableEq κ'] (R : List α) (adm : Nat → α → Bool) (S N : α → κ) (S' N' : α → κ') (h : ∀ r ∈ R, ∀ q ∈ R, S r = N q ↔ S' r = N' q) (H : Nat) (hH : 1 ≤ H) :
    total R adm S N H = total R adm S' N' H := by
  rw [total_stk _ _ _ _ _ hH, total_stk _ _ _ _ _ hH, (stk_congr R adm S N S' N' h H 0).2]
/-- what a stack is -/
def isStk (R : List α) (adm : Nat → α → Bool) (S N : α → κ) : Nat → Option κ → List α → Prop
  | _, _, [] => True
  | y, b, r :: t => r ∈ R ∧ adm y r = true ∧ stands S b r = true ∧ isStk R adm S N (y + 1) (some (N r)) t
theorem mem_stk (R : List α) (adm : Nat → α → Bool) (S N : α → κ) : ∀ k y b t, t ∈ stk R adm S N k y b ↔ t.length = k ∧ isStk R adm S N y b t
  | 0, y, b, t => by
    cases t <;> simp [stk, isStk]
  | k + 1, y, b, [] => by simp [stk]
  | k + 1, y, b, r :: t => by
    simp only [stk, List.mem_flatMap, List.mem_map, List.cons.injEq, List.length_cons, isStk, cand, List.mem_filter, Bool.and_eq_true]
    constructor
    · rintro ⟨q, ⟨h1, h2, h3⟩, u, hu, rfl, rfl⟩
      obtain ⟨h4, h5⟩ := (mem_stk R adm S N k (y + 1) _ u).1 hu
      exact ⟨by omega, h1, h2, h3, h5⟩
    · rintro ⟨h0, h1, h2, h3, h4⟩
      exact ⟨r, ⟨h1, h2, h3⟩, t, (mem_stk R adm S N k (y + 1) _ t).2 ⟨by omega, h4⟩, rfl, rfl⟩
theorem nodup_flatMap_cons {β : Type} (f : β → List (List β)) : ∀ l : List β, l.Nodup → (∀ r ∈ l, (f r).Nodup) → (l.flatMap fun r => (f r).map (r :: ·)).Nodup
  | [], _, _ => List.nodup_nil
  | r :: l, hn, hf => by
    rw [List.nodup_cons] at hn
    rw [List.flatMap_cons, List.nodup_append]
    refine ⟨?_, nodup_flatMap_cons f l hn.2 fun q hq => hf q (by simp [hq]), ?_⟩
    · have := hf r (by simp)
      unfold List.Nodup at this ⊢
      rw [List.pairwise_map]
      exact this.imp fun h e => h (List.cons.inj e).2
    · intro a ha b hb e
      subst e
      obtain ⟨u, _, rfl⟩ := List.mem_map.1 ha
      obtain ⟨q, hq, hqu⟩ := List.mem_flatMap.1 hb
      obtain ⟨v, _, ev⟩ := List.mem_map.1 hqu
      exact hn.1 ((List.cons.inj ev).1 ▸ hq)
theorem stk_nodup (R : List α) (adm : Nat → α → Bool) (S N : α → κ) (hR : R.Nodup) : ∀ k y b, (stk R adm S N k y b).Nodup
  | 0, _, _ => by simp [stk]
  | k + 1, y, b => nodup_flatMap_cons _ _ (hR.sublist List.filter_sublist) fun r _ => stk_nodup R adm S N hR k (y + 1) _
end
/-- as many members, if each has a partner of its own -/
theorem length_le_of_inj {β γ : Type} [DecidableEq γ] (f : β → γ) : ∀ (l : List β) (m : List γ), l.Nodup → (∀ a ∈ l, f a ∈ m) → (∀ a ∈ l, ∀ b ∈ l, f a = f b → a = b) → l.length ≤ m.length
  | [], m, _, _, _ => Nat.zero_le _
  | a :: l, m, hn, hm, hi => by
    rw [List.nodup_cons] at hn
    have h1 := hm a (by simp)
    have h2 := length_le_of_inj f l (m.erase (f a)) hn.2 (fun b hb => by
      refine (List.mem_erase_of_ne fun e => ?_).2 (hm b (by simp [hb]))
      exact hn.1 (hi b (by simp [hb]) a (by simp) e ▸ hb)) fun b hb c hc e => hi b (by simp [hb]) c (by simp [hc]) e
    rw [List.length_erase_of_mem h1] at h2
    have := List.length_pos_of_mem h1
    rw [List.length_cons]
    omega
theorem length_eq_of_bij {β γ : Type} [DecidableEq β] [DecidableEq γ] (f : β → γ) (g : γ → β) (l : List β) (m : List γ) (hl : l.Nodup) (hm : m.Nodup) (hf : ∀ a ∈ l, f a ∈ m ∧ g (f a) = a) (hg : ∀ b ∈ m, g b ∈ l ∧ f (g b) = b) : l.length = m.length := by
  refine Nat.le_antisymm (length_le_of_inj f l m hl (fun a ha => (hf a ha).1) fun a ha b hb e => ?_) (length_le_of_inj g m l hm (fun b hb => (hg b hb).1) fun a ha b hb e => ?_)
  · rw [← (hf a ha).2, ← (hf b hb).2, e]
  · rw [← (hg a ha).2, ← (hg b hb).2, e]
end
section
set_option linter.unusedVariables false

/-- four edges -/
structure Ed where
  n : List Int
  e : List Int
  s : List Int
  w : List Int
def lineN (s : List Tl) (r : List Nat) : List Int := r.map fun i => (ti s i).n
def lineS (s : List Tl) (r : List Nat) : List Int := r.map fun i => (ti s i).s
/-- a whole side has an edge's colours -/
def hasE (l line : List Int) : Bool := decide (l = [] ∨ line = l)
/-- a cell of a side has an edge's colour -/
def sideE (l : List Int) (y : Nat) (c : Int) : Bool := decide (l = [] ∨ l.getD y 0 = c)
/-- the edges allow a row as row y of h -/
def admE (s : List Tl) (d : Ed) (h y : Nat) (r : List Nat) : Bool :=
  (sideE d.w y (west s r) && sideE d.e y (east s r)) && ((decide (0 < y) || hasE d.s (lineS s r)) && (decide (y + 1 < h) || hasE d.n (lineN s r)))
def countE (s : List Tl) (w h : Nat) (d : Ed) : Nat := total (rws s w) (admE s d h) (lineS s) (lineN s) h
def stksE (s : List Tl) (w h : Nat) (d : Ed) : List (List (List Nat)) := stk (rws s w) (admE s d h) (lineS s) (lineN s) h 0 none
def firstE (s : List Tl) (w h : Nat) (d : Ed) : Option (List Nat) := (stksE s w h d).head?.map List.flatten

theorem countE_stks (s : List Tl) (w h : Nat) (d : Ed) (hh : 1 ≤ h) : countE s w h d = (stksE s w h d).length := total_stk _ _ _ _ _ hh
theorem pad8_inj {a b : List Int} (h : a.length = b.length) (e : pad8 a = pad8 b) : a = b := by
  unfold pad8 at e
  exact (List.append_inj e h).1
theorem line_pad (s : List Tl) (w : Nat) (r : List Nat) (hr : r ∈ rws s w) (q : List Nat) (hq : q ∈ rws s w) : lineS s r = lineN s q ↔ south s r = north s q := by
  have h1 := rws_len s w r hr
  have h2 := rws_len s w q hq
  constructor
  · intro e
    show pad8 (lineS s r) = pad8 (lineN s q)
    rw [e]
  · intro e
    exact pad8_inj (by simp [lineS, lineN, h1, h2]) e
/-- the program's lines are padded -/
theorem countE_pad (s : List Tl) (w h : Nat) (d : Ed) (hh : 1 ≤ h) : countE s w h d = total (rws s w) (admE s d h) (south s) (north s) h :=
  total_congr _ _ _ _ _ _ (line_pad s w) h hh
theorem stksE_pad (s : List Tl) (w h : Nat) (d : Ed) : stksE s w h d = stk (rws s w) (admE s d h) (south s) (north s) h 0 none :=
  (stk_congr _ _ _ _ _ _ (line_pad s w) h 0).2

/-! numbers of lines -/
def addIf (l : List Int) (n : Int) : List Int := if n ∈ l then l else l ++ [n]
/-- the colours that occur as n or as s, in the order of the tiles -/
def colsOf (s : List Tl) : List Int := s.foldl (fun l t => addIf (addIf l t.n) t.s) []
/-- the place of a number; -1: it is not there -/
def atL (l : List Int) (n : Int) : Int := if n ∈ l then (l.idxOf n : Nat) else -1
def numL (c : List Int) : List Int → Int
  | [] => 0
  | v :: l => atL c v + c.length * numL c l
theorem addIf_nodup {l : List Int} {n : Int} (h : l.Nodup) : (addIf l n).Nodup := by
  unfold addIf
  split
  · exact h
  · rename_i hn
    rw [List.nodup_append]
    exact ⟨h, by simp, fun a ha b hb e => by rw [List.mem_singleton] at hb; exact hn (hb ▸ e ▸ ha)⟩
theorem mem_addIf {l : List Int} {n v : Int} : v ∈ addIf l n ↔ v ∈ l ∨ v = n := by
  unfold addIf
  split
  · constructor
    · exact Or.inl
    · rintro (h | rfl) <;> assumption
  · simp
theorem addIf_len {l : List Int} {n : Int} : (addIf l n).length ≤ l.length + 1 := by
  unfold addIf
  split <;> simp
theorem cols_fold_nodup (s : List Tl) : ∀ l : List Int, l.Nodup → (s.foldl (fun l t => addIf (addIf l t.n) t.s) l).Nodup := by
  induction s with
  | nil => intro l h; exact h
  | cons t s ih => intro l h; exact ih _ (addIf_nodup (addIf_nodup h))
theorem cols_nodup (s : List Tl) : (colsOf s).Nodup := cols_fold_nodup s [] List.nodup_nil
theorem mem_cols_fold (s : List Tl) (v : Int) : ∀ l : List Int, v ∈ s.foldl (fun l t => addIf (addIf l t.n) t.s) l ↔ v ∈ l ∨ ∃ t ∈ s, v = t.n ∨ v = t.s := by
  induction s with
  | nil => intro l; simp
  | cons t s ih =>
    intro l
    rw [List.foldl_cons, ih, mem_addIf, mem_addIf]
    simp only [List.mem_cons, exists_eq_or_imp]
    rw [or_assoc, or_assoc]
    simp only [or_assoc]
theorem mem_cols (s : List Tl) (v : Int) : v ∈ colsOf s ↔ ∃ t ∈ s, v = t.n ∨ v = t.s := by
  unfold colsOf
  rw [mem_cols_fold]
  simp
theorem cols_fold_len (s : List Tl) : ∀ l : List Int, (s.foldl (fun l t => addIf (addIf l t.n) t.s) l).length ≤ l.length + 2 * s.length := by
  induction s with
  | nil => intro l; simp
  | cons t s ih =>
    intro l
    have h1 := ih (addIf (addIf l t.n) t.s)
    have h2 := addIf_len (l := addIf l t.n) (n := t.s)
    have h3 := addIf_len (l := l) (n := t.n)
    rw [List.foldl_cons, List.length_cons]
    omega
theorem cols_len (s : List Tl) : (colsOf s).length ≤ 2 * s.length := by
  have := cols_fold_len s []
  unfold colsOf
  simpa using this
theorem atL_range {c : List Int} {v : Int} (h : v ∈ c) : 0 ≤ atL c v ∧ atL c v < c.length := by
  unfold atL
  rw [if_pos h]
  have := List.idxOf_lt_length_of_mem h
  omega
theorem atL_inj {c : List Int} {u v : Int} (hu : u ∈ c) (hv : v ∈ c) (e : atL c u = atL c v) : u = v := by
  unfold atL at e
  rw [if_pos hu, if_pos hv] at e
  have e' : c.idxOf u = c.idxOf v := by omega
  have h1 := List.getElem_idxOf (List.idxOf_lt_length_of_mem hu)
  have h2 := List.getElem_idxOf (List.idxOf_lt_length_of_mem hv)
  rw [← h1, ← h2]
  simp only [e']
theorem numL_range {c : List Int} : ∀ l : List Int, (∀ v ∈ l, v ∈ c) → 0 ≤ numL c l ∧ numL c l < (c.length : Int) ^ l.length
  | [], _ => by simp [numL]
  | v :: l, h => by
    have h1 := atL_range (h v (by simp))
    have h2 := numL_range l fun u hu => h u (by simp [hu])
    unfold numL
    refine ⟨Int.add_nonneg h1.1 (Int.mul_nonneg (by omega) h2.1), ?_⟩
    rw [List.length_cons, Int.pow_succ]
    have h3 : (c.length : Int) * (numL c l + 1) ≤ c.length * (c.length : Int) ^ l.length := Int.mul_le_mul_of_nonneg_left (by omega) (by omega)
    rw [Int.mul_add, Int.mul_one] at h3
    rw [Int.mul_comm _ (c.length : Int)]
    omega
theorem numL_inj {c : List Int} : ∀ a b : List Int, a.length = b.length → (∀ v ∈ a, v ∈ c) → (∀ v ∈ b, v ∈ c) → numL c a = numL c b → a = b
  | [], [], _, _, _, _ => rfl
  | [], _ :: _, h, _, _, _ => by simp at h
  | _ :: _, [], h, _, _, _ => by simp at h
  | u :: a, v :: b, h, hu, hv, e => by
    have h1 := atL_range (hu u (by simp))
    have h2 := atL_range (hv v (by simp))
    unfold numL at e
    have e1 : atL c u = atL c v := by
      have h3 := congrArg (· % (c.length : Int)) e
      simp only [Int.add_mul_emod_self_left] at h3
      rwa [Int.emod_eq_of_lt h1.1 h1.2, Int.emod_eq_of_lt h2.1 h2.2] at h3
    have e2 : numL c a = numL c b := by
      rw [e1] at e
      have h4 : (c.length : Int) * numL c a = c.length * numL c b := by omega
      exact Int.eq_of_mul_eq_mul_left (by omega) h4
    rw [atL_inj (hu u (by simp)) (hv v (by simp)) e1, numL_inj a b (by simpa using h) (fun x hx => hu x (by simp [hx])) (fun x hx => hv x (by simp [hx])) e2]
theorem numL_snoc {c : List Int} (v : Int) : ∀ l : List Int, numL c (l ++ [v]) = numL c l + (c.length : Int) ^ l.length * atL c v
  | [] => by simp [numL]
  | u :: l => by
    rw [List.cons_append]
    unfold numL
    rw [numL_snoc v l, List.length_cons, Int.pow_succ, Int.mul_add, Int.mul_comm _ (c.length : Int), Int.mul_assoc, Int.add_assoc]
def numS (s : List Tl) (r : List Nat) : Int := numL (colsOf s) (lineS s r)
def numN (s : List Tl) (r : List Nat) : Int := numL (colsOf s) (lineN s r)
theorem ti_mem {s : List Tl} {i : Nat} (h : i < s.length) : ti s i ∈ s := by
  unfold ti
  rw [List.getD_eq_getElem?_getD, List.getElem?_eq_getElem h]
  exact List.getElem_mem h
theorem lineS_cols {s : List Tl} {w : Nat} {r : List Nat} (hr : r ∈ rws s w) : ∀ v ∈ lineS s r, v ∈ colsOf s := fun v hv => by
  obtain ⟨i, hi, rfl⟩ := List.mem_map.1 hv
  exact (mem_cols s _).2 ⟨ti s i, ti_mem (rws_idx s w r hr i hi), Or.inr rfl⟩
theorem lineN_cols {s : List Tl} {w : Nat} {r : List Nat} (hr : r ∈ rws s w) : ∀ v ∈ lineN s r, v ∈ colsOf s := fun v hv => by
  obtain ⟨i, hi, rfl⟩ := List.mem_map.1 hv
  exact (mem_cols s _).2 ⟨ti s i, ti_mem (rws_idx s w r hr i hi), Or.inl rfl⟩
theorem line_num (s : List Tl) (w : Nat) (r : List Nat) (hr : r ∈ rws s w) (q : List Nat) (hq : q ∈ rws s w) : lineS s r = lineN s q ↔ numS s r = numN s q := by
  constructor
  · intro e
    unfold numS numN
    rw [e]
  · intro e
    exact numL_inj _ _ (by simp [lineS, lineN, rws_len s w r hr, rws_len s w q hq]) (lineS_cols hr) (lineN_cols hq) e
/-- the reference's lines are numbers -/
theorem countE_num (s : List Tl) (w h : Nat) (d : Ed) (hh : 1 ≤ h) : countE s w h d = total (rws s w) (admE s d h) (numS s) (numN s) h :=
  total_congr _ _ _ _ _ _ (line_num s w) h hh
theorem stksE_num (s : List Tl) (w h : Nat) (d : Ed) : stksE s w h d = stk (rws s w) (admE s d h) (numS s) (numN s) h 0 none :=
  (stk_congr _ _ _ _ _ _ (line_num s w) h 0).2
theorem numS_range {s : List Tl} {w : Nat} {r : List Nat} (hr : r ∈ rws s w) : 0 ≤ numS s r ∧ numS s r < ((colsOf s).length : Int) ^ w := by
  have := numL_range _ (lineS_cols hr)
  rwa [show (lineS s r).length = w by simp [lineS, rws_len s w r hr]] at this
theorem numN_range {s : List Tl} {w : Nat} {r : List Nat} (hr : r ∈ rws s w) : 0 ≤ numN s r ∧ numN s r < ((colsOf s).length : Int) ^ w := by
  have := numL_range _ (lineN_cols hr)
  rwa [show (lineN s r).length = w by simp [lineN, rws_len s w r hr]] at this
end
section
set_option linter.unusedVariables false

/-- the cell of a stack in column x of row y -/
def cl (t : List (List Nat)) (x y : Nat) : Nat := (t.getD y []).getD x 0
/-- the stack of a size whose cells are these -/
def mk (w h : Nat) (c : Nat → Nat → Nat) : List (List Nat) := (List.range h).map fun y => (List.range w).map fun x => c x y
def Shaped (w h : Nat) (t : List (List Nat)) : Prop := t.length = h ∧ ∀ r ∈ t, r.length = w
theorem getD_map_range {α : Type} (f : Nat → α) (n i : Nat) (d : α) (h : i < n) : ((List.range n).map f).getD i d = f i := by
  rw [List.getD_eq_getElem?_getD, List.getElem?_map, List.getElem?_range h]
  rfl
theorem getD_of_lt {α : Type} (l : List α) (i : Nat) (d : α) (h : i < l.length) : l.getD i d = l[i] := by
  rw [List.getD_eq_getElem?_getD, List.getElem?_eq_getElem h]
  rfl
theorem list_of_getD {α : Type} (l : List α) (n : Nat) (d : α) (h : l.length = n) : (List.range n).map (fun i => l.getD i d) = l := by
  subst h
  refine List.ext_getElem (by simp) fun i h1 h2 => ?_
  rw [List.getElem_map, List.getElem_range, getD_of_lt l i d h2]
theorem mk_shaped (w h : Nat) (c : Nat → Nat → Nat) : Shaped w h (mk w h c) := by
  refine ⟨by simp [mk], fun r hr => ?_⟩
  obtain ⟨y, _, rfl⟩ := List.mem_map.1 hr
  simp
theorem cl_mk (w h : Nat) (c : Nat → Nat → Nat) {x y : Nat} (hx : x < w) (hy : y < h) : cl (mk w h c) x y = c x y := by
  unfold cl mk
  rw [getD_map_range _ _ _ _ hy, getD_map_range _ _ _ _ hx]
theorem mk_cl {w h : Nat} {t : List (List Nat)} (ht : Shaped w h t) : mk w h (cl t) = t := by
  refine Eq.trans ?_ (list_of_getD t h [] ht.1)
  unfold mk
  refine List.map_congr_left fun y hy => ?_
  have hy' : y < t.length := by rw [ht.1]; exact List.mem_range.1 hy
  exact list_of_getD _ w 0 (ht.2 _ (by rw [getD_of_lt t y [] hy']; exact List.getElem_mem hy'))
theorem mk_congr (w h : Nat) (c c' : Nat → Nat → Nat) (H : ∀ x y, x < w → y < h → c x y = c' x y) : mk w h c = mk w h c' := by
  unfold mk
  refine List.map_congr_left fun y hy => List.map_congr_left fun x hx => H x y (List.mem_range.1 hx) (List.mem_range.1 hy)
/-- the edges have the lengths of the sides -/
def EdOk (w h : Nat) (d : Ed) : Prop := (d.n = [] ∨ d.n.length = w) ∧ (d.e = [] ∨ d.e.length = h) ∧ (d.s = [] ∨ d.s.length = w) ∧ (d.w = [] ∨ d.w.length = h)
/-- the cells agree, and the edges are met -/
structure Good (s : List Tl) (w h : Nat) (d : Ed) (c : Nat → Nat → Nat) : Prop where
  idx : ∀ x y, x < w → y < h → c x y < s.length
  hor : ∀ x y, x + 1 < w → y < h → (ti s (c x y)).e = (ti s (c (x + 1) y)).w
  ver : ∀ x y, x < w → y + 1 < h → (ti s (c x y)).n = (ti s (c x (y + 1))).s
  no : d.n = [] ∨ ∀ x, x < w → (ti s (c x (h - 1))).n = d.n.getD x 0
  ea : d.e = [] ∨ ∀ y, y < h → (ti s (c (w - 1) y)).e = d.e.getD y 0
  so : d.s = [] ∨ ∀ x, x < w → (ti s (c x 0)).s = d.s.getD x 0
  we : d.w = [] ∨ ∀ y, y < h → (ti s (c 0 y)).w = d.w.getD y 0

theorem east_getD (s : List Tl) (r : List Nat) (w : Nat) (hw : 1 ≤ w) (h : r.length = w) : east s r = (ti s (r.getD (w - 1) 0)).e := by
  unfold east
  rw [List.getLast?_eq_getElem?, h, List.getD_eq_getElem?_getD, List.getElem?_eq_getElem (show w - 1 < r.length by omega)]
  rfl
theorem west_getD (s : List Tl) (r : List Nat) (hw : 1 ≤ r.length) : west s r = (ti s (r.getD 0 0)).w := by
  cases r with
  | nil => simp at hw
  | cons a r => rfl
theorem mem_rws (s : List Tl) : ∀ (w : Nat) (r : List Nat), r ∈ rws s w ↔ r.length = w ∧ (∀ x, x < w → r.getD x 0 < s.length) ∧ ∀ x, x + 1 < w → (ti s (r.getD x 0)).e = (ti s (r.getD (x + 1) 0)).w
  | 0, r => by
    simp only [rws, List.mem_singleton]
    constructor
    · rintro rfl; simp
    · rintro ⟨h, _⟩; exact List.length_eq_zero_iff.1 h
  | w + 1, r => by
    simp only [rws, List.mem_flatMap, longer, List.mem_map, List.mem_filter, List.mem_range]
    constructor
    · rintro ⟨q, hq, i, ⟨hi, hj⟩, rfl⟩
      obtain ⟨h1, h2, h3⟩ := (mem_rws s w q).1 hq
      have e1 : ∀ x, x < w → (q ++ [i]).getD x 0 = q.getD x 0 := fun x hx => by
        rw [List.getD_eq_getElem?_getD, List.getD_eq_getElem?_getD, List.getElem?_append_left (by omega)]
      have e2 : (q ++ [i]).getD w 0 = i := by
        rw [List.getD_eq_getElem?_getD, List.getElem?_append_right (by omega), h1, Nat.sub_self]
        rfl
      refine ⟨by simp [h1], fun x hx => ?_, fun x hx => ?_⟩
      · by_cases hxw : x < w
        · rw [e1 x hxw]; exact h2 x hxw
        · rw [show x = w by omega, e2]; exact hi
      · by_cases hxw : x + 1 < w
        · rw [e1 x (by omega), e1 (x + 1) hxw]; exact h3 x hxw
        · rw [e1 x (by omega), show x + 1 = w by omega, e2]
          unfold mayJoin at hj
          rw [decide_eq_true_eq] at hj
          rcases hj with hj | hj
          · rw [hj] at h1; simp at h1; omega
          · rw [← hj, east_getD s q w (by omega) h1, show w - 1 = x by omega]
    · rintro ⟨h1, h2, h3⟩
      have hne : r ≠ [] := fun e => by rw [e] at h1; simp at h1
      have er := List.dropLast_concat_getLast hne
      have hl : r.dropLast.length = w := by simp [h1]
      have e1 : ∀ x, x < w → r.dropLast.getD x 0 = r.getD x 0 := fun x hx => by
        conv => rhs; rw [← er]
        rw [List.getD_eq_getElem?_getD, List.getD_eq_getElem?_getD, List.getElem?_append_left (by omega)]
      have e2 : r.getLast hne = r.getD w 0 := by
        conv => rhs; rw [← er]
        rw [List.getD_eq_getElem?_getD, List.getElem?_append_right (by omega), hl, Nat.sub_self]
        rfl
      refine ⟨r.dropLast, (mem_rws s w _).2 ⟨hl, fun x hx => ?_, fun x hx => ?_⟩, r.getLast hne, ⟨?_, ?_⟩, er⟩
      · rw [e1 x hx]; exact h2 x (by omega)
      · rw [e1 x (by omega), e1 (x + 1) hx]; exact h3 x (by omega)
      · rw [e2]; exact h2 w (by omega)
      · unfold mayJoin
        rw [decide_eq_true_eq]
        by_cases hw : w = 0
        · left; exact List.length_eq_zero_iff.1 (by omega)
        · right
          rw [east_getD s _ w (by omega) hl, e1 _ (by omega), e2]
          have := h3 (w - 1) (by omega)
          rwa [show w - 1 + 1 = w by omega] at this
theorem rws_nodup (s : List Tl) : ∀ w, (rws s w).Nodup
  | 0 => by simp [rws]
  | w + 1 => by
    have ih := rws_nodup s w
    simp only [rws]
    generalize rws s w = l at ih
    induction l with
    | nil => exact List.nodup_nil
    | cons q l ihl =>
      rw [List.nodup_cons] at ih
      rw [List.flatMap_cons, List.nodup_append]
      refine ⟨?_, ihl ih.2, ?_⟩
      · unfold longer
        have := List.nodup_range (n := s.length) |>.sublist (List.filter_sublist (p := mayJoin s q))
        unfold List.Nodup at this ⊢
        rw [List.pairwise_map]
        exact this.imp fun h e => h (by simpa using (List.append_inj e rfl).2)
      · intro a ha b hb e
        subst e
        obtain ⟨i, _, rfl⟩ := List.mem_map.1 ha
        obtain ⟨p, hp, hq⟩ := List.mem_flatMap.1 hb
        obtain ⟨j, _, e⟩ := List.mem_map.1 hq
        exact ih.1 ((List.append_inj' e rfl).1 ▸ hp)
theorem line_eq {s : List Tl} {w : Nat} (f g : Tl → Int) {r q : List Nat} (hr : r.length = w) (hq : q.length = w) : (r.map fun i => f (ti s i)) = (q.map fun i => g (ti s i)) ↔ ∀ x, x < w → f (ti s (r.getD x 0)) = g (ti s (q.getD x 0)) := by
  constructor
  · intro e x hx
    have := congrArg (fun l : List Int => l[x]?) e
    simp only [List.getElem?_map, List.getElem?_eq_getElem (show x < r.length by omega), List.getElem?_eq_getElem (show x < q.length by omega), Option.map_some, Option.some.injEq] at this
    rw [getD_of_lt r x 0 (by omega), getD_of_lt q x 0 (by omega)]
    exact this
  · intro h
    refine List.ext_getElem (by simp [hr, hq]) fun x h1 h2 => ?_
    rw [List.getElem_map, List.getElem_map]
    have := h x (by rw [List.length_map, hr] at h1; exact h1)
    rwa [getD_of_lt r x 0 (by simpa using h1), getD_of_lt q x 0 (by simpa using h2)] at this
theorem line_edge {s : List Tl} {w : Nat} (f : Tl → Int) {r : List Nat} (l : List Int) (hr : r.length = w) (hl : l.length = w) : (r.map fun i => f (ti s i)) = l ↔ ∀ x, x < w → f (ti s (r.getD x 0)) = l.getD x 0 := by
  constructor
  · intro e x hx
    rw [← e, getD_of_lt r x 0 (by omega), getD_of_lt _ x 0 (by simp; omega), List.getElem_map]
  · intro h
    refine List.ext_getElem (by simp [hr, hl]) fun x h1 h2 => ?_
    have := h x (by rw [List.length_map, hr] at h1; exact h1)
    rw [getD_of_lt r x 0 (by simpa using h1), getD_of_lt l x 0 h2] at this
    rwa [List.getElem_map]
theorem isStk_iff {α κ : Type} [DecidableEq κ] (R : List α) (adm : Nat → α → Bool) (S N : α → κ) (d0 : α) : ∀ (t : List α) (y : Nat) (b : Option κ), isStk R adm S N y b t ↔
    (∀ i, i < t.length → t.getD i d0 ∈ R ∧ adm (y + i) (t.getD i d0) = true) ∧ (0 < t.length → stands S b (t.getD 0 d0) = true) ∧ ∀ i, i + 1 < t.length → S (t.getD (i + 1) d0) = N (t.getD i d0)
  | [], y, b => by simp [isStk]
  | r :: t, y, b => by
    unfold isStk
    rw [isStk_iff R adm S N d0 t (y + 1) (some (N r))]
    constructor
    · rintro ⟨h1, h2, h3, h4, h5, h6⟩
      refine ⟨fun i hi => ?_, fun _ => h3, fun i hi => ?_⟩
      · cases i with
        | zero => exact ⟨h1, h2⟩
        | succ i =>
          have := h4 i (by simpa using hi)
          rw [Nat.add_right_comm] at this
          exact this
      · cases i with
        | zero =>
          have := h5 (by simpa using hi)
          unfold stands at this
          exact of_decide_eq_true this
        | succ i => exact h6 i (by simpa using hi)
    · rintro ⟨h1, h2, h3⟩
      have h0 := h1 0 (by simp)
      refine ⟨h0.1, h0.2, h2 (by simp), fun i hi => ?_, fun hp => ?_, fun i hi => h3 (i + 1) (by simpa using hi)⟩
      · have := h1 (i + 1) (by simpa using hi)
        rw [show y + (i + 1) = y + 1 + i by omega] at this
        exact this
      · unfold stands
        exact decide_eq_true (h3 0 (by simpa using hp))
/-- A STACK IS ONE OF THE SET WITH THESE EDGES EXACTLY IF ITS CELLS AGREE AND THE EDGES ARE MET. -/
theorem mem_stksE (s : List Tl) (w h : Nat) (d : Ed) (hw : 1 ≤ w) (hh : 1 ≤ h) (hd : EdOk w h d) (t : List (List Nat)) : t ∈ stksE s w h d ↔ Shaped w h t ∧ Good s w h d (cl t) := by
  unfold stksE
  rw [mem_stk, isStk_iff _ _ _ _ []]
  constructor
  · rintro ⟨hl, h1, h2, h3⟩
    rw [hl] at h1 h2 h3
    have hr : ∀ y, y < h → (t.getD y []).length = w := fun y hy => rws_len s w _ (h1 y hy).1
    have ha : ∀ y, y < h → admE s d h y (t.getD y []) = true := fun y hy => by have := (h1 y hy).2; rwa [Nat.zero_add] at this
    simp only [admE, Bool.and_eq_true, Bool.or_eq_true, decide_eq_true_eq, sideE, hasE] at ha
    refine ⟨⟨hl, fun r hr' => ?_⟩, ⟨fun x y hx hy => ((mem_rws s w _).1 (h1 y hy).1).2.1 x hx, fun x y hx hy => ((mem_rws s w _).1 (h1 y hy).1).2.2 x hx, fun x y hx hy => ?_, ?_, ?_, ?_, ?_⟩⟩
    · obtain ⟨i, hi, rfl⟩ := List.mem_iff_getElem.1 hr'
      have := hr i (by omega)
      rwa [getD_of_lt t i [] hi] at this
    · have := h3 y hy
      exact ((line_eq (s := s) Tl.s Tl.n (hr _ hy) (hr y (by omega))).1 this x hx).symm
    · rcases hd.1 with e | e
      · exact Or.inl e
      · rcases (ha (h - 1) (by omega)).2.2 with h4 | h4 | h4
        · omega
        · exact Or.inl h4
        · exact Or.inr ((line_edge (s := s) Tl.n d.n (hr _ (by omega)) e).1 h4)
    · by_cases e : d.e = []
      · exact Or.inl e
      · refine Or.inr fun y hy => ?_
        rcases (ha y hy).1.2 with h4 | h4
        · exact absurd h4 e
        · rw [h4, east_getD s _ w hw (hr y hy)]
          rfl
    · rcases hd.2.2.1 with e | e
      · exact Or.inl e
      · rcases (ha 0 (by omega)).2.1 with h4 | h4 | h4
        · omega
        · exact Or.inl h4
        · exact Or.inr ((line_edge (s := s) Tl.s d.s (hr _ (by omega)) e).1 h4)
    · by_cases e : d.w = []
      · exact Or.inl e
      · refine Or.inr fun y hy => ?_
        rcases (ha y hy).1.1 with h4 | h4
        · exact absurd h4 e
        · rw [h4, west_getD s _ (by rw [hr y hy]; exact hw)]
          rfl
  · rintro ⟨⟨hl, hr'⟩, g⟩
    have hr : ∀ y, y < h → (t.getD y []).length = w := fun y hy => by
      rw [getD_of_lt t y [] (by omega)]
      exact hr' _ (List.getElem_mem _)
    refine ⟨hl, fun y hy => ⟨(mem_rws s w _).2 ⟨hr y (by omega), fun x hx => g.idx x y hx (by omega), fun x hx => g.hor x y hx (by omega)⟩, ?_⟩, fun _ => rfl, fun y hy => ?_⟩
    · rw [hl] at hy
      simp only [admE, Bool.and_eq_true, Bool.or_eq_true, decide_eq_true_eq, sideE, hasE, Nat.zero_add]
      refine ⟨⟨?_, ?_⟩, ?_, ?_⟩
      · refine g.we.imp id fun h4 => ?_
        rw [← h4 y hy, west_getD s _ (by rw [hr y hy]; exact hw)]
        rfl
      · refine g.ea.imp id fun h4 => ?_
        rw [← h4 y hy, east_getD s _ w hw (hr y hy)]
        rfl
      · by_cases hy0 : 0 < y
        · exact Or.inl hy0
        · obtain rfl : y = 0 := by omega
          right
          rcases hd.2.2.1 with e | e
          · exact Or.inl e
          · exact g.so.imp id fun h4 => (line_edge (s := s) Tl.s d.s (hr 0 hy) e).2 h4
      · by_cases hy0 : y + 1 < h
        · exact Or.inl hy0
        · obtain rfl : y = h - 1 := by omega
          right
          rcases hd.1 with e | e
          · exact Or.inl e
          · exact g.no.imp id fun h4 => (line_edge (s := s) Tl.n d.n (hr _ hy) e).2 h4
    · rw [hl] at hy
      exact (line_eq (s := s) Tl.s Tl.n (hr _ hy) (hr y (by omega))).2 fun x hx => (g.ver x y hx hy).symm
theorem stksE_nodup (s : List Tl) (w h : Nat) (d : Ed) : (stksE s w h d).Nodup := stk_nodup _ _ _ _ (rws_nodup s w) _ _ _
end
section
set_option linter.unusedVariables false

theorem Good.congr {s : List Tl} {w h : Nat} {d : Ed} {c c' : Nat → Nat → Nat} (g : Good s w h d c) (hw : 1 ≤ w) (hh : 1 ≤ h) (e : ∀ x y, x < w → y < h → c x y = c' x y) : Good s w h d c' where
  idx x y hx hy := by rw [← e x y hx hy]; exact g.idx x y hx hy
  hor x y hx hy := by rw [← e x y (by omega) hy, ← e (x + 1) y hx hy]; exact g.hor x y hx hy
  ver x y hx hy := by rw [← e x y hx (by omega), ← e x (y + 1) hx hy]; exact g.ver x y hx hy
  no := g.no.imp id fun H x hx => by rw [← e x (h - 1) hx (by omega)]; exact H x hx
  ea := g.ea.imp id fun H y hy => by rw [← e (w - 1) y (by omega) hy]; exact H y hy
  so := g.so.imp id fun H x hx => by rw [← e x 0 hx (by omega)]; exact H x hx
  we := g.we.imp id fun H y hy => by rw [← e 0 y (by omega) hy]; exact H y hy
/-- counts are the same where the cells change their places -/
theorem countE_bij {s s' : List Tl} {w h w' h' : Nat} {d d' : Ed} (fx fy gx gy : Nat → Nat → Nat) (hw : 1 ≤ w) (hh : 1 ≤ h) (hw' : 1 ≤ w') (hh' : 1 ≤ h') (hd : EdOk w h d) (hd' : EdOk w' h' d')
    (rf : ∀ x y, x < w' → y < h' → fx x y < w ∧ fy x y < h ∧ gx (fx x y) (fy x y) = x ∧ gy (fx x y) (fy x y) = y)
    (rg : ∀ x y, x < w → y < h → gx x y < w' ∧ gy x y < h' ∧ fx (gx x y) (gy x y) = x ∧ fy (gx x y) (gy x y) = y)
    (hf : ∀ c, Good s w h d c → Good s' w' h' d' fun x y => c (fx x y) (fy x y)) (hg : ∀ c, Good s' w' h' d' c → Good s w h d fun x y => c (gx x y) (gy x y)) : countE s w h d = countE s' w' h' d' := by
  rw [countE_stks _ _ _ _ hh, countE_stks _ _ _ _ hh']
  refine length_eq_of_bij (fun t => mk w' h' fun x y => cl t (fx x y) (fy x y)) (fun t => mk w h fun x y => cl t (gx x y) (gy x y)) _ _ (stksE_nodup _ _ _ _) (stksE_nodup _ _ _ _) (fun t ht => ?_) fun t ht => ?_
  · obtain ⟨h1, h2⟩ := (mem_stksE s w h d hw hh hd t).1 ht
    refine ⟨(mem_stksE s' w' h' d' hw' hh' hd' _).2 ⟨mk_shaped _ _ _, (hf _ h2).congr hw' hh' fun x y hx hy => (cl_mk w' h' (fun x y => cl t (fx x y) (fy x y)) hx hy).symm⟩, ?_⟩
    refine Eq.trans (mk_congr w h _ _ fun x y hx hy => ?_) (mk_cl h1)
    obtain ⟨r1, r2, r3, r4⟩ := rg x y hx hy
    rw [cl_mk w' h' _ r1 r2, r3, r4]
  · obtain ⟨h1, h2⟩ := (mem_stksE s' w' h' d' hw' hh' hd' t).1 ht
    refine ⟨(mem_stksE s w h d hw hh hd _).2 ⟨mk_shaped _ _ _, (hg _ h2).congr hw hh fun x y hx hy => (cl_mk w h (fun x y => cl t (gx x y) (gy x y)) hx hy).symm⟩, ?_⟩
    refine Eq.trans (mk_congr w' h' _ _ fun x y hx hy => ?_) (mk_cl h1)
    obtain ⟨r1, r2, r3, r4⟩ := rf x y hx hy
    rw [cl_mk w h _ r1 r2, r3, r4]
theorem ti_map (s : List Tl) (f : Tl → Tl) {i : Nat} (h : i < s.length) : ti (s.map f) i = f (ti s i) := by
  unfold ti
  rw [getD_of_lt _ i _ (by simpa using h), getD_of_lt _ i _ h, List.getElem_map]
theorem rev_getD (l : List Int) {n i : Nat} (h : l.length = n) (hi : i < n) : l.reverse.getD i 0 = l.getD (n - 1 - i) 0 := by
  rw [getD_of_lt _ i 0 (by simp; omega), getD_of_lt l _ 0 (by omega), List.getElem_reverse]
  simp only [h]
theorem rev_ok {l : List Int} {n : Nat} (h : l = [] ∨ l.length = n) : l.reverse = [] ∨ l.reverse.length = n := by
  rcases h with h | h
  · left; rw [h]; rfl
  · right; simpa using h
def mirD (d : Ed) : Ed := ⟨d.n.reverse, d.w, d.s.reverse, d.e⟩
def upD (d : Ed) : Ed := ⟨d.s, d.e.reverse, d.n, d.w.reverse⟩
def turD (d : Ed) : Ed := ⟨d.w, d.n.reverse, d.e, d.s.reverse⟩
theorem rev_side {l : List Int} {n : Nat} {P : Nat → Int} (hl : l = [] ∨ l.length = n) (h : l = [] ∨ ∀ x, x < n → P x = l.getD x 0) : l.reverse = [] ∨ ∀ x, x < n → P (n - 1 - x) = l.reverse.getD x 0 := by
  rcases h with h | h
  · left; rw [h]; rfl
  · rcases hl with e | e
    · left; rw [e]; rfl
    · right
      intro x hx
      rw [rev_getD l e hx]
      exact h _ (by omega)
theorem mirror_good {s : List Tl} {w h : Nat} {d : Ed} {c : Nat → Nat → Nat} (hw : 1 ≤ w) (hh : 1 ≤ h) (hd : EdOk w h d) (g : Good s w h d c) : Good (s.map mirT) w h (mirD d) fun x y => c (w - 1 - x) y where
  idx x y hx hy := by rw [List.length_map]; exact g.idx _ _ (by omega) hy
  hor x y hx hy := by
    rw [ti_map _ _ (g.idx _ _ (by omega) hy), ti_map _ _ (g.idx _ _ (by omega) hy)]
    have := g.hor (w - 1 - (x + 1)) y (by omega) hy
    rw [show w - 1 - (x + 1) + 1 = w - 1 - x by omega] at this
    exact this.symm
  ver x y hx hy := by
    rw [ti_map _ _ (g.idx _ _ (by omega) (by omega)), ti_map _ _ (g.idx _ _ (by omega) hy)]
    exact g.ver _ y (by omega) hy
  no := (rev_side hd.1 g.no).imp id fun H x hx => by rw [ti_map _ _ (g.idx _ _ (by omega) (by omega))]; exact H x hx
  ea := g.we.imp id fun H y hy => by rw [ti_map _ _ (g.idx _ _ (by omega) hy), show w - 1 - (w - 1) = 0 by omega]; exact H y hy
  so := (rev_side hd.2.2.1 g.so).imp id fun H x hx => by rw [ti_map _ _ (g.idx _ _ (by omega) (by omega))]; exact H x hx
  we := g.ea.imp id fun H y hy => by rw [ti_map _ _ (g.idx _ _ (by omega) hy)]; exact H y hy
theorem up_good {s : List Tl} {w h : Nat} {d : Ed} {c : Nat → Nat → Nat} (hw : 1 ≤ w) (hh : 1 ≤ h) (hd : EdOk w h d) (g : Good s w h d c) : Good (s.map upT) w h (upD d) fun x y => c x (h - 1 - y) where
  idx x y hx hy := by rw [List.length_map]; exact g.idx _ _ hx (by omega)
  hor x y hx hy := by
    rw [ti_map _ _ (g.idx _ _ (by omega) (by omega)), ti_map _ _ (g.idx _ _ hx (by omega))]
    exact g.hor x _ hx (by omega)
  ver x y hx hy := by
    rw [ti_map _ _ (g.idx _ _ hx (by omega)), ti_map _ _ (g.idx _ _ hx (by omega))]
    have := g.ver x (h - 1 - (y + 1)) hx (by omega)
    rw [show h - 1 - (y + 1) + 1 = h - 1 - y by omega] at this
    exact this.symm
  no := g.so.imp id fun H x hx => by rw [ti_map _ _ (g.idx _ _ hx (by omega)), show h - 1 - (h - 1) = 0 by omega]; exact H x hx
  ea := (rev_side hd.2.1 g.ea).imp id fun H y hy => by rw [ti_map _ _ (g.idx _ _ (by omega) (by omega))]; exact H y hy
  so := g.no.imp id fun H x hx => by rw [ti_map _ _ (g.idx _ _ hx (by omega))]; exact H x hx
  we := (rev_side hd.2.2.2 g.we).imp id fun H y hy => by rw [ti_map _ _ (g.idx _ _ (by omega) (by omega))]; exact H y hy
theorem turn_good {s : List Tl} {w h : Nat} {d : Ed} {c : Nat → Nat → Nat} (hw : 1 ≤ w) (hh : 1 ≤ h) (hd : EdOk w h d) (g : Good s w h d c) : Good (s.map turT) h w (turD d) fun x y => c (w - 1 - y) x where
  idx x y hx hy := by rw [List.length_map]; exact g.idx _ _ (by omega) hx
  hor x y hx hy := by
    rw [ti_map _ _ (g.idx _ _ (by omega) (by omega)), ti_map _ _ (g.idx _ _ (by omega) hx)]
    exact g.ver _ x (by omega) hx
  ver x y hx hy := by
    rw [ti_map _ _ (g.idx _ _ (by omega) hx), ti_map _ _ (g.idx _ _ (by omega) hx)]
    have := g.hor (w - 1 - (y + 1)) x (by omega) hx
    rw [show w - 1 - (y + 1) + 1 = w - 1 - y by omega] at this
    exact this.symm
  no := g.we.imp id fun H x hx => by rw [ti_map _ _ (g.idx _ _ (by omega) hx), show w - 1 - (w - 1) = 0 by omega]; exact H x hx
  ea := (rev_side hd.1 g.no).imp id fun H y hy => by rw [ti_map _ _ (g.idx _ _ (by omega) (by omega))]; exact H y hy
  so := g.ea.imp id fun H x hx => by rw [ti_map _ _ (g.idx _ _ (by omega) hx)]; exact H x hx
  we := (rev_side hd.2.2.1 g.so).imp id fun H y hy => by rw [ti_map _ _ (g.idx _ _ (by omega) (by omega))]; exact H y hy
theorem map_map_id (s : List Tl) (f g : Tl → Tl) (h : ∀ t, g (f t) = t) : (s.map f).map g = s := by
  rw [List.map_map]
  conv => rhs; rw [← List.map_id s]
  exact List.map_congr_left fun t _ => h t
theorem mir_ok {w h : Nat} {d : Ed} (hd : EdOk w h d) : EdOk w h (mirD d) := ⟨rev_ok hd.1, hd.2.2.2, rev_ok hd.2.2.1, hd.2.1⟩
theorem up_ok {w h : Nat} {d : Ed} (hd : EdOk w h d) : EdOk w h (upD d) := ⟨hd.2.2.1, rev_ok hd.2.1, hd.1, rev_ok hd.2.2.2⟩
theorem tur_ok {w h : Nat} {d : Ed} (hd : EdOk w h d) : EdOk h w (turD d) := ⟨hd.2.2.2, rev_ok hd.1, hd.2.1, rev_ok hd.2.2.1⟩
theorem mirD_twice (d : Ed) : mirD (mirD d) = d := by simp [mirD]
theorem upD_twice (d : Ed) : upD (upD d) = d := by simp [upD]
theorem turD_four (d : Ed) : turD (turD (turD (turD d))) = d := by simp [turD]
/-- COUNTS OF THE MIRROR IMAGE, OF THE UPTURNED AND OF THE TURNED SET ARE THE SAME. -/
theorem countE_mirror (s : List Tl) (w h : Nat) (d : Ed) (hw : 1 ≤ w) (hh : 1 ≤ h) (hd : EdOk w h d) : countE (s.map mirT) w h (mirD d) = countE s w h d := by
  refine (countE_bij (fun x _ => w - 1 - x) (fun _ y => y) (fun x _ => w - 1 - x) (fun _ y => y) hw hh hw hh hd (mir_ok hd) (fun x y hx hy => ⟨by omega, hy, by omega, rfl⟩) (fun x y hx hy => ⟨by omega, hy, by omega, rfl⟩) (fun c g => mirror_good hw hh hd g) fun c g => ?_).symm
  have := mirror_good hw hh (mir_ok hd) g
  rwa [map_map_id s mirT mirT (fun _ => rfl), mirD_twice] at this
theorem countE_up (s : List Tl) (w h : Nat) (d : Ed) (hw : 1 ≤ w) (hh : 1 ≤ h) (hd : EdOk w h d) : countE (s.map upT) w h (upD d) = countE s w h d := by
  refine (countE_bij (fun x _ => x) (fun _ y => h - 1 - y) (fun x _ => x) (fun _ y => h - 1 - y) hw hh hw hh hd (up_ok hd) (fun x y hx hy => ⟨hx, by omega, rfl, by omega⟩) (fun x y hx hy => ⟨hx, by omega, rfl, by omega⟩) (fun c g => up_good hw hh hd g) fun c g => ?_).symm
  have := up_good hw hh (up_ok hd) g
  rwa [map_map_id s upT upT (fun _ => rfl), upD_twice] at this
theorem countE_turn (s : List Tl) (w h : Nat) (d : Ed) (hw : 1 ≤ w) (hh : 1 ≤ h) (hd : EdOk w h d) : countE (s.map turT) h w (turD d) = countE s w h d := by
  refine (countE_bij (fun _ y => w - 1 - y) (fun x _ => x) (fun _ y => y) (fun x _ => w - 1 - x) hw hh hh hw hd (tur_ok hd) (fun x y hx hy => ⟨by omega, hx, rfl, by omega⟩) (fun x y hx hy => ⟨hy, by omega, by omega, rfl⟩) (fun c g => turn_good hw hh hd g) fun c g => ?_).symm
  have h1 := turn_good hh hw (tur_ok hd) g
  have h2 := turn_good hw hh (tur_ok (tur_ok hd)) h1
  have h3 := turn_good hh hw (tur_ok (tur_ok (tur_ok hd))) h2
  rw [turD_four, List.map_map, List.map_map, List.map_map] at h3
  have e : s.map (((turT ∘ turT) ∘ turT) ∘ turT) = s := by
    conv => rhs; rw [← List.map_id s]
    exact List.map_congr_left fun t _ => rfl
  rw [e] at h3
  exact h3.congr hw hh fun x y hx hy => by
    show c (h - 1 - (h - 1 - y)) (w - 1 - x) = c y (w - 1 - x)
    rw [show h - 1 - (h - 1 - y) = y by omega]

/-! sums over the colours of an edge -/
/-- all lists of n of some colours -/
def lsts (c : List Int) : Nat → List (List Int)
  | 0 => [[]]
  | n + 1 => (lsts c n).flatMap fun l => c.map fun v => l ++ [v]
theorem mem_lsts (c : List Int) : ∀ (n : Nat) (l : List Int), l ∈ lsts c n ↔ l.length = n ∧ ∀ v ∈ l, v ∈ c
  | 0, l => by
    simp only [lsts, List.mem_singleton]
    constructor
    · rintro rfl; simp
    · rintro ⟨h, _⟩; exact List.length_eq_zero_iff.1 h
  | n + 1, l => by
    simp only [lsts, List.mem_flatMap, List.mem_map]
    constructor
    · rintro ⟨k, hk, v, hv, rfl⟩
      obtain ⟨h1, h2⟩ := (mem_lsts c n k).1 hk
      refine ⟨by simp [h1], fun u hu => ?_⟩
      rcases List.mem_append.1 hu with h | h
      · exact h2 u h
      · rw [List.mem_singleton] at h; rw [h]; exact hv
    · rintro ⟨h1, h2⟩
      have hne : l ≠ [] := fun e => by rw [e] at h1; simp at h1
      have er := List.dropLast_concat_getLast hne
      exact ⟨l.dropLast, (mem_lsts c n _).2 ⟨by simp [h1], fun v hv => h2 v ((List.dropLast_sublist l).subset hv)⟩, l.getLast hne, h2 _ (List.getLast_mem hne), er⟩
theorem lsts_nodup (c : List Int) (hc : c.Nodup) : ∀ n, (lsts c n).Nodup
  | 0 => by simp [lsts]
  | n + 1 => by
    have ih := lsts_nodup c hc n
    simp only [lsts]
    generalize lsts c n = L at ih
    induction L with
    | nil => exact List.nodup_nil
    | cons q L ihl =>
      rw [List.nodup_cons] at ih
      rw [List.flatMap_cons, List.nodup_append]
      refine ⟨?_, ihl ih.2, ?_⟩
      · have := hc
        unfold List.Nodup at this ⊢
        rw [List.pairwise_map]
        exact this.imp fun h e => h (by simpa using (List.append_inj e rfl).2)
      · intro a ha b hb e
        subst e
        obtain ⟨i, _, rfl⟩ := List.mem_map.1 ha
        obtain ⟨p, hp, hq⟩ := List.mem_flatMap.1 hb
        obtain ⟨j, _, e⟩ := List.mem_map.1 hq
        exact ih.1 ((List.append_inj' e rfl).1 ▸ hp)
theorem sum_ones {β : Type} : ∀ l : List β, (l.map fun _ => 1).sum = l.length
  | [] => rfl
  | _ :: l => by rw [List.map_cons, List.sum_cons, sum_ones l, List.length_cons, Nat.add_comm]
theorem length_keys {β κ : Type} [DecidableEq κ] (l : List β) (key : β → κ) (ks : List κ) (hn : ks.Nodup) (hk : ∀ a ∈ l, key a ∈ ks) : (ks.map fun k => (l.filter fun a => decide (key a = k)).length).sum = l.length := by
  have := sum_keys l key (fun _ => 1) ks hn hk
  rw [sum_ones] at this
  rw [← this]
  congr 1
  exact List.map_congr_left fun k _ => (sum_ones _).symm
theorem length_same {β : Type} [DecidableEq β] (l m : List β) (hl : l.Nodup) (hm : m.Nodup) (h : ∀ a, a ∈ l ↔ a ∈ m) : l.length = m.length :=
  length_eq_of_bij id id l m hl hm (fun a ha => ⟨(h a).1 ha, rfl⟩) fun b hb => ⟨(h b).2 hb, rfl⟩
/-- the colours to the north of row y -/
def topAt (s : List Tl) (w : Nat) (y : Nat) (t : List (List Nat)) : List Int := (List.range w).map fun x => (ti s (cl t x y)).n
theorem topAt_eq {s : List Tl} {w y : Nat} {t : List (List Nat)} {l : List Int} (hl : l.length = w) : topAt s w y t = l ↔ ∀ x, x < w → (ti s (cl t x y)).n = l.getD x 0 := by
  unfold topAt
  constructor
  · rintro rfl x hx
    rw [getD_map_range _ _ _ _ hx]
  · intro h
    refine Eq.trans (List.map_congr_left fun x hx => h x (List.mem_range.1 hx)) (list_of_getD l w 0 hl)
theorem topAt_mem {s : List Tl} {w h : Nat} {d : Ed} {t : List (List Nat)} (g : Good s w h d (cl t)) {y : Nat} (hy : y < h) : topAt s w y t ∈ lsts (colsOf s) w := by
  rw [mem_lsts]
  refine ⟨by simp [topAt], fun v hv => ?_⟩
  obtain ⟨x, hx, rfl⟩ := List.mem_map.1 hv
  exact (mem_cols s _).2 ⟨_, ti_mem (g.idx x y (List.mem_range.1 hx) hy), Or.inl rfl⟩
theorem ne_nil_of_len {l : List Int} {w : Nat} (h : l.length = w) (hw : 1 ≤ w) : l ≠ [] := fun e => by rw [e] at h; simp at h; omega
/-- COUNTS ARE SUMS OVER THE COLOURS OF AN EDGE. -/
theorem countE_sum (s : List Tl) (w h : Nat) (d : Ed) (hw : 1 ≤ w) (hh : 1 ≤ h) (hd : EdOk w h d) (hn : d.n = []) :
    countE s w h d = ((lsts (colsOf s) w).map fun l => countE s w h ⟨l, d.e, d.s, d.w⟩).sum := by
  rw [countE_stks _ _ _ _ hh, ← length_keys (stksE s w h d) (topAt s w (h - 1)) _ (lsts_nodup _ (cols_nodup s) w) fun t ht => topAt_mem ((mem_stksE s w h d hw hh hd t).1 ht).2 (by omega)]
  congr 1
  refine List.map_congr_left fun l hl => ?_
  have hlw := ((mem_lsts _ _ _).1 hl).1
  have hd' : EdOk w h ⟨l, d.e, d.s, d.w⟩ := ⟨Or.inr hlw, hd.2⟩
  rw [countE_stks _ _ _ _ hh]
  refine length_same _ _ ((stksE_nodup s w h d).sublist List.filter_sublist) (stksE_nodup _ _ _ _) fun t => ?_
  rw [List.mem_filter, mem_stksE s w h d hw hh hd, mem_stksE s w h _ hw hh hd', decide_eq_true_eq, topAt_eq hlw]
  constructor
  · rintro ⟨⟨h1, g⟩, h2⟩
    exact ⟨h1, ⟨g.idx, g.hor, g.ver, Or.inr h2, g.ea, g.so, g.we⟩⟩
  · rintro ⟨h1, g⟩
    refine ⟨⟨h1, ⟨g.idx, g.hor, g.ver, Or.inl hn, g.ea, g.so, g.we⟩⟩, ?_⟩
    rcases g.no with e | e
    · exact absurd e (ne_nil_of_len hlw hw)
    · exact e
theorem cl_take {t : List (List Nat)} {k x y : Nat} (hy : y < k) : cl (t.take k) x y = cl t x y := by
  unfold cl
  congr 1
  rw [List.getD_eq_getElem?_getD, List.getD_eq_getElem?_getD, List.getElem?_take, if_pos hy]
theorem cl_drop {t : List (List Nat)} {k x y : Nat} : cl (t.drop k) x y = cl t x (k + y) := by
  unfold cl
  congr 1
  rw [List.getD_eq_getElem?_getD, List.getD_eq_getElem?_getD, List.getElem?_drop]
theorem cl_app_lo {a b : List (List Nat)} {k x y : Nat} (ha : a.length = k) (hy : y < k) : cl (a ++ b) x y = cl a x y := by
  unfold cl
  congr 1
  rw [List.getD_eq_getElem?_getD, List.getD_eq_getElem?_getD, List.getElem?_append_left (by omega)]
theorem cl_app_hi {a b : List (List Nat)} {k x y : Nat} (ha : a.length = k) : cl (a ++ b) x (k + y) = cl b x y := by
  unfold cl
  congr 1
  rw [List.getD_eq_getElem?_getD, List.getD_eq_getElem?_getD, List.getElem?_append_right (by omega), ha, Nat.add_sub_cancel_left]
def lowD (d : Ed) (k : Nat) (l : List Int) : Ed := ⟨l, d.e.take k, d.s, d.w.take k⟩
def highD (d : Ed) (k : Nat) (l : List Int) : Ed := ⟨d.n, d.e.drop k, l, d.w.drop k⟩
theorem low_ok {w h k : Nat} {d : Ed} {l : List Int} (hd : EdOk w h d) (hl : l.length = w) (hk : k ≤ h) : EdOk w k (lowD d k l) :=
  ⟨Or.inr hl, hd.2.1.imp (fun e => by simp [lowD, e]) fun e => by simp [lowD, e, hk], hd.2.2.1, hd.2.2.2.imp (fun e => by simp [lowD, e]) fun e => by simp [lowD, e, hk]⟩
theorem high_ok {w h k : Nat} {d : Ed} {l : List Int} (hd : EdOk w h d) (hl : l.length = w) : EdOk w (h - k) (highD d k l) :=
  ⟨hd.1, hd.2.1.imp (fun e => by simp [highD, e]) fun e => by simp [highD, e], Or.inr hl, hd.2.2.2.imp (fun e => by simp [highD, e]) fun e => by simp [highD, e]⟩
theorem take_getD {l : List Int} {k y : Nat} (hy : y < k) : (l.take k).getD y 0 = l.getD y 0 := by
  rw [List.getD_eq_getElem?_getD, List.getD_eq_getElem?_getD, List.getElem?_take, if_pos hy]
theorem drop_getD {l : List Int} {k y : Nat} : (l.drop k).getD y 0 = l.getD (k + y) 0 := by
  rw [List.getD_eq_getElem?_getD, List.getD_eq_getElem?_getD, List.getElem?_drop]
theorem side_cut {l : List Int} {h k : Nat} {P : Nat → Int} (hl : l = [] ∨ l.length = h) (hk : 1 ≤ k) (hkh : k < h) : (l = [] ∨ ∀ y, y < h → P y = l.getD y 0) ↔ (l.take k = [] ∨ ∀ y, y < k → P y = (l.take k).getD y 0) ∧ (l.drop k = [] ∨ ∀ y, y < h - k → P (k + y) = (l.drop k).getD y 0) := by
  rcases hl with e | e
  · subst e; simp
  · have h1 : l ≠ [] := fun e' => by rw [e'] at e; simp at e; omega
    have h2 : l.take k ≠ [] := fun e' => by
      have := congrArg List.length e'
      rw [List.length_take, List.length_nil] at this
      omega
    have h3 : l.drop k ≠ [] := fun e' => by
      have := congrArg List.length e'
      rw [List.length_drop, List.length_nil] at this
      omega
    simp only [h1, h2, h3, false_or]
    constructor
    · intro H
      exact ⟨fun y hy => by rw [take_getD hy]; exact H y (by omega), fun y hy => by rw [drop_getD]; exact H _ (by omega)⟩
    · rintro ⟨H1, H2⟩ y hy
      by_cases hyk : y < k
      · rw [← take_getD hyk]; exact H1 y hyk
      · have := H2 (y - k) (by omega)
        rwa [drop_getD, show k + (y - k) = y by omega] at this
theorem good_cut {s : List Tl} {w h k : Nat} {d : Ed} {c : Nat → Nat → Nat} {l : List Int} (hw : 1 ≤ w) (hk : 1 ≤ k) (hkh : k < h) (hd : EdOk w h d) (hl : l.length = w) :
    (Good s w h d c ∧ ∀ x, x < w → (ti s (c x (k - 1))).n = l.getD x 0) ↔ Good s w k (lowD d k l) c ∧ Good s w (h - k) (highD d k l) fun x y => c x (k + y) := by
  have hne := ne_nil_of_len hl hw
  constructor
  · rintro ⟨g, hm⟩
    refine ⟨⟨fun x y hx hy => g.idx x y hx (by omega), fun x y hx hy => g.hor x y hx (by omega), fun x y hx hy => g.ver x y hx (by omega), Or.inr hm, ((side_cut hd.2.1 hk hkh).1 g.ea).1, g.so, ((side_cut hd.2.2.2 hk hkh).1 g.we).1⟩,
      ⟨fun x y hx hy => g.idx x _ hx (by omega), fun x y hx hy => g.hor x _ hx (by omega), fun x y hx hy => g.ver x (k + y) hx (by omega), ?_, ((side_cut hd.2.1 hk hkh).1 g.ea).2, Or.inr fun x hx => ?_, ((side_cut hd.2.2.2 hk hkh).1 g.we).2⟩⟩
    · exact g.no.imp id fun H x hx => by rw [show k + (h - k - 1) = h - 1 by omega]; exact H x hx
    · have := g.ver x (k - 1) hx (by omega)
      rw [show k - 1 + 1 = k by omega] at this
      rw [Nat.add_zero, ← this]
      exact hm x hx
  · rintro ⟨g1, g2⟩
    have hm : ∀ x, x < w → (ti s (c x (k - 1))).n = l.getD x 0 := g1.no.resolve_left hne
    have hs : ∀ x, x < w → (ti s (c x k)).s = l.getD x 0 := g2.so.resolve_left hne
    refine ⟨⟨fun x y hx hy => ?_, fun x y hx hy => ?_, fun x y hx hy => ?_, ?_, (side_cut hd.2.1 hk hkh).2 ⟨g1.ea, g2.ea⟩, g1.so, (side_cut hd.2.2.2 hk hkh).2 ⟨g1.we, g2.we⟩⟩, hm⟩
    · by_cases hyk : y < k
      · exact g1.idx x y hx hyk
      · have := g2.idx x (y - k) hx (by omega)
        rwa [show k + (y - k) = y by omega] at this
    · by_cases hyk : y < k
      · exact g1.hor x y hx hyk
      · have := g2.hor x (y - k) hx (by omega)
        rwa [show k + (y - k) = y by omega] at this
    · by_cases hyk : y + 1 < k
      · exact g1.ver x y hx hyk
      · by_cases e : y + 1 = k
        · obtain rfl : y = k - 1 := by omega
          rw [e, hm x hx, hs x hx]
        · have := g2.ver x (y - k) hx (by omega)
          rwa [show k + (y - k) = y by omega, show k + (y - k + 1) = y + 1 by omega] at this
    · exact g2.no.imp id fun H x hx => by have := H x hx; rwa [show k + (h - k - 1) = h - 1 by omega] at this
theorem length_prod {β γ : Type} (l : List β) (m : List γ) : (l.flatMap fun a => m.map fun b => (a, b)).length = l.length * m.length := by
  induction l with
  | nil => simp
  | cons a l ih => rw [List.flatMap_cons, List.length_append, ih, List.length_map, List.length_cons, Nat.add_mul, Nat.one_mul, Nat.add_comm]
theorem nodup_prod {β γ : Type} (m : List γ) (hm : m.Nodup) : ∀ l : List β, l.Nodup → (l.flatMap fun a => m.map fun b => (a, b)).Nodup
  | [], _ => List.nodup_nil
  | a :: l, hn => by
    rw [List.nodup_cons] at hn
    rw [List.flatMap_cons, List.nodup_append]
    refine ⟨?_, nodup_prod m hm l hn.2, ?_⟩
    · have := hm
      unfold List.Nodup at this ⊢
      rw [List.pairwise_map]
      exact this.imp fun h e => h (Prod.mk.inj e).2
    · intro p hp q hq e
      subst e
      obtain ⟨b, _, rfl⟩ := List.mem_map.1 hp
      obtain ⟨a', ha', hq'⟩ := List.mem_flatMap.1 hq
      obtain ⟨b', _, e⟩ := List.mem_map.1 hq'
      exact hn.1 ((Prod.mk.inj e).1 ▸ ha')
theorem shaped_cut {w h k : Nat} {t : List (List Nat)} (ht : Shaped w h t) (hk : k ≤ h) : Shaped w k (t.take k) ∧ Shaped w (h - k) (t.drop k) :=
  ⟨⟨by rw [List.length_take, ht.1]; omega, fun r hr => ht.2 r (List.mem_of_mem_take hr)⟩, ⟨by rw [List.length_drop, ht.1], fun r hr => ht.2 r (List.mem_of_mem_drop hr)⟩⟩
theorem shaped_app {w h k : Nat} {a b : List (List Nat)} (ha : Shaped w k a) (hb : Shaped w (h - k) b) (hk : k ≤ h) : Shaped w h (a ++ b) :=
  ⟨by rw [List.length_append, ha.1, hb.1]; omega, fun r hr => (List.mem_append.1 hr).elim (ha.2 r) (hb.2 r)⟩
/-- COUNTS OF TWO PARTS. -/
theorem countE_stacked (s : List Tl) (w h k : Nat) (d : Ed) (hw : 1 ≤ w) (hk : 1 ≤ k) (hkh : k < h) (hd : EdOk w h d) :
    countE s w h d = ((lsts (colsOf s) w).map fun l => countE s w k (lowD d k l) * countE s w (h - k) (highD d k l)).sum := by
  rw [countE_stks _ _ _ _ (by omega), ← length_keys (stksE s w h d) (topAt s w (k - 1)) _ (lsts_nodup _ (cols_nodup s) w) fun t ht => topAt_mem ((mem_stksE s w h d hw (by omega) hd t).1 ht).2 (by omega)]
  congr 1
  refine List.map_congr_left fun l hl => ?_
  have hlw := ((mem_lsts _ _ _).1 hl).1
  have hlo := low_ok (k := k) hd hlw (by omega)
  have hhi := high_ok (k := k) hd hlw
  rw [countE_stks _ _ _ _ hk, countE_stks _ _ _ _ (by omega), ← length_prod]
  refine length_eq_of_bij (fun t => (t.take k, t.drop k)) (fun p => p.1 ++ p.2) _ _ ((stksE_nodup s w h d).sublist List.filter_sublist) (nodup_prod _ (stksE_nodup _ _ _ _) _ (stksE_nodup _ _ _ _)) (fun t ht => ?_) fun p hp => ?_
  · rw [List.mem_filter, mem_stksE s w h d hw (by omega) hd, decide_eq_true_eq, topAt_eq hlw] at ht
    obtain ⟨⟨h1, g⟩, h2⟩ := ht
    obtain ⟨g1, g2⟩ := (good_cut hw hk hkh hd hlw).1 ⟨g, h2⟩
    have hs := shaped_cut h1 (show k ≤ h by omega)
    refine ⟨List.mem_flatMap.2 ⟨_, (mem_stksE s w k _ hw hk hlo _).2 ⟨hs.1, g1.congr hw hk fun x y hx hy => (cl_take hy).symm⟩, List.mem_map.2 ⟨_, (mem_stksE s w (h - k) _ hw (by omega) hhi _).2 ⟨hs.2, g2.congr hw (by omega) fun x y hx hy => cl_drop.symm⟩, rfl⟩⟩, List.take_append_drop k t⟩
  · obtain ⟨a, ha, hp'⟩ := List.mem_flatMap.1 hp
    obtain ⟨b, hb, rfl⟩ := List.mem_map.1 hp'
    obtain ⟨a1, a2⟩ := (mem_stksE s w k _ hw hk hlo a).1 ha
    obtain ⟨b1, b2⟩ := (mem_stksE s w (h - k) _ hw (by omega) hhi b).1 hb
    have hs := shaped_app a1 b1 (show k ≤ h by omega)
    have hg := (good_cut (c := cl (a ++ b)) (s := s) hw hk hkh hd hlw).2 ⟨a2.congr hw hk fun x y hx hy => (cl_app_lo a1.1 hy).symm, b2.congr hw (by omega) fun x y hx hy => (cl_app_hi a1.1).symm⟩
    refine ⟨?_, ?_⟩
    · rw [List.mem_filter, mem_stksE s w h d hw (by omega) hd, decide_eq_true_eq, topAt_eq hlw]
      exact ⟨⟨hs, hg.1⟩, hg.2⟩
    · show ((a ++ b).take k, (a ++ b).drop k) = (a, b)
      rw [List.take_left' a1.1, List.drop_left' a1.1]
end
section
set_option linter.unusedVariables false

theorem flatR_at {w : Nat} : ∀ (t : List (List Nat)), (∀ r ∈ t, r.length = w) → ∀ x y, x < w → y < t.length → t.flatten.getD (y * w + x) 0 = cl t x y
  | [], _, x, y, _, hy => by simp at hy
  | r :: t, h, x, 0, hx, _ => by
    have hr := h r (by simp)
    rw [List.flatten_cons, Nat.zero_mul, Nat.zero_add, List.getD_eq_getElem?_getD, List.getElem?_append_left (by omega), ← List.getD_eq_getElem?_getD]
    rfl
  | r :: t, h, x, y + 1, hx, hy => by
    have hr := h r (by simp)
    have ih := flatR_at t (fun q hq => h q (by simp [hq])) x y hx (by simpa using hy)
    rw [List.flatten_cons, List.getD_eq_getElem?_getD, List.getElem?_append_right (by rw [hr, Nat.add_mul]; omega), hr, show (y + 1) * w + x - w = y * w + x by rw [Nat.add_mul]; omega, ← List.getD_eq_getElem?_getD, ih]
    rfl
theorem flatR_len {w : Nat} : ∀ (t : List (List Nat)), (∀ r ∈ t, r.length = w) → t.flatten.length = t.length * w
  | [], _ => by simp
  | r :: t, h => by
    rw [List.flatten_cons, List.length_append, h r (by simp), flatR_len t (fun q hq => h q (by simp [hq])), List.length_cons, Nat.add_mul]
    omega
def ptI (w h : Nat) (c : List Nat) : Pt := ⟨w, h, c.map fun i : Nat => (i : Int)⟩
theorem ptI_cel {w h : Nat} {t : List (List Nat)} (ht : Shaped w h t) {x y : Nat} (hx : x < w) (hy : y < h) : cel (ptI w h t.flatten) x y = (cl t x y : Nat) := by
  have h1 := flatR_at t ht.2 x y hx (by rw [ht.1]; exact hy)
  unfold cel ptI
  simp only [Int.toNat_natCast]
  have h2 : y * w + x < t.flatten.length := by
    rw [flatR_len t ht.2, ht.1]
    have := idx_lt hx hy
    rw [Nat.mul_comm h w]
    exact this
  rw [List.getD_eq_getElem?_getD, List.getElem?_map, List.getElem?_eq_getElem h2]
  rw [List.getD_eq_getElem?_getD, List.getElem?_eq_getElem h2] at h1
  simp only [Option.getD_some] at h1
  simp [h1]
theorem ti_tl (s : List Tl) (i : Nat) : tl s (i : Int) = ti s i := by unfold tl ti; rw [Int.toNat_natCast]
theorem there_fits {s : List Tl} {w h : Nat} {d : Ed} {t : List (List Nat)} (hv : vld s = true) (hw : 1 ≤ w) (hw8 : w ≤ 8) (hh : 1 ≤ h) (hh60 : h ≤ 60) (hd : EdOk w h d) (ht : t ∈ stksE s w h d) : fits s (ptI w h t.flatten) = true := by
  obtain ⟨hs, g⟩ := (mem_stksE s w h d hw hh hd t).1 ht
  have hl := flatR_len t hs.2
  rw [hs.1] at hl
  have hwh : w * h ≤ 480 := Nat.le_trans (Nat.mul_le_mul hw8 hh60) (by omega)
  unfold fits
  simp only [Bool.and_eq_true]
  refine ⟨hv, ?_, ?_, ?_⟩
  · rw [form_iff]
    refine ⟨by simp only [ptI]; omega, by simp only [ptI]; omega, ?_, ?_⟩
    · simp only [ptI]; rw [← Int.natCast_mul]; omega
    · simp only [ptI, List.length_map]; rw [hl, Nat.mul_comm]; exact_mod_cast rfl
  · unfold refers
    rw [List.all_eq_true]
    intro v hv'
    simp only [ptI, List.mem_map, List.mem_flatten] at hv'
    obtain ⟨i, ⟨r, hr, hi⟩, rfl⟩ := hv'
    have hm : i < s.length := by
      obtain ⟨y, hy, e⟩ := List.getElem_of_mem hr
      obtain ⟨x, hx, e'⟩ := List.getElem_of_mem hi
      have hrl := hs.2 r hr
      have := g.idx x y (by omega) (by rw [← hs.1]; exact hy)
      unfold cl at this
      rw [getD_of_lt t y [] hy, e, getD_of_lt r x 0 hx, e'] at this
      exact this
    simpa using hm
  · rw [agrs_iff]
    intro y hy x hx
    have hy' : y < h := by simpa [ptI] using hy
    have hx' : x < w := by simpa [ptI] using hx
    have ew : (ptI w h t.flatten).w.toNat = w := by simp [ptI]
    have eh : (ptI w h t.flatten).h.toNat = h := by simp [ptI]
    have ew' : (ptI w h t.flatten).w = w := rfl
    have eh' : (ptI w h t.flatten).h = h := rfl
    unfold agrAt
    rw [ew, eh, ew', eh']
    refine ⟨fun h1 => ?_, fun h1 => ?_⟩
    · have h2 : x + 1 < w := by omega
      rw [Nat.mod_eq_of_lt h2, ptI_cel hs hx' hy', ptI_cel hs h2 hy', ti_tl, ti_tl]
      exact g.hor x y h2 hy'
    · have h2 : y + 1 < h := by omega
      rw [Nat.mod_eq_of_lt h2, ptI_cel hs hx' hy', ptI_cel hs hx' h2, ti_tl, ti_tl]
      exact g.ver x y hx' h2
/-- a pattern's own edges -/
def ownD (s : List Tl) (w h : Nat) (t : List (List Nat)) : Ed :=
  ⟨(List.range w).map fun x => (ti s (cl t x (h - 1))).n, (List.range h).map fun y => (ti s (cl t (w - 1) y)).e, (List.range w).map fun x => (ti s (cl t x 0)).s, (List.range h).map fun y => (ti s (cl t 0 y)).w⟩
theorem ownD_ok (s : List Tl) (w h : Nat) (t : List (List Nat)) : EdOk w h (ownD s w h t) := ⟨Or.inr (by simp [ownD]), Or.inr (by simp [ownD]), Or.inr (by simp [ownD]), Or.inr (by simp [ownD])⟩
theorem own_in {s : List Tl} {w h : Nat} {d : Ed} {t : List (List Nat)} (hw : 1 ≤ w) (hh : 1 ≤ h) (hd : EdOk w h d) (ht : t ∈ stksE s w h d) : t ∈ stksE s w h (ownD s w h t) := by
  obtain ⟨hs, g⟩ := (mem_stksE s w h d hw hh hd t).1 ht
  refine (mem_stksE s w h _ hw hh (ownD_ok s w h t) t).2 ⟨hs, g.idx, g.hor, g.ver, Or.inr fun x hx => ?_, Or.inr fun y hy => ?_, Or.inr fun x hx => ?_, Or.inr fun y hy => ?_⟩
  · simp only [ownD]; rw [getD_map_range _ _ _ _ hx]
  · simp only [ownD]; rw [getD_map_range _ _ _ _ hy]
  · simp only [ownD]; rw [getD_map_range _ _ _ _ hx]
  · simp only [ownD]; rw [getD_map_range _ _ _ _ hy]
theorem first_mem {s : List Tl} {w h : Nat} {d : Ed} {c : List Nat} (hc : firstE s w h d = some c) : ∃ t ∈ stksE s w h d, c = t.flatten := by
  unfold firstE at hc
  cases e : stksE s w h d with
  | nil => rw [e] at hc; simp at hc
  | cons t l => rw [e] at hc; simp at hc; exact ⟨t, by simp, hc.symm⟩
theorem first_none {s : List Tl} {w h : Nat} {d : Ed} (hh : 1 ≤ h) : firstE s w h d = none ↔ countE s w h d = 0 := by
  rw [countE_stks s w h d hh]
  unfold firstE
  cases stksE s w h d <;> simp
/-- sums over the first lists -/
theorem sum_take {α : Type} (f : α → Nat) (L : List α) (k : Nat) (h : k < L.length) : ((L.take (k + 1)).map f).sum = ((L.take k).map f).sum + f L[k] := by
  rw [List.take_succ_eq_append_getElem h, List.map_append, List.sum_append]
  simp
theorem sum_take_le {α : Type} (f : α → Nat) (L : List α) (k : Nat) : ((L.take k).map f).sum ≤ (L.map f).sum := by
  have e := List.take_append_drop k L
  have : (L.map f).sum = ((L.take k).map f).sum + ((L.drop k).map f).sum := by
    conv => lhs; rw [← e, List.map_append, List.sum_append]
  omega
end
end Go.Proofs.YtgadfmknjpanpaaDoor

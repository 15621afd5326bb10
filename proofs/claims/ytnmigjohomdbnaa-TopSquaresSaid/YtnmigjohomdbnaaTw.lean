/-
  strings.SplitN in one form; tile.parseTile.
  Rows of tiles that the call owns; tile.Parse.
  Words for the texts of tiles and sets; a row of the call's own.
-/
import Derived.Test.YtnmigjohomdbnaaEnv
import Derived.Lib.ItoaLen
import Derived.Deep.RegionHeld3
namespace Go.Proofs.Ytnmigjohomdbnaa
section
open Go.RowKit Go.Maps Go.Sort Go.Lib
set_option linter.unusedVariables false
set_option maxRecDepth 100000

def cutN (c : UInt8) (n : Nat) (s : ByteArray) : List ByteArray := Lib.splitB ⟨#[c]⟩ 0 (min n (s.size + 1) - 1) s
theorem cut_size (sep : ByteArray) : ∀ (k : Nat) (s : ByteArray), ∀ p ∈ Lib.splitB sep 0 k s, p.size ≤ s.size
  | 0, s => by simp [Lib.splitB]
  | k + 1, s => by
    intro p hp
    unfold Lib.splitB at hp
    split at hp
    · simp at hp; rw [hp]; exact Nat.le_refl _
    · simp only [List.mem_cons] at hp
      rcases hp with rfl | hp
      · rw [ByteArray.size_extract]; omega
      · have := cut_size sep k _ p hp
        rw [ByteArray.size_extract] at this; omega
theorem cutN_size (c : UInt8) (n : Nat) (s : ByteArray) (k : Nat) (hk : k < (cutN c n s).length) : ((cutN c n s).getD k .empty).size ≤ s.size := by
  rw [List.getD_eq_getElem?_getD, List.getElem?_eq_getElem hk]
  exact cut_size _ _ s _ (List.getElem_mem hk)
theorem cutN_length (c : UInt8) (n : Nat) (s : ByteArray) (hn : 1 ≤ n) : (cutN c n s).length ≤ n := by
  have := Lib.splitB_length_le ⟨#[c]⟩ 0 (min n (s.size + 1) - 1) s
  unfold cutN; omega
def pv (s : ByteArray) : Int := (pCol s).getD 0
/-- What parseTile makes of a text. -/
def pTile (s : ByteArray) : Option Tl :=
  let l := cutN 46 5 s
  if l.length = 4 ∧ l.all (fun x => (pCol x).isSome) = true then some ⟨pv (l.getD 0 .empty), pv (l.getD 1 .empty), pv (l.getD 2 .empty), pv (l.getD 3 .empty)⟩ else none
def tileRes (s : ByteArray) : Value :=
  match pTile s with
  | some t => .tuple #[tv t, .bool true]
  | none => .tuple #[tv ⟨0, 0, 0, 0⟩, .bool false]
theorem colRes_some {s : ByteArray} (h : (pCol s).isSome = true) : colRes s = .tuple #[.int .i64 (pv s), .bool true] := by
  obtain ⟨v, hv⟩ := Option.isSome_iff_exists.1 h
  unfold colRes pv
  rw [hv]; rfl
theorem colRes_none {s : ByteArray} (h : (pCol s).isSome = false) : colRes s = .tuple #[.int .i64 0, .bool false] := by
  unfold colRes
  cases hv : pCol s with
  | none => rfl
  | some v => rw [hv] at h; cases h

theorem tileRes_long (s : ByteArray) (h : (cutN 46 5 s).length ≠ 4) : tileRes s = .tuple #[tv ⟨0, 0, 0, 0⟩, .bool false] := by
  unfold tileRes pTile
  rw [if_neg (fun e => h e.1)]
theorem tileRes_bad (s : ByteArray) (k : Nat) (hk : k < (cutN 46 5 s).length) (h : (pCol ((cutN 46 5 s).getD k .empty)).isSome = false) : tileRes s = .tuple #[tv ⟨0, 0, 0, 0⟩, .bool false] := by
  unfold tileRes pTile
  rw [if_neg (fun e => by have := all_bad (fun x => (pCol x).isSome) _ k hk .empty h; rw [e.2] at this; cases this)]
theorem tileRes_ok (s : ByteArray) (h4 : (cutN 46 5 s).length = 4) (h : ((cutN 46 5 s).take 4).all (fun x => (pCol x).isSome) = true) :
    tileRes s = .tuple #[tv ⟨pv ((cutN 46 5 s).getD 0 .empty), pv ((cutN 46 5 s).getD 1 .empty), pv ((cutN 46 5 s).getD 2 .empty), pv ((cutN 46 5 s).getD 3 .empty)⟩, .bool true] := by
  unfold tileRes pTile
  rw [List.take_of_length_le (by omega)] at h
  rw [if_pos ⟨h4, h⟩]

/-- the array while the loop runs -/
def arr (l : List ByteArray) (k j : Nat) : Int := if j < k then pv (l.getD j .empty) else 0
def ArrIn (w : World) (b : Nat) (l : List ByteArray) (k : Nat) : Prop := ∀ j, j < 4 → w.cell? ⟨b, j, none⟩ = some (.int .i64 (arr l k j))
theorem ArrIn.step {w : World} {b : Nat} {l : List ByteArray} {k : Nat} (h : ArrIn w b l k) (hk : k < 4) : ArrIn (w.setCell ⟨b, k, none⟩ (.int .i64 (pv (l.getD k .empty)))) b l (k + 1) := fun j hj => by
  by_cases e : j = k
  · subst e
    rw [World.cell?_setCell_same _ _ _ (h j hj)]
    simp [arr]
  · rw [World.cell?_setCell_other _ _ _ _ (fun x => e (by injection x with _ x; exact x.symm)), h j hj]
    have : (j < k + 1) = (j < k) := by apply propext; omega
    simp [arr, this]
theorem ArrIn.keep {w w' : World} {b : Nat} {l : List ByteArray} {k : Nat} (h : ArrIn w b l k) (hb : Below w.heap.size w w') (hlt : b < w.heap.size) : ArrIn w' b l k := fun j hj => (hb.cell (p := ⟨b, j, none⟩) hlt).trans (h j hj)

end
section
open Go.RowKit Go.Maps Go.Sort
set_option linter.unusedVariables false
set_option maxRecDepth 100000

def tc (t : Tl) : List Value := [.int .i64 t.n, .int .i64 t.e, .int .i64 t.s, .int .i64 t.w]
def tcells (s : List Tl) : List Value := s.flatMap tc
theorem tcells_len (s : List Tl) : (tcells s).length = s.length * 4 := by
  unfold tcells
  induction s with
  | nil => rfl
  | cons t r ih => simp only [List.flatMap_cons, List.length_append, ih, List.length_cons, tc, List.length_nil]; omega
theorem tcells_at (s : List Tl) : ∀ i, i < s.length → ∀ j, j < 4 → (tcells s)[i * 4 + j]? = (tc (s.getD i ⟨0, 0, 0, 0⟩))[j]? := by
  induction s with
  | nil => intro i hi; simp at hi
  | cons t r ih =>
    intro i hi j hj
    have e : tcells (t :: r) = tc t ++ tcells r := by simp [tcells]
    rw [e]
    cases i with
    | zero =>
      rw [Nat.zero_mul, Nat.zero_add, List.getElem?_append_left (by simpa [tc] using hj)]
      rfl
    | succ i =>
      rw [List.getElem?_append_right (by simp [tc]; omega)]
      have e2 : (i + 1) * 4 + j - (tc t).length = i * 4 + j := by simp [tc]; omega
      rw [e2, ih i (by simpa using hi) j hj]
      rfl
theorem tcells_snoc (s : List Tl) (t : Tl) : tcells s ++ tc t = tcells (s ++ [t]) := by simp [tcells]

/-- A row of tiles from block lo on. -/
def SetNew (w : World) (lo : Nat) (A : Option Addr) (s : List Tl) : Prop :=
  s ≠ [] → ∃ b off, A = some ⟨b, off, none⟩ ∧ lo ≤ b ∧ b < w.heap.size ∧ ∀ i, i < s.length →
    w.cell? ⟨b, off + i * 4, none⟩ = some (.int .i64 (s.getD i ⟨0, 0, 0, 0⟩).n) ∧ w.cell? ⟨b, off + i * 4 + 1, none⟩ = some (.int .i64 (s.getD i ⟨0, 0, 0, 0⟩).e) ∧
    w.cell? ⟨b, off + i * 4 + 2, none⟩ = some (.int .i64 (s.getD i ⟨0, 0, 0, 0⟩).s) ∧ w.cell? ⟨b, off + i * 4 + 3, none⟩ = some (.int .i64 (s.getD i ⟨0, 0, 0, 0⟩).w)
theorem SetNew.old {w : World} {lo : Nat} {A : Option Addr} {s : List Tl} (h : SetNew w lo A s) : SetIn w w.heap.size A s := fun hn => by
  obtain ⟨b, off, hA, _, hlt, hc⟩ := h hn
  exact ⟨b, off, hA, hlt, hc⟩
theorem SetNew.mono {w : World} {lo lo' : Nat} {A : Option Addr} {s : List Tl} (h : SetNew w lo A s) (hl : lo' ≤ lo) : SetNew w lo' A s := fun hn => by
  obtain ⟨b, off, hA, hlo, hlt, hc⟩ := h hn
  exact ⟨b, off, hA, by omega, hlt, hc⟩
theorem SetNew.keep {w w' : World} {lo : Nat} {A : Option Addr} {s : List Tl} (h : SetNew w lo A s) (hb : Below w.heap.size w w') : SetNew w' lo A s := fun hn => by
  obtain ⟨b, off, hA, hlo, hlt, hc⟩ := h hn
  refine ⟨b, off, hA, hlo, Nat.lt_of_lt_of_le hlt hb.size, fun i hi => ?_⟩
  obtain ⟨h0, h1, h2, h3⟩ := hc i hi
  exact ⟨(hb.cell (p := ⟨b, _, none⟩) hlt).trans h0, (hb.cell (p := ⟨b, _, none⟩) hlt).trans h1, (hb.cell (p := ⟨b, _, none⟩) hlt).trans h2, (hb.cell (p := ⟨b, _, none⟩) hlt).trans h3⟩
theorem own_set {w : World} {base n : Nat} {e : TypeId} {v : Value} {s : List Tl} (h : w.ownsRow base e 4 v n (tcells s)) : ∃ A c, v = .slice A n c ∧ n = s.length ∧ n ≤ maxLen ∧ SetNew w base A s := by
  have hl : s.length = n := by have := h.1; rw [tcells_len] at this; omega
  rcases h.2 with ⟨rfl, h0⟩ | ⟨g, cap, cur, rfl, hb, hh, hnc, hm, hs, hx⟩
  · subst h0
    have : s = [] := List.eq_nil_of_length_eq_zero hl
    subst this
    exact ⟨none, 0, rfl, rfl, by simp [maxLen], fun hne => absurd rfl hne⟩
  · refine ⟨_, cap, rfl, hl.symm, Nat.le_trans hnc hm, fun _ => ⟨g, 0, rfl, hb, (Array.getElem?_eq_some_iff.1 hh).1, fun i hi => ?_⟩⟩
    have at' : ∀ j, j < 4 → w.cell? ⟨g, 0 + i * 4 + j, none⟩ = (tc (s.getD i ⟨0, 0, 0, 0⟩))[j]? := fun j hj => by
      have := h.cellAt (i * 4 + j) (by omega)
      rw [Nat.zero_add, this, tcells_at s i hi j hj]
    exact ⟨at' 0 (by omega), at' 1 (by omega), at' 2 (by omega), at' 3 (by omega)⟩
theorem own_keep' {w w' : World} {base e size n : Nat} {v : Value} {xs : List Value} (h : w.ownsRow base e size v n xs) (hb : Below w.heap.size w w') : w'.ownsRow base e size v n xs := by
  refine h.kept (grown_of_below hb none) ?_
  by_cases hv : v.ownBlock = none
  · exact .inl hv
  · exact .inr hv
theorem tile_info : (Try.prog.info? 42).map (fun i => (i.zero, i.size, i.bytes)) = some (some (.agg #[.int .i64 0, .int .i64 0, .int .i64 0, .int .i64 0]), 4, 32) := by kernel_rfl

/-- What Parse makes of a text. -/
def pt (x : ByteArray) : Tl := (pTile x).getD ⟨0, 0, 0, 0⟩
def pParse (s : ByteArray) : Option (List Tl) :=
  if s.size = 0 then some []
  else if (cutN 32 1001 s).all (fun x => (pTile x).isSome) = true ∧ vld ((cutN 32 1001 s).map pt) = true then some ((cutN 32 1001 s).map pt) else none
def IsParse (s : ByteArray) (W : World) (e : Ending) (w' : World) : Prop :=
  Below W.heap.size W w' ∧ match pParse s with
  | some set => ∃ A c, e = .returned (.tuple #[.slice A set.length c, .int .i64 0]) ∧ SetNew w' W.heap.size A set
  | none => e = .returned (.tuple #[.slice none 0 0, .int .i64 3])

theorem parse_nil (s : ByteArray) (h : s.size = 0) : pParse s = some [] := by unfold pParse; rw [if_pos h]
theorem parse_bad (s : ByteArray) (h : s.size ≠ 0) (k : Nat) (hk : k < (cutN 32 1001 s).length) (hb : (pTile ((cutN 32 1001 s).getD k .empty)).isSome = false) : pParse s = none := by
  unfold pParse
  rw [if_neg h, if_neg (fun e => by have := all_bad (fun x => (pTile x).isSome) _ k hk .empty hb; rw [e.1] at this; cases this)]
theorem parse_end (s : ByteArray) (h : s.size ≠ 0) (ha : (cutN 32 1001 s).all (fun x => (pTile x).isSome) = true) :
    pParse s = if vld ((cutN 32 1001 s).map pt) = true then some ((cutN 32 1001 s).map pt) else none := by
  unfold pParse
  rw [if_neg h]
  simp [ha]
theorem tileRes_some {s : ByteArray} (h : (pTile s).isSome = true) : tileRes s = .tuple #[tv (pt s), .bool true] := by
  obtain ⟨v, hv⟩ := Option.isSome_iff_exists.1 h
  unfold tileRes pt
  rw [hv]; rfl
theorem tileRes_none {s : ByteArray} (h : (pTile s).isSome = false) : tileRes s = .tuple #[tv ⟨0, 0, 0, 0⟩, .bool false] := by
  unfold tileRes
  cases hv : pTile s with
  | none => rfl
  | some v => rw [hv] at h; cases h
theorem map_snoc (l : List ByteArray) (k : Nat) (hk : k < l.length) : (l.map pt).take k ++ [pt (l.getD k .empty)] = (l.map pt).take (k + 1) := by
  rw [← List.map_take, ← List.map_take, take_snoc l k hk .empty, List.map_append]; rfl
theorem cell_four_new (w : World) (n : Nat) (hn : n = w.heap.size) (a b c d : Value) (t : TypeId) : ∀ j u, [a, b, c, d][j]? = some u → (w.alloc (.cells #[a, b, c, d] t)).cell? ((⟨n, 0, none⟩ : Addr).add j) = some u := by
  subst hn
  intro j u hj
  have e : ((⟨w.heap.size, 0, none⟩ : Addr).add j) = ⟨w.heap.size, j, none⟩ := by
    unfold Addr.add
    split
    · rename_i h; subst h; rfl
    · simp
  rw [e, World.cell?_alloc_at _ _ _ _ rfl]
  simpa using hj
theorem four_one (a b c d : Int) : ∀ u ∈ [Value.int .i64 a, .int .i64 b, .int .i64 c, .int .i64 d], u.oneCell' = true := by
  intro u hu
  simp at hu
  rcases hu with rfl | rfl | rfl | rfl <;> rfl
theorem pv_range (s : ByteArray) : (Lit.int .i64 (pv s)).wf = true := by
  have h : -9223372036854775808 ≤ pv s ∧ pv s ≤ 9223372036854775807 := by
    unfold pv pCol
    split
    · rename_i v hv
      split
      · exact parse_range _ _ hv
      · simp
    · simp
  obtain ⟨h1, h2⟩ := h
  unfold Lit.wf
  rw [Bool.and_eq_true]
  exact ⟨decide_eq_true h1, decide_eq_true h2⟩
theorem size_empty {s : ByteArray} {b : Bool} (h : decide (s.size = 0) = b) : s.toList.isEmpty = b := by
  have e : s.size = s.data.toList.length := (Array.length_toList (xs := s.data)).symm
  rw [← h, ByteArray.toList_eq, e]
  cases s.data.toList <;> simp
theorem pt_twf (s : ByteArray) : twf (pt s) := by
  unfold pt pTile
  simp only
  split
  · exact ⟨pv_range _, pv_range _, pv_range _, pv_range _⟩
  · exact ⟨by decide, by decide, by decide, by decide⟩
end
section
open Go.RowKit Go.Maps Go.Sort
set_option linter.unusedVariables false
set_option maxRecDepth 100000

def tList (t : Tl) : List ByteArray := [dec t.n, dec t.e, dec t.s, dec t.w]
def glue (xs : List ByteArray) (c : UInt8) : ByteArray := ⟨(Lib.join (xs.map (·.data.toList)) [c]).toArray⟩
/-- the text of a tile -/
def tText (t : Tl) : ByteArray := glue (tList t) 46
theorem wf_range {n : Int} (h : (Lit.int .i64 n).wf = true) : -9223372036854775808 ≤ n ∧ n ≤ 9223372036854775807 := by
  unfold Lit.wf at h
  rw [Bool.and_eq_true] at h
  exact ⟨of_decide_eq_true h.1, of_decide_eq_true h.2⟩
theorem dec_len {n : Int} (h : (Lit.int .i64 n).wf = true) : (dec n).data.toList.length ≤ 21 := by
  obtain ⟨h0, h1⟩ := wf_range h
  simpa [dec] using Lib.itoa_length_le n h0 h1
theorem lens_le (xs : List (List UInt8)) (m : Nat) (h : ∀ x ∈ xs, x.length ≤ m) : Lib.lens xs ≤ m * xs.length := by
  unfold Lib.lens
  induction xs with
  | nil => simp
  | cons x r ih =>
    have h1 := h x (by simp)
    have h2 := ih (fun y hy => h y (by simp [hy]))
    simp only [List.map_cons, List.sum_cons, List.length_cons, Nat.mul_add, Nat.mul_one]
    omega
theorem glue_len (xs : List ByteArray) (c : UInt8) (m : Nat) (h : ∀ x ∈ xs, x.data.toList.length ≤ m) : (Lib.join (xs.map (·.data.toList)) [c]).length ≤ xs.length + m * xs.length := by
  cases xs with
  | nil => simp [Lib.join_nil]
  | cons x r =>
    rw [List.map_cons, Lib.join_length]
    have := lens_le ((x :: r).map (·.data.toList)) m (by
      intro y hy
      obtain ⟨z, hz, rfl⟩ := List.mem_map.1 hy
      exact h z hz)
    rw [List.map_cons] at this
    simp only [List.length_cons, List.length_map, List.length_nil] at this ⊢
    omega
theorem tList_len {t : Tl} (h : twf t) : ∀ x ∈ tList t, x.data.toList.length ≤ 21 := by
  intro x hx
  simp only [tList, List.mem_cons, List.not_mem_nil, or_false] at hx
  obtain ⟨h1, h2, h3, h4⟩ := h
  rcases hx with rfl | rfl | rfl | rfl
  · exact dec_len h1
  · exact dec_len h2
  · exact dec_len h3
  · exact dec_len h4
theorem tText_len {t : Tl} (h : twf t) : (tText t).data.toList.length ≤ 100 := by
  have := glue_len (tList t) 46 21 (tList_len h)
  have e : (tText t).data.toList = Lib.join ((tList t).map (·.data.toList)) [46] := by simp [tText, glue]
  rw [e]
  have h4 : (tList t).length = 4 := rfl
  rw [h4] at this
  omega

/-- the text of a set -/
def sText (s : List Tl) : ByteArray := glue (s.map tText) 32
def textRes (s : List Tl) : Value := if vld s = true then .tuple #[.string (sText s), .int .i64 0] else .tuple #[.string ⟨#[]⟩, .int .i64 1]
theorem str_info : (Try.prog.info? 9).map (fun i => (i.zero, i.size, i.bytes)) = some (some (.string ⟨#[]⟩), 1, 16) := by kernel_rfl
/-- the words while the loop runs -/
def wordAt (s : List Tl) (k j : Nat) : ByteArray := if j < k then tText (s.getD j ⟨0, 0, 0, 0⟩) else ⟨#[]⟩
def WordsIn (w : World) (b : Nat) (s : List Tl) (k : Nat) : Prop := ∀ j, j < s.length → w.cell? ⟨b, j, none⟩ = some (.string (wordAt s k j))
theorem WordsIn.step {w : World} {b : Nat} {s : List Tl} {k : Nat} (h : WordsIn w b s k) (hk : k < s.length) : WordsIn (w.setCell ⟨b, k, none⟩ (.string (tText (s.getD k ⟨0, 0, 0, 0⟩)))) b s (k + 1) := fun j hj => by
  by_cases e : j = k
  · subst e
    rw [World.cell?_setCell_same _ _ _ (h j hj)]
    simp [wordAt]
  · rw [World.cell?_setCell_other _ _ _ _ (fun x => e (by injection x with _ x; exact x.symm)), h j hj]
    have : (j < k + 1) = (j < k) := by apply propext; omega
    simp [wordAt, this]
theorem WordsIn.keep {w w' : World} {b : Nat} {s : List Tl} {k : Nat} (h : WordsIn w b s k) (hb : Below w.heap.size w w') (hlt : b < w.heap.size) : WordsIn w' b s k := fun j hj => (hb.cell (p := ⟨b, j, none⟩) hlt).trans (h j hj)
theorem text_bad {s : List Tl} (h : vld s = false) : textRes s = .tuple #[.string ⟨#[]⟩, .int .i64 1] := by unfold textRes; rw [h]; rfl
theorem text_ok {s : List Tl} (h : vld s = true) : textRes s = .tuple #[.string (sText s), .int .i64 0] := by unfold textRes; rw [h]; rfl

theorem own_words {w : World} {base n b c : Nat} {e : TypeId} {xs : List Value} (h : w.ownsRow base e 1 (.slice (some ⟨b, 0, none⟩) n c) n xs) : b < w.heap.size ∧ (∀ i, i < n → w.cell? ⟨b, i, none⟩ = xs[i]?) ∧ ∀ o, w.frozen? ⟨b, o, none⟩ = false := by
  rcases h.2 with ⟨h0, _⟩ | ⟨g, cap, cur, hv, hb, hh, hnc, hm, hs, hx⟩
  · simp at h0
  · have hg : b = g := by simp at hv; exact hv.1
    subst hg
    refine ⟨(Array.getElem?_eq_some_iff.1 hh).1, fun i hi => h.cellAt i (by omega), fun o => ?_⟩
    simp [World.frozen?, hh]
theorem made_at (z : Value) (n i : Nat) (hi : i < n) : (madeCells #[z] n).toList[i]? = some z := by simp [madeCells, hi, Nat.mod_one]
theorem set_at {w : World} {B : Nat} {A : Option Addr} {s : List Tl} (h : SetIn w B A s) {w' : World} (hb : Below B w w') {k : Nat} (hk : k < s.length) : ∃ bk off, A = some ⟨bk, off, none⟩ ∧ bk < B ∧
    w'.cell? ⟨bk, off + k * 4, none⟩ = some (.int .i64 (s.getD k ⟨0, 0, 0, 0⟩).n) ∧ w'.cell? ⟨bk, off + k * 4 + 1, none⟩ = some (.int .i64 (s.getD k ⟨0, 0, 0, 0⟩).e) ∧
    w'.cell? ⟨bk, off + k * 4 + 2, none⟩ = some (.int .i64 (s.getD k ⟨0, 0, 0, 0⟩).s) ∧ w'.cell? ⟨bk, off + k * 4 + 3, none⟩ = some (.int .i64 (s.getD k ⟨0, 0, 0, 0⟩).w) := by
  obtain ⟨bk, off, hA, hlt, hc⟩ := h (ne_nil_of_lt hk)
  obtain ⟨h0, h1, h2, h3⟩ := hc k hk
  exact ⟨bk, off, hA, hlt, (hb.cell (p := ⟨bk, _, none⟩) hlt).trans h0, (hb.cell (p := ⟨bk, _, none⟩) hlt).trans h1, (hb.cell (p := ⟨bk, _, none⟩) hlt).trans h2, (hb.cell (p := ⟨bk, _, none⟩) hlt).trans h3⟩
end
end Go.Proofs.Ytnmigjohomdbnaa

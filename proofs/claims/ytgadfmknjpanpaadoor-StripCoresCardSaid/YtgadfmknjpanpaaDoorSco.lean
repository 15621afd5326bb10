/-
  The core of a set, the plain mathematics of P4.1.
-/
import Derived.Test.YtgadfmknjpanpaaDoorSd
import Derived.Test.YtgadfmknjpanpaaDoorSpt
import Derived.Test.YtgadfmknjpanpaaDoorTz
namespace Go.Proofs.YtgadfmknjpanpaaDoor
set_option linter.unusedVariables false

theorem rounds_sublist {α : Type} (P : List α → α → Bool) : ∀ (n : Nat) (l : List α), (rounds P n l).Sublist l
  | 0, l => List.Sublist.refl l
  | n + 1, l => (rounds_sublist P n (keep1 P l)).trans List.filter_sublist
theorem rounds_same {α : Type} (P : List α → α → Bool) (l : List α) (h : ∀ a ∈ l, P l a = true) : ∀ n, rounds P n l = l
  | 0 => rfl
  | n + 1 => by
    have e : keep1 P l = l := List.filter_eq_self.2 h
    show rounds P n (keep1 P l) = l
    rw [e]
    exact rounds_same P l h n
theorem coreE_lt (s : List Tl) : ∀ i ∈ coreE s, i < s.length := fun i hi => List.mem_range.1 ((rounds_sublist _ _ _).subset hi)
theorem coreE_nodup (s : List Tl) : (coreE s).Nodup := (rounds_sublist _ _ _).nodup List.nodup_range
theorem coreE_le (s : List Tl) : (coreE s).length ≤ s.length := by
  have := (rounds_sublist (enclP s) s.length (List.range s.length)).length_le
  rw [List.length_range] at this
  exact this
/-- each tile of the core has neighbours on all four sides in it -/
theorem coreE_fix (s : List Tl) : ∀ i ∈ coreE s, enclP s (coreE s) i = true := by
  obtain ⟨k, hk, he⟩ := rounds_stop (enclP s) (List.range s.length)
  rw [List.length_range] at hk
  have h1 := rounds_stay (enclP s) (List.range s.length) k he (s.length - k)
  rw [show k + (s.length - k) = s.length by omega] at h1
  have h2 : coreE s = rounds (enclP s) k (List.range s.length) := h1
  rw [h2]
  exact List.filter_eq_self.1 he
theorem partL_len (s : List Tl) (l : List Nat) : (partL s l).length = l.length := List.length_map _
theorem partL_ti (s : List Tl) (l : List Nat) (k : Nat) (hk : k < l.length) : ti (partL s l) k = ti s (l.getD k 0) := by
  unfold partL ti
  simp [hk]
theorem ti_inj {s : List Tl} (hn : s.Nodup) {i j : Nat} (hi : i < s.length) (hj : j < s.length) (h : ti s i = ti s j) : i = j := by
  unfold ti at h
  rw [List.getD_eq_getElem?_getD, List.getD_eq_getElem?_getD, List.getElem?_eq_getElem hi, List.getElem?_eq_getElem hj] at h
  have hp := List.pairwise_iff_getElem.1 hn
  have h' : s[i] = s[j] := h
  rcases Nat.lt_trichotomy i j with e | e | e
  · exact absurd h' (hp i j hi hj e)
  · exact e
  · exact absurd h'.symm (hp j i hj hi e)
theorem partL_vld (s : List Tl) (l : List Nat) (hv : vld s = true) (hl : ∀ i ∈ l, i < s.length) (hn : l.Nodup) (hle : l.length ≤ s.length) : vld (partL s l) = true := by
  obtain ⟨h1, h2, h3⟩ := vld_iff.1 hv
  refine vld_iff.2 ⟨by rw [partL_len]; omega, fun t ht => ?_, ?_⟩
  · obtain ⟨i, hi, rfl⟩ := List.mem_map.1 ht
    exact h2 _ (ti_mem (hl i hi))
  · unfold partL
    refine List.pairwise_map.2 ?_
    exact hn.imp_of_mem fun {a b} ha hb hab e => hab (ti_inj h3 (hl a ha) (hl b hb) e)
theorem part_any4 (s : List Tl) (l : List Nat) (p : Tl → Bool) : ((List.range (partL s l).length).any fun k => p (ti (partL s l) k)) = l.any fun i => p (ti s i) := by
  rw [Bool.eq_iff_iff, List.any_eq_true, List.any_eq_true]
  constructor
  · rintro ⟨k, hk, hp⟩
    have hk' : k < l.length := by have := List.mem_range.1 hk; rw [partL_len] at this; exact this
    refine ⟨l.getD k 0, ?_, by rw [← partL_ti s l k hk']; exact hp⟩
    rw [List.getD_eq_getElem?_getD, List.getElem?_eq_getElem hk']
    exact List.getElem_mem hk'
  · rintro ⟨i, hi, hp⟩
    obtain ⟨k, hk, e⟩ := List.mem_iff_getElem.1 hi
    refine ⟨k, List.mem_range.2 (by rw [partL_len]; exact hk), ?_⟩
    rw [partL_ti s l k hk, List.getD_eq_getElem?_getD, List.getElem?_eq_getElem hk]
    show p (ti s l[k]) = true
    rw [e]
    exact hp
/-- so it is in the part -/
theorem part_encl (s : List Tl) (l : List Nat) (k : Nat) (hk : k < l.length) : enclP (partL s l) (List.range (partL s l).length) k = enclP s l (l.getD k 0) := by
  unfold enclP
  rw [part_any4 s l (fun t => decide (t.s = (ti (partL s l) k).n)), part_any4 s l (fun t => decide (t.w = (ti (partL s l) k).e)), part_any4 s l (fun t => decide (t.n = (ti (partL s l) k).s)), part_any4 s l (fun t => decide (t.e = (ti (partL s l) k).w)), partL_ti s l k hk]
/-- the core of the core is the core -/
theorem core_core (s : List Tl) : coreE (partL s (coreE s)) = List.range (partL s (coreE s)).length := by
  refine rounds_same _ _ (fun k hk => ?_) _
  have hk' : k < (coreE s).length := by have := List.mem_range.1 hk; rw [partL_len] at this; exact this
  rw [part_encl s _ k hk']
  refine coreE_fix s _ ?_
  rw [List.getD_eq_getElem?_getD, List.getElem?_eq_getElem hk']
  exact List.getElem_mem hk'
theorem back_mod {a x : Nat} (hx : x < a) : (x + a - 1) % a < a ∧ ((x + a - 1) % a + 1) % a = x := by
  refine ⟨Nat.mod_lt _ (by omega), ?_⟩
  rcases Nat.eq_zero_or_pos x with h | h
  · subst h
    rw [Nat.zero_add, Nat.mod_eq_of_lt (show a - 1 < a by omega), show a - 1 + 1 = a by omega, Nat.mod_self]
  · rw [show x + a - 1 = (x - 1) + a by omega, Nat.add_mod_right, Nat.mod_eq_of_lt (show x - 1 < a by omega), show x - 1 + 1 = x by omega, Nat.mod_eq_of_lt hx]
/-- the tiles of a torus -/
def cellsT (a b : Nat) (c : Nat → Nat → Nat) : List Nat := (List.range b).flatMap fun y => (List.range a).map fun x => c x y
theorem mem_cellsT {a b : Nat} {c : Nat → Nat → Nat} {i : Nat} : i ∈ cellsT a b c ↔ ∃ x y, x < a ∧ y < b ∧ c x y = i := by
  unfold cellsT
  simp only [List.mem_flatMap, List.mem_range, List.mem_map]
  constructor
  · rintro ⟨y, hy, x, hx, e⟩; exact ⟨x, y, hx, hy, e⟩
  · rintro ⟨x, y, hx, hy, e⟩; exact ⟨y, hy, x, hx, e⟩
/-- all tiles of a torus belong to the core -/
theorem torus_core {s : List Tl} {a b : Nat} {c : Nat → Nat → Nat} (g : GoodT s a b c) {x y : Nat} (hx : x < a) (hy : y < b) : c x y ∈ coreE s := by
  refine core_torus s (cellsT a b c) (fun i hi => ?_) (fun i hi => ?_) _ _ (mem_cellsT.2 ⟨x, y, hx, hy, rfl⟩)
  · obtain ⟨x, y, hx, hy, rfl⟩ := mem_cellsT.1 hi
    exact g.idx x y hx hy
  · obtain ⟨x, y, hx, hy, rfl⟩ := mem_cellsT.1 hi
    unfold enclP
    simp only [Bool.and_eq_true, List.any_eq_true, decide_eq_true_eq]
    obtain ⟨hx1, hx2⟩ := back_mod hx
    obtain ⟨hy1, hy2⟩ := back_mod hy
    refine ⟨⟨_, mem_cellsT.2 ⟨x, (y + 1) % b, hx, Nat.mod_lt _ (by omega), rfl⟩, (g.ver x y hx hy).symm⟩, ⟨_, mem_cellsT.2 ⟨(x + 1) % a, y, Nat.mod_lt _ (by omega), hy, rfl⟩, (g.hor x y hx hy).symm⟩, ⟨_, mem_cellsT.2 ⟨x, (y + b - 1) % b, hx, hy1, rfl⟩, ?_⟩, ⟨_, mem_cellsT.2 ⟨(x + a - 1) % a, y, hx1, hy, rfl⟩, ?_⟩⟩
    · have := g.ver x _ hx hy1
      rw [hy2] at this
      exact this
    · have := g.hor _ y hx1 hy
      rw [hx2] at this
      exact this
/-- each cell of a pattern that repeats leads to a tile of the core -/
theorem reps_core {s : List Tl} {w h : Int} {cs : List Int} (hr : reps s ⟨w, h, cs⟩ = true) {k : Nat} (hk : k < cs.length) : ∃ i, cs.getD k 0 = ((i : Nat) : Int) ∧ i ∈ coreE s := by
  obtain ⟨a, b, ha, hb, ha1, hb1, g⟩ := reps_good hr
  simp only [reps, Bool.and_eq_true] at hr
  obtain ⟨-, hf, hrf, -⟩ := hr
  obtain ⟨-, -, -, h4⟩ := form_iff.1 hf
  have h4' : (cs.length : Int) = w * h := h4
  have ha' : w = (a : Int) := ha
  have hb' : h = (b : Int) := hb
  have hl : cs.length = a * b := by
    rw [ha', hb', ← Int.natCast_mul] at h4'
    exact Int.ofNat_inj.1 h4'
  have hmem : cs.getD k 0 ∈ cs := by
    rw [List.getD_eq_getElem?_getD, List.getElem?_eq_getElem hk]
    exact List.getElem_mem hk
  have h0 := List.all_eq_true.1 hrf _ hmem
  rw [decide_eq_true_eq] at h0
  obtain ⟨i, hi⟩ := Int.eq_ofNat_of_zero_le h0.1
  refine ⟨i, hi, ?_⟩
  have hx : k % a < a := Nat.mod_lt _ (by omega)
  have hy : k / a < b := (Nat.div_lt_iff_lt_mul (by omega)).2 (by rw [Nat.mul_comm]; omega)
  have := torus_core g hx hy
  have e : cel ⟨w, h, cs⟩ (k % a) (k / a) = cs.getD k 0 := by
    show cs.getD (k / a * w.toNat + k % a) 0 = _
    rw [ha', Int.toNat_natCast, Nat.mul_comm, Nat.div_add_mod]
  rw [e, hi, Int.toNat_natCast] at this
  exact this
end Go.Proofs.YtgadfmknjpanpaaDoor

/-
  fill.Count.
-/
import Derived.Test.YtgadfmknjpanpaaGreatDoorFo
import Derived.Test.YtgadfmknjpanpaaGreatDoorSo
import Derived.Test.YtgadfmknjpanpaaGreatDoorEnv
import Derived.Deep.Cut
import Derived.Deep.CutRange
import Derived.Deep.RegionHeld3
namespace Go.Proofs.YtgadfmknjpanpaaGreatDoor
open Go.RowKit Go.Maps Go.BigFrame Go.Sort
set_option linter.unusedVariables false
set_option linter.unusedSimpArgs false
set_option maxRecDepth 100000

/-! the levels are the numbers of ways -/
theorem csum_cap {α : Type} (l : List α) (f g : α → Nat) (h : ∀ a ∈ l, f a = min (g a) cap) : csum (l.map f) = min (l.map g).sum cap := by
  rw [csum_eq]
  have e : l.map f = (l.map g).map fun n => min n cap := by
    rw [List.map_map]
    exact List.map_congr_left h
  rw [e, sum_cap]
theorem levF_ways (L : List (List Nat)) (adm : Nat → List Nat → Bool) (S N : List Nat → List Int) (H : Nat) : ∀ j, j ≤ H → ∀ r ∈ L, levF L adm S N H j (N r) = min (ways L adm S N j (H - j) (N r)) cap
  | 0, _, r, hr => by
    unfold levF
    rw [if_pos (List.mem_map.2 ⟨r, hr, rfl⟩)]
    unfold ways cap
    rfl
  | j + 1, hj, r, hr => by
    show undF L (adm (H - (j + 1))) S N (levF L adm S N H j) L.length (N r) = _
    unfold undF ways
    rw [List.take_length]
    have := csum_cap (L.filter fun q => adm (H - (j + 1)) q && decide (S q = N r)) (fun q => levF L adm S N H j (N q)) (fun q => ways L adm S N j (H - (j + 1) + 1) (N q)) fun q hq => by
      rw [levF_ways L adm S N H j (by omega) q (List.mem_filter.1 hq).1, show H - j = H - (j + 1) + 1 by omega]
    rw [this]
    rfl
/-- what is summed by the keys of the lowest level is the number of all -/
theorem lev_total (L : List (List Nat)) (adm : Nat → List Nat → Bool) (S N : List Nat → List Int) (H : Nat) (hH : 1 ≤ H) (ks : List (List Int)) (hn : ks.Nodup) (hz : ∀ l, l ∉ ks → levF L adm S N H H l = 0) :
    csum (ks.map (levF L adm S N H H)) = min (total L adm S N H) cap := by
  obtain ⟨j, rfl⟩ : ∃ j, H = j + 1 := ⟨H - 1, by omega⟩
  have h0 : ∀ l, levF L adm S N (j + 1) (j + 1) l = csum ((L.filter fun r => adm 0 r && decide (S r = l)).map fun r => levF L adm S N (j + 1) j (N r)) := fun l => by
    show undF L (adm (j + 1 - (j + 1))) S N (levF L adm S N (j + 1) j) L.length l = _
    unfold undF
    rw [List.take_length, Nat.sub_self]
  -- rows that count for nothing are left out
  have hsk : ∀ (M : List (List Nat)) (f : List Nat → Nat), (M.map f).sum = ((M.filter fun r => decide (f r ≠ 0)).map f).sum := fun M f => by
    induction M with
    | nil => rfl
    | cons a M ih =>
      rw [List.map_cons, List.sum_cons, ih, List.filter_cons]
      by_cases h : f a = 0
      · rw [if_neg (by simp [h]), h, Nat.zero_add]
      · rw [if_pos (by simpa using h), List.map_cons, List.sum_cons]
  let v := fun r => levF L adm S N (j + 1) j (N r)
  let M := (L.filter (adm 0)).filter fun r => decide (v r ≠ 0)
  have hk : ∀ r ∈ M, S r ∈ ks := fun r hr => by
    apply Classical.byContradiction
    intro hno
    have h1 := hz _ hno
    rw [h0, csum_eq] at h1
    have h2 := List.mem_filter.1 hr
    have h3 := List.mem_filter.1 h2.1
    have hv : v r ≠ 0 := by simpa using h2.2
    have hmem : r ∈ L.filter fun q => adm 0 q && decide (S q = S r) := List.mem_filter.2 ⟨h3.1, by simp [h3.2]⟩
    have hle : v r ≤ ((L.filter fun q => adm 0 q && decide (S q = S r)).map v).sum := by
      clear h1 h2 h3 hv hr
      revert hmem
      generalize (L.filter fun q => adm 0 q && decide (S q = S r)) = X
      intro hmem
      induction X with
      | nil => cases hmem
      | cons a X ih =>
        rw [List.map_cons, List.sum_cons]
        rcases List.mem_cons.1 hmem with e | e
        · rw [← e]; exact Nat.le_add_right _ _
        · exact Nat.le_trans (ih e) (Nat.le_add_left _ _)
    have hc : (0 : Nat) < cap := by unfold cap; omega
    have h1' : min ((L.filter fun q => adm 0 q && decide (S q = S r)).map v).sum cap = 0 := h1
    omega
  have hcs := csum_keys M S v ks hn hk
  have e1 : (ks.map fun k => csum ((M.filter fun r => decide (S r = k)).map v)) = ks.map (levF L adm S N (j + 1) (j + 1)) := by
    refine List.map_congr_left fun k _ => ?_
    rw [h0, csum_eq, csum_eq]
    congr 1
    rw [hsk (L.filter fun r => adm 0 r && decide (S r = k)) fun r => levF L adm S N (j + 1) j (N r)]
    congr 2
    simp only [M, List.filter_filter]
    refine List.filter_congr fun r _ => ?_
    cases adm 0 r <;> cases decide (S r = k) <;> simp [v]
  rw [e1] at hcs
  rw [hcs, csum_eq]
  have e2 : (M.map v).sum = ((L.filter (adm 0)).map v).sum := (hsk _ v).symm
  rw [e2, ← csum_eq]
  rw [csum_cap (L.filter (adm 0)) v (fun r => ways L adm S N j 1 (N r)) fun r hr => by
    show levF L adm S N (j + 1) j (N r) = _
    rw [levF_ways L adm S N (j + 1) j (by omega) r (List.mem_filter.1 hr).1, show j + 1 - j = 1 by omega]]
  unfold total cand
  rw [Nat.add_sub_cancel]
  congr 2
  congr 1
  exact List.filter_congr fun r _ => by simp [stands]

theorem rws_count (s : List Tl) : ∀ x, (rws s x).length ≤ s.length ^ x
  | 0 => by simp [rws]
  | x + 1 => by
    have ih := rws_count s x
    simp only [rws, List.length_flatMap]
    have h : ∀ l : List (List Nat), (l.map fun r => (longer s r).length).sum ≤ l.length * s.length := fun l => by
      induction l with
      | nil => simp
      | cons r l ihl =>
        have h1 : (longer s r).length ≤ s.length := by
          unfold longer
          rw [List.length_map]
          exact Nat.le_trans (List.length_filter_le _ _) (by simp)
        rw [List.map_cons, List.sum_cons, List.length_cons, Nat.add_mul, Nat.one_mul]
        omega
    exact Nat.le_trans (h _) (by rw [Nat.pow_succ]; exact Nat.mul_le_mul_right _ ih)
theorem rws_few (s : List Tl) (wd : Nat) (h : tooM s.length wd = false) : ∀ x, x ≤ wd → (rws s x).length ≤ 5000 := fun x hx => by
  have hp : s.length ^ wd ≤ 5000 := by
    unfold tooM at h
    have := of_decide_eq_false h
    omega
  have h1 := rws_count s x
  rcases Nat.eq_zero_or_pos s.length with e | e
  · rw [e] at h1
    cases x with
    | zero => simp at h1; omega
    | succ x => rw [Nat.zero_pow (by omega)] at h1; omega
  · exact Nat.le_trans h1 (Nat.le_trans (Nat.pow_le_pow_right e hx) hp)
/-- nothing is due -/
theorem check_ok {s : List Tl} {wd hg : Int} {d : Ed} (h : checkE s wd hg d.n.length d.e.length d.s.length d.w.length = 0) :
    ∃ a b : Nat, wd = a ∧ hg = b ∧ vld s = true ∧ 1 ≤ a ∧ a ≤ 8 ∧ 1 ≤ b ∧ b ≤ 60 ∧ EdOk a b d ∧ tooM s.length a = false := by
  unfold checkE at h
  split at h
  · rename_i h1
    exact absurd h h1
  · rename_i h1
    have h0 : faultE s wd hg d.n.length d.e.length d.s.length d.w.length = 0 := Classical.byContradiction h1
    have ht : tooM s.length wd.toNat = false := by
      cases hc : tooM s.length wd.toNat
      · rfl
      · rw [hc] at h; simp at h
    unfold faultE at h0
    split at h0
    · cases h0
    · rename_i hv
      split at h0
      · cases h0
      · rename_i hs
        split at h0
        · rename_i hk
          obtain ⟨a, ha⟩ := Int.eq_ofNat_of_zero_le (show 0 ≤ wd by omega)
          obtain ⟨b, hb⟩ := Int.eq_ofNat_of_zero_le (show 0 ≤ hg by omega)
          subst ha
          subst hb
          simp only [Bool.and_eq_true, sideOk, decide_eq_true_eq] at hk
          have nil : ∀ {l : List Int} {k : Nat}, l.length = 0 ∨ (l.length : Int) = (k : Int) → l = [] ∨ l.length = k := fun h => h.imp List.length_eq_zero_iff.1 (by omega)
          exact ⟨a, b, rfl, rfl, by simpa using hv, by omega, by omega, by omega, by omega, ⟨nil hk.1, nil hk.2.2.2, nil hk.2.1, nil hk.2.2.1⟩, by simpa using ht⟩
        · cases h0
/-- what Count returns -/
def countRes (s : List Tl) (wd hg : Int) (d : Ed) : Value :=
  if checkE s wd hg d.n.length d.e.length d.s.length d.w.length ≠ 0 then .tuple #[.int .i64 0, .int .i64 (checkE s wd hg d.n.length d.e.length d.s.length d.w.length)]
  else if 1152921504606846976 < countE s wd.toNat hg.toNat d then .tuple #[.int .i64 0, .int .i64 4] else .tuple #[.int .i64 (countE s wd.toNat hg.toNat d : Nat), .int .i64 0]
theorem six_sets {w : World} {q : Nat} {z0 z1 z2 z3 z4 z5 a b c d e f : Value} {t : TypeId} (h : w.heap[q]? = some (.cells #[z0, z1, z2, z3, z4, z5] t (0, 0))) :
    ((((((w.setCell ⟨q, 0, none⟩ a).setCell ⟨q, 1, none⟩ b).setCell ⟨q, 2, none⟩ c).setCell ⟨q, 3, none⟩ d).setCell ⟨q, 4, none⟩ e).setCell ⟨q, 5, none⟩ f).heap[q]? = some (.cells #[a, b, c, d, e, f] t (0, 0)) := by
  have h1 := heap_setCell_same _ q 5 _ t f (heap_setCell_same _ q 4 _ t e (heap_setCell_same _ q 3 _ t d (heap_setCell_same _ q 2 _ t c (heap_setCell_same _ q 1 _ t b (heap_setCell_same w q 0 _ t a h)))))
  rw [h1]
  rfl
/-- the sum of what is no longer to come -/
def doneS (ks : List (List Int)) (f : List Int → Nat) (left : Lit → Bool) : Nat := ((ks.filter fun l => !left (lk l)).map f).sum
theorem doneS_start (ks : List (List Int)) (f : List Int → Nat) (left : Lit → Bool) (h : ∀ l ∈ ks, left (lk l) = true) : doneS ks f left = 0 := by
  unfold doneS
  rw [List.filter_eq_nil_iff.2 fun l hl => by simp [h l hl]]
  rfl
theorem doneS_end (ks : List (List Int)) (f : List Int → Nat) (left : Lit → Bool) (h : ∀ kl, left kl = false) : doneS ks f left = (ks.map f).sum := by
  unfold doneS
  rw [List.filter_eq_self.2 fun l hl => by simp [h]]
theorem doneS_step (f : List Int → Nat) (left : Lit → Bool) (l : List Int) (hl : lwf l) (hleft : left (lk l) = true) : ∀ ks : List (List Int), ks.Nodup → (∀ m ∈ ks, lwf m) →
    doneS ks f (fun z => left z && !z.sameKey (lk l)) = doneS ks f left + if l ∈ ks then f l else 0
  | [], _, _ => by simp [doneS]
  | m :: ks, hn, hw => by
    rw [List.nodup_cons] at hn
    have ih := doneS_step f left l hl hleft ks hn.2 fun q hq => hw q (by simp [hq])
    unfold doneS at ih ⊢
    rw [List.filter_cons, List.filter_cons]
    by_cases e : m = l
    · subst e
      rw [if_pos (by simp [WideAt.sameKey_self (lk_key hl)]), if_neg (by simp [hleft]), List.map_cons, List.sum_cons, ih, if_neg hn.1, if_pos (by simp)]
      omega
    · have hs : (lk m).sameKey (lk l) = false := Maps.sameKey_ne fun e' => e (lk_inj (hw m (by simp)) hl e')
      simp only [hs, Bool.not_false, Bool.and_true]
      have hmem : l ∈ m :: ks ↔ l ∈ ks := ⟨fun h => (List.mem_cons.1 h).resolve_left fun e' => e e'.symm, fun h => List.mem_cons_of_mem _ h⟩
      by_cases hm : left (lk m) = true
      · rw [if_neg (by simp [hm]), if_neg (by simp [hm]), ih]
        simp only [hmem]
      · rw [if_pos (by simp [hm]), if_pos (by simp [hm]), List.map_cons, List.map_cons, List.sum_cons, List.sum_cons, ih]
        simp only [hmem]
        omega
theorem frozen_blk {w : World} {q : Nat} {cs : Array Value} {t : TypeId} (h : w.heap[q]? = some (.cells cs t (0, 0))) : ∀ o, w.frozen? ⟨q, o, none⟩ = false := fun o => by simp [World.frozen?, h]
theorem rows_below {w1 W w2 : World} (h : Below W.heap.size W w2) (hb : Below w1.heap.size w1 W) : Below w1.heap.size w1 w2 := hb.trans (h.mono hb.size)
theorem six_grown (w : World) (q : Nat) (a b c d e f : Value) : w.grownBy ((((((w.setCell ⟨q, 0, none⟩ a).setCell ⟨q, 1, none⟩ b).setCell ⟨q, 2, none⟩ c).setCell ⟨q, 3, none⟩ d).setCell ⟨q, 4, none⟩ e).setCell ⟨q, 5, none⟩ f) (some q) :=
  (((((grown_setCell w q 0 a).trans (grown_setCell _ q 1 b)).trans (grown_setCell _ q 2 c)).trans (grown_setCell _ q 3 d)).trans (grown_setCell _ q 4 e)).trans (grown_setCell _ q 5 f)
theorem flat_grown {α : Type} {f : α → List Value} {k B q : Nat} {w w' : World} {A : Option Addr} {l : List α} (h : FlatIn f k w B A l) (hg : w.grownBy w' (some q)) (hne : ∀ b, A = some b → b.block ≠ q) (hB : B ≤ w.heap.size) : FlatIn f k w' w'.heap.size A l := fun hn => by
  obtain ⟨b, hA, hlt, hc⟩ := h hn
  have hbq := hne _ hA
  exact ⟨b, hA, Nat.lt_of_lt_of_le hlt (Nat.le_trans hB hg.size), fun i a hi j v hv => (World.cell?_of_block (hg.block b (by omega) (fun e => hbq (by simpa using e)))).trans (hc i a hi j v hv)⟩
theorem six_below {w0 w : World} {q : Nat} {a b c d e f : Value} (h : Below w0.heap.size w0 w) (hq : w0.heap.size ≤ q) : Below w0.heap.size w0 ((((((w.setCell ⟨q, 0, none⟩ a).setCell ⟨q, 1, none⟩ b).setCell ⟨q, 2, none⟩ c).setCell ⟨q, 3, none⟩ d).setCell ⟨q, 4, none⟩ e).setCell ⟨q, 5, none⟩ f) :=
  (((((h.setCell hq _).setCell hq _).setCell hq _).setCell hq _).setCell hq _).setCell hq _

end Go.Proofs.YtgadfmknjpanpaaGreatDoor

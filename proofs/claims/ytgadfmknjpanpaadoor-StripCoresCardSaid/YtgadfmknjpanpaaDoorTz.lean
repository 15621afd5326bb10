/-
  Tori: each multiple of their sides is one of a torus; a torus of a width has one of few rows. The plain mathematics of package torus. No program, no memory.
-/
import Derived.Test.YtgadfmknjpanpaaDoorFp
namespace Go.Proofs.YtgadfmknjpanpaaDoor
set_option linter.unusedVariables false

/-- the cells of a torus of w by h -/
structure GoodT (s : List Tl) (w h : Nat) (c : Nat → Nat → Nat) : Prop where
  idx : ∀ x y, x < w → y < h → c x y < s.length
  hor : ∀ x y, x < w → y < h → (ti s (c x y)).e = (ti s (c ((x + 1) % w) y)).w
  ver : ∀ x y, x < w → y < h → (ti s (c x y)).n = (ti s (c x ((y + 1) % h))).s
/-- IF THERE IS A TORUS OF SOME SIZE, THERE IS ONE OF EACH MULTIPLE OF ITS SIDES. -/
theorem GoodT.times {s : List Tl} {w h : Nat} {c : Nat → Nat → Nat} (g : GoodT s w h c) (hw : 1 ≤ w) (hh : 1 ≤ h) (i j : Nat) : GoodT s (w * i) (h * j) fun x y => c (x % w) (y % h) where
  idx x y hx hy := g.idx _ _ (Nat.mod_lt _ hw) (Nat.mod_lt _ hh)
  hor x y hx hy := by
    rw [g.hor _ _ (Nat.mod_lt _ hw) (Nat.mod_lt _ hh), Nat.mod_add_mod]
    show _ = (ti s (c ((x + 1) % (w * i) % w) (y % h))).w
    rw [Nat.mod_mul_right_mod]
  ver x y hx hy := by
    rw [g.ver _ _ (Nat.mod_lt _ hw) (Nat.mod_lt _ hh), Nat.mod_add_mod]
    show _ = (ti s (c (x % w) ((y + 1) % (h * j) % h))).s
    rw [Nat.mod_mul_right_mod]
/-- the colours that occur as S, in the order of the tiles -/
def souS (s : List Tl) : List Int := s.foldl (fun l t => addIf l t.s) []
theorem mem_sou_fold (s : List Tl) (v : Int) : ∀ l : List Int, v ∈ s.foldl (fun l t => addIf l t.s) l ↔ v ∈ l ∨ ∃ t ∈ s, v = t.s := by
  induction s with
  | nil => intro l; simp
  | cons t s ih =>
    intro l
    rw [List.foldl_cons, ih, mem_addIf]
    simp only [List.mem_cons]
    constructor
    · rintro ((h | h) | ⟨u, hu, h⟩)
      · exact Or.inl h
      · exact Or.inr ⟨t, Or.inl rfl, h⟩
      · exact Or.inr ⟨u, Or.inr hu, h⟩
    · rintro (h | ⟨u, rfl | hu, h⟩)
      · exact Or.inl (Or.inl h)
      · exact Or.inl (Or.inr h)
      · exact Or.inr ⟨u, hu, h⟩
theorem mem_souS (s : List Tl) (v : Int) : v ∈ souS s ↔ ∃ t ∈ s, v = t.s := by unfold souS; rw [mem_sou_fold]; simp
theorem lsts_count (c : List Int) : ∀ n, (lsts c n).length = c.length ^ n
  | 0 => by simp [lsts]
  | n + 1 => by
    have ih := lsts_count c n
    have h1 : ∀ L : List (List Int), (L.flatMap fun l => c.map fun v => l ++ [v]).length = L.length * c.length := fun L => by
      induction L with
      | nil => simp
      | cons l L ihL => rw [List.flatMap_cons, List.length_append, List.length_map, ihL, List.length_cons, Nat.add_mul]; omega
    simp only [lsts]
    rw [h1, ih, Nat.pow_succ]
/-- the colours to the south of row y -/
def southL (s : List Tl) (w : Nat) (c : Nat → Nat → Nat) (y : Nat) : List Int := (List.range w).map fun x => (ti s (c x y)).s
/-- A TORUS OF SOME WIDTH AND HEIGHT: THERE IS ONE WHOSE HEIGHT IS AT MOST THE NUMBER OF LISTS OF COLOURS THAT OCCUR AS S. -/
theorem GoodT.rows {s : List Tl} {w h : Nat} {c : Nat → Nat → Nat} (g : GoodT s w h c) (hw : 1 ≤ w) (hh : 1 ≤ h) : ∃ k c', 1 ≤ k ∧ k ≤ h ∧ k ≤ (souS s).length ^ w ∧ GoodT s w k c' := by
  obtain ⟨K, hK⟩ : ∃ K, K = (souS s).length ^ w := ⟨_, rfl⟩
  by_cases hhK : h ≤ K
  · exact ⟨h, c, hh, Nat.le_refl _, by rw [← hK]; exact hhK, g⟩
  have hex : ∃ y1 y2, y1 < y2 ∧ y2 ≤ K ∧ southL s w c y1 = southL s w c y2 := by
    refine Classical.byContradiction fun hno => ?_
    have hmem : ∀ y ∈ List.range (K + 1), southL s w c y ∈ lsts (souS s) w := fun y hy => by
      have hy' : y < h := by have := List.mem_range.1 hy; omega
      rw [mem_lsts]
      refine ⟨by simp [southL], fun v hv => ?_⟩
      obtain ⟨x, hx, rfl⟩ := List.mem_map.1 hv
      exact (mem_souS s _).2 ⟨_, ti_mem (g.idx x y (List.mem_range.1 hx) hy'), rfl⟩
    have hle := length_le_of_inj (southL s w c) (List.range (K + 1)) (lsts (souS s) w) List.nodup_range hmem fun y1 h1 y2 h2 e => by
      have b1 := List.mem_range.1 h1
      have b2 := List.mem_range.1 h2
      rcases Nat.lt_trichotomy y1 y2 with q | q | q
      · exact absurd ⟨y1, y2, q, by omega, e⟩ hno
      · exact q
      · exact absurd ⟨y2, y1, q, by omega, e.symm⟩ hno
    rw [lsts_count, List.length_range, ← hK] at hle
    omega
  obtain ⟨y1, y2, h12, h2K, he⟩ := hex
  refine ⟨y2 - y1, fun x y => c x (y1 + y), by omega, by omega, by omega, ⟨fun x y hx hy => g.idx _ _ hx (by omega), fun x y hx hy => g.hor x _ hx (by omega), fun x y hx hy => ?_⟩⟩
  have hv := g.ver x (y1 + y) hx (by omega)
  rw [Nat.mod_eq_of_lt (show y1 + y + 1 < h by omega)] at hv
  rw [hv]
  show (ti s (c x (y1 + y + 1))).s = (ti s (c x (y1 + (y + 1) % (y2 - y1)))).s
  by_cases hl : y + 1 < y2 - y1
  · rw [Nat.mod_eq_of_lt hl, Nat.add_assoc]
  · have e1 : y1 + y + 1 = y2 := by omega
    have e2 : y + 1 = y2 - y1 := by omega
    rw [e2, Nat.mod_self, Nat.add_zero, e1]
    have h1 := congrArg (fun l => l.getD x 0) he
    simp only [southL] at h1
    rw [getD_map_range _ _ _ _ hx, getD_map_range _ _ _ _ hx] at h1
    exact h1.symm
theorem tl_ti (s : List Tl) (i : Nat) : tl s (i : Int) = ti s i := by unfold tl ti; rw [Int.toNat_natCast]
/-- the pattern of some cells -/
def ptM (w h : Nat) (c : Nat → Nat → Nat) : Pt := ⟨w, h, (List.range (w * h)).map fun i => ((c (i % w) (i / w) : Nat) : Int)⟩
theorem ptM_cel {w h : Nat} (c : Nat → Nat → Nat) {x y : Nat} (hx : x < w) (hy : y < h) : cel (ptM w h c) x y = (c x y : Nat) := by
  have h1 : y * w + x < w * h := idx_lt hx hy
  have h2 : (y * w + x) % w = x := by rw [Nat.mul_comm, Nat.mul_add_mod]; exact Nat.mod_eq_of_lt hx
  have h3 : (y * w + x) / w = y := by rw [Nat.mul_comm, Nat.mul_add_div (by omega), Nat.div_eq_of_lt hx]; rfl
  simp only [cel, ptM, Int.toNat_natCast]
  rw [List.getD_eq_getElem?_getD, List.getElem?_map, List.getElem?_range h1]
  simp [h2, h3]
/-- the cells of a torus are a torus -/
theorem GoodT.reps {s : List Tl} {w h : Nat} {c : Nat → Nat → Nat} (g : GoodT s w h c) (hv : vld s = true) (hw : 1 ≤ w) (hh : 1 ≤ h) (hwh : w * h ≤ 40000) : reps s (ptM w h c) = true := by
  unfold Proofs.YtgadfmknjpanpaaDoor.reps
  simp only [Bool.and_eq_true]
  have ew : (ptM w h c).w.toNat = w := by simp [ptM]
  have eh : (ptM w h c).h.toNat = h := by simp [ptM]
  refine ⟨hv, ?_, ?_, ?_⟩
  · rw [form_iff]
    refine ⟨by simp only [ptM]; omega, by simp only [ptM]; omega, ?_, ?_⟩
    · simp only [ptM]; rw [← Int.natCast_mul]; omega
    · simp only [ptM, List.length_map, List.length_range]; exact_mod_cast rfl
  · unfold refers
    rw [List.all_eq_true]
    intro v hv'
    simp only [ptM, List.mem_map] at hv'
    obtain ⟨i, hi, rfl⟩ := hv'
    have hi' := List.mem_range.1 hi
    have := g.idx (i % w) (i / w) (Nat.mod_lt _ hw) (by rw [Nat.div_lt_iff_lt_mul (by omega), Nat.mul_comm]; exact hi')
    simpa using this
  · rw [agrs_iff]
    intro y hy x hx
    rw [ew] at hx
    rw [eh] at hy
    unfold agrAt
    rw [ew, eh]
    refine ⟨fun _ => ?_, fun _ => ?_⟩
    · rw [ptM_cel c hx hy, ptM_cel c (Nat.mod_lt _ hw) hy, tl_ti, tl_ti]
      exact g.hor x y hx hy
    · rw [ptM_cel c hx hy, ptM_cel c hx (Nat.mod_lt _ hh), tl_ti, tl_ti]
      exact g.ver x y hx hy
/-- what is a torus of a set has the cells of one -/
theorem reps_good {s : List Tl} {p : Pt} (h : reps s p = true) : ∃ a b : Nat, p.w = a ∧ p.h = b ∧ 1 ≤ a ∧ 1 ≤ b ∧ GoodT s a b fun x y => (cel p x y).toNat := by
  simp only [reps, Bool.and_eq_true] at h
  obtain ⟨hv, hf, hr, hg⟩ := h
  obtain ⟨a, b, ha, hb, ha1, hb1, _, hl⟩ := form_nat hf
  rw [agrs_iff, ha, hb, Int.toNat_natCast, Int.toNat_natCast] at hg
  have hrc : ∀ x y, x < a → y < b → 0 ≤ cel p x y ∧ cel p x y < s.length := fun x y hx hy => refers_cel hf hr x y (by rw [ha, Int.toNat_natCast]; exact hx) (by rw [hb, Int.toNat_natCast]; exact hy)
  have ht : ∀ x y, ti s ((cel p x y).toNat) = tl s (cel p x y) := fun x y => rfl
  refine ⟨a, b, ha, hb, ha1, hb1, ⟨fun x y hx hy => by have := hrc x y hx hy; omega, fun x y hx hy => ?_, fun x y hx hy => ?_⟩⟩
  · have h1 := (hg y hy x hx).1
    rw [ha, Int.toNat_natCast] at h1
    rw [ht, ht]
    exact h1 (by omega)
  · have h1 := (hg y hy x hx).2
    rw [hb, Int.toNat_natCast] at h1
    rw [ht, ht]
    exact h1 (by omega)
/-- the rows whose ends agree -/
def ringsE (s : List Tl) (w : Nat) : List (List Nat) := (rws s w).filter fun r => decide (east s r = west s r)
/-- the uppermost row must bear the lowest one -/
def admT (s : List Tl) (h : Nat) (r0 : List Nat) (y : Nat) (q : List Nat) : Bool := decide (y + 1 < h) || decide (lineN s q = lineS s r0)
/-- the tori over a row -/
def torsFrom (s : List Tl) (w h : Nat) (r0 : List Nat) : List (List (List Nat)) := if admT s h r0 0 r0 = true then (stk (ringsE s w) (admT s h r0) (lineS s) (lineN s) (h - 1) 1 (some (lineN s r0))).map (r0 :: ·) else []
/-- all tori of a size, in order -/
def torsE (s : List Tl) (w h : Nat) : List (List (List Nat)) := (ringsE s w).flatMap (torsFrom s w h)
theorem mem_torsE_stk (s : List Tl) (w h : Nat) (hh : 1 ≤ h) (t : List (List Nat)) : t ∈ torsE s w h ↔ t.length = h ∧ isStk (ringsE s w) (admT s h (t.getD 0 [])) (lineS s) (lineN s) 0 none t := by
  unfold torsE torsFrom
  rw [List.mem_flatMap]
  constructor
  · rintro ⟨r0, hr, ht⟩
    split at ht
    · rename_i ha
      obtain ⟨u, hu, rfl⟩ := List.mem_map.1 ht
      obtain ⟨h1, h2⟩ := (mem_stk _ _ _ _ _ _ _ _).1 hu
      refine ⟨by rw [List.length_cons, h1]; omega, ?_⟩
      show isStk _ (admT s h r0) _ _ 0 none (r0 :: u)
      exact ⟨hr, ha, rfl, h2⟩
    · cases ht
  · rintro ⟨hl, h2⟩
    cases t with
    | nil => simp at hl; omega
    | cons r0 u =>
      have h3 : isStk (ringsE s w) (admT s h r0) (lineS s) (lineN s) 0 none (r0 :: u) := h2
      obtain ⟨h4, h5, -, h6⟩ := h3
      refine ⟨r0, h4, ?_⟩
      rw [if_pos h5]
      exact List.mem_map.2 ⟨u, (mem_stk _ _ _ _ _ _ _ _).2 ⟨by rw [List.length_cons] at hl; omega, h6⟩, rfl⟩
/-- A STACK IS A TORUS OF THE SET EXACTLY IF ITS CELLS AGREE, AROUND THE EDGES, TOO. -/
theorem mem_torsE (s : List Tl) (w h : Nat) (hw : 1 ≤ w) (hh : 1 ≤ h) (t : List (List Nat)) : t ∈ torsE s w h ↔ Shaped w h t ∧ GoodT s w h (cl t) := by
  rw [mem_torsE_stk s w h hh, isStk_iff _ _ _ _ []]
  constructor
  · rintro ⟨hl, h1, -, h3⟩
    rw [hl] at h1 h3
    have hm : ∀ y, y < h → t.getD y [] ∈ rws s w ∧ east s (t.getD y []) = west s (t.getD y []) := fun y hy => by
      have := (List.mem_filter.1 (h1 y hy).1)
      exact ⟨this.1, of_decide_eq_true this.2⟩
    have hr : ∀ y, y < h → (t.getD y []).length = w := fun y hy => rws_len s w _ (hm y hy).1
    refine ⟨⟨hl, fun r hr' => ?_⟩, ⟨fun x y hx hy => ((mem_rws s w _).1 (hm y hy).1).2.1 x hx, fun x y hx hy => ?_, fun x y hx hy => ?_⟩⟩
    · obtain ⟨i, hi, rfl⟩ := List.mem_iff_getElem.1 hr'
      have := hr i (by omega)
      rwa [getD_of_lt t i [] hi] at this
    · by_cases hl' : x + 1 < w
      · rw [Nat.mod_eq_of_lt hl']
        exact ((mem_rws s w _).1 (hm y hy).1).2.2 x hl'
      · have e1 : x + 1 = w := by omega
        rw [e1, Nat.mod_self]
        have e2 := (hm y hy).2
        rw [east_getD s _ w hw (hr y hy), west_getD s _ (by rw [hr y hy]; exact hw), show w - 1 = x by omega] at e2
        exact e2
    · by_cases hl' : y + 1 < h
      · rw [Nat.mod_eq_of_lt hl']
        exact ((line_eq (s := s) Tl.s Tl.n (hr _ hl') (hr y hy)).1 (h3 y hl') x hx).symm
      · have e1 : y + 1 = h := by omega
        rw [e1, Nat.mod_self]
        have ha := (h1 y hy).2
        unfold admT at ha
        rw [Nat.zero_add, decide_eq_false (by omega), Bool.false_or, decide_eq_true_eq] at ha
        exact (line_eq (s := s) Tl.n Tl.s (hr y hy) (hr 0 (by omega))).1 ha x hx
  · rintro ⟨⟨hl, hr'⟩, g⟩
    have hr : ∀ y, y < h → (t.getD y []).length = w := fun y hy => by
      rw [getD_of_lt t y [] (by omega)]
      exact hr' _ (List.getElem_mem _)
    refine ⟨hl, fun y hy => ⟨List.mem_filter.2 ⟨(mem_rws s w _).2 ⟨hr y (by omega), fun x hx => g.idx x y hx (by omega), fun x hx => ?_⟩, ?_⟩, ?_⟩, fun _ => rfl, fun y hy => ?_⟩
    · have := g.hor x y (by omega) (by omega)
      rwa [Nat.mod_eq_of_lt hx] at this
    · rw [decide_eq_true_eq, east_getD s _ w hw (hr y (by omega)), west_getD s _ (by rw [hr y (by omega)]; exact hw)]
      have := g.hor (w - 1) y (by omega) (by omega)
      rw [show w - 1 + 1 = w by omega, Nat.mod_self] at this
      exact this
    · unfold admT
      rw [Nat.zero_add, Bool.or_eq_true, decide_eq_true_eq, decide_eq_true_eq]
      by_cases hl' : y + 1 < h
      · exact Or.inl hl'
      · right
        have e1 : y + 1 = h := by omega
        refine (line_eq (s := s) Tl.n Tl.s (hr y (by omega)) (hr 0 (by omega))).2 fun x hx => ?_
        have := g.ver x y hx (by omega)
        rwa [e1, Nat.mod_self] at this
    · rw [hl] at hy
      refine (line_eq (s := s) Tl.s Tl.n (hr _ hy) (hr y (by omega))).2 fun x hx => ?_
      have := g.ver x y hx (by omega)
      rw [Nat.mod_eq_of_lt hy] at this
      exact this.symm
theorem GoodT.congr {s : List Tl} {w h : Nat} {c c' : Nat → Nat → Nat} (g : GoodT s w h c) (e : ∀ x y, x < w → y < h → c x y = c' x y) : GoodT s w h c' where
  idx x y hx hy := by rw [← e x y hx hy]; exact g.idx x y hx hy
  hor x y hx hy := by rw [← e x y hx hy, ← e _ y (Nat.mod_lt _ (by omega)) hy]; exact g.hor x y hx hy
  ver x y hx hy := by rw [← e x y hx hy, ← e x _ hx (Nat.mod_lt _ (by omega))]; exact g.ver x y hx hy
theorem GoodT.there {s : List Tl} {w h : Nat} {c : Nat → Nat → Nat} (g : GoodT s w h c) (hw : 1 ≤ w) (hh : 1 ≤ h) : torsE s w h ≠ [] := fun e => by
  have := (mem_torsE s w h hw hh (Proofs.YtgadfmknjpanpaaDoor.mk w h c)).2 ⟨mk_shaped w h c, g.congr fun x y hx hy => (cl_mk w h c hx hy).symm⟩
  rw [e] at this
  cases this
theorem tors_good {s : List Tl} {w h : Nat} (hw : 1 ≤ w) (hh : 1 ≤ h) (ht : torsE s w h ≠ []) : ∃ c, GoodT s w h c := by
  obtain ⟨t, ht⟩ := List.exists_mem_of_ne_nil _ ht
  exact ⟨_, ((mem_torsE s w h hw hh t).1 ht).2⟩
/-- tori of multiples -/
theorem tors_times {s : List Tl} {w h : Nat} (hw : 1 ≤ w) (hh : 1 ≤ h) (ht : torsE s w h ≠ []) (i j : Nat) (hi : 1 ≤ i) (hj : 1 ≤ j) : torsE s (w * i) (h * j) ≠ [] := by
  obtain ⟨c, g⟩ := tors_good hw hh ht
  exact (g.times hw hh i j).there (Nat.mul_pos hw hi) (Nat.mul_pos hh hj)
/-- a torus of few rows -/
theorem tors_rows {s : List Tl} {w h : Nat} (hw : 1 ≤ w) (hh : 1 ≤ h) (ht : torsE s w h ≠ []) : ∃ k, 1 ≤ k ∧ k ≤ h ∧ k ≤ (souS s).length ^ w ∧ torsE s w k ≠ [] := by
  obtain ⟨c, g⟩ := tors_good hw hh ht
  obtain ⟨k, c', h1, h2, h3, g'⟩ := g.rows hw hh
  exact ⟨k, h1, h2, h3, g'.there hw h1⟩
/-- what is found is a torus of the set -/
theorem tors_reps {s : List Tl} {w h : Nat} {t : List (List Nat)} (hv : vld s = true) (hw : 1 ≤ w) (hh : 1 ≤ h) (hwh : w * h ≤ 40000) (ht : t ∈ torsE s w h) : reps s (ptM w h (cl t)) = true :=
  ((mem_torsE s w h hw hh t).1 ht).2.reps hv hw hh hwh
end Go.Proofs.YtgadfmknjpanpaaDoor

/-
  ref04.Core, the plain mathematics: what stays when no tile is taken any more is the core.
-/
import Derived.Test.YtgadfmknjpanpaaDoorSre
import Derived.Test.YtgadfmknjpanpaaDoorSco
namespace Go.Proofs.YtgadfmknjpanpaaDoor
set_option linter.unusedVariables false

/-- one round of ref04.Core -/
def rndC (s : List Tl) (inn : Nat → Bool) (i : Nat) : Bool := inn i && (endF s inn false false s.length i && (endF s inn false true s.length i && (endF s inn true false s.length i && endF s inn true true s.length i)))
theorem endF_inn (s : List Tl) (inn : Nat → Bool) (north back : Bool) : ∀ n i, endF s inn north back n i = true → inn i = true
  | 0, i, h => h
  | n + 1, i, h => by
    rw [endF, Bool.and_eq_true] at h
    exact h.1
theorem encl_step (s : List Tl) (T : List Nat) (i : Nat) (h : enclP s T i = true) (north back : Bool) : ∃ k ∈ T, stp s north back i k = true := by
  unfold enclP at h
  simp only [Bool.and_eq_true, List.any_eq_true, decide_eq_true_eq] at h
  obtain ⟨⟨a, ha, ea⟩, ⟨b, hb, eb⟩, ⟨c, hc, ec⟩, d, hd, ed⟩ := h
  unfold stp leadsB
  cases north <;> cases back
  · exact ⟨b, hb, by simp [eb]⟩
  · exact ⟨d, hd, by simp [ed]⟩
  · exact ⟨a, ha, by simp [ea]⟩
  · exact ⟨c, hc, by simp [ec]⟩
theorem encl_endF (s : List Tl) (T : List Nat) (inn : Nat → Bool) (hl : ∀ i ∈ T, i < s.length) (hT : ∀ i ∈ T, enclP s T i = true) (hin : ∀ i ∈ T, inn i = true) (north back : Bool) : ∀ n, ∀ i ∈ T, endF s inn north back n i = true
  | 0, i, hi => hin i hi
  | n + 1, i, hi => by
    obtain ⟨k, hk, hs⟩ := encl_step s T i (hT i hi) north back
    rw [endF, hin i hi, Bool.true_and]
    exact List.any_eq_true.2 ⟨k, List.mem_range.2 (hl k hk), by rw [encl_endF s T inn hl hT hin north back n k hk, hs]; rfl⟩
/-- the core is never taken -/
theorem core_rnd (s : List Tl) (inn : Nat → Bool) (h : ∀ i ∈ coreE s, inn i = true) : ∀ i ∈ coreE s, rndC s inn i = true := fun i hi => by
  have e := fun north back => encl_endF s (coreE s) inn (coreE_lt s) (coreE_fix s) h north back s.length i hi
  unfold rndC
  rw [h i hi, e, e, e, e]
  rfl
theorem endF_step (s : List Tl) (inn : Nat → Bool) (north back : Bool) (hs : 0 < s.length) (i : Nat) (h : endF s inn north back s.length i = true) : ∃ k, k < s.length ∧ inn k = true ∧ stp s north back i k = true := by
  obtain ⟨n, hn⟩ : ∃ n, s.length = n + 1 := ⟨s.length - 1, by omega⟩
  rw [hn, endF, Bool.and_eq_true, List.any_eq_true] at h
  obtain ⟨-, k, hk, hp⟩ := h
  rw [Bool.and_eq_true] at hp
  exact ⟨k, List.mem_range.1 hk, endF_inn s inn north back n k hp.1, hp.2⟩
/-- what a round leaves as it is belongs to the core -/
theorem fix_core (s : List Tl) (inn : Nat → Bool) (h : ∀ i, i < s.length → rndC s inn i = inn i) : ∀ i, i < s.length → inn i = true → i ∈ coreE s := fun i hi hn => by
  refine core_torus s ((List.range s.length).filter inn) (fun j hj => List.mem_range.1 (List.mem_filter.1 hj).1) (fun j hj => ?_) _ i (List.mem_filter.2 ⟨List.mem_range.2 hi, hn⟩)
  obtain ⟨hj1, hj2⟩ := List.mem_filter.1 hj
  have hjl := List.mem_range.1 hj1
  have hr := h j hjl
  rw [hj2] at hr
  unfold rndC at hr
  simp only [Bool.and_eq_true] at hr
  obtain ⟨-, e1, e2, e3, e4⟩ := hr
  have hs : 0 < s.length := by omega
  obtain ⟨a, ha, ia, sa⟩ := endF_step s inn _ _ hs j e1
  obtain ⟨b, hb, ib, sb⟩ := endF_step s inn _ _ hs j e2
  obtain ⟨c, hc, ic, sc⟩ := endF_step s inn _ _ hs j e3
  obtain ⟨d, hd, id', sd⟩ := endF_step s inn _ _ hs j e4
  simp only [stp, leadsB, Bool.false_eq_true, if_false, if_true, beq_iff_eq] at sa sb sc sd
  unfold enclP
  simp only [Bool.and_eq_true, List.any_eq_true, decide_eq_true_eq]
  exact ⟨⟨c, List.mem_filter.2 ⟨List.mem_range.2 hc, ic⟩, sc.symm⟩, ⟨a, List.mem_filter.2 ⟨List.mem_range.2 ha, ia⟩, sa.symm⟩, ⟨d, List.mem_filter.2 ⟨List.mem_range.2 hd, id'⟩, sd⟩, ⟨b, List.mem_filter.2 ⟨List.mem_range.2 hb, ib⟩, sb⟩⟩
theorem rounds_filter {α : Type} (P : List α → α → Bool) : ∀ (n : Nat) (l : List α), ∃ p : α → Bool, rounds P n l = l.filter p
  | 0, l => ⟨fun _ => true, (List.filter_eq_self.2 fun a _ => rfl).symm⟩
  | n + 1, l => by
    obtain ⟨p, hp⟩ := rounds_filter P n (keep1 P l)
    refine ⟨fun a => p a && P l a, ?_⟩
    show rounds P n (keep1 P l) = _
    rw [hp]
    unfold keep1
    rw [List.filter_filter]
/-- ref04.Core's answer is the core -/
theorem fix_list (s : List Tl) (inn : Nat → Bool) (h1 : ∀ i ∈ coreE s, inn i = true) (h : ∀ i, i < s.length → rndC s inn i = inn i) : (List.range s.length).filter inn = coreE s := by
  obtain ⟨p, hp⟩ := rounds_filter (enclP s) s.length (List.range s.length)
  have hp' : coreE s = (List.range s.length).filter p := hp
  rw [hp']
  refine List.filter_congr fun i hi => ?_
  rw [Bool.eq_iff_iff]
  constructor
  · intro hn
    have := fix_core s inn h i (List.mem_range.1 hi) hn
    rw [hp'] at this
    exact (List.mem_filter.1 this).2
  · intro hn
    refine h1 i ?_
    rw [hp']
    exact List.mem_filter.2 ⟨hi, hn⟩
end Go.Proofs.YtgadfmknjpanpaaDoor

/-
  groutworklaw05.SquareFalls returns true, for every set, side and number.
-/
import Derived.Test.YtfepgemopcpgmaaDoorSh
import Derived.Test.YtfepgemopcpgmaaDoorSo
namespace Go.Proofs.YtfepgemopcpgmaaDoor
open Go.RowKit Go.Maps Go.BigFrame
set_option linter.unusedVariables false
set_option linter.unusedSimpArgs false
set_option maxRecDepth 100000

theorem check_light {s : List Tl} {n k : Nat} (hv : vld s = true) (ht : tooM s.length n = false) (hn : n ≤ 8) (h1 : 1 ≤ k) (hk : k ≤ n) : checkE s (k : Int) (k : Int) 0 0 0 0 = 0 := by
  have ht' : tooM s.length k = false := by
    unfold tooM at ht ⊢
    rw [decide_eq_false_iff_not] at ht ⊢
    intro h5
    refine ht (pow_more ?_ hk h5)
    rcases Nat.eq_zero_or_pos s.length with e | e
    · rw [e, Nat.zero_pow h1] at h5; omega
    · exact e
  unfold checkE faultE
  simp only [hv, Bool.true_eq_false, if_false]
  rw [if_neg (show ¬ ((k : Int) < 1 ∨ 8 < (k : Int) ∨ (k : Int) < 1 ∨ 60 < (k : Int)) by omega)]
  simp [sideOk, ht']
theorem ex_light {s : List Tl} {n k : Nat} (hv : vld s = true) (ht : tooM s.length n = false) (hn : n ≤ 8) (h1 : 1 ≤ k) (hk : k ≤ n) : exE s (k : Int) = (sqB s k, 0) := by
  unfold exE
  rw [check_light hv ht hn h1 hk, if_neg (by simp), Int.toNat_natCast]
theorem lg_light {s : List Tl} {n : Nat} (hv : vld s = true) (ht : tooM s.length n = false) (h1 : 1 ≤ n) (hn : n ≤ 8) : lgE s (n : Int) = if lastS s n = n then ((0 : Int), (6 : Int)) else (((lastS s n : Nat) : Int), (0 : Int)) := by
  have h0 : sideE5 s (n : Int) = 0 := by
    unfold sideE5
    rw [hv]
    simp only [Bool.true_eq_false, if_false]
    rw [if_neg (by omega)]
  have he : ∀ k, k < n → exE s ((k : Int) + 1) = (sqB s (k + 1), 0) := fun k hk => by
    have := ex_light hv ht hn (show 1 ≤ k + 1 by omega) (by omega)
    rw [Int.natCast_succ] at this
    exact this
  unfold lgE
  rw [h0, if_neg (by simp), Int.toNat_natCast]
  by_cases hl : lastS s n = n
  · rw [if_pos hl]
    have e : stopL s n = none := by
      unfold stopL
      rw [List.find?_eq_none]
      intro k hk
      have hkn := List.mem_range.1 hk
      have : sqB s (k + 1) = true := by
        have hs := lastS_sq (s := s) n (by omega)
        rw [hl] at hs
        exact sqB_less (by omega) (by omega) hs
      simp [he k hkn, this]
    rw [e]
  · rw [if_neg hl]
    have hlt : lastS s n < n := by have := lastS_le s n; omega
    have e : stopL s n = some (lastS s n) := by
      unfold stopL
      rw [List.find?_range_eq_some]
      refine ⟨?_, List.mem_range.2 hlt, fun j hj => ?_⟩
      · rw [he _ hlt, lastS_not n _ (Nat.lt_succ_self _) (by omega)]
        simp
      · have hs := lastS_sq (s := s) n (by omega)
        rw [he _ (by omega), sqB_less (by omega) (by omega) hs]
        simp
    rw [e]
    have e2 := he _ hlt
    rw [lastS_not n _ (Nat.lt_succ_self _) (by omega)] at e2
    simp only [e2]
    simp
theorem tooM_less {m n k : Nat} (h : tooM m n = false) (hk : k ≤ m) : tooM k n = false := by
  unfold tooM at h ⊢
  rw [decide_eq_false_iff_not] at h ⊢
  have := Nat.pow_le_pow_left hk n
  omega
theorem vld_less {s : List Tl} (k : Nat) (h : vld s = true) : vld (s.take k ++ s.drop (k + 1)) = true := by
  obtain ⟨h1, h2, h3⟩ := vld_iff.1 h
  have hsub : List.Sublist (s.take k ++ s.drop (k + 1)) s := by
    have e := List.take_append_drop k s
    conv => rhs; rw [← e]
    refine List.Sublist.append (List.Sublist.refl _) ?_
    rw [← List.drop_drop]
    exact List.drop_sublist _ _
  exact vld_iff.2 ⟨Nat.le_trans hsub.length_le h1, fun t ht => h2 t (hsub.subset ht), hsub.nodup h3⟩
theorem own_empty4 (W : World) (base q : Nat) (e : TypeId) (hq : W.heap[q]? = some (.cells #[] e (0, 0))) (hb : base ≤ q) : W.ownsRow base e 4 (.slice (some ⟨q, 0, none⟩) 0 0) 0 [] :=
  ⟨rfl, Or.inr ⟨q, 0, #[], rfl, hb, hq, Nat.le_refl _, Nat.zero_le _, rfl, rfl⟩⟩
theorem set_news {W : World} {sb so a : Nat} {s s' : List Tl}
    (hc : ∀ i, i < s.length → W.cell? ⟨sb, so + i * 4, none⟩ = some (.int .i64 (s.getD i ⟨0, 0, 0, 0⟩).n) ∧ W.cell? ⟨sb, so + i * 4 + 1, none⟩ = some (.int .i64 (s.getD i ⟨0, 0, 0, 0⟩).e) ∧
      W.cell? ⟨sb, so + i * 4 + 2, none⟩ = some (.int .i64 (s.getD i ⟨0, 0, 0, 0⟩).s) ∧ W.cell? ⟨sb, so + i * 4 + 3, none⟩ = some (.int .i64 (s.getD i ⟨0, 0, 0, 0⟩).w))
    (hs : ∀ i, i < s'.length → a + i < s.length ∧ s'.getD i ⟨0, 0, 0, 0⟩ = s.getD (a + i) ⟨0, 0, 0, 0⟩) : ∀ j u, (tcells s')[j]? = some u → W.cell? ((⟨sb, so + a * 4, none⟩ : Addr).add j) = some u := by
  intro j u hu
  have hj : j < s'.length * 4 := by rw [← tcells_len]; exact (List.getElem?_eq_some_iff.1 hu).1
  have hi : j / 4 < s'.length := by omega
  have hr : j % 4 < 4 := Nat.mod_lt _ (by omega)
  have e := tcells_at s' (j / 4) hi (j % 4) hr
  rw [show j / 4 * 4 + j % 4 = j by omega, hu] at e
  obtain ⟨h1, h2⟩ := hs _ hi
  obtain ⟨k0, k1, k2, k3⟩ := hc _ h1
  rw [h2] at e
  rw [Addr.add_mid]
  have cs : j % 4 = 0 ∨ j % 4 = 1 ∨ j % 4 = 2 ∨ j % 4 = 3 := by omega
  rcases cs with h | h | h | h
  · rw [h] at e; rw [e, show so + a * 4 + j = so + (a + j / 4) * 4 by omega]; exact k0
  · rw [h] at e; rw [e, show so + a * 4 + j = so + (a + j / 4) * 4 + 1 by omega]; exact k1
  · rw [h] at e; rw [e, show so + a * 4 + j = so + (a + j / 4) * 4 + 2 by omega]; exact k2
  · rw [h] at e; rw [e, show so + a * 4 + j = so + (a + j / 4) * 4 + 3 by omega]; exact k3
theorem set_later {W0 W : World} {sb so a : Nat} {s s' : List Tl} (hb : Below W0.heap.size W0 W) (hlt : sb < W0.heap.size)
    (hc : ∀ i, i < s.length → W0.cell? ⟨sb, so + i * 4, none⟩ = some (.int .i64 (s.getD i ⟨0, 0, 0, 0⟩).n) ∧ W0.cell? ⟨sb, so + i * 4 + 1, none⟩ = some (.int .i64 (s.getD i ⟨0, 0, 0, 0⟩).e) ∧
      W0.cell? ⟨sb, so + i * 4 + 2, none⟩ = some (.int .i64 (s.getD i ⟨0, 0, 0, 0⟩).s) ∧ W0.cell? ⟨sb, so + i * 4 + 3, none⟩ = some (.int .i64 (s.getD i ⟨0, 0, 0, 0⟩).w))
    (hs : ∀ i, i < s'.length → a + i < s.length ∧ s'.getD i ⟨0, 0, 0, 0⟩ = s.getD (a + i) ⟨0, 0, 0, 0⟩) : ∀ j u, (tcells s')[j]? = some u → W.cell? ((⟨sb, so + a * 4, none⟩ : Addr).add j) = some u := fun j u hu => by
  have h := set_news hc hs j u hu
  rw [Addr.add_mid] at h ⊢
  exact (hb.cell (p := ⟨sb, _, none⟩) hlt).trans h
theorem tcells_one (s : List Tl) : ∀ u ∈ tcells s, u.oneCell' = true := fun u hu => by
  unfold tcells tc at hu
  rw [List.mem_flatMap] at hu
  obtain ⟨t, _, h⟩ := hu
  simp only [List.mem_cons, List.not_mem_nil, or_false] at h
  rcases h with rfl | rfl | rfl | rfl <;> rfl
theorem tcells_append (a b : List Tl) : tcells a ++ tcells b = tcells (a ++ b) := by unfold tcells; rw [List.flatMap_append]
theorem take_part {s : List Tl} {q : Nat} (hq : q ≤ s.length) : ∀ i, i < (s.take q).length → 0 + i < s.length ∧ (s.take q).getD i ⟨0, 0, 0, 0⟩ = s.getD (0 + i) ⟨0, 0, 0, 0⟩ := fun i hi => by
  rw [List.length_take] at hi
  refine ⟨by omega, ?_⟩
  rw [Nat.zero_add, List.getD_eq_getElem?_getD, List.getD_eq_getElem?_getD, List.getElem?_take_of_lt (by omega)]
theorem drop_part {s : List Tl} {q : Nat} : ∀ i, i < (s.drop q).length → q + i < s.length ∧ (s.drop q).getD i ⟨0, 0, 0, 0⟩ = s.getD (q + i) ⟨0, 0, 0, 0⟩ := fun i hi => by
  rw [List.length_drop] at hi
  refine ⟨by omega, ?_⟩
  rw [List.getD_eq_getElem?_getD, List.getD_eq_getElem?_getD, List.getElem?_drop]
theorem sqB_nil {n : Nat} (hn : 1 ≤ n) : sqB [] n = false := by
  cases h : sqB [] n
  · rfl
  · obtain ⟨c, g⟩ := (sqB_iff hn).1 h
    have := g.idx 0 0 (by omega) (by omega)
    simp at this
end Go.Proofs.YtfepgemopcpgmaaDoor

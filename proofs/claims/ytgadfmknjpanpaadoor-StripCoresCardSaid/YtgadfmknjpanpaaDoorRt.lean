/-
  What is cut and glued: the text of a valid set is parsed back; what is parsed is the text of the set.
-/
import Derived.Test.YtgadfmknjpanpaaDoorTw
import Derived.Lib.IndexBytes
import Derived.Lib.ItoaNum
namespace Go.Proofs.YtgadfmknjpanpaaDoor
open Go.RowKit Go.Sort
set_option linter.unusedVariables false
set_option maxRecDepth 100000

theorem ix_none (c : UInt8) : ∀ l : List UInt8, c ∉ l → Lib.indexByte l c = -1
  | [], _ => rfl
  | b :: l, h => by
    simp only [List.mem_cons, not_or] at h
    have hb : (b == c) = false := by rw [beq_eq_false_iff_ne]; exact fun e => h.1 e.symm
    unfold Lib.indexByte
    rw [ix_none c l h.2, hb]
    rfl
theorem ix_at (c : UInt8) (r : List UInt8) : ∀ l : List UInt8, c ∉ l → Lib.indexByte (l ++ c :: r) c = l.length
  | [], _ => by simp [Lib.indexByte]
  | b :: l, h => by
    simp only [List.mem_cons, not_or] at h
    have hb : (b == c) = false := by rw [beq_eq_false_iff_ne]; exact fun e => h.1 e.symm
    rw [List.cons_append]
    unfold Lib.indexByte
    rw [ix_at c r l h.2, hb]
    have : ((l.length : Int) == -1) = false := by rw [beq_eq_false_iff_ne]; omega
    simp [this]
theorem joined (c : UInt8) (x y : List UInt8) (r : List (List UInt8)) : Lib.join (x :: y :: r) [c] = x ++ c :: Lib.join (y :: r) [c] := by
  rw [Lib.join_cons, Lib.join_cons]
  simp [Lib.joinTail]
theorem splitK_join (c : UInt8) : ∀ (k : Nat) (x : List UInt8) (r : List (List UInt8)), (∀ y ∈ x :: r, c ∉ y) → r.length ≤ k → Lib.splitK [c] 0 k (Lib.join (x :: r) [c]) = x :: r
  | 0, x, [], _, _ => by rw [Lib.join_one]; rfl
  | k + 1, x, [], h, _ => by
    rw [Lib.join_one]
    unfold Lib.splitK
    rw [Lib.index_one, ix_none c x (h x (by simp))]
    rfl
  | 0, x, y :: r, _, hl => by simp at hl
  | k + 1, x, y :: r, h, hl => by
    rw [joined]
    unfold Lib.splitK
    rw [Lib.index_one, ix_at c _ x (h x (by simp))]
    have h1 : ((x.length : Int) == -1) = false := by rw [beq_eq_false_iff_ne]; omega
    rw [h1]
    have ih := splitK_join c k y r (fun z hz => h z (by simp at hz ⊢; right; exact hz)) (by simpa using hl)
    simp [ih]
theorem bytes_map_inj {xs ys : List ByteArray} (h : xs.map (·.data.toList) = ys.map (·.data.toList)) : xs = ys := by
  induction xs generalizing ys with
  | nil => cases ys with
    | nil => rfl
    | cons y r => simp at h
  | cons x xs ih => cases ys with
    | nil => simp at h
    | cons y r =>
      simp only [List.map_cons, List.cons.injEq] at h
      rw [ih h.2, bytes_inj (a := x) (b := y) (by rw [ByteArray.toList_eq, ByteArray.toList_eq]; exact h.1)]
theorem glue_data (xs : List ByteArray) (c : UInt8) : (glue xs c).data.toList = Lib.join (xs.map (·.data.toList)) [c] := by simp [glue]
theorem size_list (s : ByteArray) : s.size = s.data.toList.length := (Array.length_toList (xs := s.data)).symm
theorem cut_glue (c : UInt8) (n : Nat) (xs : List ByteArray) (hx : xs ≠ []) (hc : ∀ x ∈ xs, c ∉ x.data.toList) (hn : xs.length ≤ n) : cutN c n (glue xs c) = xs := by
  obtain ⟨x, r, rfl⟩ := List.exists_cons_of_ne_nil hx
  refine bytes_map_inj ?_
  unfold cutN
  rw [Lib.splitB_data, glue_data, List.map_cons]
  have hsz : r.length ≤ (glue (x :: r) c).size := by
    rw [size_list, glue_data, List.map_cons, Lib.join_length]
    simp only [List.length_map, List.length_cons, List.length_nil]
    omega
  refine splitK_join c _ _ _ (fun y hy => ?_) ?_
  · rw [List.mem_cons] at hy
    rcases hy with rfl | hy
    · exact hc x (by simp)
    · obtain ⟨z, hz, rfl⟩ := List.mem_map.1 hy
      exact hc z (by simp [hz])
  · simp only [List.length_map, List.length_cons] at hn ⊢; omega

/-! numerals -/
theorem puint_append : ∀ (l : List UInt8) (acc : Nat) (c : UInt8) (v : Nat), Lib.parseUint10 acc l = .ok v → Lib.parseUint10 acc (l ++ [c]) = Lib.parseUint10 v [c]
  | [], acc, c, v, h => by
    unfold Lib.parseUint10 at h
    injection h with h
    rw [h]; rfl
  | b :: l, acc, c, v, h => by
    rw [List.cons_append]
    unfold Lib.parseUint10 at h
    conv => lhs; unfold Lib.parseUint10
    split at h
    · rename_i h1
      rw [if_pos h1]
      split at h
      · cases h
      · rename_i h2
        rw [if_neg h2]
        split at h
        · cases h
        · rename_i h3
          rw [if_neg h3]
          exact puint_append l _ c v h
    · cases h
theorem puint_digits (u : Nat) : u < 1000000000000000000 → Lib.parseUint10 0 (Lib.decDigits u) = .ok u := by
  induction u using Nat.strongRecOn with
  | _ u ih =>
    intro hu
    have one : ∀ v d : Nat, d < 10 → v < 100000000000000000 → Lib.parseUint10 v [UInt8.ofNat (48 + d)] = .ok (v * 10 + d) := by
      intro v d hd hv
      have e : (UInt8.ofNat (48 + d)).toNat = 48 + d := by simp; omega
      simp only [Lib.parseUint10, e]
      rw [if_pos (by omega), if_neg (by omega), if_neg (by omega)]
      congr 1
      omega
    by_cases h : u < 10
    · rw [Lib.decDigits_one h, one 0 u h (by omega)]
      congr 1
      omega
    · rw [Lib.decDigits, dif_neg h, puint_append _ _ _ _ (ih (u / 10) (by omega) (by omega))]
      rw [one _ _ (by omega) (by omega)]
      congr 1
      omega
theorem digits_are (u : Nat) : ∀ b ∈ Lib.decDigits u, 48 ≤ b.toNat ∧ b.toNat ≤ 57 := by
  induction u using Nat.strongRecOn with
  | _ u ih =>
    have one : ∀ d : Nat, d < 10 → 48 ≤ (UInt8.ofNat (48 + d)).toNat ∧ (UInt8.ofNat (48 + d)).toNat ≤ 57 := by
      intro d hd
      have e : (UInt8.ofNat (48 + d)).toNat = 48 + d := by simp; omega
      omega
    by_cases h : u < 10
    · rw [Lib.decDigits_one h]
      intro b hb
      simp only [List.mem_singleton] at hb
      rw [hb]; exact one u h
    · rw [Lib.decDigits, dif_neg h]
      intro b hb
      rw [List.mem_append, List.mem_singleton] at hb
      rcases hb with hb | rfl
      · exact ih (u / 10) (by omega) b hb
      · exact one _ (by omega)
theorem digits_ne (u : Nat) : Lib.decDigits u ≠ [] := by
  rw [Lib.decDigits]
  split <;> simp
theorem dec_nat {n : Int} (h : 0 ≤ n) : (dec n).data.toList = Lib.decDigits n.toNat := by
  simp only [dec, Lib.itoa]
  rw [if_neg (by omega)]
theorem pCol_dec {n : Int} (h0 : 0 ≤ n) (h1 : n < 1000000) : pCol (dec n) = some n := by
  have ha : Lib.atoiAll (dec n).data.toList = .ok n := by
    rw [dec_nat h0]
    have hm := puint_digits n.toNat (by omega)
    have hd := digits_are n.toNat
    obtain ⟨c, r, hcr⟩ := List.exists_cons_of_ne_nil (digits_ne n.toNat)
    rw [hcr] at hm hd ⊢
    have hc := hd c (by simp)
    have hm' : Lib.parseMag (c :: r) = .ok n.toNat := by
      unfold Lib.parseMag
      rw [if_neg (by simp)]
      exact hm
    unfold Lib.atoiAll
    simp only
    rw [if_neg (by omega), hm']
    simp only
    rw [if_neg (by omega), if_neg (by omega), if_neg (by omega)]
    congr 1
    omega
  unfold pCol
  rw [ha]
  simp
theorem pCol_some {s : ByteArray} {v : Int} (h : pCol s = some v) : dec v = s := by
  unfold pCol at h
  split at h
  · split at h
    · rename_i hd
      injection h with h
      rw [← h]; exact hd
    · cases h
  · cases h
theorem okt_range {t : Tl} (h : okt t = true) : (0 ≤ t.n ∧ t.n < 1000) ∧ (0 ≤ t.e ∧ t.e < 1000) ∧ (0 ≤ t.s ∧ t.s < 1000) ∧ (0 ≤ t.w ∧ t.w < 1000) := by
  unfold okt okc at h
  simp only [Bool.and_eq_true, decide_eq_true_eq] at h
  exact ⟨h.1.1.1, h.1.1.2, h.1.2, h.2⟩
theorem dec_digits {n : Int} (h : 0 ≤ n) : ∀ b ∈ (dec n).data.toList, 48 ≤ b.toNat ∧ b.toNat ≤ 57 := by
  rw [dec_nat h]; exact digits_are _
theorem not_in {n : Int} (h : 0 ≤ n) (c : UInt8) (hc : c.toNat < 48) : c ∉ (dec n).data.toList := fun hm => by
  have := dec_digits h c hm
  omega
theorem pTile_text {t : Tl} (h : okt t = true) : pTile (tText t) = some t := by
  obtain ⟨⟨a0, a1⟩, ⟨b0, b1⟩, ⟨c0, c1⟩, ⟨d0, d1⟩⟩ := okt_range h
  have hc : cutN 46 5 (tText t) = tList t := cut_glue 46 5 (tList t) (by simp [tList]) (by
    intro x hx
    simp only [tList, List.mem_cons, List.not_mem_nil, or_false] at hx
    rcases hx with rfl | rfl | rfl | rfl
    · exact not_in a0 46 (by decide)
    · exact not_in b0 46 (by decide)
    · exact not_in c0 46 (by decide)
    · exact not_in d0 46 (by decide)) (by simp [tList])
  have p0 := pCol_dec a0 (by omega)
  have p1 := pCol_dec b0 (by omega)
  have p2 := pCol_dec c0 (by omega)
  have p3 := pCol_dec d0 (by omega)
  unfold pTile
  rw [hc]
  simp [tList, p0, p1, p2, p3, pv]
theorem text_mem {t : Tl} (h : okt t = true) : (32 : UInt8) ∉ (tText t).data.toList := by
  obtain ⟨⟨a0, a1⟩, ⟨b0, b1⟩, ⟨c0, c1⟩, ⟨d0, d1⟩⟩ := okt_range h
  unfold tText tList
  rw [glue_data]
  simp only [List.map_cons, List.map_nil, joined, Lib.join_one, List.mem_append, List.mem_cons, not_or]
  exact ⟨not_in a0 32 (by decide), by decide, not_in b0 32 (by decide), by decide, not_in c0 32 (by decide), by decide, not_in d0 32 (by decide)⟩
theorem text_ne {t : Tl} (h : okt t = true) : (tText t).data.toList ≠ [] := by
  obtain ⟨⟨a0, a1⟩, _⟩ := okt_range h
  unfold tText tList
  rw [glue_data]
  simp only [List.map_cons, joined]
  simp
theorem parse_text {s : List Tl} (h : vld s = true) : pParse (sText s) = some s := by
  obtain ⟨hl, hok, hnd⟩ := vld_iff.1 h
  cases s with
  | nil => rfl
  | cons t r =>
    have hm : ∀ x ∈ (t :: r).map tText, (32 : UInt8) ∉ x.data.toList := by
      intro x hx
      obtain ⟨u, hu, rfl⟩ := List.mem_map.1 hx
      exact text_mem (hok u hu)
    have hc : cutN 32 1001 (sText (t :: r)) = (t :: r).map tText := cut_glue 32 1001 _ (by simp) hm (by simp only [List.length_map]; omega)
    have hz : (sText (t :: r)).size ≠ 0 := by
      unfold sText
      rw [size_list, glue_data, List.map_cons, List.map_cons, Lib.join_length]
      have := text_ne (hok t (by simp))
      have h1 : (tText t).data.toList.length ≠ 0 := fun e => this (List.eq_nil_of_length_eq_zero e)
      simp only [Lib.lens, List.map_cons, List.sum_cons]
      omega
    have ha : ((t :: r).map tText).all (fun x => (pTile x).isSome) = true := by
      rw [List.all_eq_true]
      intro x hx
      obtain ⟨u, hu, rfl⟩ := List.mem_map.1 hx
      rw [pTile_text (hok u hu)]; rfl
    have hp : ((t :: r).map tText).map pt = t :: r := by
      rw [List.map_map]
      refine (List.map_congr_left (g := id) fun u hu => ?_).trans (List.map_id _)
      show (pTile (tText u)).getD _ = u
      rw [pTile_text (hok u hu)]; rfl
    unfold pParse
    rw [if_neg hz, hc, hp, if_pos ⟨ha, h⟩]

theorem join_splitK (c : UInt8) : ∀ (k : Nat) (l : List UInt8), Lib.join (Lib.splitK [c] 0 k l) [c] = l
  | 0, l => by unfold Lib.splitK; exact Lib.join_one _ _
  | k + 1, l => by
    unfold Lib.splitK
    rw [Lib.index_one]
    split
    · exact Lib.join_one _ _
    · rename_i h
      have hne : Lib.indexByte l c ≠ -1 := fun e => h (by rw [e]; rfl)
      have hge := Lib.indexByte_ge l c
      obtain ⟨i, hi⟩ : ∃ i : Nat, Lib.indexByte l c = i := ⟨(Lib.indexByte l c).toNat, by omega⟩
      obtain ⟨h1, _⟩ := Lib.indexByte_some hi
      rw [hi]
      have hlt : i < l.length := (List.getElem?_eq_some_iff.1 h1).1
      have ih := join_splitK c k (l.drop (i + 1))
      obtain ⟨y, r, hyr⟩ := List.exists_cons_of_ne_nil (l := Lib.splitK [c] 0 k (l.drop (i + 1))) (by
        cases k with
        | zero => unfold Lib.splitK; simp
        | succ k => unfold Lib.splitK; split <;> simp)
      simp only [Int.toNat_natCast, Nat.add_zero, List.length_cons, List.length_nil, Nat.zero_add]
      rw [hyr] at ih ⊢
      rw [joined, ih]
      have hd : l.drop i = c :: l.drop (i + 1) := by
        rw [List.drop_eq_getElem_cons hlt]
        congr 1
        exact (List.getElem?_eq_some_iff.1 h1).2
      rw [← hd, List.take_append_drop]
theorem glue_cut (c : UInt8) (n : Nat) (s : ByteArray) : glue (cutN c n s) c = s := by
  refine bytes_inj ?_
  rw [ByteArray.toList_eq, ByteArray.toList_eq, glue_data]
  unfold cutN
  rw [Lib.splitB_data]
  exact join_splitK c _ _
theorem four_eq {l : List ByteArray} (h : l.length = 4) : l = [l.getD 0 .empty, l.getD 1 .empty, l.getD 2 .empty, l.getD 3 .empty] := by
  match l, h with
  | [a, b, c, d], _ => rfl
theorem pv_dec {s : ByteArray} (h : (pCol s).isSome = true) : dec (pv s) = s := by
  obtain ⟨v, hv⟩ := Option.isSome_iff_exists.1 h
  unfold pv
  rw [hv]
  exact pCol_some hv
theorem text_pTile {x : ByteArray} {t : Tl} (h : pTile x = some t) : tText t = x := by
  unfold pTile at h
  simp only at h
  split at h
  · rename_i hc
    obtain ⟨h4, ha⟩ := hc
    injection h with h
    have hall : ∀ y ∈ cutN 46 5 x, dec (pv y) = y := fun y hy => pv_dec (List.all_eq_true.1 ha y hy)
    have e := four_eq h4
    have hm : ∀ k, k < 4 → dec (pv ((cutN 46 5 x).getD k .empty)) = (cutN 46 5 x).getD k .empty := fun k hk => hall _ (getD_mem _ _ (by omega) _)
    rw [← h]
    unfold tText tList
    simp only
    rw [hm 0 (by omega), hm 1 (by omega), hm 2 (by omega), hm 3 (by omega), ← e]
    exact glue_cut 46 5 x
  · cases h
theorem text_parse {s : ByteArray} {set : List Tl} (h : pParse s = some set) : sText set = s ∧ vld set = true := by
  unfold pParse at h
  split at h
  · rename_i h0
    injection h with h
    subst h
    refine ⟨bytes_inj ?_, by decide⟩
    rw [ByteArray.toList_eq, ByteArray.toList_eq]
    have : s.data.toList = [] := List.eq_nil_of_length_eq_zero (by rw [← size_list]; exact h0)
    rw [this]
    rfl
  · split at h
    · rename_i hc
      injection h with h
      subst h
      refine ⟨?_, hc.2⟩
      unfold sText
      rw [List.map_map]
      have : (cutN 32 1001 s).map (tText ∘ pt) = cutN 32 1001 s := by
        refine (List.map_congr_left (g := id) fun x hx => ?_).trans (List.map_id _)
        obtain ⟨t, ht⟩ := Option.isSome_iff_exists.1 (List.all_eq_true.1 hc.1 x hx)
        show tText ((pTile x).getD _) = x
        rw [ht]
        exact text_pTile ht
      rw [this]
      exact glue_cut 32 1001 s
    · cases h
theorem dec_one {n : Int} (h0 : 0 ≤ n) (h1 : n < 10) : dec n = ⟨#[UInt8.ofNat (48 + n.toNat)]⟩ := by
  unfold dec Lib.itoa
  rw [if_neg (by omega), Lib.decDigits_one (by omega)]
theorem text_a : sText [⟨0, 1, 0, 1⟩] = ⟨#[48, 46, 49, 46, 48, 46, 49]⟩ := by
  simp only [sText, tText, tList, glue, List.map_cons, List.map_nil, dec_one (n := 0) (by decide) (by decide), dec_one (n := 1) (by decide) (by decide)]
  decide
theorem text_b : sText [⟨0, 1, 1, 0⟩, ⟨1, 0, 0, 1⟩] = ⟨#[48, 46, 49, 46, 49, 46, 48, 32, 49, 46, 48, 46, 48, 46, 49]⟩ := by
  simp only [sText, tText, tList, glue, List.map_cons, List.map_nil, dec_one (n := 0) (by decide) (by decide), dec_one (n := 1) (by decide) (by decide)]
  decide
end Go.Proofs.YtgadfmknjpanpaaDoor

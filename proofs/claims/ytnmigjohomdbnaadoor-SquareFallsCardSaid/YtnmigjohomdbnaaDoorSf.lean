/-
  groutworklaw05.SquareFalls returns true, for every set, side and number.
-/
import Derived.Test.YtnmigjohomdbnaaDoorSh
import Derived.Test.YtnmigjohomdbnaaDoorSo
namespace Go.Proofs.YtnmigjohomdbnaaDoor
open Go.RowKit Go.Maps Go.BigFrame
set_option linter.unusedVariables false
set_option linter.unusedSimpArgs false
set_option maxRecDepth 100000

theorem check_light {s : List Tl} {n k : Nat} (hv : vld s = true) (ht : tooM s.length n = false) (hn : n ≤ 8) (h1 : 1 ≤ k) (hk : k ≤ n) : checkE s (k : Int) (k : Int) 0 0 0 0 = 0 := by
  have ht' : tooM s.length k = false := by
    unfold tooM at ht ⊢
    rw [decide_eq_false_iff_not] at ht ⊢
    intro h5
    refine ht (pow_more ?_ hk h5)
    rcases Nat.eq_zero_or_pos s.length with e | e
    · rw [e, Nat.zero_pow h1] at h5; omega
    · exact e
  unfold checkE faultE
  simp only [hv, Bool.true_eq_false, if_false]
  rw [if_neg (show ¬ ((k : Int) < 1 ∨ 8 < (k : Int) ∨ (k : Int) < 1 ∨ 60 < (k : Int)) by omega)]
  simp [sideOk, ht']
theorem ex_light {s : List Tl} {n k : Nat} (hv : vld s = true) (ht : tooM s.length n = false) (hn : n ≤ 8) (h1 : 1 ≤ k) (hk : k ≤ n) : exE s (k : Int) = (sqB s k, 0) := by
  unfold exE
  rw [check_light hv ht hn h1 hk, if_neg (by simp), Int.toNat_natCast]
theorem lg_light {s : List Tl} {n : Nat} (hv : vld s = true) (ht : tooM s.length n = false) (h1 : 1 ≤ n) (hn : n ≤ 8) : lgE s (n : Int) = if lastS s n = n then ((0 : Int), (6 : Int)) else (((lastS s n : Nat) : Int), (0 : Int)) := by
  have h0 : sideE5 s (n : Int) = 0 := by
    unfold sideE5
    rw [hv]
    simp only [Bool.true_eq_false, if_false]
    rw [if_neg (by omega)]
  have he : ∀ k, k < n → exE s ((k : Int) + 1) = (sqB s (k + 1), 0) := fun k hk => by
    have := ex_light hv ht hn (show 1 ≤ k + 1 by omega) (by omega)
    rw [Int.natCast_succ] at this
    exact this
  unfold lgE
  rw [h0, if_neg (by simp), Int.toNat_natCast]
  by_cases hl : lastS s n = n
  · rw [if_pos hl]
    have e : stopL s n = none := by
      unfold stopL
      rw [List.find?_eq_none]
      intro k hk
      have hkn := List.mem_range.1 hk
      have : sqB s (k + 1) = true := by
        have hs := lastS_sq (s := s) n (by omega)
        rw [hl] at hs
        exact sqB_less (by omega) (by omega) hs
      simp [he k hkn, this]
    rw [e]
  · rw [if_neg hl]
    have hlt : lastS s n < n := by have := lastS_le s n; omega
    have e : stopL s n = some (lastS s n) := by
      unfold stopL
      rw [List.find?_range_eq_some]
      refine ⟨?_, List.mem_range.2 hlt, fun j hj => ?_⟩
      · rw [he _ hlt, lastS_not n _ (Nat.lt_succ_self _) (by omega)]
        simp
      · have hs := lastS_sq (s := s) n (by omega)
        rw [he _ (by omega), sqB_less (by omega) (by omega) hs]
        simp
    rw [e]
    have e2 := he _ hlt
    rw [lastS_not n _ (Nat.lt_succ_self _) (by omega)] at e2
    simp only [e2]
    simp
theorem tooM_less {m n k : Nat} (h : tooM m n = false) (hk : k ≤ m) : tooM k n = false := by
  unfold tooM at h ⊢
  rw [decide_eq_false_iff_not] at h ⊢
  have := Nat.pow_le_pow_left hk n
  omega
theorem vld_less {s : List Tl} (k : Nat) (h : vld s = true) : vld (s.take k ++ s.drop (k + 1)) = true := by
  obtain ⟨h1, h2, h3⟩ := vld_iff.1 h
  have hsub : List.Sublist (s.take k ++ s.drop (k + 1)) s := by
    have e := List.take_append_drop k s
    conv => rhs; rw [← e]
    refine List.Sublist.append (List.Sublist.refl _) ?_
    rw [← List.drop_drop]
    exact List.drop_sublist _ _
  exact vld_iff.2 ⟨Nat.le_trans hsub.length_le h1, fun t ht => h2 t (hsub.subset ht), hsub.nodup h3⟩
theorem own_empty4 (W : World) (base q : Nat) (e : TypeId) (hq : W.heap[q]? = some (.cells #[] e (0, 0))) (hb : base ≤ q) : W.ownsRow base e 4 (.slice (some ⟨q, 0, none⟩) 0 0) 0 [] :=
  ⟨rfl, Or.inr ⟨q, 0, #[], rfl, hb, hq, Nat.le_refl _, Nat.zero_le _, rfl, rfl⟩⟩
theorem set_news {W : World} {sb so a : Nat} {s s' : List Tl}
    (hc : ∀ i, i < s.length → W.cell? ⟨sb, so + i * 4, none⟩ = some (.int .i64 (s.getD i ⟨0, 0, 0, 0⟩).n) ∧ W.cell? ⟨sb, so + i * 4 + 1, none⟩ = some (.int .i64 (s.getD i ⟨0, 0, 0, 0⟩).e) ∧
      W.cell? ⟨sb, so + i * 4 + 2, none⟩ = some (.int .i64 (s.getD i ⟨0, 0, 0, 0⟩).s) ∧ W.cell? ⟨sb, so + i * 4 + 3, none⟩ = some (.int .i64 (s.getD i ⟨0, 0, 0, 0⟩).w))
    (hs : ∀ i, i < s'.length → a + i < s.length ∧ s'.getD i ⟨0, 0, 0, 0⟩ = s.getD (a + i) ⟨0, 0, 0, 0⟩) : ∀ j u, (tcells s')[j]? = some u → W.cell? ((⟨sb, so + a * 4, none⟩ : Addr).add j) = some u := by
  intro j u hu
  have hj : j < s'.length * 4 := by rw [← tcells_len]; exact (List.getElem?_eq_some_iff.1 hu).1
  have hi : j / 4 < s'.length := by omega
  have hr : j % 4 < 4 := Nat.mod_lt _ (by omega)
  have e := tcells_at s' (j / 4) hi (j % 4) hr
  rw [show j / 4 * 4 + j % 4 = j by omega, hu] at e
  obtain ⟨h1, h2⟩ := hs _ hi
  obtain ⟨k0, k1, k2, k3⟩ := hc _ h1
  rw [h2] at e
  rw [Addr.add_mid]
  have cs : j % 4 = 0 ∨ j % 4 = 1 ∨ j % 4 = 2 ∨ j % 4 = 3 := by omega
  rcases cs with h | h | h | h
  · rw [h] at e; rw [e, show so + a * 4 + j = so + (a + j / 4) * 4 by omega]; exact k0
  · rw [h] at e; rw [e, show so + a * 4 + j = so + (a + j / 4) * 4 + 1 by omega]; exact k1
  · rw [h] at e; rw [e, show so + a * 4 + j = so + (a + j / 4) * 4 + 2 by omega]; exact k2
  · rw [h] at e; rw [e, show so + a * 4 + j = so + (a + j / 4) * 4 + 3 by omega]; exact k3
theorem set_later {W0 W : World} {sb so a : Nat} {s s' : List Tl} (hb : Below W0.heap.size W0 W) (hlt : sb < W0.heap.size)
    (hc : ∀ i, i < s.length → W0.cell? ⟨sb, so + i * 4, none⟩ = some (.int .i64 (s.getD i ⟨0, 0, 0, 0⟩).n) ∧ W0.cell? ⟨sb, so + i * 4 + 1, none⟩ = some (.int .i64 (s.getD i ⟨0, 0, 0, 0⟩).e) ∧
      W0.cell? ⟨sb, so + i * 4 + 2, none⟩ = some (.int .i64 (s.getD i ⟨0, 0, 0, 0⟩).s) ∧ W0.cell? ⟨sb, so + i * 4 + 3, none⟩ = some (.int .i64 (s.getD i ⟨0, 0, 0, 0⟩).w))
    (hs : ∀ i, i < s'.length → a + i < s.length ∧ s'.getD i ⟨0, 0, 0, 0⟩ = s.getD (a + i) ⟨0, 0, 0, 0⟩) : ∀ j u, (tcells s')[j]? = some u → W.cell? ((⟨sb, so + a * 4, none⟩ : Addr).add j) = some u := fun j u hu => by
  have h := set_news hc hs j u hu
  rw [Addr.add_mid] at h ⊢
  exact (hb.cell (p := ⟨sb, _, none⟩) hlt).trans h
theorem tcells_one (s : List Tl) : ∀ u ∈ tcells s, u.oneCell' = true := fun u hu => by
  unfold tcells tc at hu
  rw [List.mem_flatMap] at hu
  obtain ⟨t, _, h⟩ := hu
  simp only [List.mem_cons, List.not_mem_nil, or_false] at h
  rcases h with rfl | rfl | rfl | rfl <;> rfl
theorem tcells_append (a b : List Tl) : tcells a ++ tcells b = tcells (a ++ b) := by unfold tcells; rw [List.flatMap_append]
theorem take_part {s : List Tl} {q : Nat} (hq : q ≤ s.length) : ∀ i, i < (s.take q).length → 0 + i < s.length ∧ (s.take q).getD i ⟨0, 0, 0, 0⟩ = s.getD (0 + i) ⟨0, 0, 0, 0⟩ := fun i hi => by
  rw [List.length_take] at hi
  refine ⟨by omega, ?_⟩
  rw [Nat.zero_add, List.getD_eq_getElem?_getD, List.getD_eq_getElem?_getD, List.getElem?_take_of_lt (by omega)]
theorem drop_part {s : List Tl} {q : Nat} : ∀ i, i < (s.drop q).length → q + i < s.length ∧ (s.drop q).getD i ⟨0, 0, 0, 0⟩ = s.getD (q + i) ⟨0, 0, 0, 0⟩ := fun i hi => by
  rw [List.length_drop] at hi
  refine ⟨by omega, ?_⟩
  rw [List.getD_eq_getElem?_getD, List.getD_eq_getElem?_getD, List.getElem?_drop]
theorem sqB_nil {n : Nat} (hn : 1 ≤ n) : sqB [] n = false := by
  cases h : sqB [] n
  · rfl
  · obtain ⟨c, g⟩ := (sqB_iff hn).1 h
    have := g.idx 0 0 (by omega) (by omega)
    simp at this
set_option maxHeartbeats 8000000 in
theorem sqfalls_any (s : List Tl) (S : Option Addr) (m cp x z : Nat) (w : World) (hEnv : Env w) (hm : m = s.length) (hmd : m ≤ cp) (hdl : cp ≤ 9223372036854775807) (hS : SetIn w w.heap.size S s) (hwf : ∀ t ∈ s, twf t) (hml : m ≤ 9223372036854775807) (hx : x ≤ 255) (hz : z ≤ 255) :
    Calls Tryd.prog 4 #[.slice S m cp, .int .u8 x, .int .u8 z] w fun e w' => e = .returned (.bool true) ∧ Below w.heap.size w w' := by
  have HAW : Hid (∀ W, Below w.heap.size w W → Calls Tryd.prog 14 #[] W fun e w' => e = .returned (.bool true) ∧ Below W.heap.size W w') := fun W hb => awake5_any W (hEnv.keep hb)
  obtain ⟨n, hn⟩ : ∃ n, n = 1 + x % 8 := ⟨_, rfl⟩
  have hn1 : 1 ≤ n := by omega
  have hn8 : n ≤ 8 := by omega
  have en : IntKind.i64.wrap ((1 : Int) + (x : Int) % 8) = (n : Int) := by rw [IntWalk.i64_in _ (by omega)]; omega
  clear hn
  have hvA := fun (W : World) (hb : Below w.heap.size w W) => rvalid_any s S m cp W hm hmd hdl (hS.keep hb hb.size)
  by_cases c1 : m ≤ 60
  rotate_left
  · clear hm hS hwf hEnv hvA
    go_enter Tryd.func4, Tryd.ntmps4
    go_upto_region 2 with fail
    go_wp2_with (go_at_call 14; refine (HAW.out _ (Below.refl _ _)).mono ?_; rintro e w2 ⟨rfl, hb2⟩)
    go_ret
    exact ⟨rfl, hb2⟩
  cases hV : vld s
  · rw [hV] at hvA
    have HVA := Lib.hid hvA
    clear hm hS hwf hEnv hvA hV
    go_enter Tryd.func4, Tryd.ntmps4
    go_upto_region 2 with fail
    go_wp2_with (first
      | (go_at_call 12; refine (HVA.out _ (Below.refl _ _)).mono ?_; rintro e w1 ⟨rfl, hb1⟩)
      | (go_at_call 14; refine (HAW.out _ hb1).mono ?_; rintro e w2 ⟨rfl, hb2⟩))
    go_ret
    exact ⟨rfl, hb1.trans (hb2.mono hb1.size)⟩
  have hhA := fun (W : World) (hb : Below w.heap.size w W) => heavy5_any s S m cp n W hm (hS.keep hb hb.size) (by omega) (by omega)
  have hd60 : decide (60 < m) = false := by rw [decide_eq_false_iff_not]; omega
  rw [hd60, Bool.false_or] at hhA
  rw [hV] at hvA
  have HVA := Lib.hid hvA
  cases hL : lightB s n
  · rw [hL] at hhA
    have HHA := Lib.hid hhA
    clear hm hS hwf hEnv hvA hV hhA hL hd60
    go_enter Tryd.func4, Tryd.ntmps4
    go_upto_region 2 with fail
    go_wp2_with (first
      | (go_at_call 12; refine (HVA.out _ (Below.refl _ _)).mono ?_; rintro e w1 ⟨rfl, hb1⟩)
      | (go_at_call 13; refine (HHA.out _ hb1).mono ?_; rintro e w2 ⟨rfl, hb2⟩; have hb02 := hb1.trans (hb2.mono hb1.size))
      | (go_at_call 14; refine (HAW.out _ hb02).mono ?_; rintro e w3 ⟨rfl, hb3⟩))
    go_ret
    exact ⟨rfl, hb02.trans (hb3.mono hb02.size)⟩
  rw [hL] at hhA
  have HHA := Lib.hid hhA
  cases hT : tooM m n
  rotate_left
  · have hgA := fun (W : World) => rgreat_any S m cp n true W hT (by omega) (by omega)
    have HGA := Lib.hid hgA
    clear hm hS hwf hEnv hvA hV hhA hL hd60 hT hgA
    go_enter Tryd.func4, Tryd.ntmps4
    go_upto_region 2 with fail
    go_wp2_with (first
      | (go_at_call 12; refine (HVA.out _ (Below.refl _ _)).mono ?_; rintro e w1 ⟨rfl, hb1⟩)
      | (go_at_call 13; refine (HHA.out _ hb1).mono ?_; rintro e w2 ⟨rfl, hb2⟩; have hb02 := hb1.trans (hb2.mono hb1.size))
      | (go_at_call 10; refine (HGA.out _).mono ?_; rintro e w5 ⟨rfl, rfl⟩)
      | (go_at_call 14; refine (HAW.out _ hb02).mono ?_; rintro e w3 ⟨rfl, hb3⟩))
    go_ret
    exact ⟨rfl, hb02.trans (hb3.mono hb02.size)⟩
  have hgA := fun (W : World) => rgreat_any S m cp n false W hT (by omega) (by omega)
  have HGA := Lib.hid hgA
  rw [hm] at hT
  have HEX : Hid (∀ W k, Below w.heap.size w W → 1 ≤ k → k ≤ n → Calls Tryd.prog 15 #[.slice S m cp, .int .i64 (k : Int)] W fun e w' => e = .returned (.tuple #[.bool (sqB s k), .int .i64 0]) ∧ Below W.heap.size W w') := fun W k hb h1 h2 => eq5 s (k : Int) (sqB s k) 0 S m cp W hm (by omega) (hS.keep hb hb.size) hwf (ex_light hV hT hn8 h1 h2)
  obtain ⟨la, hla⟩ : ∃ la, la = lastS s n := ⟨_, rfl⟩
  have hlan : la ≤ n := by rw [hla]; exact lastS_le s n
  obtain ⟨lx, hlx⟩ : ∃ lx : Int, lx = if la = n then 0 else (la : Int) := ⟨_, rfl⟩
  obtain ⟨ly, hly⟩ : ∃ ly : Int, ly = if la = n then 6 else 0 := ⟨_, rfl⟩
  have HLG : Hid (∀ W, Below w.heap.size w W → Calls Tryd.prog 16 #[.slice S m cp, .int .i64 (n : Int)] W fun e w' => e = .returned (.tuple #[.int .i64 lx, .int .i64 ly]) ∧ Below W.heap.size W w') := fun W hb => lq s (n : Int) lx ly S m cp W hm (by omega) (hS.keep hb hb.size) hwf (by
    rw [lg_light hV hT hn1 hn8, ← hla, hlx, hly]
    by_cases h : la = n
    · rw [if_pos h, if_pos h, if_pos h]
    · rw [if_neg h, if_neg h, if_neg h])
  have HM := Lib.hid hm
  have HS := Lib.hid hS
  have HWF := Lib.hid hwf
  have HV := Lib.hid hV
  have HT := Lib.hid hT
  have HLA := Lib.hid hla
  have HLX := Lib.hid hlx
  have HLY := Lib.hid hly
  clear hm hS hwf hEnv hvA hV hhA hL hd60 hT hgA hla hlx hly
  go_enter Tryd.func4, Tryd.ntmps4
  go_upto_region 2 with fail
  go_wp2_with (first
    | (go_at_call 12; refine (HVA.out _ (Below.refl _ _)).mono ?_; rintro e w1 ⟨rfl, hb1⟩)
    | (go_at_call 13; refine (HHA.out _ hb1).mono ?_; rintro e w2 ⟨rfl, hb2⟩; have hb02 := hb1.trans (hb2.mono hb1.size))
    | (go_at_call 10; refine (HGA.out _).mono ?_; rintro e w5 ⟨rfl, rfl⟩))
  go_loopw [8, 9] (fun l i wr => ∃ k : Nat, k ≤ n ∧ i = .int .i64 ((k : Int) + 1) ∧ l = .int .i64 ((lastS s k : Nat) : Int) ∧ Below w.heap.size w wr) (fun _ i _ => n + 1 - (intOf i).toNat)
  case atStart => exact ⟨0, Nat.zero_le _, rfl, rfl, hb02⟩
  case round =>
    obtain ⟨k, hk, rfl, rfl, hbr⟩ := hrel
    clear hb02 hb1 hb2
    by_cases hlt : k < n
    · have hex := HEX.out wr (k + 1) hbr (by omega) (by omega)
      have eki : (((k + 1 : Nat)) : Int) = (k : Int) + 1 := by omega
      rw [eki] at hex
      cases hq : sqB s (k + 1)
      · rw [hq] at hex
        have hl1 : Hid (lastS s (k + 1) = lastS s k) := by show _ = _; rw [lastS, if_neg (by rw [hq]; simp)]
        clear hq
        go_wp2_with (go_at_call 15; refine hex.mono ?_; rintro e w3 ⟨rfl, hb3⟩)
        go_roundw
        case rel => exact ⟨k + 1, by omega, by go_num, by rw [hl1.out], hbr.trans (hb3.mono hbr.size)⟩
        case measure => simp [intOf]; omega
      · rw [hq] at hex
        have hl1 : Hid (lastS s (k + 1) = k + 1) := lastS_top (by omega) hq
        have hl0 : lastS s k = k := lastS_before hq
        rw [hl0]
        clear hq hl0
        go_wp2_with (go_at_call 15; refine hex.mono ?_; rintro e w3 ⟨rfl, hb3⟩)
        go_roundw
        case rel => exact ⟨k + 1, by omega, by go_num, by rw [hl1.out]; go_num, hbr.trans (hb3.mono hbr.size)⟩
        case measure => simp [intOf]; omega
    · have hkn : k = n := by omega
      subst hkn
      rw [← HLA.out]
      have hlg := HLG.out wr hbr
      have HLG2 := Lib.hid hlg
      clear hlg
      by_cases hla0 : la = k
      · have hx : lx = 0 := by rw [HLX.out, if_pos hla0]
        have hy : ly = 6 := by rw [HLY.out, if_pos hla0]
        subst hx
        subst hy
        by_cases hm0 : m = 0
        · exfalso
          have hs0 : s = [] := List.eq_nil_of_length_eq_zero (by rw [← HM.out]; exact hm0)
          have := lastS_sq (s := s) k (by rw [← HLA.out, hla0]; exact hn1)
          rw [hs0, sqB_nil (by rw [← hs0, ← HLA.out, hla0]; exact hn1)] at this
          cases this
        go_upto_region 19 with (go_at_call 16; refine HLG2.out.mono ?_; rintro e w3 ⟨rfl, hb3⟩)
        obtain ⟨q, hq⟩ : ∃ q, q = z % m := ⟨_, rfl⟩
        have hqm : q < m := by rw [hq]; exact Nat.mod_lt _ (by omega)
        have ezm : (z : Int) % (m : Int) = (q : Int) := by rw [hq]; exact (Int.natCast_emod z m).symm
        rw [ezm]
        clear hq ezm
        have hne : s ≠ [] := fun e => by rw [e] at HM; have := HM.out; simp at this; omega
        obtain ⟨sb, so, rfl, hsb, hcs⟩ := HS.out hne
        have hb03 : Below w.heap.size w w3 := hbr.trans (hb3.mono hbr.size)
        have hc3 : Hid (∀ i, i < s.length → w3.cell? ⟨sb, so + i * 4, none⟩ = some (.int .i64 (s.getD i ⟨0, 0, 0, 0⟩).n) ∧ w3.cell? ⟨sb, so + i * 4 + 1, none⟩ = some (.int .i64 (s.getD i ⟨0, 0, 0, 0⟩).e) ∧
          w3.cell? ⟨sb, so + i * 4 + 2, none⟩ = some (.int .i64 (s.getD i ⟨0, 0, 0, 0⟩).s) ∧ w3.cell? ⟨sb, so + i * 4 + 3, none⟩ = some (.int .i64 (s.getD i ⟨0, 0, 0, 0⟩).w)) := fun i hi => by
          obtain ⟨k0, k1, k2, k3⟩ := hcs i hi
          exact ⟨(hb03.cell (p := ⟨sb, _, none⟩) hsb).trans k0, (hb03.cell (p := ⟨sb, _, none⟩) hsb).trans k1, (hb03.cell (p := ⟨sb, _, none⟩) hsb).trans k2, (hb03.cell (p := ⟨sb, _, none⟩) hsb).trans k3⟩
        have hsb3 : sb < w3.heap.size := Nat.lt_of_lt_of_le hsb hb03.size
        obtain ⟨q1, hq1⟩ : ∃ q1, q1 = q + 1 := ⟨_, rfl⟩
        have hwq : IntKind.i64.wrap ((q : Int) + 1) = (q1 : Int) := by rw [IntWalk.i64_in _ (by omega)]; omega
        have hq0 : (0 : Int) ≤ (q : Int) := by omega
        have hqc : (q : Int) ≤ (cp : Int) := by omega
        have hq10 : (0 : Int) ≤ (q1 : Int) := by omega
        have hq1m : (q1 : Int) ≤ (m : Int) := by omega
        have hcp0 : ¬ cp = 0 := by omega
        have hln : q + (m - q1) ≤ 60 := by omega
        have HTQ : Hid (q ≤ s.length) := by show _ ≤ _; rw [← HM.out]; omega
        have HL1 : Hid ((tcells (s.take q)).length = q * 4) := by show _ = _; rw [tcells_len, List.length_take, Nat.min_eq_left HTQ.out]
        have HL2 : Hid ((tcells (s.drop q1)).length = (m - q1) * 4) := by show _ = _; rw [tcells_len, List.length_drop, HM.out]
        have HLS : Hid (q + (m - q1) = (s.take q ++ s.drop q1).length) := by show _ = _; rw [List.length_append, List.length_take, List.length_drop, Nat.min_eq_left HTQ.out, HM.out]
        have HQ1 := Lib.hid hq1
        have hm61 : q + (m - q1) ≤ 1000 := by omega
        have hS3 : Below w3.heap.size w3 w3 := Below.refl _ _
        have hmless : ∀ W, Below w3.heap.size w3 W → ∀ A6 c6, SetIn W W.heap.size A6 (s.take q ++ s.drop q1) → Calls Tryd.prog 15 #[.slice A6 (q + (m - q1)) c6, .int .i64 (k : Int)] W fun e w' => e = .returned (.tuple #[.bool (sqB (s.take q ++ s.drop q1) k), .int .i64 0]) ∧ Below W.heap.size W w' := fun W hb A6 c6 hI =>
          eq5 (s.take q ++ s.drop q1) (k : Int) _ 0 A6 (q + (m - q1)) c6 W HLS.out hm61 hI (fun t ht => HWF.out t (by
            rcases List.mem_append.1 ht with h | h
            · exact List.mem_of_mem_take h
            · exact List.mem_of_mem_drop h)) (by
            have hT2 : tooM (s.take q ++ s.drop q1).length k = false := tooM_less HT.out (by rw [← HLS.out, ← HM.out]; omega)
            have hv2 : vld (s.take q ++ s.drop q1) = true := by rw [HQ1.out]; exact vld_less q HV.out
            exact ex_light hv2 hT2 hn8 hn1 (Nat.le_refl _))
        have HML := Lib.hid hmless
        have hpart : sqB (s.take q ++ s.drop q1) k = true → sqB s k = true := fun h => by rw [HQ1.out] at h; exact sqB_part hn1 (by rw [← HM.out]; exact hqm) h
        have HPA := Lib.hid hpart
        obtain ⟨i1, gi, gz0, gz1, gz2⟩ := info_parts tile_info
        clear hpart hmless hq1
        go_cut [15] from 18 to 135 (fun u wx => ∃ A6 c6, u = .slice A6 (q + (m - q1)) c6 ∧ Hid (SetIn wx wx.heap.size A6 (s.take q ++ s.drop q1)) ∧ Below w3.heap.size w3 wx)
        case first =>
          by_cases hcq : q1 = cp
          · have hmq : Hid (m - q1 = 0) := by show _ = _; omega
            subst hcq
            have HDP : Hid (∀ i, i < (s.drop q1).length → 0 + i < s.length ∧ (s.drop q1).getD i ⟨0, 0, 0, 0⟩ = s.getD (0 + i) ⟨0, 0, 0, 0⟩) := fun i hi => by
              rw [List.length_drop, ← HM.out, hmq.out] at hi
              omega
            go_region_held3 (fun w' => Below w3.heap.size w3 w') (first | (with_reducible assumption) | (with_reducible exact hS3.drew) | (with_reducible exact (be_alloc hS3 _).drew) | ((with_reducible refine Below.drew ?_); (with_reducible assumption)) | ((with_reducible refine be_alloc ?_ _); (with_reducible assumption)))
              (first
            | ((with_reducible refine step_append_own2 rfl (.tmp 105) (.tmp 108) 22 rfl w3.heap.size 65 i1 (.agg #[.int .i64 0, .int .i64 0, .int .i64 0, .int .i64 0]) 4 32 Tryd.underlying22 gi gz0 gz1 gz2 rfl (by decide) (.slice (some ⟨w3.heap.size, 0, none⟩) 0 0) 0 [] ?_ ?_ ⟨sb, so + 0 * 4, none⟩ q q1 (tcells (s.take q)) ?_ HL1.out ?_ (tcells_one _) ?_ ?_ ?_ ?_); (focus (simp [Act.eval, Act.put]; done));
                (focus (refine own_empty4 _ _ _ _ ?_ (Nat.le_refl _); first | exact heap_alloc_new _ _ | (simp [World.drew, World.alloc]; done)));
                (focus (simp [Act.eval, Act.put]; done)); (focus (refine set_later ?_ hsb3 hc3.out (take_part HTQ.out); first | (with_reducible exact (be_alloc hS3 _).drew) | (with_reducible exact be_alloc hS3.drew _) | assumption)); (focus (simp only [maxLen]; omega)); (focus omega); (focus (refine Below.size (B := w3.heap.size) ?_; first | (with_reducible exact (be_alloc hS3 _).drew) | (with_reducible exact be_alloc hS3.drew _) | assumption));
                intro v5 w5 own5 hg5 hat5; simp only [Nat.zero_add, List.nil_append] at own5; have hb5 : Below w3.heap.size w3 w5 := (by refine Below.grown (row := some (w3.heap.size)) ?_ hg5 ?_ ?_; (focus (first | (with_reducible exact (be_alloc hS3 _).drew) | (with_reducible exact be_alloc hS3.drew _) | assumption)); (focus (refine Below.size (B := w3.heap.size) ?_; first | (with_reducible exact (be_alloc hS3 _).drew) | (with_reducible exact be_alloc hS3.drew _) | assumption)); (focus (intro kk hk; simp at hk; omega))); have LT5 := Lib.hid own5.lt; have OWN5 := Lib.hid own5; clear own5 hg5 hat5)
            | ((with_reducible refine step_append_own2 rfl (.tmp 109) (.tmp 113) 22 rfl w3.heap.size 65 i1 (.agg #[.int .i64 0, .int .i64 0, .int .i64 0, .int .i64 0]) 4 32 Tryd.underlying22 gi gz0 gz1 gz2 rfl (by decide) v5 q (tcells (s.take q)) ?_ ?_ ⟨sb, so + 0 * 4, none⟩ (m - q1) (q1 - q1) (tcells (s.drop q1)) ?_ HL2.out ?_ (tcells_one _) ?_ ?_ ?_ ?_); (focus (simp [Act.eval, Act.put]; done));
                (focus (exact OWN5.out)); (focus (first | (simp [Act.eval, Act.put]; done) | (simp [Act.eval, Act.put]; exact hmq.out.symm))); (focus (refine set_later ?_ hsb3 hc3.out HDP.out; exact hb5)); (focus (simp only [maxLen]; omega)); (focus omega); (focus (refine Below.size (B := w3.heap.size) ?_; exact hb5));
                intro v6 w6 own6 hg6 hat6; rw [tcells_append] at own6; have hb6 : Below w3.heap.size w3 w6 := (by refine Below.grown (row := v5.ownBlock) ?_ hg6 ?_ ?_; (focus (exact hb5)); (focus (refine Below.size (B := w3.heap.size) ?_; exact hb5)); (focus (intro kk hk; exact (LT5.out kk hk).1))); obtain ⟨A6, c6, rfl, -, -, hN6⟩ := own_set own6; have HN6 := Lib.hid hN6; clear own6 hg6 hat6 OWN5 LT5 hN6)
            | fail)
            go_wp2_with fail
            go_meet
            exact ⟨A6, c6, by first | rfl | rw [hmq.out, Nat.add_zero], HN6.out.old, hb6⟩
          · have hcq' : ¬ cp = q1 := fun e => hcq e.symm
            have HDP : Hid (∀ i, i < (s.drop q1).length → q1 + i < s.length ∧ (s.drop q1).getD i ⟨0, 0, 0, 0⟩ = s.getD (q1 + i) ⟨0, 0, 0, 0⟩) := drop_part
            go_region_held3 (fun w' => Below w3.heap.size w3 w') (first | (with_reducible assumption) | (with_reducible exact hS3.drew) | (with_reducible exact (be_alloc hS3 _).drew) | ((with_reducible refine Below.drew ?_); (with_reducible assumption)) | ((with_reducible refine be_alloc ?_ _); (with_reducible assumption)))
              (first
            | ((with_reducible refine step_append_own2 rfl (.tmp 105) (.tmp 108) 22 rfl w3.heap.size 65 i1 (.agg #[.int .i64 0, .int .i64 0, .int .i64 0, .int .i64 0]) 4 32 Tryd.underlying22 gi gz0 gz1 gz2 rfl (by decide) (.slice (some ⟨w3.heap.size, 0, none⟩) 0 0) 0 [] ?_ ?_ ⟨sb, so + 0 * 4, none⟩ q cp (tcells (s.take q)) ?_ HL1.out ?_ (tcells_one _) ?_ ?_ ?_ ?_); (focus (simp [Act.eval, Act.put]; done));
                (focus (refine own_empty4 _ _ _ _ ?_ (Nat.le_refl _); first | exact heap_alloc_new _ _ | (simp [World.drew, World.alloc]; done)));
                (focus (simp [Act.eval, Act.put]; done)); (focus (refine set_later ?_ hsb3 hc3.out (take_part HTQ.out); first | (with_reducible exact (be_alloc hS3 _).drew) | (with_reducible exact be_alloc hS3.drew _) | assumption)); (focus (simp only [maxLen]; omega)); (focus omega); (focus (refine Below.size (B := w3.heap.size) ?_; first | (with_reducible exact (be_alloc hS3 _).drew) | (with_reducible exact be_alloc hS3.drew _) | assumption));
                intro v5 w5 own5 hg5 hat5; simp only [Nat.zero_add, List.nil_append] at own5; have hb5 : Below w3.heap.size w3 w5 := (by refine Below.grown (row := some (w3.heap.size)) ?_ hg5 ?_ ?_; (focus (first | (with_reducible exact (be_alloc hS3 _).drew) | (with_reducible exact be_alloc hS3.drew _) | assumption)); (focus (refine Below.size (B := w3.heap.size) ?_; first | (with_reducible exact (be_alloc hS3 _).drew) | (with_reducible exact be_alloc hS3.drew _) | assumption)); (focus (intro kk hk; simp at hk; omega))); have LT5 := Lib.hid own5.lt; have OWN5 := Lib.hid own5; clear own5 hg5 hat5)
            | ((with_reducible refine step_append_own2 rfl (.tmp 109) (.tmp 113) 22 rfl w3.heap.size 65 i1 (.agg #[.int .i64 0, .int .i64 0, .int .i64 0, .int .i64 0]) 4 32 Tryd.underlying22 gi gz0 gz1 gz2 rfl (by decide) v5 q (tcells (s.take q)) ?_ ?_ ⟨sb, so + q1 * 4, none⟩ (m - q1) (cp - q1) (tcells (s.drop q1)) ?_ HL2.out ?_ (tcells_one _) ?_ ?_ ?_ ?_); (focus (simp [Act.eval, Act.put]; done));
                (focus (exact OWN5.out)); (focus (first | (simp [Act.eval, Act.put]; done) | (simp [Act.eval, Act.put]; exact hmq.out.symm))); (focus (refine set_later ?_ hsb3 hc3.out HDP.out; exact hb5)); (focus (simp only [maxLen]; omega)); (focus omega); (focus (refine Below.size (B := w3.heap.size) ?_; exact hb5));
                intro v6 w6 own6 hg6 hat6; rw [tcells_append] at own6; have hb6 : Below w3.heap.size w3 w6 := (by refine Below.grown (row := v5.ownBlock) ?_ hg6 ?_ ?_; (focus (exact hb5)); (focus (refine Below.size (B := w3.heap.size) ?_; exact hb5)); (focus (intro kk hk; exact (LT5.out kk hk).1))); obtain ⟨A6, c6, rfl, -, -, hN6⟩ := own_set own6; have HN6 := Lib.hid hN6; clear own6 hg6 hat6 OWN5 LT5 hN6)
            | fail)
            go_wp2_with fail
            go_meet
            exact ⟨A6, c6, by first | rfl | rw [hmq.out, Nat.add_zero], HN6.out.old, hb6⟩
        case rest =>
          obtain ⟨A6, c6, rfl, hI6, hb6⟩ := hcut
          have hb06 : Below w.heap.size w wc := hb03.trans (hb6.mono hb03.size)
          have hml := HML.out wc hb6 A6 c6 hI6.out
          cases hp : sqB (s.take q ++ s.drop q1) k
          · rw [hp] at hml
            have HML2 := Lib.hid hml
            clear hml hp
            go_wp2_with (first
              | (go_at_call 15; refine HML2.out.mono ?_; rintro e w7 ⟨rfl, hb7⟩; have hb07 := hb06.trans (hb7.mono hb06.size))
              | (go_at_call 14; refine (HAW.out _ hb07).mono ?_; rintro e w8 ⟨rfl, hb8⟩))
            go_ret
            exact ⟨rfl, hb07.trans (hb8.mono hb07.size)⟩
          · rw [hp] at hml
            have hsk := HPA.out hp
            have HML2 := Lib.hid hml
            clear hml hp
            clear hsk
            go_wp2_with (first
              | (go_at_call 15; refine HML2.out.mono ?_; rintro e w7 ⟨rfl, hb7⟩; have hb07 := hb06.trans (hb7.mono hb06.size))
              | (go_at_call 14; refine (HAW.out _ hb07).mono ?_; rintro e w8 ⟨rfl, hb8⟩))
            go_ret
            exact ⟨rfl, hb07.trans (hb8.mono hb07.size)⟩
      · have hx : lx = (la : Int) := by rw [HLX.out, if_neg hla0]
        have hy : ly = 0 := by rw [HLY.out, if_neg hla0]
        subst hx
        subst hy
        have hla1 : (la : Int) < (k : Int) := by omega
        have hla2 : ¬ ((la : Int) = (k : Int)) := by omega
        by_cases hm0 : m = 0
        · have hs0 : s = [] := List.eq_nil_of_length_eq_zero (by rw [← HM.out]; exact hm0)
          have hz0 : la = 0 := by
            rw [HLA.out, hs0]
            exact lastS_char k (Nat.zero_le _) (fun j h1 h2 => by omega) (fun j h1 h2 => sqB_nil (by omega))
          subst hz0
          subst hm0
          go_wp2_with (first
            | (go_at_call 16; refine HLG2.out.mono ?_; rintro e w3 ⟨rfl, hb3⟩; have hb03 := hbr.trans (hb3.mono hbr.size))
            | (go_at_call 14; refine (HAW.out _ hb03).mono ?_; rintro e w8 ⟨rfl, hb8⟩))
          go_ret
          exact ⟨rfl, hb03.trans (hb8.mono hb03.size)⟩
        go_upto_region 19 with (go_at_call 16; refine HLG2.out.mono ?_; rintro e w3 ⟨rfl, hb3⟩)
        obtain ⟨q, hq⟩ : ∃ q, q = z % m := ⟨_, rfl⟩
        have hqm : q < m := by rw [hq]; exact Nat.mod_lt _ (by omega)
        have ezm : (z : Int) % (m : Int) = (q : Int) := by rw [hq]; exact (Int.natCast_emod z m).symm
        rw [ezm]
        clear hq ezm
        have hne : s ≠ [] := fun e => by rw [e] at HM; have := HM.out; simp at this; omega
        obtain ⟨sb, so, rfl, hsb, hcs⟩ := HS.out hne
        have hb03 : Below w.heap.size w w3 := hbr.trans (hb3.mono hbr.size)
        have hc3 : Hid (∀ i, i < s.length → w3.cell? ⟨sb, so + i * 4, none⟩ = some (.int .i64 (s.getD i ⟨0, 0, 0, 0⟩).n) ∧ w3.cell? ⟨sb, so + i * 4 + 1, none⟩ = some (.int .i64 (s.getD i ⟨0, 0, 0, 0⟩).e) ∧
          w3.cell? ⟨sb, so + i * 4 + 2, none⟩ = some (.int .i64 (s.getD i ⟨0, 0, 0, 0⟩).s) ∧ w3.cell? ⟨sb, so + i * 4 + 3, none⟩ = some (.int .i64 (s.getD i ⟨0, 0, 0, 0⟩).w)) := fun i hi => by
          obtain ⟨k0, k1, k2, k3⟩ := hcs i hi
          exact ⟨(hb03.cell (p := ⟨sb, _, none⟩) hsb).trans k0, (hb03.cell (p := ⟨sb, _, none⟩) hsb).trans k1, (hb03.cell (p := ⟨sb, _, none⟩) hsb).trans k2, (hb03.cell (p := ⟨sb, _, none⟩) hsb).trans k3⟩
        have hsb3 : sb < w3.heap.size := Nat.lt_of_lt_of_le hsb hb03.size
        obtain ⟨q1, hq1⟩ : ∃ q1, q1 = q + 1 := ⟨_, rfl⟩
        have hwq : IntKind.i64.wrap ((q : Int) + 1) = (q1 : Int) := by rw [IntWalk.i64_in _ (by omega)]; omega
        have hq0 : (0 : Int) ≤ (q : Int) := by omega
        have hqc : (q : Int) ≤ (cp : Int) := by omega
        have hq10 : (0 : Int) ≤ (q1 : Int) := by omega
        have hq1m : (q1 : Int) ≤ (m : Int) := by omega
        have hcp0 : ¬ cp = 0 := by omega
        have hln : q + (m - q1) ≤ 60 := by omega
        have HTQ : Hid (q ≤ s.length) := by show _ ≤ _; rw [← HM.out]; omega
        have HL1 : Hid ((tcells (s.take q)).length = q * 4) := by show _ = _; rw [tcells_len, List.length_take, Nat.min_eq_left HTQ.out]
        have HL2 : Hid ((tcells (s.drop q1)).length = (m - q1) * 4) := by show _ = _; rw [tcells_len, List.length_drop, HM.out]
        have HLS : Hid (q + (m - q1) = (s.take q ++ s.drop q1).length) := by show _ = _; rw [List.length_append, List.length_take, List.length_drop, Nat.min_eq_left HTQ.out, HM.out]
        have HQ1 := Lib.hid hq1
        have hm61 : q + (m - q1) ≤ 1000 := by omega
        have hS3 : Below w3.heap.size w3 w3 := Below.refl _ _
        have hmless : ∀ W, Below w3.heap.size w3 W → ∀ A6 c6, SetIn W W.heap.size A6 (s.take q ++ s.drop q1) → Calls Tryd.prog 15 #[.slice A6 (q + (m - q1)) c6, .int .i64 (k : Int)] W fun e w' => e = .returned (.tuple #[.bool (sqB (s.take q ++ s.drop q1) k), .int .i64 0]) ∧ Below W.heap.size W w' := fun W hb A6 c6 hI =>
          eq5 (s.take q ++ s.drop q1) (k : Int) _ 0 A6 (q + (m - q1)) c6 W HLS.out hm61 hI (fun t ht => HWF.out t (by
            rcases List.mem_append.1 ht with h | h
            · exact List.mem_of_mem_take h
            · exact List.mem_of_mem_drop h)) (by
            have hT2 : tooM (s.take q ++ s.drop q1).length k = false := tooM_less HT.out (by rw [← HLS.out, ← HM.out]; omega)
            have hv2 : vld (s.take q ++ s.drop q1) = true := by rw [HQ1.out]; exact vld_less q HV.out
            exact ex_light hv2 hT2 hn8 hn1 (Nat.le_refl _))
        have HML := Lib.hid hmless
        have hpart : sqB (s.take q ++ s.drop q1) k = true → sqB s k = true := fun h => by rw [HQ1.out] at h; exact sqB_part hn1 (by rw [← HM.out]; exact hqm) h
        have HPA := Lib.hid hpart
        obtain ⟨i1, gi, gz0, gz1, gz2⟩ := info_parts tile_info
        clear hpart hmless hq1
        go_cut [15] from 18 to 135 (fun u wx => ∃ A6 c6, u = .slice A6 (q + (m - q1)) c6 ∧ Hid (SetIn wx wx.heap.size A6 (s.take q ++ s.drop q1)) ∧ Below w3.heap.size w3 wx)
        case first =>
          by_cases hcq : q1 = cp
          · have hmq : Hid (m - q1 = 0) := by show _ = _; omega
            subst hcq
            have HDP : Hid (∀ i, i < (s.drop q1).length → 0 + i < s.length ∧ (s.drop q1).getD i ⟨0, 0, 0, 0⟩ = s.getD (0 + i) ⟨0, 0, 0, 0⟩) := fun i hi => by
              rw [List.length_drop, ← HM.out, hmq.out] at hi
              omega
            go_region_held3 (fun w' => Below w3.heap.size w3 w') (first | (with_reducible assumption) | (with_reducible exact hS3.drew) | (with_reducible exact (be_alloc hS3 _).drew) | ((with_reducible refine Below.drew ?_); (with_reducible assumption)) | ((with_reducible refine be_alloc ?_ _); (with_reducible assumption)))
              (first
            | ((with_reducible refine step_append_own2 rfl (.tmp 105) (.tmp 108) 22 rfl w3.heap.size 65 i1 (.agg #[.int .i64 0, .int .i64 0, .int .i64 0, .int .i64 0]) 4 32 Tryd.underlying22 gi gz0 gz1 gz2 rfl (by decide) (.slice (some ⟨w3.heap.size, 0, none⟩) 0 0) 0 [] ?_ ?_ ⟨sb, so + 0 * 4, none⟩ q q1 (tcells (s.take q)) ?_ HL1.out ?_ (tcells_one _) ?_ ?_ ?_ ?_); (focus (simp [Act.eval, Act.put]; done));
                (focus (refine own_empty4 _ _ _ _ ?_ (Nat.le_refl _); first | exact heap_alloc_new _ _ | (simp [World.drew, World.alloc]; done)));
                (focus (simp [Act.eval, Act.put]; done)); (focus (refine set_later ?_ hsb3 hc3.out (take_part HTQ.out); first | (with_reducible exact (be_alloc hS3 _).drew) | (with_reducible exact be_alloc hS3.drew _) | assumption)); (focus (simp only [maxLen]; omega)); (focus omega); (focus (refine Below.size (B := w3.heap.size) ?_; first | (with_reducible exact (be_alloc hS3 _).drew) | (with_reducible exact be_alloc hS3.drew _) | assumption));
                intro v5 w5 own5 hg5 hat5; simp only [Nat.zero_add, List.nil_append] at own5; have hb5 : Below w3.heap.size w3 w5 := (by refine Below.grown (row := some (w3.heap.size)) ?_ hg5 ?_ ?_; (focus (first | (with_reducible exact (be_alloc hS3 _).drew) | (with_reducible exact be_alloc hS3.drew _) | assumption)); (focus (refine Below.size (B := w3.heap.size) ?_; first | (with_reducible exact (be_alloc hS3 _).drew) | (with_reducible exact be_alloc hS3.drew _) | assumption)); (focus (intro kk hk; simp at hk; omega))); have LT5 := Lib.hid own5.lt; have OWN5 := Lib.hid own5; clear own5 hg5 hat5)
            | ((with_reducible refine step_append_own2 rfl (.tmp 109) (.tmp 113) 22 rfl w3.heap.size 65 i1 (.agg #[.int .i64 0, .int .i64 0, .int .i64 0, .int .i64 0]) 4 32 Tryd.underlying22 gi gz0 gz1 gz2 rfl (by decide) v5 q (tcells (s.take q)) ?_ ?_ ⟨sb, so + 0 * 4, none⟩ (m - q1) (q1 - q1) (tcells (s.drop q1)) ?_ HL2.out ?_ (tcells_one _) ?_ ?_ ?_ ?_); (focus (simp [Act.eval, Act.put]; done));
                (focus (exact OWN5.out)); (focus (first | (simp [Act.eval, Act.put]; done) | (simp [Act.eval, Act.put]; exact hmq.out.symm))); (focus (refine set_later ?_ hsb3 hc3.out HDP.out; exact hb5)); (focus (simp only [maxLen]; omega)); (focus omega); (focus (refine Below.size (B := w3.heap.size) ?_; exact hb5));
                intro v6 w6 own6 hg6 hat6; rw [tcells_append] at own6; have hb6 : Below w3.heap.size w3 w6 := (by refine Below.grown (row := v5.ownBlock) ?_ hg6 ?_ ?_; (focus (exact hb5)); (focus (refine Below.size (B := w3.heap.size) ?_; exact hb5)); (focus (intro kk hk; exact (LT5.out kk hk).1))); obtain ⟨A6, c6, rfl, -, -, hN6⟩ := own_set own6; have HN6 := Lib.hid hN6; clear own6 hg6 hat6 OWN5 LT5 hN6)
            | fail)
            go_wp2_with fail
            go_meet
            exact ⟨A6, c6, by first | rfl | rw [hmq.out, Nat.add_zero], HN6.out.old, hb6⟩
          · have hcq' : ¬ cp = q1 := fun e => hcq e.symm
            have HDP : Hid (∀ i, i < (s.drop q1).length → q1 + i < s.length ∧ (s.drop q1).getD i ⟨0, 0, 0, 0⟩ = s.getD (q1 + i) ⟨0, 0, 0, 0⟩) := drop_part
            go_region_held3 (fun w' => Below w3.heap.size w3 w') (first | (with_reducible assumption) | (with_reducible exact hS3.drew) | (with_reducible exact (be_alloc hS3 _).drew) | ((with_reducible refine Below.drew ?_); (with_reducible assumption)) | ((with_reducible refine be_alloc ?_ _); (with_reducible assumption)))
              (first
            | ((with_reducible refine step_append_own2 rfl (.tmp 105) (.tmp 108) 22 rfl w3.heap.size 65 i1 (.agg #[.int .i64 0, .int .i64 0, .int .i64 0, .int .i64 0]) 4 32 Tryd.underlying22 gi gz0 gz1 gz2 rfl (by decide) (.slice (some ⟨w3.heap.size, 0, none⟩) 0 0) 0 [] ?_ ?_ ⟨sb, so + 0 * 4, none⟩ q cp (tcells (s.take q)) ?_ HL1.out ?_ (tcells_one _) ?_ ?_ ?_ ?_); (focus (simp [Act.eval, Act.put]; done));
                (focus (refine own_empty4 _ _ _ _ ?_ (Nat.le_refl _); first | exact heap_alloc_new _ _ | (simp [World.drew, World.alloc]; done)));
                (focus (simp [Act.eval, Act.put]; done)); (focus (refine set_later ?_ hsb3 hc3.out (take_part HTQ.out); first | (with_reducible exact (be_alloc hS3 _).drew) | (with_reducible exact be_alloc hS3.drew _) | assumption)); (focus (simp only [maxLen]; omega)); (focus omega); (focus (refine Below.size (B := w3.heap.size) ?_; first | (with_reducible exact (be_alloc hS3 _).drew) | (with_reducible exact be_alloc hS3.drew _) | assumption));
                intro v5 w5 own5 hg5 hat5; simp only [Nat.zero_add, List.nil_append] at own5; have hb5 : Below w3.heap.size w3 w5 := (by refine Below.grown (row := some (w3.heap.size)) ?_ hg5 ?_ ?_; (focus (first | (with_reducible exact (be_alloc hS3 _).drew) | (with_reducible exact be_alloc hS3.drew _) | assumption)); (focus (refine Below.size (B := w3.heap.size) ?_; first | (with_reducible exact (be_alloc hS3 _).drew) | (with_reducible exact be_alloc hS3.drew _) | assumption)); (focus (intro kk hk; simp at hk; omega))); have LT5 := Lib.hid own5.lt; have OWN5 := Lib.hid own5; clear own5 hg5 hat5)
            | ((with_reducible refine step_append_own2 rfl (.tmp 109) (.tmp 113) 22 rfl w3.heap.size 65 i1 (.agg #[.int .i64 0, .int .i64 0, .int .i64 0, .int .i64 0]) 4 32 Tryd.underlying22 gi gz0 gz1 gz2 rfl (by decide) v5 q (tcells (s.take q)) ?_ ?_ ⟨sb, so + q1 * 4, none⟩ (m - q1) (cp - q1) (tcells (s.drop q1)) ?_ HL2.out ?_ (tcells_one _) ?_ ?_ ?_ ?_); (focus (simp [Act.eval, Act.put]; done));
                (focus (exact OWN5.out)); (focus (first | (simp [Act.eval, Act.put]; done) | (simp [Act.eval, Act.put]; exact hmq.out.symm))); (focus (refine set_later ?_ hsb3 hc3.out HDP.out; exact hb5)); (focus (simp only [maxLen]; omega)); (focus omega); (focus (refine Below.size (B := w3.heap.size) ?_; exact hb5));
                intro v6 w6 own6 hg6 hat6; rw [tcells_append] at own6; have hb6 : Below w3.heap.size w3 w6 := (by refine Below.grown (row := v5.ownBlock) ?_ hg6 ?_ ?_; (focus (exact hb5)); (focus (refine Below.size (B := w3.heap.size) ?_; exact hb5)); (focus (intro kk hk; exact (LT5.out kk hk).1))); obtain ⟨A6, c6, rfl, -, -, hN6⟩ := own_set own6; have HN6 := Lib.hid hN6; clear own6 hg6 hat6 OWN5 LT5 hN6)
            | fail)
            go_wp2_with fail
            go_meet
            exact ⟨A6, c6, by first | rfl | rw [hmq.out, Nat.add_zero], HN6.out.old, hb6⟩
        case rest =>
          obtain ⟨A6, c6, rfl, hI6, hb6⟩ := hcut
          have hb06 : Below w.heap.size w wc := hb03.trans (hb6.mono hb03.size)
          have hml := HML.out wc hb6 A6 c6 hI6.out
          cases hp : sqB (s.take q ++ s.drop q1) k
          · rw [hp] at hml
            have HML2 := Lib.hid hml
            clear hml hp
            go_wp2_with (first
              | (go_at_call 15; refine HML2.out.mono ?_; rintro e w7 ⟨rfl, hb7⟩; have hb07 := hb06.trans (hb7.mono hb06.size))
              | (go_at_call 14; refine (HAW.out _ hb07).mono ?_; rintro e w8 ⟨rfl, hb8⟩))
            go_ret
            exact ⟨rfl, hb07.trans (hb8.mono hb07.size)⟩
          · rw [hp] at hml
            have hsk := HPA.out hp
            have HML2 := Lib.hid hml
            clear hml hp
            exfalso
            exact hla0 (by rw [HLA.out]; exact lastS_top hn1 hsk)
end Go.Proofs.YtnmigjohomdbnaaDoor

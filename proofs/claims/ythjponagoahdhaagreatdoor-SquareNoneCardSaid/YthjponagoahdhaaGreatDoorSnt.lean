/-
  A torus as a pattern; a torus that is repeated is a torus. No program.
  groutworklaw05.SquareNone returns true, for every set, pattern and side.
-/
import Derived.Test.YthjponagoahdhaaGreatDoorTp
import Derived.Test.YthjponagoahdhaaGreatDoorSh
import Derived.Test.YthjponagoahdhaaGreatDoorTC
import Derived.Test.YthjponagoahdhaaGreatDoorGf
namespace Go.Proofs.YthjponagoahdhaaGreatDoor
section
set_option linter.unusedVariables false
set_option linter.unusedSimpArgs false

theorem flat_len_rowV : ∀ (rs : List (List Nat)) (x : Nat), (∀ r ∈ rs, r.length = x) → rs.flatten.length = rs.length * x
  | [], x, _ => by simp
  | r :: rs, x, h => by
    rw [List.flatten_cons, List.length_append, h r (by simp), flat_len_rowV rs x (fun q hq => h q (by simp [hq])), List.length_cons, Nat.add_mul]
    omega
theorem ptI_ptM {w h : Nat} {t : List (List Nat)} (ht : Shaped w h t) : ptI w h t.flatten = ptM w h (cl t) := by
  have hl : t.flatten.length = w * h := by rw [flat_len_rowV t w ht.2, ht.1, Nat.mul_comm]
  have e : (t.flatten.map fun i : Nat => (i : Int)) = (List.range (w * h)).map fun i => ((cl t (i % w) (i / w) : Nat) : Int) := by
    refine List.ext_getElem (by rw [List.length_map, List.length_map, List.length_range, hl]) fun i h1 h2 => ?_
    have hi : i < w * h := by simpa using h2
    rcases Nat.eq_zero_or_pos w with e0 | e0
    · rw [e0, Nat.zero_mul] at hi; omega
    · have hx : i % w < w := Nat.mod_lt _ e0
      have hy : i / w < h := by rw [Nat.div_lt_iff_lt_mul e0, Nat.mul_comm]; exact hi
      have h3 := ptI_cel ht hx hy
      have h4 : i / w * w + i % w = i := by rw [Nat.mul_comm]; exact Nat.div_add_mod i w
      unfold cel ptI at h3
      simp only [Int.toNat_natCast] at h3
      rw [h4, List.getD_eq_getElem?_getD, List.getElem?_eq_getElem h1] at h3
      simpa using h3
  unfold ptI ptM
  rw [e]
/-- a torus that is found is one -/
theorem tors_repsI {s : List Tl} {w h : Nat} {t : List (List Nat)} (hv : vld s = true) (hw : 1 ≤ w) (hh : 1 ≤ h) (hwh : w * h ≤ 40000) (ht : t ∈ torsE s w h) : reps s (ptI w h t.flatten) = true := by
  rw [ptI_ptM ((mem_torsE s w h hw hh t).1 ht).1]
  exact tors_reps hv hw hh hwh ht
theorem tors_flat {s : List Tl} {w h : Nat} {t : List (List Nat)} (hw : 1 ≤ w) (hh : 1 ≤ h) (ht : t ∈ torsE s w h) : t.flatten.length = w * h := by
  have hs := ((mem_torsE s w h hw hh t).1 ht).1
  rw [flat_len_rowV t w hs.2, hs.1, Nat.mul_comm]
/-- a torus, repeated along its sides, is a torus -/
theorem reps_win {s : List Tl} {p : Pt} {a b i j : Nat} (h : reps s p = true) (ha : p.w = a) (hb : p.h = b) (hi : 1 ≤ i) (hj : 1 ≤ j) (hs : a * i * (b * j) ≤ 40000) : reps s (win p 0 0 (a * i) (b * j)) = true := by
  obtain ⟨a', b', ha', hb', h1, h2, g⟩ := reps_good h
  have ea : a' = a := by rw [ha] at ha'; omega
  have eb : b' = b := by rw [hb] at hb'; omega
  subst ea
  subst eb
  simp only [reps, Bool.and_eq_true] at h
  have hr := (g.times h1 h2 i j).reps h.1 (Nat.mul_pos h1 hi) (Nat.mul_pos h2 hj) hs
  have e : win p 0 0 (a' * i) (b' * j) = ptM (a' * i) (b' * j) fun x y => (cel p (x % a') (y % b')).toNat := by
    unfold win ptM
    congr 1
    refine List.map_congr_left fun k hk => ?_
    have hc := refers_cel h.2.1 h.2.2.1 (k % (a' * i) % a') (k / (a' * i) % b') (by rw [ha, Int.toNat_natCast]; exact Nat.mod_lt _ h1) (by rw [hb, Int.toNat_natCast]; exact Nat.mod_lt _ h2)
    rw [ha, hb, Int.toNat_natCast, Int.toNat_natCast, Nat.zero_add, Nat.zero_add, Int.toNat_of_nonneg hc.1]
  rw [e]
  exact hr
end
section
open Go.RowKit Go.Maps Go.BigFrame Go.Sort
set_option linter.unusedVariables false
set_option linter.unusedSimpArgs false
set_option maxRecDepth 100000

theorem check_lightN {s : List Tl} {n : Nat} (hv : vld s = true) (ht : tooM s.length n = false) (h1 : 1 ≤ n) (hn : n ≤ 8) : checkE s (n : Int) (n : Int) 0 0 0 0 = 0 := by
  unfold checkE faultE
  simp only [hv, Bool.true_eq_false, if_false]
  rw [if_neg (show ¬ ((n : Int) < 1 ∨ 8 < (n : Int) ∨ (n : Int) < 1 ∨ 60 < (n : Int)) by omega)]
  simp [sideOk, ht]
theorem ex_lightN {s : List Tl} {n : Nat} (hv : vld s = true) (ht : tooM s.length n = false) (h1 : 1 ≤ n) (hn : n ≤ 8) : exE s (n : Int) = (sqB s n, 0) := by
  unfold exE
  rw [check_lightN hv ht h1 hn, if_neg (by simp), Int.toNat_natCast]
/-- a torus is a plane: its squares can be filled -/
theorem sq_reps {s : List Tl} {p : Pt} {n : Nat} (hn : 1 ≤ n) (h8 : n ≤ 8) (h : reps s p = true) : sqB s n = true :=
  sqB_fits (p := win p 0 0 n n) hn (by simp [win]) (by simp [win]) (win_fits s p 0 0 n n hn hn (by have : n * n ≤ 8 * 8 := Nat.mul_le_mul h8 h8; omega) h)
theorem sq_least {s : List Tl} {k n : Nat} {v : Nat × Nat × List (List Nat)} (hn : 1 ≤ n) (h8 : n ≤ 8) (hv : vld s = true) (hk : k ≤ 6) (h : leastE s k = some v) : sqB s n = true := by
  obtain ⟨a, b, t⟩ := v
  obtain ⟨g1, g2, g3, g4, g5, -⟩ := leastE_some h
  have hmem : t ∈ torsE s a b := List.mem_of_mem_head? (by rw [g5]; rfl)
  exact sq_reps hn h8 (tors_repsI hv g1 g3 (by have : a * b ≤ 6 * 6 := Nat.mul_le_mul (by omega) (by omega); omega) hmem)
/-- the error of Least for sides of at most 3 -/
def lsErr (s : List Tl) : Int := if tcheckE s 3 3 ≠ 0 then tcheckE s 3 3 else match leastE s 3 with
  | none => 6
  | some _ => 0
theorem lsErr_sq {s : List Tl} {n : Nat} (hv : vld s = true) (hn : 1 ≤ n) (h8 : n ≤ 8) (h : lsErr s = 0) : sqB s n = true := by
  unfold lsErr at h
  by_cases hc : tcheckE s 3 3 = 0
  · rw [if_neg (fun hne => hne hc)] at h
    cases hl : leastE s 3 with
    | none => rw [hl] at h; simp at h
    | some v => exact sq_least hn h8 hv (by decide) hl
  · rw [if_pos hc] at h
    exact absurd h hc
/-- Least: the error alone -/
def IsLeastE (f : Int) (W : World) (e : Ending) (w' : World) : Prop :=
  Below W.heap.size W w' ∧ ∃ p0 p1 A n c, e = .returned (.tuple #[.agg #[.int .i64 p0, .int .i64 p1, .slice A n c], .int .i64 f])
theorem leastE_any (s : List Tl) (S : Option Addr) (m d : Nat) (w : World) (hm : m = s.length) (hS : SetIn w w.heap.size S s) (hwf : ∀ t ∈ s, twf t) (hml : m ≤ 1000) :
    Calls Tryz.prog 11 #[.slice S m d, .int .i64 3] w (IsLeastE (lsErr s) w) := by
  refine (least_anyT s S m d 3 w hm hS hwf (by omega)).mono ?_
  rintro e w' ⟨hb, hr⟩
  refine ⟨hb, ?_⟩
  unfold lsErr
  by_cases hc : tcheckE s 3 3 = 0
  · rw [if_neg (fun hne => hne hc)] at hr ⊢
    have e3 : (3 : Int).toNat = 3 := rfl
    rw [e3] at hr
    cases hl : leastE s 3 with
    | none =>
      rw [hl] at hr
      exact ⟨0, 0, none, 0, 0, hr⟩
    | some v =>
      rw [hl] at hr
      obtain ⟨a, b, t⟩ := v
      obtain ⟨A, c, he, -⟩ := hr
      exact ⟨a, b, A, _, c, he⟩
  · rw [if_pos hc] at hr ⊢
    exact ⟨0, 0, none, 0, 0, hr⟩
set_option maxHeartbeats 40000000 in
theorem sqnone_any (a b : Int) (cs : List Int) (s : List Tl) (A S : Option Addr) (m n c cp z : Nat) (w : World) (hEnv : Env w) (hm : m = s.length) (hmd : m ≤ cp) (hdl : cp ≤ 9223372036854775807) (hn : n = cs.length) (hnl : n ≤ 9223372036854775807) (hS : SetIn w w.heap.size S s) (hP : IntsIn w w.heap.size A cs) (hwf : ∀ t ∈ s, twf t) (hml : m ≤ 9223372036854775807) (hz : z ≤ 255) :
    Calls Tryz.prog 3 #[.slice S m cp, .agg #[.int .i64 a, .int .i64 b, .slice A n c], .int .u8 z] w fun e w' => e = .returned (.bool true) ∧ Below w.heap.size w w' := by
  obtain ⟨k, hk⟩ : ∃ k, k = 1 + z % 8 := ⟨_, rfl⟩
  have hk1 : 1 ≤ k := by omega
  have hk8 : k ≤ 8 := by omega
  have ek : IntKind.i64.wrap ((1 : Int) + (z : Int) % 8) = (k : Int) := by rw [IntWalk.i64_in _ (by omega)]; omega
  clear hk
  obtain ⟨W1, hW1⟩ : ∃ W1, W1 = w.alloc (.cells #[.int .i64 a, .int .i64 b, .slice A n c] 25) := ⟨_, rfl⟩
  have hb1 : Below w.heap.size w W1 := by rw [hW1]; exact (Below.refl _ _).alloc (Nat.le_refl _) _
  have hp1 : W1.heap[w.heap.size]? = some (.cells #[.int .i64 a, .int .i64 b, .slice A n c] 25 (0, 0)) := by rw [hW1]; exact heap_at _ _ _ rfl
  have hlt1 : w.heap.size < W1.heap.size := (Array.getElem?_eq_some_iff.1 hp1).1
  have HAW : Hid (∀ W, Below W1.heap.size W1 W → Calls Tryz.prog 7 #[] W fun e w' => e = .returned (.bool true) ∧ Below W.heap.size W w') := fun W hb => awake5_any W (hEnv.keep (hb1.trans (hb.mono hb1.size)))
  have hvA := fun (W : World) (hb : Below W1.heap.size W1 W) => rvalid_any s S m cp W hm hmd hdl (hS.keep (hb1.trans (hb.mono hb1.size)) (hb1.trans (hb.mono hb1.size)).size)
  have HW1 := Lib.hid hW1
  have HP1 := Lib.hid hp1
  obtain ⟨y0, y1, y2, y3⟩ := zcells hp1
  clear hW1 hp1
  have hf0 : Below W1.heap.size W1 W1 := Below.refl _ _
  by_cases c1 : m ≤ 60
  rotate_left
  · clear hm hS hwf hEnv hvA hP hn
    go_enter Tryz.func3, Tryz.ntmps3
    go_upto_region 2 with fail
    rw [← HW1.out]
    go_wp2_with (go_at_call 7; refine (HAW.out _ hf0).mono ?_; rintro e wz ⟨rfl, hbz⟩)
    go_ret
    exact ⟨rfl, hb1.trans ((hbz).mono hb1.size)⟩
  cases hV : vld s
  · rw [hV] at hvA
    have HVA := Lib.hid hvA
    clear hm hS hwf hEnv hvA hV hP hn
    go_enter Tryz.func3, Tryz.ntmps3
    go_upto_region 2 with fail
    rw [← HW1.out]
    go_wp2_with (first
      | (go_at_call 4; refine (HVA.out _ hf0).mono ?_; rintro e w2 ⟨rfl, hb2⟩; obtain ⟨x0, x1, x2, x3⟩ := zcells ((hb2.block w.heap.size hlt1).trans HP1.out))
      | (go_at_call 7; refine (HAW.out _ hb2).mono ?_; rintro e wz ⟨rfl, hbz⟩))
    go_ret
    exact ⟨rfl, hb1.trans ((hb2.trans (hbz.mono hb2.size)).mono hb1.size)⟩
  rw [hV] at hvA
  have HVA := Lib.hid hvA
  by_cases c2 : n ≤ 2000
  rotate_left
  · clear hm hS hwf hEnv hvA hV hP hn
    go_enter Tryz.func3, Tryz.ntmps3
    go_upto_region 2 with fail
    rw [← HW1.out]
    go_wp2_with (first
      | (go_at_call 4; refine (HVA.out _ hf0).mono ?_; rintro e w2 ⟨rfl, hb2⟩; obtain ⟨x0, x1, x2, x3⟩ := zcells ((hb2.block w.heap.size hlt1).trans HP1.out))
      | (go_at_call 7; refine (HAW.out _ hb2).mono ?_; rintro e wz ⟨rfl, hbz⟩))
    go_ret
    exact ⟨rfl, hb1.trans ((hb2.trans (hbz.mono hb2.size)).mono hb1.size)⟩
  cases hT : tooM m k
  rotate_left
  · have hgA := fun (W : World) => rgreat_any S m cp k true W hT (by omega) (by omega)
    have HGA := Lib.hid hgA
    clear hm hS hwf hEnv hvA hV hP hn hT hgA
    go_enter Tryz.func3, Tryz.ntmps3
    go_upto_region 2 with fail
    rw [← HW1.out]
    go_wp2_with (first
      | (go_at_call 4; refine (HVA.out _ hf0).mono ?_; rintro e w2 ⟨rfl, hb2⟩; obtain ⟨x0, x1, x2, x3⟩ := zcells ((hb2.block w.heap.size hlt1).trans HP1.out))
      | (go_at_call 5; refine (HGA.out _).mono ?_; rintro e w5 ⟨rfl, rfl⟩)
      | (go_at_call 7; refine (HAW.out _ hb2).mono ?_; rintro e wz ⟨rfl, hbz⟩))
    go_ret
    exact ⟨rfl, hb1.trans ((hb2.trans (hbz.mono hb2.size)).mono hb1.size)⟩
  have hgA := fun (W : World) => rgreat_any S m cp k false W hT (by omega) (by omega)
  have HGA := Lib.hid hgA
  have hhA := fun (W : World) (hb : Below W1.heap.size W1 W) => heavy5_any s S m cp k W hm (hS.keep (hb1.trans (hb.mono hb1.size)) (hb1.trans (hb.mono hb1.size)).size) (by omega) (by omega)
  have hd60 : decide (60 < m) = false := by rw [decide_eq_false_iff_not]; omega
  rw [hd60, Bool.false_or] at hhA
  cases hL : lightB s k
  · rw [hL] at hhA
    have HHA := Lib.hid hhA
    clear hm hS hwf hEnv hvA hV hP hn hT hgA hhA hL hd60
    go_enter Tryz.func3, Tryz.ntmps3
    go_upto_region 2 with fail
    rw [← HW1.out]
    go_wp2_with (first
      | (go_at_call 4; refine (HVA.out _ hf0).mono ?_; rintro e w2 ⟨rfl, hb2⟩; obtain ⟨x0, x1, x2, x3⟩ := zcells ((hb2.block w.heap.size hlt1).trans HP1.out))
      | (go_at_call 5; refine (HGA.out _).mono ?_; rintro e w5 ⟨rfl, rfl⟩)
      | (go_at_call 6; refine (HHA.out _ hb2).mono ?_; rintro e w3 ⟨rfl, hb3⟩; have hb03 := hb2.trans (hb3.mono hb2.size))
      | (go_at_call 7; refine (HAW.out _ hb03).mono ?_; rintro e wz ⟨rfl, hbz⟩))
    go_ret
    exact ⟨rfl, hb1.trans ((hb03.trans (hbz.mono hb03.size)).mono hb1.size)⟩
  rw [hL] at hhA
  have HHA := Lib.hid hhA
  have hT' : tooM s.length k = false := by rw [← hm]; exact hT
  have hex := ex_lightN hV hT' hk1 hk8
  obtain ⟨q, hq⟩ : ∃ q, q = sqB s k := ⟨_, rfl⟩
  rw [← hq] at hex
  have HEX : Hid (∀ W, Below W1.heap.size W1 W → Calls Tryz.prog 8 #[.slice S m cp, .int .i64 (k : Int)] W fun e w' => e = .returned (.tuple #[.bool q, .int .i64 0]) ∧ Below W.heap.size W w') := fun W hb => eq5 s (k : Int) q 0 S m cp W hm (by omega) (hS.keep (hb1.trans (hb.mono hb1.size)) (hb1.trans (hb.mono hb1.size)).size) hwf hex
  obtain ⟨F, hF⟩ : ∃ F, F = fits s ⟨a, b, cs⟩ := ⟨_, rfl⟩
  obtain ⟨R, hR⟩ : ∃ R, R = reps s ⟨a, b, cs⟩ := ⟨_, rfl⟩
  have hqF : F = true → (k : Int) ≤ a → (k : Int) ≤ b → q = true := fun h1 h2 h3 => by rw [hq]; exact sqB_fits (p := ⟨a, b, cs⟩) hk1 h2 h3 (by rw [← hF]; exact h1)
  have hqR : R = true → q = true := fun h1 => by rw [hq]; exact sq_reps hk1 hk8 (by rw [← hR]; exact h1)
  obtain ⟨fe, hfe⟩ : ∃ fe, fe = lsErr s := ⟨_, rfl⟩
  have hqE : fe = 0 → q = true := fun h1 => by rw [hq]; exact lsErr_sq hV hk1 hk8 (by rw [← hfe]; exact h1)
  have HFI : Hid (∀ W, Below W1.heap.size W1 W → Calls Tryz.prog 9 #[.slice S m cp, .agg #[.int .i64 a, .int .i64 b, .slice A n c]] W fun e w' => e = .returned (.bool F) ∧ Below W.heap.size W w') := fun W hb => by
    rw [hF]
    exact fits_any a b cs s A S m n c cp W hm hn (hS.keep (hb1.trans (hb.mono hb1.size)) (hb1.trans (hb.mono hb1.size)).size) (hP.keep (hb1.trans (hb.mono hb1.size)) (hb1.trans (hb.mono hb1.size)).size) hwf hml hnl
  have HRE : Hid (∀ W, Below W1.heap.size W1 W → Calls Tryz.prog 10 #[.slice S m cp, .agg #[.int .i64 a, .int .i64 b, .slice A n c]] W fun e w' => e = .returned (.bool R) ∧ Below W.heap.size W w') := fun W hb => by
    rw [hR]
    exact repeats_any a b cs s A S m n c cp W hm hn (hS.keep (hb1.trans (hb.mono hb1.size)) (hb1.trans (hb.mono hb1.size)).size) (hP.keep (hb1.trans (hb.mono hb1.size)) (hb1.trans (hb.mono hb1.size)).size) hwf hml hnl
  have HLE : Hid (∀ W, Below W1.heap.size W1 W → Calls Tryz.prog 11 #[.slice S m cp, .int .i64 3] W (IsLeastE fe W)) := fun W hb => by
    rw [hfe]
    exact leastE_any s S m cp W hm (hS.keep (hb1.trans (hb.mono hb1.size)) (hb1.trans (hb.mono hb1.size)).size) hwf (by omega)
  have HQF := Lib.hid hqF
  have HQR := Lib.hid hqR
  have HQE := Lib.hid hqE
  clear hm hS hwf hEnv hvA hV hP hn hT hT' hgA hhA hL hd60 hex hq hF hR hfe hqF hqR hqE
  have hcF : (F = false) ∨ (F = true ∧ ¬ (k : Int) ≤ a) ∨ (F = true ∧ (k : Int) ≤ a ∧ ¬ (k : Int) ≤ b) ∨ (F = true ∧ (k : Int) ≤ a ∧ (k : Int) ≤ b ∧ q = true) := by
    cases hF : F
    · exact Or.inl rfl
    · by_cases h1 : (k : Int) ≤ a
      · by_cases h2 : (k : Int) ≤ b
        · exact Or.inr (Or.inr (Or.inr ⟨rfl, h1, h2, HQF.out hF h1 h2⟩))
        · exact Or.inr (Or.inr (Or.inl ⟨rfl, h1, h2⟩))
      · exact Or.inr (Or.inl ⟨rfl, h1⟩)
  have hcR : (R = false) ∨ (R = true ∧ q = true) := by
    cases hR : R
    · exact Or.inl rfl
    · exact Or.inr ⟨rfl, HQR.out hR⟩
  have hcE : (fe = 0 ∧ q = true) ∨ ((fe == 0) = false) := by
    by_cases h : fe = 0
    · exact Or.inl ⟨h, HQE.out h⟩
    · exact Or.inr (by simpa using h)
  have HCE := Lib.hid hcE
  have HCF := Lib.hid hcF
  have HCR := Lib.hid hcR
  clear hcF hcR hcE HQF HQR HQE
  rcases HCF.out with h1 | ⟨h1, h2⟩ | ⟨h1, h2, h3⟩ | ⟨h1, h2, h3, h4⟩ <;> rcases HCR.out with g1 | ⟨g1, g2⟩ <;> rcases HCE.out with ⟨f1, f2⟩ | f1
  · subst h1
    subst g1
    subst f2
    subst f1
    clear HCF HCR HCE
    go_enter Tryz.func3, Tryz.ntmps3
    go_upto_region 2 with fail
    rw [← HW1.out]
    go_wp2_with (first
      | (go_at_call 4; refine (HVA.out _ hf0).mono ?_; rintro e w2 ⟨rfl, hb2⟩; obtain ⟨x0, x1, x2, x3⟩ := zcells ((hb2.block w.heap.size hlt1).trans HP1.out))
      | (go_at_call 5; refine (HGA.out _).mono ?_; rintro e w5 ⟨rfl, rfl⟩)
      | (go_at_call 6; refine (HHA.out _ hb2).mono ?_; rintro e w3 ⟨rfl, hb3⟩; have hb03 := hb2.trans (hb3.mono hb2.size))
      | (go_at_call 8; refine (HEX.out _ hb03).mono ?_; rintro e w4 ⟨rfl, hb4⟩; have hb04 := hb03.trans (hb4.mono hb03.size); obtain ⟨x0, x1, x2, x3⟩ := zcells ((hb04.block w.heap.size hlt1).trans HP1.out))
      | (go_at_call 9; refine (HFI.out _ hb04).mono ?_; rintro e w6 ⟨rfl, hb6⟩; have hb06 := hb04.trans (hb6.mono hb04.size); obtain ⟨u0, u1, u2, u3⟩ := zcells ((hb06.block w.heap.size hlt1).trans HP1.out))
      | (go_at_call 10; refine (HRE.out _ hb06).mono ?_; rintro e w7 ⟨rfl, hb7⟩; have hb07 := hb06.trans (hb7.mono hb06.size))
      | (go_at_call 11; refine (HLE.out _ hb07).mono ?_; rintro e w8 ⟨hb8, p0, p1, A8, n8, c8, rfl⟩; have hb08 := (hb07.trans (hb8.mono hb07.size)).alloc (hb07.trans (hb8.mono hb07.size)).size (.cells #[.int .i64 p0, .int .i64 p1, .slice A8 n8 c8] 25))
      | (go_at_call 7; refine (HAW.out _ hb08).mono ?_; rintro e wz ⟨rfl, hbz⟩))
    all_goals (go_ret; exact ⟨rfl, hb1.trans ((hb08.trans (hbz.mono hb08.size)).mono hb1.size)⟩)
  · subst h1
    subst g1
    clear HCF HCR HCE
    go_enter Tryz.func3, Tryz.ntmps3
    go_upto_region 2 with fail
    rw [← HW1.out]
    go_wp2_with (first
      | (go_at_call 4; refine (HVA.out _ hf0).mono ?_; rintro e w2 ⟨rfl, hb2⟩; obtain ⟨x0, x1, x2, x3⟩ := zcells ((hb2.block w.heap.size hlt1).trans HP1.out))
      | (go_at_call 5; refine (HGA.out _).mono ?_; rintro e w5 ⟨rfl, rfl⟩)
      | (go_at_call 6; refine (HHA.out _ hb2).mono ?_; rintro e w3 ⟨rfl, hb3⟩; have hb03 := hb2.trans (hb3.mono hb2.size))
      | (go_at_call 8; refine (HEX.out _ hb03).mono ?_; rintro e w4 ⟨rfl, hb4⟩; have hb04 := hb03.trans (hb4.mono hb03.size); obtain ⟨x0, x1, x2, x3⟩ := zcells ((hb04.block w.heap.size hlt1).trans HP1.out))
      | (go_at_call 9; refine (HFI.out _ hb04).mono ?_; rintro e w6 ⟨rfl, hb6⟩; have hb06 := hb04.trans (hb6.mono hb04.size); obtain ⟨u0, u1, u2, u3⟩ := zcells ((hb06.block w.heap.size hlt1).trans HP1.out))
      | (go_at_call 10; refine (HRE.out _ hb06).mono ?_; rintro e w7 ⟨rfl, hb7⟩; have hb07 := hb06.trans (hb7.mono hb06.size))
      | (go_at_call 11; refine (HLE.out _ hb07).mono ?_; rintro e w8 ⟨hb8, p0, p1, A8, n8, c8, rfl⟩; have hb08 := (hb07.trans (hb8.mono hb07.size)).alloc (hb07.trans (hb8.mono hb07.size)).size (.cells #[.int .i64 p0, .int .i64 p1, .slice A8 n8 c8] 25))
      | (go_at_call 7; refine (HAW.out _ hb08).mono ?_; rintro e wz ⟨rfl, hbz⟩))
    all_goals (go_ret; exact ⟨rfl, hb1.trans ((hb08.trans (hbz.mono hb08.size)).mono hb1.size)⟩)
  · subst h1
    subst g1
    subst g2
    clear f2
    subst f1
    clear HCF HCR HCE
    go_enter Tryz.func3, Tryz.ntmps3
    go_upto_region 2 with fail
    rw [← HW1.out]
    go_wp2_with (first
      | (go_at_call 4; refine (HVA.out _ hf0).mono ?_; rintro e w2 ⟨rfl, hb2⟩; obtain ⟨x0, x1, x2, x3⟩ := zcells ((hb2.block w.heap.size hlt1).trans HP1.out))
      | (go_at_call 5; refine (HGA.out _).mono ?_; rintro e w5 ⟨rfl, rfl⟩)
      | (go_at_call 6; refine (HHA.out _ hb2).mono ?_; rintro e w3 ⟨rfl, hb3⟩; have hb03 := hb2.trans (hb3.mono hb2.size))
      | (go_at_call 8; refine (HEX.out _ hb03).mono ?_; rintro e w4 ⟨rfl, hb4⟩; have hb04 := hb03.trans (hb4.mono hb03.size); obtain ⟨x0, x1, x2, x3⟩ := zcells ((hb04.block w.heap.size hlt1).trans HP1.out))
      | (go_at_call 9; refine (HFI.out _ hb04).mono ?_; rintro e w6 ⟨rfl, hb6⟩; have hb06 := hb04.trans (hb6.mono hb04.size); obtain ⟨u0, u1, u2, u3⟩ := zcells ((hb06.block w.heap.size hlt1).trans HP1.out))
      | (go_at_call 10; refine (HRE.out _ hb06).mono ?_; rintro e w7 ⟨rfl, hb7⟩; have hb07 := hb06.trans (hb7.mono hb06.size))
      | (go_at_call 11; refine (HLE.out _ hb07).mono ?_; rintro e w8 ⟨hb8, p0, p1, A8, n8, c8, rfl⟩; have hb08 := (hb07.trans (hb8.mono hb07.size)).alloc (hb07.trans (hb8.mono hb07.size)).size (.cells #[.int .i64 p0, .int .i64 p1, .slice A8 n8 c8] 25))
      | (go_at_call 7; refine (HAW.out _ hb08).mono ?_; rintro e wz ⟨rfl, hbz⟩))
    all_goals (go_ret; exact ⟨rfl, hb1.trans ((hb08.trans (hbz.mono hb08.size)).mono hb1.size)⟩)
  · subst h1
    subst g1
    subst g2
    clear HCF HCR HCE
    go_enter Tryz.func3, Tryz.ntmps3
    go_upto_region 2 with fail
    rw [← HW1.out]
    go_wp2_with (first
      | (go_at_call 4; refine (HVA.out _ hf0).mono ?_; rintro e w2 ⟨rfl, hb2⟩; obtain ⟨x0, x1, x2, x3⟩ := zcells ((hb2.block w.heap.size hlt1).trans HP1.out))
      | (go_at_call 5; refine (HGA.out _).mono ?_; rintro e w5 ⟨rfl, rfl⟩)
      | (go_at_call 6; refine (HHA.out _ hb2).mono ?_; rintro e w3 ⟨rfl, hb3⟩; have hb03 := hb2.trans (hb3.mono hb2.size))
      | (go_at_call 8; refine (HEX.out _ hb03).mono ?_; rintro e w4 ⟨rfl, hb4⟩; have hb04 := hb03.trans (hb4.mono hb03.size); obtain ⟨x0, x1, x2, x3⟩ := zcells ((hb04.block w.heap.size hlt1).trans HP1.out))
      | (go_at_call 9; refine (HFI.out _ hb04).mono ?_; rintro e w6 ⟨rfl, hb6⟩; have hb06 := hb04.trans (hb6.mono hb04.size); obtain ⟨u0, u1, u2, u3⟩ := zcells ((hb06.block w.heap.size hlt1).trans HP1.out))
      | (go_at_call 10; refine (HRE.out _ hb06).mono ?_; rintro e w7 ⟨rfl, hb7⟩; have hb07 := hb06.trans (hb7.mono hb06.size))
      | (go_at_call 11; refine (HLE.out _ hb07).mono ?_; rintro e w8 ⟨hb8, p0, p1, A8, n8, c8, rfl⟩; have hb08 := (hb07.trans (hb8.mono hb07.size)).alloc (hb07.trans (hb8.mono hb07.size)).size (.cells #[.int .i64 p0, .int .i64 p1, .slice A8 n8 c8] 25))
      | (go_at_call 7; refine (HAW.out _ hb08).mono ?_; rintro e wz ⟨rfl, hbz⟩))
    all_goals (go_ret; exact ⟨rfl, hb1.trans ((hb08.trans (hbz.mono hb08.size)).mono hb1.size)⟩)
  · subst h1
    subst g1
    subst f2
    subst f1
    clear HCF HCR HCE
    go_enter Tryz.func3, Tryz.ntmps3
    go_upto_region 2 with fail
    rw [← HW1.out]
    go_wp2_with (first
      | (go_at_call 4; refine (HVA.out _ hf0).mono ?_; rintro e w2 ⟨rfl, hb2⟩; obtain ⟨x0, x1, x2, x3⟩ := zcells ((hb2.block w.heap.size hlt1).trans HP1.out))
      | (go_at_call 5; refine (HGA.out _).mono ?_; rintro e w5 ⟨rfl, rfl⟩)
      | (go_at_call 6; refine (HHA.out _ hb2).mono ?_; rintro e w3 ⟨rfl, hb3⟩; have hb03 := hb2.trans (hb3.mono hb2.size))
      | (go_at_call 8; refine (HEX.out _ hb03).mono ?_; rintro e w4 ⟨rfl, hb4⟩; have hb04 := hb03.trans (hb4.mono hb03.size); obtain ⟨x0, x1, x2, x3⟩ := zcells ((hb04.block w.heap.size hlt1).trans HP1.out))
      | (go_at_call 9; refine (HFI.out _ hb04).mono ?_; rintro e w6 ⟨rfl, hb6⟩; have hb06 := hb04.trans (hb6.mono hb04.size); obtain ⟨u0, u1, u2, u3⟩ := zcells ((hb06.block w.heap.size hlt1).trans HP1.out))
      | (go_at_call 10; refine (HRE.out _ hb06).mono ?_; rintro e w7 ⟨rfl, hb7⟩; have hb07 := hb06.trans (hb7.mono hb06.size))
      | (go_at_call 11; refine (HLE.out _ hb07).mono ?_; rintro e w8 ⟨hb8, p0, p1, A8, n8, c8, rfl⟩; have hb08 := (hb07.trans (hb8.mono hb07.size)).alloc (hb07.trans (hb8.mono hb07.size)).size (.cells #[.int .i64 p0, .int .i64 p1, .slice A8 n8 c8] 25))
      | (go_at_call 7; refine (HAW.out _ hb08).mono ?_; rintro e wz ⟨rfl, hbz⟩))
    all_goals (go_ret; exact ⟨rfl, hb1.trans ((hb08.trans (hbz.mono hb08.size)).mono hb1.size)⟩)
  · subst h1
    subst g1
    clear HCF HCR HCE
    go_enter Tryz.func3, Tryz.ntmps3
    go_upto_region 2 with fail
    rw [← HW1.out]
    go_wp2_with (first
      | (go_at_call 4; refine (HVA.out _ hf0).mono ?_; rintro e w2 ⟨rfl, hb2⟩; obtain ⟨x0, x1, x2, x3⟩ := zcells ((hb2.block w.heap.size hlt1).trans HP1.out))
      | (go_at_call 5; refine (HGA.out _).mono ?_; rintro e w5 ⟨rfl, rfl⟩)
      | (go_at_call 6; refine (HHA.out _ hb2).mono ?_; rintro e w3 ⟨rfl, hb3⟩; have hb03 := hb2.trans (hb3.mono hb2.size))
      | (go_at_call 8; refine (HEX.out _ hb03).mono ?_; rintro e w4 ⟨rfl, hb4⟩; have hb04 := hb03.trans (hb4.mono hb03.size); obtain ⟨x0, x1, x2, x3⟩ := zcells ((hb04.block w.heap.size hlt1).trans HP1.out))
      | (go_at_call 9; refine (HFI.out _ hb04).mono ?_; rintro e w6 ⟨rfl, hb6⟩; have hb06 := hb04.trans (hb6.mono hb04.size); obtain ⟨u0, u1, u2, u3⟩ := zcells ((hb06.block w.heap.size hlt1).trans HP1.out))
      | (go_at_call 10; refine (HRE.out _ hb06).mono ?_; rintro e w7 ⟨rfl, hb7⟩; have hb07 := hb06.trans (hb7.mono hb06.size))
      | (go_at_call 11; refine (HLE.out _ hb07).mono ?_; rintro e w8 ⟨hb8, p0, p1, A8, n8, c8, rfl⟩; have hb08 := (hb07.trans (hb8.mono hb07.size)).alloc (hb07.trans (hb8.mono hb07.size)).size (.cells #[.int .i64 p0, .int .i64 p1, .slice A8 n8 c8] 25))
      | (go_at_call 7; refine (HAW.out _ hb08).mono ?_; rintro e wz ⟨rfl, hbz⟩))
    all_goals (go_ret; exact ⟨rfl, hb1.trans ((hb08.trans (hbz.mono hb08.size)).mono hb1.size)⟩)
  · subst h1
    subst g1
    subst g2
    clear f2
    subst f1
    clear HCF HCR HCE
    go_enter Tryz.func3, Tryz.ntmps3
    go_upto_region 2 with fail
    rw [← HW1.out]
    go_wp2_with (first
      | (go_at_call 4; refine (HVA.out _ hf0).mono ?_; rintro e w2 ⟨rfl, hb2⟩; obtain ⟨x0, x1, x2, x3⟩ := zcells ((hb2.block w.heap.size hlt1).trans HP1.out))
      | (go_at_call 5; refine (HGA.out _).mono ?_; rintro e w5 ⟨rfl, rfl⟩)
      | (go_at_call 6; refine (HHA.out _ hb2).mono ?_; rintro e w3 ⟨rfl, hb3⟩; have hb03 := hb2.trans (hb3.mono hb2.size))
      | (go_at_call 8; refine (HEX.out _ hb03).mono ?_; rintro e w4 ⟨rfl, hb4⟩; have hb04 := hb03.trans (hb4.mono hb03.size); obtain ⟨x0, x1, x2, x3⟩ := zcells ((hb04.block w.heap.size hlt1).trans HP1.out))
      | (go_at_call 9; refine (HFI.out _ hb04).mono ?_; rintro e w6 ⟨rfl, hb6⟩; have hb06 := hb04.trans (hb6.mono hb04.size); obtain ⟨u0, u1, u2, u3⟩ := zcells ((hb06.block w.heap.size hlt1).trans HP1.out))
      | (go_at_call 10; refine (HRE.out _ hb06).mono ?_; rintro e w7 ⟨rfl, hb7⟩; have hb07 := hb06.trans (hb7.mono hb06.size))
      | (go_at_call 11; refine (HLE.out _ hb07).mono ?_; rintro e w8 ⟨hb8, p0, p1, A8, n8, c8, rfl⟩; have hb08 := (hb07.trans (hb8.mono hb07.size)).alloc (hb07.trans (hb8.mono hb07.size)).size (.cells #[.int .i64 p0, .int .i64 p1, .slice A8 n8 c8] 25))
      | (go_at_call 7; refine (HAW.out _ hb08).mono ?_; rintro e wz ⟨rfl, hbz⟩))
    all_goals (go_ret; exact ⟨rfl, hb1.trans ((hb08.trans (hbz.mono hb08.size)).mono hb1.size)⟩)
  · subst h1
    subst g1
    subst g2
    clear HCF HCR HCE
    go_enter Tryz.func3, Tryz.ntmps3
    go_upto_region 2 with fail
    rw [← HW1.out]
    go_wp2_with (first
      | (go_at_call 4; refine (HVA.out _ hf0).mono ?_; rintro e w2 ⟨rfl, hb2⟩; obtain ⟨x0, x1, x2, x3⟩ := zcells ((hb2.block w.heap.size hlt1).trans HP1.out))
      | (go_at_call 5; refine (HGA.out _).mono ?_; rintro e w5 ⟨rfl, rfl⟩)
      | (go_at_call 6; refine (HHA.out _ hb2).mono ?_; rintro e w3 ⟨rfl, hb3⟩; have hb03 := hb2.trans (hb3.mono hb2.size))
      | (go_at_call 8; refine (HEX.out _ hb03).mono ?_; rintro e w4 ⟨rfl, hb4⟩; have hb04 := hb03.trans (hb4.mono hb03.size); obtain ⟨x0, x1, x2, x3⟩ := zcells ((hb04.block w.heap.size hlt1).trans HP1.out))
      | (go_at_call 9; refine (HFI.out _ hb04).mono ?_; rintro e w6 ⟨rfl, hb6⟩; have hb06 := hb04.trans (hb6.mono hb04.size); obtain ⟨u0, u1, u2, u3⟩ := zcells ((hb06.block w.heap.size hlt1).trans HP1.out))
      | (go_at_call 10; refine (HRE.out _ hb06).mono ?_; rintro e w7 ⟨rfl, hb7⟩; have hb07 := hb06.trans (hb7.mono hb06.size))
      | (go_at_call 11; refine (HLE.out _ hb07).mono ?_; rintro e w8 ⟨hb8, p0, p1, A8, n8, c8, rfl⟩; have hb08 := (hb07.trans (hb8.mono hb07.size)).alloc (hb07.trans (hb8.mono hb07.size)).size (.cells #[.int .i64 p0, .int .i64 p1, .slice A8 n8 c8] 25))
      | (go_at_call 7; refine (HAW.out _ hb08).mono ?_; rintro e wz ⟨rfl, hbz⟩))
    all_goals (go_ret; exact ⟨rfl, hb1.trans ((hb08.trans (hbz.mono hb08.size)).mono hb1.size)⟩)
  · subst h1
    subst g1
    subst f2
    subst f1
    clear HCF HCR HCE
    go_enter Tryz.func3, Tryz.ntmps3
    go_upto_region 2 with fail
    rw [← HW1.out]
    go_wp2_with (first
      | (go_at_call 4; refine (HVA.out _ hf0).mono ?_; rintro e w2 ⟨rfl, hb2⟩; obtain ⟨x0, x1, x2, x3⟩ := zcells ((hb2.block w.heap.size hlt1).trans HP1.out))
      | (go_at_call 5; refine (HGA.out _).mono ?_; rintro e w5 ⟨rfl, rfl⟩)
      | (go_at_call 6; refine (HHA.out _ hb2).mono ?_; rintro e w3 ⟨rfl, hb3⟩; have hb03 := hb2.trans (hb3.mono hb2.size))
      | (go_at_call 8; refine (HEX.out _ hb03).mono ?_; rintro e w4 ⟨rfl, hb4⟩; have hb04 := hb03.trans (hb4.mono hb03.size); obtain ⟨x0, x1, x2, x3⟩ := zcells ((hb04.block w.heap.size hlt1).trans HP1.out))
      | (go_at_call 9; refine (HFI.out _ hb04).mono ?_; rintro e w6 ⟨rfl, hb6⟩; have hb06 := hb04.trans (hb6.mono hb04.size); obtain ⟨u0, u1, u2, u3⟩ := zcells ((hb06.block w.heap.size hlt1).trans HP1.out))
      | (go_at_call 10; refine (HRE.out _ hb06).mono ?_; rintro e w7 ⟨rfl, hb7⟩; have hb07 := hb06.trans (hb7.mono hb06.size))
      | (go_at_call 11; refine (HLE.out _ hb07).mono ?_; rintro e w8 ⟨hb8, p0, p1, A8, n8, c8, rfl⟩; have hb08 := (hb07.trans (hb8.mono hb07.size)).alloc (hb07.trans (hb8.mono hb07.size)).size (.cells #[.int .i64 p0, .int .i64 p1, .slice A8 n8 c8] 25))
      | (go_at_call 7; refine (HAW.out _ hb08).mono ?_; rintro e wz ⟨rfl, hbz⟩))
    all_goals (go_ret; exact ⟨rfl, hb1.trans ((hb08.trans (hbz.mono hb08.size)).mono hb1.size)⟩)
  · subst h1
    subst g1
    clear HCF HCR HCE
    go_enter Tryz.func3, Tryz.ntmps3
    go_upto_region 2 with fail
    rw [← HW1.out]
    go_wp2_with (first
      | (go_at_call 4; refine (HVA.out _ hf0).mono ?_; rintro e w2 ⟨rfl, hb2⟩; obtain ⟨x0, x1, x2, x3⟩ := zcells ((hb2.block w.heap.size hlt1).trans HP1.out))
      | (go_at_call 5; refine (HGA.out _).mono ?_; rintro e w5 ⟨rfl, rfl⟩)
      | (go_at_call 6; refine (HHA.out _ hb2).mono ?_; rintro e w3 ⟨rfl, hb3⟩; have hb03 := hb2.trans (hb3.mono hb2.size))
      | (go_at_call 8; refine (HEX.out _ hb03).mono ?_; rintro e w4 ⟨rfl, hb4⟩; have hb04 := hb03.trans (hb4.mono hb03.size); obtain ⟨x0, x1, x2, x3⟩ := zcells ((hb04.block w.heap.size hlt1).trans HP1.out))
      | (go_at_call 9; refine (HFI.out _ hb04).mono ?_; rintro e w6 ⟨rfl, hb6⟩; have hb06 := hb04.trans (hb6.mono hb04.size); obtain ⟨u0, u1, u2, u3⟩ := zcells ((hb06.block w.heap.size hlt1).trans HP1.out))
      | (go_at_call 10; refine (HRE.out _ hb06).mono ?_; rintro e w7 ⟨rfl, hb7⟩; have hb07 := hb06.trans (hb7.mono hb06.size))
      | (go_at_call 11; refine (HLE.out _ hb07).mono ?_; rintro e w8 ⟨hb8, p0, p1, A8, n8, c8, rfl⟩; have hb08 := (hb07.trans (hb8.mono hb07.size)).alloc (hb07.trans (hb8.mono hb07.size)).size (.cells #[.int .i64 p0, .int .i64 p1, .slice A8 n8 c8] 25))
      | (go_at_call 7; refine (HAW.out _ hb08).mono ?_; rintro e wz ⟨rfl, hbz⟩))
    all_goals (go_ret; exact ⟨rfl, hb1.trans ((hb08.trans (hbz.mono hb08.size)).mono hb1.size)⟩)
  · subst h1
    subst g1
    subst g2
    clear f2
    subst f1
    clear HCF HCR HCE
    go_enter Tryz.func3, Tryz.ntmps3
    go_upto_region 2 with fail
    rw [← HW1.out]
    go_wp2_with (first
      | (go_at_call 4; refine (HVA.out _ hf0).mono ?_; rintro e w2 ⟨rfl, hb2⟩; obtain ⟨x0, x1, x2, x3⟩ := zcells ((hb2.block w.heap.size hlt1).trans HP1.out))
      | (go_at_call 5; refine (HGA.out _).mono ?_; rintro e w5 ⟨rfl, rfl⟩)
      | (go_at_call 6; refine (HHA.out _ hb2).mono ?_; rintro e w3 ⟨rfl, hb3⟩; have hb03 := hb2.trans (hb3.mono hb2.size))
      | (go_at_call 8; refine (HEX.out _ hb03).mono ?_; rintro e w4 ⟨rfl, hb4⟩; have hb04 := hb03.trans (hb4.mono hb03.size); obtain ⟨x0, x1, x2, x3⟩ := zcells ((hb04.block w.heap.size hlt1).trans HP1.out))
      | (go_at_call 9; refine (HFI.out _ hb04).mono ?_; rintro e w6 ⟨rfl, hb6⟩; have hb06 := hb04.trans (hb6.mono hb04.size); obtain ⟨u0, u1, u2, u3⟩ := zcells ((hb06.block w.heap.size hlt1).trans HP1.out))
      | (go_at_call 10; refine (HRE.out _ hb06).mono ?_; rintro e w7 ⟨rfl, hb7⟩; have hb07 := hb06.trans (hb7.mono hb06.size))
      | (go_at_call 11; refine (HLE.out _ hb07).mono ?_; rintro e w8 ⟨hb8, p0, p1, A8, n8, c8, rfl⟩; have hb08 := (hb07.trans (hb8.mono hb07.size)).alloc (hb07.trans (hb8.mono hb07.size)).size (.cells #[.int .i64 p0, .int .i64 p1, .slice A8 n8 c8] 25))
      | (go_at_call 7; refine (HAW.out _ hb08).mono ?_; rintro e wz ⟨rfl, hbz⟩))
    all_goals (go_ret; exact ⟨rfl, hb1.trans ((hb08.trans (hbz.mono hb08.size)).mono hb1.size)⟩)
  · subst h1
    subst g1
    subst g2
    clear HCF HCR HCE
    go_enter Tryz.func3, Tryz.ntmps3
    go_upto_region 2 with fail
    rw [← HW1.out]
    go_wp2_with (first
      | (go_at_call 4; refine (HVA.out _ hf0).mono ?_; rintro e w2 ⟨rfl, hb2⟩; obtain ⟨x0, x1, x2, x3⟩ := zcells ((hb2.block w.heap.size hlt1).trans HP1.out))
      | (go_at_call 5; refine (HGA.out _).mono ?_; rintro e w5 ⟨rfl, rfl⟩)
      | (go_at_call 6; refine (HHA.out _ hb2).mono ?_; rintro e w3 ⟨rfl, hb3⟩; have hb03 := hb2.trans (hb3.mono hb2.size))
      | (go_at_call 8; refine (HEX.out _ hb03).mono ?_; rintro e w4 ⟨rfl, hb4⟩; have hb04 := hb03.trans (hb4.mono hb03.size); obtain ⟨x0, x1, x2, x3⟩ := zcells ((hb04.block w.heap.size hlt1).trans HP1.out))
      | (go_at_call 9; refine (HFI.out _ hb04).mono ?_; rintro e w6 ⟨rfl, hb6⟩; have hb06 := hb04.trans (hb6.mono hb04.size); obtain ⟨u0, u1, u2, u3⟩ := zcells ((hb06.block w.heap.size hlt1).trans HP1.out))
      | (go_at_call 10; refine (HRE.out _ hb06).mono ?_; rintro e w7 ⟨rfl, hb7⟩; have hb07 := hb06.trans (hb7.mono hb06.size))
      | (go_at_call 11; refine (HLE.out _ hb07).mono ?_; rintro e w8 ⟨hb8, p0, p1, A8, n8, c8, rfl⟩; have hb08 := (hb07.trans (hb8.mono hb07.size)).alloc (hb07.trans (hb8.mono hb07.size)).size (.cells #[.int .i64 p0, .int .i64 p1, .slice A8 n8 c8] 25))
      | (go_at_call 7; refine (HAW.out _ hb08).mono ?_; rintro e wz ⟨rfl, hbz⟩))
    all_goals (go_ret; exact ⟨rfl, hb1.trans ((hb08.trans (hbz.mono hb08.size)).mono hb1.size)⟩)
  · subst h1
    subst g1
    subst h4
    clear f2
    subst f1
    clear HCF HCR HCE
    go_enter Tryz.func3, Tryz.ntmps3
    go_upto_region 2 with fail
    rw [← HW1.out]
    go_wp2_with (first
      | (go_at_call 4; refine (HVA.out _ hf0).mono ?_; rintro e w2 ⟨rfl, hb2⟩; obtain ⟨x0, x1, x2, x3⟩ := zcells ((hb2.block w.heap.size hlt1).trans HP1.out))
      | (go_at_call 5; refine (HGA.out _).mono ?_; rintro e w5 ⟨rfl, rfl⟩)
      | (go_at_call 6; refine (HHA.out _ hb2).mono ?_; rintro e w3 ⟨rfl, hb3⟩; have hb03 := hb2.trans (hb3.mono hb2.size))
      | (go_at_call 8; refine (HEX.out _ hb03).mono ?_; rintro e w4 ⟨rfl, hb4⟩; have hb04 := hb03.trans (hb4.mono hb03.size); obtain ⟨x0, x1, x2, x3⟩ := zcells ((hb04.block w.heap.size hlt1).trans HP1.out))
      | (go_at_call 9; refine (HFI.out _ hb04).mono ?_; rintro e w6 ⟨rfl, hb6⟩; have hb06 := hb04.trans (hb6.mono hb04.size); obtain ⟨u0, u1, u2, u3⟩ := zcells ((hb06.block w.heap.size hlt1).trans HP1.out))
      | (go_at_call 10; refine (HRE.out _ hb06).mono ?_; rintro e w7 ⟨rfl, hb7⟩; have hb07 := hb06.trans (hb7.mono hb06.size))
      | (go_at_call 11; refine (HLE.out _ hb07).mono ?_; rintro e w8 ⟨hb8, p0, p1, A8, n8, c8, rfl⟩; have hb08 := (hb07.trans (hb8.mono hb07.size)).alloc (hb07.trans (hb8.mono hb07.size)).size (.cells #[.int .i64 p0, .int .i64 p1, .slice A8 n8 c8] 25))
      | (go_at_call 7; refine (HAW.out _ hb08).mono ?_; rintro e wz ⟨rfl, hbz⟩))
    all_goals (go_ret; exact ⟨rfl, hb1.trans ((hb08.trans (hbz.mono hb08.size)).mono hb1.size)⟩)
  · subst h1
    subst g1
    subst h4
    clear HCF HCR HCE
    go_enter Tryz.func3, Tryz.ntmps3
    go_upto_region 2 with fail
    rw [← HW1.out]
    go_wp2_with (first
      | (go_at_call 4; refine (HVA.out _ hf0).mono ?_; rintro e w2 ⟨rfl, hb2⟩; obtain ⟨x0, x1, x2, x3⟩ := zcells ((hb2.block w.heap.size hlt1).trans HP1.out))
      | (go_at_call 5; refine (HGA.out _).mono ?_; rintro e w5 ⟨rfl, rfl⟩)
      | (go_at_call 6; refine (HHA.out _ hb2).mono ?_; rintro e w3 ⟨rfl, hb3⟩; have hb03 := hb2.trans (hb3.mono hb2.size))
      | (go_at_call 8; refine (HEX.out _ hb03).mono ?_; rintro e w4 ⟨rfl, hb4⟩; have hb04 := hb03.trans (hb4.mono hb03.size); obtain ⟨x0, x1, x2, x3⟩ := zcells ((hb04.block w.heap.size hlt1).trans HP1.out))
      | (go_at_call 9; refine (HFI.out _ hb04).mono ?_; rintro e w6 ⟨rfl, hb6⟩; have hb06 := hb04.trans (hb6.mono hb04.size); obtain ⟨u0, u1, u2, u3⟩ := zcells ((hb06.block w.heap.size hlt1).trans HP1.out))
      | (go_at_call 10; refine (HRE.out _ hb06).mono ?_; rintro e w7 ⟨rfl, hb7⟩; have hb07 := hb06.trans (hb7.mono hb06.size))
      | (go_at_call 11; refine (HLE.out _ hb07).mono ?_; rintro e w8 ⟨hb8, p0, p1, A8, n8, c8, rfl⟩; have hb08 := (hb07.trans (hb8.mono hb07.size)).alloc (hb07.trans (hb8.mono hb07.size)).size (.cells #[.int .i64 p0, .int .i64 p1, .slice A8 n8 c8] 25))
      | (go_at_call 7; refine (HAW.out _ hb08).mono ?_; rintro e wz ⟨rfl, hbz⟩))
    all_goals (go_ret; exact ⟨rfl, hb1.trans ((hb08.trans (hbz.mono hb08.size)).mono hb1.size)⟩)
  · subst h1
    subst g1
    subst h4
    clear g2
    clear f2
    subst f1
    clear HCF HCR HCE
    go_enter Tryz.func3, Tryz.ntmps3
    go_upto_region 2 with fail
    rw [← HW1.out]
    go_wp2_with (first
      | (go_at_call 4; refine (HVA.out _ hf0).mono ?_; rintro e w2 ⟨rfl, hb2⟩; obtain ⟨x0, x1, x2, x3⟩ := zcells ((hb2.block w.heap.size hlt1).trans HP1.out))
      | (go_at_call 5; refine (HGA.out _).mono ?_; rintro e w5 ⟨rfl, rfl⟩)
      | (go_at_call 6; refine (HHA.out _ hb2).mono ?_; rintro e w3 ⟨rfl, hb3⟩; have hb03 := hb2.trans (hb3.mono hb2.size))
      | (go_at_call 8; refine (HEX.out _ hb03).mono ?_; rintro e w4 ⟨rfl, hb4⟩; have hb04 := hb03.trans (hb4.mono hb03.size); obtain ⟨x0, x1, x2, x3⟩ := zcells ((hb04.block w.heap.size hlt1).trans HP1.out))
      | (go_at_call 9; refine (HFI.out _ hb04).mono ?_; rintro e w6 ⟨rfl, hb6⟩; have hb06 := hb04.trans (hb6.mono hb04.size); obtain ⟨u0, u1, u2, u3⟩ := zcells ((hb06.block w.heap.size hlt1).trans HP1.out))
      | (go_at_call 10; refine (HRE.out _ hb06).mono ?_; rintro e w7 ⟨rfl, hb7⟩; have hb07 := hb06.trans (hb7.mono hb06.size))
      | (go_at_call 11; refine (HLE.out _ hb07).mono ?_; rintro e w8 ⟨hb8, p0, p1, A8, n8, c8, rfl⟩; have hb08 := (hb07.trans (hb8.mono hb07.size)).alloc (hb07.trans (hb8.mono hb07.size)).size (.cells #[.int .i64 p0, .int .i64 p1, .slice A8 n8 c8] 25))
      | (go_at_call 7; refine (HAW.out _ hb08).mono ?_; rintro e wz ⟨rfl, hbz⟩))
    all_goals (go_ret; exact ⟨rfl, hb1.trans ((hb08.trans (hbz.mono hb08.size)).mono hb1.size)⟩)
  · subst h1
    subst g1
    subst h4
    clear g2
    clear HCF HCR HCE
    go_enter Tryz.func3, Tryz.ntmps3
    go_upto_region 2 with fail
    rw [← HW1.out]
    go_wp2_with (first
      | (go_at_call 4; refine (HVA.out _ hf0).mono ?_; rintro e w2 ⟨rfl, hb2⟩; obtain ⟨x0, x1, x2, x3⟩ := zcells ((hb2.block w.heap.size hlt1).trans HP1.out))
      | (go_at_call 5; refine (HGA.out _).mono ?_; rintro e w5 ⟨rfl, rfl⟩)
      | (go_at_call 6; refine (HHA.out _ hb2).mono ?_; rintro e w3 ⟨rfl, hb3⟩; have hb03 := hb2.trans (hb3.mono hb2.size))
      | (go_at_call 8; refine (HEX.out _ hb03).mono ?_; rintro e w4 ⟨rfl, hb4⟩; have hb04 := hb03.trans (hb4.mono hb03.size); obtain ⟨x0, x1, x2, x3⟩ := zcells ((hb04.block w.heap.size hlt1).trans HP1.out))
      | (go_at_call 9; refine (HFI.out _ hb04).mono ?_; rintro e w6 ⟨rfl, hb6⟩; have hb06 := hb04.trans (hb6.mono hb04.size); obtain ⟨u0, u1, u2, u3⟩ := zcells ((hb06.block w.heap.size hlt1).trans HP1.out))
      | (go_at_call 10; refine (HRE.out _ hb06).mono ?_; rintro e w7 ⟨rfl, hb7⟩; have hb07 := hb06.trans (hb7.mono hb06.size))
      | (go_at_call 11; refine (HLE.out _ hb07).mono ?_; rintro e w8 ⟨hb8, p0, p1, A8, n8, c8, rfl⟩; have hb08 := (hb07.trans (hb8.mono hb07.size)).alloc (hb07.trans (hb8.mono hb07.size)).size (.cells #[.int .i64 p0, .int .i64 p1, .slice A8 n8 c8] 25))
      | (go_at_call 7; refine (HAW.out _ hb08).mono ?_; rintro e wz ⟨rfl, hbz⟩))
    all_goals (go_ret; exact ⟨rfl, hb1.trans ((hb08.trans (hbz.mono hb08.size)).mono hb1.size)⟩)
end
end Go.Proofs.YthjponagoahdhaaGreatDoor

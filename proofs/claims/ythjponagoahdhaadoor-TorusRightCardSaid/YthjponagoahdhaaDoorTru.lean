/-
  groutworklaw03.TorusRight returns true, for every set and numbers.
-/
import Derived.Test.YthjponagoahdhaaDoorTrw
import Derived.Test.YthjponagoahdhaaDoorRc
import Derived.Test.YthjponagoahdhaaDoorK
namespace Go.Proofs.YthjponagoahdhaaDoor
open Go.RowKit Go.Maps Go.BigFrame Go.Sort
set_option linter.unusedVariables false
set_option linter.unusedSimpArgs false
set_option maxRecDepth 100000

theorem flat_len_rowV : ∀ (rs : List (List Nat)) (x : Nat), (∀ r ∈ rs, r.length = x) → rs.flatten.length = rs.length * x
  | [], x, _ => by simp
  | r :: rs, x, h => by
    rw [List.flatten_cons, List.length_append, h r (by simp), flat_len_rowV rs x (fun q hq => h q (by simp [hq])), List.length_cons, Nat.add_mul]
    omega
theorem ptI_ptM {w h : Nat} {t : List (List Nat)} (ht : Shaped w h t) : ptI w h t.flatten = ptM w h (cl t) := by
  have hl : t.flatten.length = w * h := by rw [flat_len_rowV t w ht.2, ht.1, Nat.mul_comm]
  have e : (t.flatten.map fun i : Nat => (i : Int)) = (List.range (w * h)).map fun i => ((cl t (i % w) (i / w) : Nat) : Int) := by
    refine List.ext_getElem (by rw [List.length_map, List.length_map, List.length_range, hl]) fun i h1 h2 => ?_
    have hi : i < w * h := by simpa using h2
    rcases Nat.eq_zero_or_pos w with e0 | e0
    · rw [e0, Nat.zero_mul] at hi; omega
    · have hx : i % w < w := Nat.mod_lt _ e0
      have hy : i / w < h := by rw [Nat.div_lt_iff_lt_mul e0, Nat.mul_comm]; exact hi
      have h3 := ptI_cel ht hx hy
      have h4 : i / w * w + i % w = i := by rw [Nat.mul_comm]; exact Nat.div_add_mod i w
      unfold cel ptI at h3
      simp only [Int.toNat_natCast] at h3
      rw [h4, List.getD_eq_getElem?_getD, List.getElem?_eq_getElem h1] at h3
      simpa using h3
  unfold ptI ptM
  rw [e]
/-- a torus that is found is one -/
theorem tors_repsI {s : List Tl} {w h : Nat} {t : List (List Nat)} (hv : vld s = true) (hw : 1 ≤ w) (hh : 1 ≤ h) (hwh : w * h ≤ 40000) (ht : t ∈ torsE s w h) : reps s (ptI w h t.flatten) = true := by
  rw [ptI_ptM ((mem_torsE s w h hw hh t).1 ht).1]
  exact tors_reps hv hw hh hwh ht
theorem tors_flat {s : List Tl} {w h : Nat} {t : List (List Nat)} (hw : 1 ≤ w) (hh : 1 ≤ h) (ht : t ∈ torsE s w h) : t.flatten.length = w * h := by
  have hs := ((mem_torsE s w h hw hh t).1 ht).1
  rw [flat_len_rowV t w hs.2, hs.1, Nat.mul_comm]
/-- a torus, repeated along its sides, is a torus -/
theorem reps_win {s : List Tl} {p : Pt} {a b i j : Nat} (h : reps s p = true) (ha : p.w = a) (hb : p.h = b) (hi : 1 ≤ i) (hj : 1 ≤ j) (hs : a * i * (b * j) ≤ 40000) : reps s (win p 0 0 (a * i) (b * j)) = true := by
  obtain ⟨a', b', ha', hb', h1, h2, g⟩ := reps_good h
  have ea : a' = a := by rw [ha] at ha'; omega
  have eb : b' = b := by rw [hb] at hb'; omega
  subst ea
  subst eb
  simp only [reps, Bool.and_eq_true] at h
  have hr := (g.times h1 h2 i j).reps h.1 (Nat.mul_pos h1 hi) (Nat.mul_pos h2 hj) hs
  have e : win p 0 0 (a' * i) (b' * j) = ptM (a' * i) (b' * j) fun x y => (cel p (x % a') (y % b')).toNat := by
    unfold win ptM
    congr 1
    refine List.map_congr_left fun k hk => ?_
    have hc := refers_cel h.2.1 h.2.2.1 (k % (a' * i) % a') (k / (a' * i) % b') (by rw [ha, Int.toNat_natCast]; exact Nat.mod_lt _ h1) (by rw [hb, Int.toNat_natCast]; exact Nat.mod_lt _ h2)
    rw [ha, hb, Int.toNat_natCast, Int.toNat_natCast, Nat.zero_add, Nat.zero_add, Int.toNat_of_nonneg hc.1]
  rw [e]
  exact hr
theorem is_any (s : List Tl) (S A : Option Addr) (m d n c : Nat) (a b : Int) (cs : List Int) (w : World) (hm : m = s.length) (hmd : m ≤ d) (hml : d ≤ 9223372036854775807) (hn : n = cs.length) (hnl : n ≤ 9223372036854775807)
    (hr : reps s ⟨a, b, cs⟩ = true) (hS : SetIn w w.heap.size S s) (hP : IntsIn w w.heap.size A cs) :
    Calls Tryd.prog 17 #[.slice S m d, .agg #[.int .i64 a, .int .i64 b, .slice A n c]] w fun e w' => e = .returned (.bool true) ∧ Below w.heap.size w w' := by
  obtain ⟨W1, hW1⟩ : ∃ W1, W1 = w.alloc (.cells #[.int .i64 a, .int .i64 b, .slice A n c] 27) := ⟨_, rfl⟩
  have hb1 : Below w.heap.size w W1 := by rw [hW1]; exact (Below.refl _ _).alloc (Nat.le_refl _) _
  have hp1 : W1.heap[w.heap.size]? = some (.cells #[.int .i64 a, .int .i64 b, .slice A n c] 27 (0, 0)) := by rw [hW1]; exact heap_at _ _ _ rfl
  have hval := rvalid_any s S m d W1 hm hmd hml (hS.keep hb1 hb1.size)
  have hr0 : (vld s && ofr a b s ⟨a, b, cs⟩) = true := hr
  rw [Bool.and_eq_true] at hr0
  replace hr := hr0
  rw [hr.1] at hval
  have hto := fun (W : World) (hb : Below w.heap.size w W) => rtorus_any a b cs s A S m n c d true W hm hn hr.2 (hS.keep hb hb.size) (hP.keep hb hb.size) (by omega) hnl
  have HTO := Lib.hid hto
  have HW1 := Lib.hid hW1
  have HP1 := Lib.hid hp1
  clear hr hto hS hP hm hn hW1 hp1
  go_enter Tryd.func17, Tryd.ntmps17
  go_wp2_with (first
    | (go_at_call 8; rw [← HW1.out]; refine hval.mono ?_; rintro e w2 ⟨rfl, hb2⟩; have hb02 := hb1.trans (hb2.mono hb1.size); obtain ⟨y0, y1, y2, y3⟩ := zcells ((hb2.block w.heap.size (Array.getElem?_eq_some_iff.1 HP1.out).1).trans HP1.out))
    | (go_at_call 32; refine (HTO.out _ hb02).mono ?_; rintro e w3 ⟨rfl, hb3⟩)
    | fail)
  go_ret
  exact ⟨rfl, hb02.trans (hb3.mono hb02.size)⟩
/-- Find, where it returns a torus -/
def IsFindS (s : List Tl) (x k : Nat) (W : World) (e : Ending) (w' : World) : Prop :=
  ∃ A c cs, e = .returned (.tuple #[.agg #[.int .i64 (x : Int), .int .i64 (k : Int), .slice A (x * k) c], .int .i64 0]) ∧ IntsIn w' w'.heap.size A cs ∧ Hid (reps s ⟨(x : Int), (k : Int), cs⟩ = true) ∧ Hid (x * k = cs.length) ∧ Below W.heap.size W w'
theorem findS_any (s : List Tl) (S : Option Addr) (m d x k : Nat) (w : World) (hm : m = s.length) (hS : SetIn w w.heap.size S s) (hwf : ∀ t ∈ s, twf t) (hml : m ≤ 1000) (hc : tcheckE s (x : Int) (k : Int) = 0) (ht : torsE s x k ≠ []) :
    Calls Tryd.prog 9 #[.slice S m d, .int .i64 (x : Int), .int .i64 (k : Int)] w (IsFindS s x k w) := by
  refine (find_anyT s S m d x k w hm hS hwf (by omega)).mono ?_
  rintro e w' ⟨hb, hr⟩
  obtain ⟨hv, h1, h2, h3, h4, -⟩ := tcheck_ok hc
  have hwh : x * k ≤ 40000 := by have : x * k ≤ 6 * 6 := Nat.mul_le_mul (by omega) (by omega); omega
  rw [if_neg (fun hne => hne hc), Int.toNat_natCast, Int.toNat_natCast] at hr
  cases hd : torsE s x k with
  | nil => exact absurd hd ht
  | cons t l =>
    rw [hd] at hr
    obtain ⟨A, c, he, hI⟩ := hr
    have hmem : t ∈ torsE s x k := by rw [hd]; simp
    have hl := tors_flat (by omega) (by omega) hmem
    rw [hl] at he
    exact ⟨A, c, _, he, hI, tors_repsI hv (by omega) (by omega) hwh hmem, by show _ = _; unfold idxI; rw [List.length_map, hl], hb⟩
theorem findN_any (s : List Tl) (S : Option Addr) (m d x k : Nat) (w : World) (hm : m = s.length) (hS : SetIn w w.heap.size S s) (hwf : ∀ t ∈ s, twf t) (hml : m ≤ 1000) (hc : tcheckE s (x : Int) (k : Int) = 0) (ht : torsE s x k = []) :
    Calls Tryd.prog 9 #[.slice S m d, .int .i64 (x : Int), .int .i64 (k : Int)] w fun e w' => e = .returned (.tuple #[.agg #[.int .i64 0, .int .i64 0, .slice none 0 0], .int .i64 6]) ∧ Below w.heap.size w w' := by
  refine (find_anyT s S m d x k w hm hS hwf (by omega)).mono ?_
  rintro e w' ⟨hb, hr⟩
  rw [if_neg (fun hne => hne hc), Int.toNat_natCast, Int.toNat_natCast, ht] at hr
  exact ⟨hr, hb⟩
/-- Find, where there are too many rows -/
theorem findM_any (s : List Tl) (S : Option Addr) (m d x k : Nat) (w : World) (hm : m = s.length) (hS : SetIn w w.heap.size S s) (hwf : ∀ t ∈ s, twf t) (hml : m ≤ 1000) (hc : tcheckE s (x : Int) (k : Int) = 4) :
    Calls Tryd.prog 9 #[.slice S m d, .int .i64 (x : Int), .int .i64 (k : Int)] w fun e w' => e = .returned (.tuple #[.agg #[.int .i64 0, .int .i64 0, .slice none 0 0], .int .i64 4]) ∧ Below w.heap.size w w' := by
  refine (find_anyT s S m d x k w hm hS hwf (by omega)).mono ?_
  rintro e w' ⟨hb, hr⟩
  rw [if_pos (by rw [hc]; decide), hc] at hr
  exact ⟨hr, hb⟩
theorem tcheck_many {s : List Tl} {x k : Nat} (hv : vld s = true) (hx1 : 1 ≤ x) (hx6 : x ≤ 6) (hk1 : 1 ≤ k) (hk6 : k ≤ 6) (ht : tooM s.length x = true) : tcheckE s (x : Int) (k : Int) = 4 := by
  unfold tcheckE perB
  have e1 : decide ((1 : Int) ≤ (x : Int)) = true := decide_eq_true (by omega)
  have e2 : decide ((x : Int) ≤ 6) = true := decide_eq_true (by omega)
  have e3 : decide ((1 : Int) ≤ (k : Int)) = true := decide_eq_true (by omega)
  have e4 : decide ((k : Int) ≤ 6) = true := decide_eq_true (by omega)
  rw [hv, e1, e2, e3, e4, Int.toNat_natCast, ht]
  simp
/-- Least, where it returns a torus -/
def IsLeastS (s : List Tl) (a b : Nat) (W : World) (e : Ending) (w' : World) : Prop :=
  ∃ A c cs, e = .returned (.tuple #[.agg #[.int .i64 (a : Int), .int .i64 (b : Int), .slice A (a * b) c], .int .i64 0]) ∧ IntsIn w' w'.heap.size A cs ∧ Hid (reps s ⟨(a : Int), (b : Int), cs⟩ = true) ∧ Hid (a * b = cs.length) ∧ Below W.heap.size W w'
theorem leastS_any (s : List Tl) (S : Option Addr) (m d k a b : Nat) (t : List (List Nat)) (w : World) (hm : m = s.length) (hS : SetIn w w.heap.size S s) (hwf : ∀ t ∈ s, twf t) (hml : m ≤ 1000) (hc : tcheckE s (k : Int) (k : Int) = 0) (hl : leastE s k = some (a, b, t)) :
    Calls Tryd.prog 15 #[.slice S m d, .int .i64 (k : Int)] w (IsLeastS s a b w) := by
  refine (least_anyT s S m d k w hm hS hwf (by omega)).mono ?_
  rintro e w' ⟨hb, hr⟩
  obtain ⟨hv, h1, h2, -, -, -⟩ := tcheck_ok hc
  obtain ⟨g1, g2, g3, g4, g5, -⟩ := leastE_some hl
  have hmem : t ∈ torsE s a b := List.mem_of_mem_head? (by rw [g5]; rfl)
  have hwh : a * b ≤ 40000 := by have : a * b ≤ 6 * 6 := Nat.mul_le_mul (by omega) (by omega); omega
  have hfl := tors_flat g1 g3 hmem
  rw [if_neg (fun hne => hne hc), Int.toNat_natCast, hl] at hr
  obtain ⟨A, c, he, hI⟩ := hr
  rw [hfl] at he
  exact ⟨A, c, _, he, hI, tors_repsI hv g1 g3 hwh hmem, by show _ = _; unfold idxI; rw [List.length_map, hfl], hb⟩
theorem leastN_any (s : List Tl) (S : Option Addr) (m d k : Nat) (w : World) (hm : m = s.length) (hS : SetIn w w.heap.size S s) (hwf : ∀ t ∈ s, twf t) (hml : m ≤ 1000) (hc : tcheckE s (k : Int) (k : Int) = 0) (hl : leastE s k = none) :
    Calls Tryd.prog 15 #[.slice S m d, .int .i64 (k : Int)] w fun e w' => e = .returned (.tuple #[.agg #[.int .i64 0, .int .i64 0, .slice none 0 0], .int .i64 6]) ∧ Below w.heap.size w w' := by
  refine (least_anyT s S m d k w hm hS hwf (by omega)).mono ?_
  rintro e w' ⟨hb, hr⟩
  rw [if_neg (fun hne => hne hc), Int.toNat_natCast, hl] at hr
  exact ⟨hr, hb⟩
set_option maxHeartbeats 40000000 in
theorem toright_any (s : List Tl) (S : Option Addr) (m cp a b c : Nat) (w : World) (hEnv : Env w) (hm : m = s.length) (hmd : m ≤ cp) (hdl : cp ≤ 9223372036854775807) (hS : SetIn w w.heap.size S s) (hwf : ∀ t ∈ s, twf t) (hml : m ≤ 9223372036854775807) (ha : a ≤ 255) (hb : b ≤ 255) (hcc : c ≤ 255) :
    Calls Tryd.prog 5 #[.slice S m cp, .int .u8 a, .int .u8 b, .int .u8 c] w fun e w' => e = .returned (.bool true) ∧ Below w.heap.size w w' := by
  have HAW : Hid (∀ W, Below w.heap.size w W → Calls Tryd.prog 7 #[] W fun e w' => e = .returned (.bool true) ∧ Below W.heap.size W w') := fun W hb => awake3_any W (hEnv.keep hb)
  obtain ⟨x, hx⟩ : ∃ x, x = 1 + a % 4 := ⟨_, rfl⟩
  obtain ⟨h, hh⟩ : ∃ h, h = 1 + b % 4 := ⟨_, rfl⟩
  obtain ⟨mo, hmo⟩ : ∃ mo, mo = 1 + c % 4 := ⟨_, rfl⟩
  have hx1 : 1 ≤ x := by omega
  have hx4 : x ≤ 4 := by omega
  have hh1 : 1 ≤ h := by omega
  have hh4 : h ≤ 4 := by omega
  have hm1 : 1 ≤ mo := by omega
  have hm4 : mo ≤ 4 := by omega
  have ex : IntKind.i64.wrap ((1 : Int) + (a : Int) % 4) = (x : Int) := by rw [IntWalk.i64_in _ (by omega)]; omega
  have eh : IntKind.i64.wrap ((1 : Int) + (b : Int) % 4) = (h : Int) := by rw [IntWalk.i64_in _ (by omega)]; omega
  have em : IntKind.i64.wrap ((1 : Int) + (c : Int) % 4) = (mo : Int) := by rw [IntWalk.i64_in _ (by omega)]; omega
  clear hx hh hmo
  have hvA := fun (W : World) (hb : Below w.heap.size w W) => rvalid_any s S m cp W hm hmd hdl (hS.keep hb hb.size)
  by_cases c1 : m ≤ 6
  rotate_left
  · clear hm hS hwf hEnv hvA
    go_enter Tryd.func5, Tryd.ntmps5
    go_upto_region 2 with fail
    go_wp2_with (go_at_call 7; refine (HAW.out _ (Below.refl _ _)).mono ?_; rintro e w2 ⟨rfl, hb2⟩)
    go_ret
    exact ⟨rfl, hb2⟩
  cases hV : vld s
  · rw [hV] at hvA
    have HVA := Lib.hid hvA
    clear hm hS hwf hEnv hvA hV
    go_enter Tryd.func5, Tryd.ntmps5
    go_upto_region 2 with fail
    go_wp2_with (first
      | (go_at_call 8; refine (HVA.out _ (Below.refl _ _)).mono ?_; rintro e w1 ⟨rfl, hb1⟩)
      | (go_at_call 7; refine (HAW.out _ hb1).mono ?_; rintro e w2 ⟨rfl, hb2⟩))
    go_ret
    exact ⟨rfl, hb1.trans (hb2.mono hb1.size)⟩
  rw [hV] at hvA
  have HVA := Lib.hid hvA
  have htm : tooM s.length x = false := by rw [← hm]; exact few_tiles c1 hx4
  have htm2 : tooM s.length mo = false := by rw [← hm]; exact few_tiles c1 hm4
  have hc1 := tcheck_few hV hx1 (by omega) hh1 (by omega) htm
  have hc2 := tcheck_few hV hm1 (by omega) hm1 (by omega) htm2
  have HIS : Hid (∀ (A : Option Addr) (n c : Nat) (p q : Int) (cs : List Int) (W : World), Below w.heap.size w W → n = cs.length → n ≤ 9223372036854775807 → reps s ⟨p, q, cs⟩ = true → IntsIn W W.heap.size A cs → Calls Tryd.prog 17 #[.slice S m cp, .agg #[.int .i64 p, .int .i64 q, .slice A n c]] W fun e w' => e = .returned (.bool true) ∧ Below W.heap.size W w') :=
    fun A n c p q cs W hb hn hnl hr hI => is_any s S A m cp n c p q cs W hm hmd hdl hn hnl hr (hS.keep hb hb.size) hI
  have HFA : Hid (∀ (W : World) (av bv i j : Nat), Below w.heap.size w W → av = x * i → bv = h * j → 1 ≤ i → 1 ≤ j → av ≤ 6 → bv ≤ 6 → tooM m av = false → torsE s x h ≠ [] → Calls Tryd.prog 9 #[.slice S m cp, .int .i64 (av : Int), .int .i64 (bv : Int)] W (IsFindS s av bv W)) := fun W av bv i j hb e1 e2 hi hj h6 h6' htf hne => by
    have g1 : 1 ≤ av := by rw [e1]; exact Nat.mul_pos hx1 hi
    have g2 : 1 ≤ bv := by rw [e2]; exact Nat.mul_pos hh1 hj
    exact findS_any s S m cp av bv W hm (hS.keep hb hb.size) hwf (by omega) (tcheck_few hV g1 h6 g2 h6' (by rw [← hm]; exact htf)) (by rw [e1, e2]; exact tors_times hx1 hh1 hne i j hi hj)
  have HFB : Hid (∀ (W : World) (av bv : Nat), Below w.heap.size w W → 1 ≤ av → 1 ≤ bv → av ≤ 6 → bv ≤ 6 → tooM m av = true → Calls Tryd.prog 9 #[.slice S m cp, .int .i64 (av : Int), .int .i64 (bv : Int)] W fun e w' => e = .returned (.tuple #[.agg #[.int .i64 0, .int .i64 0, .slice none 0 0], .int .i64 4]) ∧ Below W.heap.size W w') := fun W av bv hb g1 g2 h6 h6' htf =>
    findM_any s S m cp av bv W hm (hS.keep hb hb.size) hwf (by omega) (tcheck_many hV g1 h6 g2 h6' (by rw [← hm]; exact htf))
  have HRP : Hid (∀ (W : World) (B : Option Addr) (n c : Nat) (p q : Int) (cs : List Int), Below w.heap.size w W → n = cs.length → n ≤ 9223372036854775807 → IntsIn W W.heap.size B cs → Calls Tryd.prog 19 #[.slice S m cp, .agg #[.int .i64 p, .int .i64 q, .slice B n c]] W fun e w' => e = .returned (.bool (reps s ⟨p, q, cs⟩)) ∧ Below W.heap.size W w') :=
    fun W B n c p q cs hb hn hnl hI => repeats_any p q cs s B S m n c cp W hm hn (hS.keep hb hb.size) hI hwf (by omega) hnl
  cases hle : leastE s mo with
  | none =>
    have hL := fun (W : World) (hb : Below w.heap.size w W) => leastN_any s S m cp mo W hm (hS.keep hb hb.size) hwf (by omega) hc2 hle
    have HL := Lib.hid hL
    by_cases ht : torsE s x h = []
    · have hF := fun (W : World) (hb : Below w.heap.size w W) => findN_any s S m cp x h W hm (hS.keep hb hb.size) hwf (by omega) hc1 ht
      have HF := Lib.hid hF
      clear hm hS hwf hEnv hvA hV htm htm2 hc1 hc2 hle hL ht hF HIS
      go_enter Tryd.func5, Tryd.ntmps5
      go_upto_region 2 with fail
      go_wp2_with (first
        | (go_at_call 8; refine (HVA.out _ (Below.refl _ _)).mono ?_; rintro e w1 ⟨rfl, hb1⟩)
        | (go_at_call 9; refine (HF.out _ hb1).mono ?_; rintro e w2 ⟨rfl, hb2⟩; have hb02 := (hb1.trans (hb2.mono hb1.size)).alloc (hb1.trans (hb2.mono hb1.size)).size (.cells #[.int .i64 0, .int .i64 0, .slice none 0 0] 27))
        | (go_at_call 15; refine (HL.out _ hb02).mono ?_; rintro e w3 ⟨rfl, hb3⟩; have hb03 := (hb02.trans (hb3.mono hb02.size)).alloc (hb02.trans (hb3.mono hb02.size)).size (.cells #[.int .i64 0, .int .i64 0, .slice none 0 0] 27))
        | (go_at_call 7; refine (HAW.out _ hb03).mono ?_; rintro e w4 ⟨rfl, hb4⟩))
      go_ret
      exact ⟨rfl, hb03.trans (hb4.mono hb03.size)⟩
    · have hF := fun (W : World) (hb : Below w.heap.size w W) => findS_any s S m cp x h W hm (hS.keep hb hb.size) hwf (by omega) hc1 ht
      have hF0 : ¬ (x ≤ mo ∧ h ≤ mo) := fun hxh => ht (leastE_none hle hx1 hxh.1 hh1 hxh.2)
      have HF := Lib.hid hF
      have HNE := Lib.hid ht
      have HVS := Lib.hid hV
      clear hm hS hwf hEnv hvA hV htm htm2 hc1 hc2 hle hL ht hF
      go_enter Tryd.func5, Tryd.ntmps5
      go_upto_region 2 with fail
      go_wp2_with (first
        | (go_at_call 8; refine (HVA.out _ (Below.refl _ _)).mono ?_; rintro e w1 ⟨rfl, hb1⟩)
        | (go_at_call 9; refine (HF.out _ hb1).mono ?_; rintro e w2 ⟨Ap, cp', csp, rfl, hIp, HRp, HLp, hb2⟩; have hb02 := (hb1.trans (hb2.mono hb1.size)).alloc (hb1.trans (hb2.mono hb1.size)).size (.cells #[.int .i64 (x : Int), .int .i64 (h : Int), .slice Ap (x * h) cp'] 27); have hp2 := heap_at w2 (.cells #[.int .i64 (x : Int), .int .i64 (h : Int), .slice Ap (x * h) cp'] 27) _ rfl)
        | (go_at_call 15; refine (HL.out _ hb02).mono ?_; rintro e w3 ⟨rfl, hb3⟩; have hb03 := (hb02.trans (hb3.mono hb02.size)).alloc (hb02.trans (hb3.mono hb02.size)).size (.cells #[.int .i64 0, .int .i64 0, .slice none 0 0] 27); have hb23 := (((Below.refl _ w2).alloc (Nat.le_refl _) (.cells #[.int .i64 (x : Int), .int .i64 (h : Int), .slice Ap (x * h) cp'] 27)).trans (hb3.mono (by simp))).alloc (by have := hb3.size; simp at this; omega) (.cells #[.int .i64 0, .int .i64 0, .slice none 0 0] 27); have hp3 := heap_kp ((hb3.block w2.heap.size (by simp)).trans hp2) (.cells #[.int .i64 0, .int .i64 0, .slice none 0 0] 27); have HP3 := Lib.hid hp3; obtain ⟨y0, y1, y2, y3⟩ := zcells hp3; clear hp3)
        | (go_at_call 17; refine (HIS.out Ap _ _ _ _ csp _ hb03 HLp.out (by have : x * h ≤ 4 * 4 := Nat.mul_le_mul hx4 hh4; omega) HRp.out (hIp.keep hb23 hb23.size)).mono ?_; rintro e w4 ⟨rfl, hb4⟩; have hp4 := (hb4.block w2.heap.size (Array.getElem?_eq_some_iff.1 HP3.out).1).trans HP3.out; have HP4 := Lib.hid hp4; obtain ⟨z0, z1, z2, z3⟩ := zcells hp4; clear hp4)
        | fail)
      have hbl0 := hb03.trans (hb4.mono hb03.size)
      have hIl0 := hIp.keep (hb23.trans (hb4.mono hb23.size)) (hb23.trans (hb4.mono hb23.size)).size
      obtain ⟨wl, hwl⟩ : ∃ wl : World, wl = w4 := ⟨_, rfl⟩
      rw [← hwl] at hbl0 hIl0 HP4 ⊢
      have hbl := hbl0
      have hIl := hIl0
      have HPL := HP4
      clear hwl hbl0 hIl0 HP4 hp2 hIp y0 y1 y2 y3 z0 z1 z2 z3 hb4 hb3 hb2 hb02 hb03 hb23 hb1 HP3
      have hpblt : w2.heap.size < wl.heap.size := (Array.getElem?_eq_some_iff.1 HPL.out).1
      go_loopw [16] (fun av wr => ∃ av' i : Nat, av = .int .i64 (av' : Int) ∧ Hid (av' = x * i) ∧ 1 ≤ i ∧ av' ≤ 10 ∧ Below wl.heap.size wl wr) (fun av _ => 11 - (intOf av).toNat)
      case atStart => exact ⟨x, 1, rfl, by show _ = _; omega, Nat.le_refl _, by omega, Below.refl _ _⟩
      case round =>
        obtain ⟨av, i, rfl, hav, hi1, hav10, hba⟩ := hrel
        obtain ⟨wa, rfl⟩ : ∃ wa : World, wa = wr := ⟨_, rfl⟩
        by_cases ha6 : av ≤ 6
        · have ha6' : (av : Int) ≤ 6 := by omega
          have hav1 : 1 ≤ av := by rw [hav.out]; exact Nat.mul_pos hx1 hi1
          go_wp2_with fail
          go_loopw [17] (fun bv wr => ∃ bv' j : Nat, bv = .int .i64 (bv' : Int) ∧ Hid (bv' = h * j) ∧ 1 ≤ j ∧ bv' ≤ 10 ∧ Below wl.heap.size wl wr) (fun bv _ => 11 - (intOf bv).toNat)
          case atStart => exact ⟨h, 1, rfl, by show _ = _; omega, Nat.le_refl _, by omega, hba⟩
          case round =>
            obtain ⟨bv, j, rfl, hbv, hj1, hbv10, hbb0⟩ := hrel
            obtain ⟨wb, rfl⟩ : ∃ wb : World, wb = wr := ⟨_, rfl⟩
            by_cases hb6 : bv ≤ 6
            · have hb6' : (bv : Int) ≤ 6 := by omega
              have hbv1 : 1 ≤ bv := by rw [hbv.out]; exact Nat.mul_pos hh1 hj1
              have hbb : Below wl.heap.size wl wb := hbb0
              have hbw : Below w.heap.size w wb := hbl.trans (hbb.mono hbl.size)
              have hpw := (hbb.block w2.heap.size hpblt).trans HPL.out
              have hpbw : w2.heap.size < wb.heap.size := (Array.getElem?_eq_some_iff.1 hpw).1
              have hIb := hIl.keep hbb hbb.size
              have hsz : av * bv ≤ 36 := Nat.mul_le_mul ha6 hb6
              have hform : form ⟨(x : Int), (h : Int), csp⟩ = true := by
                have := HRp.out
                simp only [reps, Bool.and_eq_true] at this
                exact this.2.1
              have hrw : reps s ⟨(av : Int), (bv : Int), (win ⟨(x : Int), (h : Int), csp⟩ 0 0 av bv).c⟩ = true := by
                have h0 : x * i * (h * j) ≤ 40000 := by rw [← hav.out, ← hbv.out]; omega
                have := reps_win (i := i) (j := j) HRp.out rfl rfl hi1 hj1 h0
                rw [← hav.out, ← hbv.out] at this
                exact this
              have hwl : av * bv = (win ⟨(x : Int), (h : Int), csp⟩ 0 0 av bv).c.length := by simp [win]
              have hrep := fun (W : World) (hb : Below wb.heap.size wb W) => repeat_ok x h csp Ap (x * h) cp' (av : Int) (bv : Int) av bv W rfl rfl hform HLp.out (by have : x * h ≤ 4 * 4 := Nat.mul_le_mul hx4 hh4; omega) (hIb.keep hb hb.size) hav1 hbv1 (by omega)
              have HREP := Lib.hid hrep
              have HREPS := Lib.hid hrw
              have HWL := Lib.hid hwl
              have HPW := Lib.hid hpw
              clear hrep hrw hwl hform hIb hpw
              cases htf : tooM m av
              · have HTF := Lib.hid htf
                clear htf
                go_wp2_with (first
                | (go_at_call 9; refine (HFA.out wb av bv i j hbw hav.out hbv.out hi1 hj1 ha6 hb6 HTF.out HNE.out).mono ?_; rintro e w5 ⟨Ar, cr, csr, rfl, hIr, HRr, HLr, hb5⟩; have hb5a : Below w5.heap.size w5 (w5.alloc (.cells #[.int .i64 (av : Int), .int .i64 (bv : Int), .slice Ar (av * bv) cr] 27)) := (Below.refl _ _).alloc (Nat.le_refl _) _; have hbb5 : Below wb.heap.size wb (w5.alloc (.cells #[.int .i64 (av : Int), .int .i64 (bv : Int), .slice Ar (av * bv) cr] 27)) := hb5.trans (hb5a.mono hb5.size); have hr5 := heap_at w5 (.cells #[.int .i64 (av : Int), .int .i64 (bv : Int), .slice Ar (av * bv) cr] 27) _ rfl; have HR5 := Lib.hid hr5; obtain ⟨r0, r1, r2, r3⟩ := zcells hr5; have hIr2 := hIr.keep hb5a hb5a.size; clear hr5)
                | (go_at_call 17; refine (HIS.out Ar _ _ _ _ csr _ (hbw.trans (hbb5.mono hbw.size)) HLr.out (by omega) HRr.out hIr2).mono ?_; rintro e w6 ⟨rfl, hb6w⟩; obtain ⟨s0, s1, s2, s3⟩ := zcells ((hb6w.block w5.heap.size (by simp)).trans HR5.out); have hbb6 := hbb5.trans (hb6w.mono hbb5.size); obtain ⟨q0, q1, q2, q3⟩ := zcells ((hbb6.block w2.heap.size hpbw).trans HPW.out))
                | (go_at_call 18; refine (HREP.out _ hbb6).mono ?_; rintro e w7 ⟨B, cb, rfl, hIB, hb7⟩; have hbb7 := (hbb6.trans (hb7.mono hbb6.size)).alloc (hbb6.trans (hb7.mono hbb6.size)).size (.cells #[.int .i64 (av : Int), .int .i64 (bv : Int), .slice B (av * bv) cb] 27); have hb7a : Below w7.heap.size w7 (w7.alloc (.cells #[.int .i64 (av : Int), .int .i64 (bv : Int), .slice B (av * bv) cb] 27)) := (Below.refl _ _).alloc (Nat.le_refl _) _; have hIB2 := hIB.old.keep hb7a hb7a.size; obtain ⟨v0, v1, v2, v3⟩ := zcells (heap_at w7 (.cells #[.int .i64 (av : Int), .int .i64 (bv : Int), .slice B (av * bv) cb] 27) _ rfl))
                | (go_at_call 19; refine (HRP.out _ B _ cb _ _ _ (hbw.trans (hbb7.mono hbw.size)) HWL.out (by omega) hIB2).mono ?_; rw [HREPS.out]; rintro e w8 ⟨rfl, hb8⟩)
                | fail)
                have hbb8 := hbb.trans ((hbb7.trans (hb8.mono hbb7.size)).mono hbb.size)
                have hbv2 : Hid (bv + h = h * (j + 1)) := by show _ = _; rw [hbv.out, Nat.mul_add, Nat.mul_one]
                clear q0 q1 q2 q3
                go_roundw
                case rel => exact ⟨bv + h, j + 1, by go_num, hbv2, by omega, by omega, hbb8⟩
                case measure => simp [intOf]; omega
              · have HTF := Lib.hid htf
                have hgr := fun (W : World) => rgreat_any S m cp av true W htf (by omega) (by omega)
                have HGR := Lib.hid hgr
                clear htf hgr
                go_wp2_with (first
                | (go_at_call 9; refine (HFB.out wb av bv hbw hav1 hbv1 ha6 hb6 HTF.out).mono ?_; rintro e w5 ⟨rfl, hb5⟩; have hb5a : Below w5.heap.size w5 (w5.alloc (.cells #[.int .i64 0, .int .i64 0, .slice none 0 0] 27)) := (Below.refl _ _).alloc (Nat.le_refl _) _; have hbb6 : Below wb.heap.size wb (w5.alloc (.cells #[.int .i64 0, .int .i64 0, .slice none 0 0] 27)) := hb5.trans (hb5a.mono hb5.size); obtain ⟨q0, q1, q2, q3⟩ := zcells ((hbb6.block w2.heap.size hpbw).trans HPW.out))
                | (go_at_call 12; refine (HGR.out _).mono ?_; rintro e w6 ⟨rfl, rfl⟩)
                | (go_at_call 18; refine (HREP.out _ hbb6).mono ?_; rintro e w7 ⟨B, cb, rfl, hIB, hb7⟩; have hbb7 := (hbb6.trans (hb7.mono hbb6.size)).alloc (hbb6.trans (hb7.mono hbb6.size)).size (.cells #[.int .i64 (av : Int), .int .i64 (bv : Int), .slice B (av * bv) cb] 27); have hb7a : Below w7.heap.size w7 (w7.alloc (.cells #[.int .i64 (av : Int), .int .i64 (bv : Int), .slice B (av * bv) cb] 27)) := (Below.refl _ _).alloc (Nat.le_refl _) _; have hIB2 := hIB.old.keep hb7a hb7a.size; obtain ⟨v0, v1, v2, v3⟩ := zcells (heap_at w7 (.cells #[.int .i64 (av : Int), .int .i64 (bv : Int), .slice B (av * bv) cb] 27) _ rfl))
                | (go_at_call 19; refine (HRP.out _ B _ cb _ _ _ (hbw.trans (hbb7.mono hbw.size)) HWL.out (by omega) hIB2).mono ?_; rw [HREPS.out]; rintro e w8 ⟨rfl, hb8⟩)
                | fail)
                have hbb8 := hbb.trans ((hbb7.trans (hb8.mono hbb7.size)).mono hbb.size)
                have hbv2 : Hid (bv + h = h * (j + 1)) := by show _ = _; rw [hbv.out, Nat.mul_add, Nat.mul_one]
                clear q0 q1 q2 q3
                go_roundw
                case rel => exact ⟨bv + h, j + 1, by go_num, hbv2, by omega, by omega, hbb8⟩
                case measure => simp [intOf]; omega
            · have hnb : ¬ ((bv : Int) ≤ 6) := by omega
              have hav2 : Hid (av + x = x * (i + 1)) := by show _ = _; rw [hav.out, Nat.mul_add, Nat.mul_one]
              go_wp2_with fail
              go_roundw
              case rel => exact ⟨av + x, i + 1, by go_num, hav2, by omega, by omega, hbb0⟩
              case measure => simp [intOf]; omega
        · have hna : ¬ ((av : Int) ≤ 6) := by omega
          have hbwa : Below w.heap.size w wa := hbl.trans (hba.mono hbl.size)
          go_wp2_with (go_at_call 7; refine (HAW.out _ hbwa).mono ?_; rintro e w9 ⟨rfl, hb9⟩)
          go_ret
          exact ⟨rfl, hbwa.trans (hb9.mono hbwa.size)⟩
  | some lt =>
    obtain ⟨a0, b0, t0⟩ := lt
    obtain ⟨ga1, ga2, gb1, gb2, -, hmin⟩ := leastE_some hle
    have hL := fun (W : World) (hb : Below w.heap.size w W) => leastS_any s S m cp mo a0 b0 t0 W hm (hS.keep hb hb.size) hwf (by omega) hc2 hle
    have HL := Lib.hid hL
    have hq1 : (a0 : Int) ≤ (mo : Int) := by omega
    have hq2 : (b0 : Int) ≤ (mo : Int) := by omega
    by_cases ht : torsE s x h = []
    · have hF := fun (W : World) (hb : Below w.heap.size w W) => findN_any s S m cp x h W hm (hS.keep hb hb.size) hwf (by omega) hc1 ht
      have HF := Lib.hid hF
      clear hm hS hwf hEnv hvA hV htm htm2 hc1 hc2 hle hL ht hF hmin
      go_enter Tryd.func5, Tryd.ntmps5
      go_upto_region 2 with fail
      go_wp2_with (first
        | (go_at_call 8; refine (HVA.out _ (Below.refl _ _)).mono ?_; rintro e w1 ⟨rfl, hb1⟩)
        | (go_at_call 9; refine (HF.out _ hb1).mono ?_; rintro e w2 ⟨rfl, hb2⟩; have hb02 := (hb1.trans (hb2.mono hb1.size)).alloc (hb1.trans (hb2.mono hb1.size)).size (.cells #[.int .i64 0, .int .i64 0, .slice none 0 0] 27))
        | (go_at_call 15; refine (HL.out _ hb02).mono ?_; rintro e w3 ⟨Aq, cq, csq, rfl, hIq, HRq, HLq, hb3⟩; have hb03 := (hb02.trans (hb3.mono hb02.size)).alloc (hb02.trans (hb3.mono hb02.size)).size (.cells #[.int .i64 (a0 : Int), .int .i64 (b0 : Int), .slice Aq (a0 * b0) cq] 27); have hb33 : Below w3.heap.size w3 (w3.alloc (.cells #[.int .i64 (a0 : Int), .int .i64 (b0 : Int), .slice Aq (a0 * b0) cq] 27)) := (Below.refl _ _).alloc (Nat.le_refl _) _; have hq3 := heap_at w3 (.cells #[.int .i64 (a0 : Int), .int .i64 (b0 : Int), .slice Aq (a0 * b0) cq] 27) _ rfl; have HQ3 := Lib.hid hq3; obtain ⟨y0, y1, y2, y3⟩ := zcells hq3; have hIq3 := hIq.keep hb33 hb33.size; clear hq3)
        | (go_at_call 17; refine (HIS.out Aq _ _ _ _ csq _ hb03 HLq.out (by have : a0 * b0 ≤ 4 * 4 := Nat.mul_le_mul (by omega) (by omega); omega) HRq.out hIq3).mono ?_; rintro e w4 ⟨rfl, hb4⟩; obtain ⟨n0, n1, n2, n3⟩ := zcells ((hb4.block w3.heap.size (by simp)).trans HQ3.out); have hb04 := hb03.trans (hb4.mono hb03.size))
        | (go_at_call 7; refine (HAW.out _ hb04).mono ?_; rintro e w5 ⟨rfl, hb5⟩))
      go_ret
      exact ⟨rfl, hb04.trans (hb5.mono hb04.size)⟩
    · have hF := fun (W : World) (hb : Below w.heap.size w W) => findS_any s S m cp x h W hm (hS.keep hb hb.size) hwf (by omega) hc1 ht
      have HF := Lib.hid hF
      have HNE := Lib.hid ht
      have HVS := Lib.hid hV
      by_cases hmx : x ≤ mo ∧ h ≤ mo
      · have hmx' : max (x : Int) (h : Int) ≤ (mo : Int) := by omega
        have hxh := hmin x h hx1 hmx.1 hh1 hmx.2 ht
        obtain ⟨ab, hab⟩ : ∃ ab, ab = a0 * b0 := ⟨_, rfl⟩
        obtain ⟨xh, hxhe⟩ : ∃ xh, xh = x * h := ⟨_, rfl⟩
        rw [← hab, ← hxhe] at hxh
        have hab16 : ab ≤ 4 * 4 := by rw [hab]; exact Nat.mul_le_mul (by omega) (by omega)
        have hxh16 : xh ≤ 4 * 4 := by rw [hxhe]; exact Nat.mul_le_mul (by omega) (by omega)
        have mq : IntKind.i64.wrap ((a0 : Int) * (b0 : Int)) = (ab : Int) := by
          have : (a0 : Int) * (b0 : Int) = (ab : Int) := by rw [hab, Int.natCast_mul]
          rw [this]
          exact IntWalk.i64_in _ (by omega)
        have mx : IntKind.i64.wrap ((x : Int) * (h : Int)) = (xh : Int) := by
          have : (x : Int) * (h : Int) = (xh : Int) := by rw [hxhe, Int.natCast_mul]
          rw [this]
          exact IntWalk.i64_in _ (by omega)
        have hnlt : ¬ ((xh : Int) < (ab : Int)) := by omega
        clear hm hS hwf hEnv hvA hV htm htm2 hc1 hc2 hle hL ht hF hmin hab hxhe
        go_enter Tryd.func5, Tryd.ntmps5
        go_upto_region 2 with fail
        go_wp2_with (first
          | (go_at_call 8; refine (HVA.out _ (Below.refl _ _)).mono ?_; rintro e w1 ⟨rfl, hb1⟩)
          | (go_at_call 9; refine (HF.out _ hb1).mono ?_; rintro e w2 ⟨Ap, cp', csp, rfl, hIp, HRp, HLp, hb2⟩; have hb02 := (hb1.trans (hb2.mono hb1.size)).alloc (hb1.trans (hb2.mono hb1.size)).size (.cells #[.int .i64 (x : Int), .int .i64 (h : Int), .slice Ap (x * h) cp'] 27); have hp2 := heap_at w2 (.cells #[.int .i64 (x : Int), .int .i64 (h : Int), .slice Ap (x * h) cp'] 27) _ rfl)
          | (go_at_call 15; refine (HL.out _ hb02).mono ?_; rintro e w3 ⟨Aq, cq, csq, rfl, hIq, HRq, HLq, hb3⟩; have hb03 := (hb02.trans (hb3.mono hb02.size)).alloc (hb02.trans (hb3.mono hb02.size)).size (.cells #[.int .i64 (a0 : Int), .int .i64 (b0 : Int), .slice Aq (a0 * b0) cq] 27); have hb23 := (((Below.refl _ w2).alloc (Nat.le_refl _) (.cells #[.int .i64 (x : Int), .int .i64 (h : Int), .slice Ap (x * h) cp'] 27)).trans (hb3.mono (by simp))).alloc (by have := hb3.size; simp at this; omega) (.cells #[.int .i64 (a0 : Int), .int .i64 (b0 : Int), .slice Aq (a0 * b0) cq] 27); have hb33 : Below w3.heap.size w3 (w3.alloc (.cells #[.int .i64 (a0 : Int), .int .i64 (b0 : Int), .slice Aq (a0 * b0) cq] 27)) := (Below.refl _ _).alloc (Nat.le_refl _) _; have hp3 := heap_kp ((hb3.block w2.heap.size (by simp)).trans hp2) (.cells #[.int .i64 (a0 : Int), .int .i64 (b0 : Int), .slice Aq (a0 * b0) cq] 27); have HP3 := Lib.hid hp3; obtain ⟨y0, y1, y2, y3⟩ := zcells hp3; have hq3 := heap_at w3 (.cells #[.int .i64 (a0 : Int), .int .i64 (b0 : Int), .slice Aq (a0 * b0) cq] 27) _ rfl; have HQ3 := Lib.hid hq3; have hIp3 := hIp.keep hb23 hb23.size; clear hp3 hq3)
          | (go_at_call 17; (with_reducible refine (HIS.out Ap _ _ _ _ csp _ hb03 HLp.out (by have : x * h ≤ 4 * 4 := Nat.mul_le_mul hx4 hh4; omega) HRp.out hIp3).mono ?_); rintro e w4 ⟨rfl, hb4⟩; have hp4 := (hb4.block w2.heap.size (Array.getElem?_eq_some_iff.1 HP3.out).1).trans HP3.out; have HP4 := Lib.hid hp4; obtain ⟨z0, z1, z2, z3⟩ := zcells hp4; have hq4 := (hb4.block w3.heap.size (by simp)).trans HQ3.out; have HQ4 := Lib.hid hq4; obtain ⟨u0, u1, u2, u3⟩ := zcells hq4; have hb04 := hb03.trans (hb4.mono hb03.size); have hIq4 := hIq.keep (hb33.trans (hb4.mono hb33.size)) (hb33.trans (hb4.mono hb33.size)).size; clear hp4 hq4)
          | (go_at_call 17; (with_reducible refine (HIS.out Aq _ _ _ _ csq _ hb04 HLq.out (by have : a0 * b0 ≤ 4 * 4 := Nat.mul_le_mul (by omega) (by omega); omega) HRq.out hIq4).mono ?_); rintro e w5 ⟨rfl, hb5⟩; have hp5 := (hb5.block w2.heap.size (Array.getElem?_eq_some_iff.1 HP4.out).1).trans HP4.out; have HP5 := Lib.hid hp5; obtain ⟨o0, o1, o2, o3⟩ := zcells hp5; obtain ⟨n0, n1, n2, n3⟩ := zcells ((hb5.block w3.heap.size (Array.getElem?_eq_some_iff.1 HQ4.out).1).trans HQ4.out); clear hp5)
          | fail)
        have hbl0 := hb04.trans (hb5.mono hb04.size)
        have hIl0 := hIp3.keep (hb4.trans (hb5.mono hb4.size)) (hb4.trans (hb5.mono hb4.size)).size
        obtain ⟨wl, hwl⟩ : ∃ wl : World, wl = w5 := ⟨_, rfl⟩
        rw [← hwl] at hbl0 hIl0 HP5 ⊢
        have hbl := hbl0
        have hIl := hIl0
        have HPL := HP5
        clear hwl hbl0 hIl0 HP5 hp2 hIp hIp3 y0 y1 y2 y3 z0 z1 z2 z3 u0 u1 u2 u3 o0 o1 o2 o3 n0 n1 n2 n3 hb5 hb4 hb3 hb2 hb02 hb03 hb04 hb23 hb33 hb1 HP3 HP4 HQ3 HQ4 hIq hIq4
        have e1 : decide (mo < a0) = false := decide_eq_false (by omega)
        have e2 : decide (mo < b0) = false := decide_eq_false (by omega)
        have e3 : decide (xh < ab) = false := decide_eq_false (by omega)
        simp only [e1, e2, e3, Bool.or_self]
        clear e1 e2 e3
        clear hnlt mq mx hmx' hq1 hq2 hxh hab16 hxh16 hmx ga1 ga2 gb1 gb2
        have hpblt : w2.heap.size < wl.heap.size := (Array.getElem?_eq_some_iff.1 HPL.out).1
        go_loopw [16] (fun av wr => ∃ av' i : Nat, av = .int .i64 (av' : Int) ∧ Hid (av' = x * i) ∧ 1 ≤ i ∧ av' ≤ 10 ∧ Below wl.heap.size wl wr) (fun av _ => 11 - (intOf av).toNat)
        case atStart => exact ⟨x, 1, rfl, by show _ = _; omega, Nat.le_refl _, by omega, Below.refl _ _⟩
        case round =>
          obtain ⟨av, i, rfl, hav, hi1, hav10, hba⟩ := hrel
          obtain ⟨wa, rfl⟩ : ∃ wa : World, wa = wr := ⟨_, rfl⟩
          by_cases ha6 : av ≤ 6
          · have ha6' : (av : Int) ≤ 6 := by omega
            have hav1 : 1 ≤ av := by rw [hav.out]; exact Nat.mul_pos hx1 hi1
            go_wp2_with fail
            go_loopw [17] (fun bv wr => ∃ bv' j : Nat, bv = .int .i64 (bv' : Int) ∧ Hid (bv' = h * j) ∧ 1 ≤ j ∧ bv' ≤ 10 ∧ Below wl.heap.size wl wr) (fun bv _ => 11 - (intOf bv).toNat)
            case atStart => exact ⟨h, 1, rfl, by show _ = _; omega, Nat.le_refl _, by omega, hba⟩
            case round =>
              obtain ⟨bv, j, rfl, hbv, hj1, hbv10, hbb0⟩ := hrel
              obtain ⟨wb, rfl⟩ : ∃ wb : World, wb = wr := ⟨_, rfl⟩
              by_cases hb6 : bv ≤ 6
              · have hb6' : (bv : Int) ≤ 6 := by omega
                have hbv1 : 1 ≤ bv := by rw [hbv.out]; exact Nat.mul_pos hh1 hj1
                have hbb : Below wl.heap.size wl wb := hbb0
                have hbw : Below w.heap.size w wb := hbl.trans (hbb.mono hbl.size)
                have hpw := (hbb.block w2.heap.size hpblt).trans HPL.out
                have hpbw : w2.heap.size < wb.heap.size := (Array.getElem?_eq_some_iff.1 hpw).1
                have hIb := hIl.keep hbb hbb.size
                have hsz : av * bv ≤ 36 := Nat.mul_le_mul ha6 hb6
                have hform : form ⟨(x : Int), (h : Int), csp⟩ = true := by
                  have := HRp.out
                  simp only [reps, Bool.and_eq_true] at this
                  exact this.2.1
                have hrw : reps s ⟨(av : Int), (bv : Int), (win ⟨(x : Int), (h : Int), csp⟩ 0 0 av bv).c⟩ = true := by
                  have h0 : x * i * (h * j) ≤ 40000 := by rw [← hav.out, ← hbv.out]; omega
                  have := reps_win (i := i) (j := j) HRp.out rfl rfl hi1 hj1 h0
                  rw [← hav.out, ← hbv.out] at this
                  exact this
                have hwl : av * bv = (win ⟨(x : Int), (h : Int), csp⟩ 0 0 av bv).c.length := by simp [win]
                have hrep := fun (W : World) (hb : Below wb.heap.size wb W) => repeat_ok x h csp Ap (x * h) cp' (av : Int) (bv : Int) av bv W rfl rfl hform HLp.out (by have : x * h ≤ 4 * 4 := Nat.mul_le_mul hx4 hh4; omega) (hIb.keep hb hb.size) hav1 hbv1 (by omega)
                have HREP := Lib.hid hrep
                have HREPS := Lib.hid hrw
                have HWL := Lib.hid hwl
                have HPW := Lib.hid hpw
                clear hrep hrw hwl hform hIb hpw
                cases htf : tooM m av
                · have HTF := Lib.hid htf
                  clear htf
                  go_wp2_with (first
                  | (go_at_call 9; refine (HFA.out wb av bv i j hbw hav.out hbv.out hi1 hj1 ha6 hb6 HTF.out HNE.out).mono ?_; rintro e w5 ⟨Ar, cr, csr, rfl, hIr, HRr, HLr, hb5⟩; have hb5a : Below w5.heap.size w5 (w5.alloc (.cells #[.int .i64 (av : Int), .int .i64 (bv : Int), .slice Ar (av * bv) cr] 27)) := (Below.refl _ _).alloc (Nat.le_refl _) _; have hbb5 : Below wb.heap.size wb (w5.alloc (.cells #[.int .i64 (av : Int), .int .i64 (bv : Int), .slice Ar (av * bv) cr] 27)) := hb5.trans (hb5a.mono hb5.size); have hr5 := heap_at w5 (.cells #[.int .i64 (av : Int), .int .i64 (bv : Int), .slice Ar (av * bv) cr] 27) _ rfl; have HR5 := Lib.hid hr5; obtain ⟨r0, r1, r2, r3⟩ := zcells hr5; have hIr2 := hIr.keep hb5a hb5a.size; clear hr5)
                  | (go_at_call 17; refine (HIS.out Ar _ _ _ _ csr _ (hbw.trans (hbb5.mono hbw.size)) HLr.out (by omega) HRr.out hIr2).mono ?_; rintro e w6 ⟨rfl, hb6w⟩; obtain ⟨s0, s1, s2, s3⟩ := zcells ((hb6w.block w5.heap.size (by simp)).trans HR5.out); have hbb6 := hbb5.trans (hb6w.mono hbb5.size); obtain ⟨q0, q1, q2, q3⟩ := zcells ((hbb6.block w2.heap.size hpbw).trans HPW.out))
                  | (go_at_call 18; refine (HREP.out _ hbb6).mono ?_; rintro e w7 ⟨B, cb, rfl, hIB, hb7⟩; have hbb7 := (hbb6.trans (hb7.mono hbb6.size)).alloc (hbb6.trans (hb7.mono hbb6.size)).size (.cells #[.int .i64 (av : Int), .int .i64 (bv : Int), .slice B (av * bv) cb] 27); have hb7a : Below w7.heap.size w7 (w7.alloc (.cells #[.int .i64 (av : Int), .int .i64 (bv : Int), .slice B (av * bv) cb] 27)) := (Below.refl _ _).alloc (Nat.le_refl _) _; have hIB2 := hIB.old.keep hb7a hb7a.size; obtain ⟨v0, v1, v2, v3⟩ := zcells (heap_at w7 (.cells #[.int .i64 (av : Int), .int .i64 (bv : Int), .slice B (av * bv) cb] 27) _ rfl))
                  | (go_at_call 19; refine (HRP.out _ B _ cb _ _ _ (hbw.trans (hbb7.mono hbw.size)) HWL.out (by omega) hIB2).mono ?_; rw [HREPS.out]; rintro e w8 ⟨rfl, hb8⟩)
                  | fail)
                  have hbb8 := hbb.trans ((hbb7.trans (hb8.mono hbb7.size)).mono hbb.size)
                  have hbv2 : Hid (bv + h = h * (j + 1)) := by show _ = _; rw [hbv.out, Nat.mul_add, Nat.mul_one]
                  clear q0 q1 q2 q3
                  go_roundw
                  case rel => exact ⟨bv + h, j + 1, by go_num, hbv2, by omega, by omega, hbb8⟩
                  case measure => simp [intOf]; omega
                · have HTF := Lib.hid htf
                  have hgr := fun (W : World) => rgreat_any S m cp av true W htf (by omega) (by omega)
                  have HGR := Lib.hid hgr
                  clear htf hgr
                  go_wp2_with (first
                  | (go_at_call 9; refine (HFB.out wb av bv hbw hav1 hbv1 ha6 hb6 HTF.out).mono ?_; rintro e w5 ⟨rfl, hb5⟩; have hb5a : Below w5.heap.size w5 (w5.alloc (.cells #[.int .i64 0, .int .i64 0, .slice none 0 0] 27)) := (Below.refl _ _).alloc (Nat.le_refl _) _; have hbb6 : Below wb.heap.size wb (w5.alloc (.cells #[.int .i64 0, .int .i64 0, .slice none 0 0] 27)) := hb5.trans (hb5a.mono hb5.size); obtain ⟨q0, q1, q2, q3⟩ := zcells ((hbb6.block w2.heap.size hpbw).trans HPW.out))
                  | (go_at_call 12; refine (HGR.out _).mono ?_; rintro e w6 ⟨rfl, rfl⟩)
                  | (go_at_call 18; refine (HREP.out _ hbb6).mono ?_; rintro e w7 ⟨B, cb, rfl, hIB, hb7⟩; have hbb7 := (hbb6.trans (hb7.mono hbb6.size)).alloc (hbb6.trans (hb7.mono hbb6.size)).size (.cells #[.int .i64 (av : Int), .int .i64 (bv : Int), .slice B (av * bv) cb] 27); have hb7a : Below w7.heap.size w7 (w7.alloc (.cells #[.int .i64 (av : Int), .int .i64 (bv : Int), .slice B (av * bv) cb] 27)) := (Below.refl _ _).alloc (Nat.le_refl _) _; have hIB2 := hIB.old.keep hb7a hb7a.size; obtain ⟨v0, v1, v2, v3⟩ := zcells (heap_at w7 (.cells #[.int .i64 (av : Int), .int .i64 (bv : Int), .slice B (av * bv) cb] 27) _ rfl))
                  | (go_at_call 19; refine (HRP.out _ B _ cb _ _ _ (hbw.trans (hbb7.mono hbw.size)) HWL.out (by omega) hIB2).mono ?_; rw [HREPS.out]; rintro e w8 ⟨rfl, hb8⟩)
                  | fail)
                  have hbb8 := hbb.trans ((hbb7.trans (hb8.mono hbb7.size)).mono hbb.size)
                  have hbv2 : Hid (bv + h = h * (j + 1)) := by show _ = _; rw [hbv.out, Nat.mul_add, Nat.mul_one]
                  clear q0 q1 q2 q3
                  go_roundw
                  case rel => exact ⟨bv + h, j + 1, by go_num, hbv2, by omega, by omega, hbb8⟩
                  case measure => simp [intOf]; omega
              · have hnb : ¬ ((bv : Int) ≤ 6) := by omega
                have hav2 : Hid (av + x = x * (i + 1)) := by show _ = _; rw [hav.out, Nat.mul_add, Nat.mul_one]
                go_wp2_with fail
                go_roundw
                case rel => exact ⟨av + x, i + 1, by go_num, hav2, by omega, by omega, hbb0⟩
                case measure => simp [intOf]; omega
          · have hna : ¬ ((av : Int) ≤ 6) := by omega
            have hbwa : Below w.heap.size w wa := hbl.trans (hba.mono hbl.size)
            go_wp2_with (go_at_call 7; refine (HAW.out _ hbwa).mono ?_; rintro e w9 ⟨rfl, hb9⟩)
            go_ret
            exact ⟨rfl, hbwa.trans (hb9.mono hbwa.size)⟩
      · have hmx' : ¬ (max (x : Int) (h : Int) ≤ (mo : Int)) := by omega
        clear hm hS hwf hEnv hvA hV htm htm2 hc1 hc2 hle hL ht hF hmin
        go_enter Tryd.func5, Tryd.ntmps5
        go_upto_region 2 with fail
        go_wp2_with (first
          | (go_at_call 8; refine (HVA.out _ (Below.refl _ _)).mono ?_; rintro e w1 ⟨rfl, hb1⟩)
          | (go_at_call 9; refine (HF.out _ hb1).mono ?_; rintro e w2 ⟨Ap, cp', csp, rfl, hIp, HRp, HLp, hb2⟩; have hb02 := (hb1.trans (hb2.mono hb1.size)).alloc (hb1.trans (hb2.mono hb1.size)).size (.cells #[.int .i64 (x : Int), .int .i64 (h : Int), .slice Ap (x * h) cp'] 27); have hp2 := heap_at w2 (.cells #[.int .i64 (x : Int), .int .i64 (h : Int), .slice Ap (x * h) cp'] 27) _ rfl)
          | (go_at_call 15; refine (HL.out _ hb02).mono ?_; rintro e w3 ⟨Aq, cq, csq, rfl, hIq, HRq, HLq, hb3⟩; have hb03 := (hb02.trans (hb3.mono hb02.size)).alloc (hb02.trans (hb3.mono hb02.size)).size (.cells #[.int .i64 (a0 : Int), .int .i64 (b0 : Int), .slice Aq (a0 * b0) cq] 27); have hb23 := (((Below.refl _ w2).alloc (Nat.le_refl _) (.cells #[.int .i64 (x : Int), .int .i64 (h : Int), .slice Ap (x * h) cp'] 27)).trans (hb3.mono (by simp))).alloc (by have := hb3.size; simp at this; omega) (.cells #[.int .i64 (a0 : Int), .int .i64 (b0 : Int), .slice Aq (a0 * b0) cq] 27); have hb33 : Below w3.heap.size w3 (w3.alloc (.cells #[.int .i64 (a0 : Int), .int .i64 (b0 : Int), .slice Aq (a0 * b0) cq] 27)) := (Below.refl _ _).alloc (Nat.le_refl _) _; have hp3 := heap_kp ((hb3.block w2.heap.size (by simp)).trans hp2) (.cells #[.int .i64 (a0 : Int), .int .i64 (b0 : Int), .slice Aq (a0 * b0) cq] 27); have HP3 := Lib.hid hp3; obtain ⟨y0, y1, y2, y3⟩ := zcells hp3; have hq3 := heap_at w3 (.cells #[.int .i64 (a0 : Int), .int .i64 (b0 : Int), .slice Aq (a0 * b0) cq] 27) _ rfl; have HQ3 := Lib.hid hq3; have hIp3 := hIp.keep hb23 hb23.size; clear hp3 hq3)
          | (go_at_call 17; (with_reducible refine (HIS.out Ap _ _ _ _ csp _ hb03 HLp.out (by have : x * h ≤ 4 * 4 := Nat.mul_le_mul hx4 hh4; omega) HRp.out hIp3).mono ?_); rintro e w4 ⟨rfl, hb4⟩; have hp4 := (hb4.block w2.heap.size (Array.getElem?_eq_some_iff.1 HP3.out).1).trans HP3.out; have HP4 := Lib.hid hp4; obtain ⟨z0, z1, z2, z3⟩ := zcells hp4; have hq4 := (hb4.block w3.heap.size (by simp)).trans HQ3.out; have HQ4 := Lib.hid hq4; obtain ⟨u0, u1, u2, u3⟩ := zcells hq4; have hb04 := hb03.trans (hb4.mono hb03.size); have hIq4 := hIq.keep (hb33.trans (hb4.mono hb33.size)) (hb33.trans (hb4.mono hb33.size)).size; clear hp4 hq4)
          | (go_at_call 17; (with_reducible refine (HIS.out Aq _ _ _ _ csq _ hb04 HLq.out (by have : a0 * b0 ≤ 4 * 4 := Nat.mul_le_mul (by omega) (by omega); omega) HRq.out hIq4).mono ?_); rintro e w5 ⟨rfl, hb5⟩; have hp5 := (hb5.block w2.heap.size (Array.getElem?_eq_some_iff.1 HP4.out).1).trans HP4.out; have HP5 := Lib.hid hp5; obtain ⟨o0, o1, o2, o3⟩ := zcells hp5; obtain ⟨n0, n1, n2, n3⟩ := zcells ((hb5.block w3.heap.size (Array.getElem?_eq_some_iff.1 HQ4.out).1).trans HQ4.out); clear hp5)
          | fail)
        have hbl0 := hb04.trans (hb5.mono hb04.size)
        have hIl0 := hIp3.keep (hb4.trans (hb5.mono hb4.size)) (hb4.trans (hb5.mono hb4.size)).size
        obtain ⟨wl, hwl⟩ : ∃ wl : World, wl = w5 := ⟨_, rfl⟩
        rw [← hwl] at hbl0 hIl0 HP5 ⊢
        have hbl := hbl0
        have hIl := hIl0
        have HPL := HP5
        clear hwl hbl0 hIl0 HP5 hp2 hIp hIp3 y0 y1 y2 y3 z0 z1 z2 z3 u0 u1 u2 u3 o0 o1 o2 o3 n0 n1 n2 n3 hb5 hb4 hb3 hb2 hb02 hb03 hb04 hb23 hb33 hb1 HP3 HP4 HQ3 HQ4 hIq hIq4
        have hpblt : w2.heap.size < wl.heap.size := (Array.getElem?_eq_some_iff.1 HPL.out).1
        go_loopw [16] (fun av wr => ∃ av' i : Nat, av = .int .i64 (av' : Int) ∧ Hid (av' = x * i) ∧ 1 ≤ i ∧ av' ≤ 10 ∧ Below wl.heap.size wl wr) (fun av _ => 11 - (intOf av).toNat)
        case atStart => exact ⟨x, 1, rfl, by show _ = _; omega, Nat.le_refl _, by omega, Below.refl _ _⟩
        case round =>
          obtain ⟨av, i, rfl, hav, hi1, hav10, hba⟩ := hrel
          obtain ⟨wa, rfl⟩ : ∃ wa : World, wa = wr := ⟨_, rfl⟩
          by_cases ha6 : av ≤ 6
          · have ha6' : (av : Int) ≤ 6 := by omega
            have hav1 : 1 ≤ av := by rw [hav.out]; exact Nat.mul_pos hx1 hi1
            go_wp2_with fail
            go_loopw [17] (fun bv wr => ∃ bv' j : Nat, bv = .int .i64 (bv' : Int) ∧ Hid (bv' = h * j) ∧ 1 ≤ j ∧ bv' ≤ 10 ∧ Below wl.heap.size wl wr) (fun bv _ => 11 - (intOf bv).toNat)
            case atStart => exact ⟨h, 1, rfl, by show _ = _; omega, Nat.le_refl _, by omega, hba⟩
            case round =>
              obtain ⟨bv, j, rfl, hbv, hj1, hbv10, hbb0⟩ := hrel
              obtain ⟨wb, rfl⟩ : ∃ wb : World, wb = wr := ⟨_, rfl⟩
              by_cases hb6 : bv ≤ 6
              · have hb6' : (bv : Int) ≤ 6 := by omega
                have hbv1 : 1 ≤ bv := by rw [hbv.out]; exact Nat.mul_pos hh1 hj1
                have hbb : Below wl.heap.size wl wb := hbb0
                have hbw : Below w.heap.size w wb := hbl.trans (hbb.mono hbl.size)
                have hpw := (hbb.block w2.heap.size hpblt).trans HPL.out
                have hpbw : w2.heap.size < wb.heap.size := (Array.getElem?_eq_some_iff.1 hpw).1
                have hIb := hIl.keep hbb hbb.size
                have hsz : av * bv ≤ 36 := Nat.mul_le_mul ha6 hb6
                have hform : form ⟨(x : Int), (h : Int), csp⟩ = true := by
                  have := HRp.out
                  simp only [reps, Bool.and_eq_true] at this
                  exact this.2.1
                have hrw : reps s ⟨(av : Int), (bv : Int), (win ⟨(x : Int), (h : Int), csp⟩ 0 0 av bv).c⟩ = true := by
                  have h0 : x * i * (h * j) ≤ 40000 := by rw [← hav.out, ← hbv.out]; omega
                  have := reps_win (i := i) (j := j) HRp.out rfl rfl hi1 hj1 h0
                  rw [← hav.out, ← hbv.out] at this
                  exact this
                have hwl : av * bv = (win ⟨(x : Int), (h : Int), csp⟩ 0 0 av bv).c.length := by simp [win]
                have hrep := fun (W : World) (hb : Below wb.heap.size wb W) => repeat_ok x h csp Ap (x * h) cp' (av : Int) (bv : Int) av bv W rfl rfl hform HLp.out (by have : x * h ≤ 4 * 4 := Nat.mul_le_mul hx4 hh4; omega) (hIb.keep hb hb.size) hav1 hbv1 (by omega)
                have HREP := Lib.hid hrep
                have HREPS := Lib.hid hrw
                have HWL := Lib.hid hwl
                have HPW := Lib.hid hpw
                clear hrep hrw hwl hform hIb hpw
                cases htf : tooM m av
                · have HTF := Lib.hid htf
                  clear htf
                  go_wp2_with (first
                  | (go_at_call 9; refine (HFA.out wb av bv i j hbw hav.out hbv.out hi1 hj1 ha6 hb6 HTF.out HNE.out).mono ?_; rintro e w5 ⟨Ar, cr, csr, rfl, hIr, HRr, HLr, hb5⟩; have hb5a : Below w5.heap.size w5 (w5.alloc (.cells #[.int .i64 (av : Int), .int .i64 (bv : Int), .slice Ar (av * bv) cr] 27)) := (Below.refl _ _).alloc (Nat.le_refl _) _; have hbb5 : Below wb.heap.size wb (w5.alloc (.cells #[.int .i64 (av : Int), .int .i64 (bv : Int), .slice Ar (av * bv) cr] 27)) := hb5.trans (hb5a.mono hb5.size); have hr5 := heap_at w5 (.cells #[.int .i64 (av : Int), .int .i64 (bv : Int), .slice Ar (av * bv) cr] 27) _ rfl; have HR5 := Lib.hid hr5; obtain ⟨r0, r1, r2, r3⟩ := zcells hr5; have hIr2 := hIr.keep hb5a hb5a.size; clear hr5)
                  | (go_at_call 17; refine (HIS.out Ar _ _ _ _ csr _ (hbw.trans (hbb5.mono hbw.size)) HLr.out (by omega) HRr.out hIr2).mono ?_; rintro e w6 ⟨rfl, hb6w⟩; obtain ⟨s0, s1, s2, s3⟩ := zcells ((hb6w.block w5.heap.size (by simp)).trans HR5.out); have hbb6 := hbb5.trans (hb6w.mono hbb5.size); obtain ⟨q0, q1, q2, q3⟩ := zcells ((hbb6.block w2.heap.size hpbw).trans HPW.out))
                  | (go_at_call 18; refine (HREP.out _ hbb6).mono ?_; rintro e w7 ⟨B, cb, rfl, hIB, hb7⟩; have hbb7 := (hbb6.trans (hb7.mono hbb6.size)).alloc (hbb6.trans (hb7.mono hbb6.size)).size (.cells #[.int .i64 (av : Int), .int .i64 (bv : Int), .slice B (av * bv) cb] 27); have hb7a : Below w7.heap.size w7 (w7.alloc (.cells #[.int .i64 (av : Int), .int .i64 (bv : Int), .slice B (av * bv) cb] 27)) := (Below.refl _ _).alloc (Nat.le_refl _) _; have hIB2 := hIB.old.keep hb7a hb7a.size; obtain ⟨v0, v1, v2, v3⟩ := zcells (heap_at w7 (.cells #[.int .i64 (av : Int), .int .i64 (bv : Int), .slice B (av * bv) cb] 27) _ rfl))
                  | (go_at_call 19; refine (HRP.out _ B _ cb _ _ _ (hbw.trans (hbb7.mono hbw.size)) HWL.out (by omega) hIB2).mono ?_; rw [HREPS.out]; rintro e w8 ⟨rfl, hb8⟩)
                  | fail)
                  have hbb8 := hbb.trans ((hbb7.trans (hb8.mono hbb7.size)).mono hbb.size)
                  have hbv2 : Hid (bv + h = h * (j + 1)) := by show _ = _; rw [hbv.out, Nat.mul_add, Nat.mul_one]
                  clear q0 q1 q2 q3
                  go_roundw
                  case rel => exact ⟨bv + h, j + 1, by go_num, hbv2, by omega, by omega, hbb8⟩
                  case measure => simp [intOf]; omega
                · have HTF := Lib.hid htf
                  have hgr := fun (W : World) => rgreat_any S m cp av true W htf (by omega) (by omega)
                  have HGR := Lib.hid hgr
                  clear htf hgr
                  go_wp2_with (first
                  | (go_at_call 9; refine (HFB.out wb av bv hbw hav1 hbv1 ha6 hb6 HTF.out).mono ?_; rintro e w5 ⟨rfl, hb5⟩; have hb5a : Below w5.heap.size w5 (w5.alloc (.cells #[.int .i64 0, .int .i64 0, .slice none 0 0] 27)) := (Below.refl _ _).alloc (Nat.le_refl _) _; have hbb6 : Below wb.heap.size wb (w5.alloc (.cells #[.int .i64 0, .int .i64 0, .slice none 0 0] 27)) := hb5.trans (hb5a.mono hb5.size); obtain ⟨q0, q1, q2, q3⟩ := zcells ((hbb6.block w2.heap.size hpbw).trans HPW.out))
                  | (go_at_call 12; refine (HGR.out _).mono ?_; rintro e w6 ⟨rfl, rfl⟩)
                  | (go_at_call 18; refine (HREP.out _ hbb6).mono ?_; rintro e w7 ⟨B, cb, rfl, hIB, hb7⟩; have hbb7 := (hbb6.trans (hb7.mono hbb6.size)).alloc (hbb6.trans (hb7.mono hbb6.size)).size (.cells #[.int .i64 (av : Int), .int .i64 (bv : Int), .slice B (av * bv) cb] 27); have hb7a : Below w7.heap.size w7 (w7.alloc (.cells #[.int .i64 (av : Int), .int .i64 (bv : Int), .slice B (av * bv) cb] 27)) := (Below.refl _ _).alloc (Nat.le_refl _) _; have hIB2 := hIB.old.keep hb7a hb7a.size; obtain ⟨v0, v1, v2, v3⟩ := zcells (heap_at w7 (.cells #[.int .i64 (av : Int), .int .i64 (bv : Int), .slice B (av * bv) cb] 27) _ rfl))
                  | (go_at_call 19; refine (HRP.out _ B _ cb _ _ _ (hbw.trans (hbb7.mono hbw.size)) HWL.out (by omega) hIB2).mono ?_; rw [HREPS.out]; rintro e w8 ⟨rfl, hb8⟩)
                  | fail)
                  have hbb8 := hbb.trans ((hbb7.trans (hb8.mono hbb7.size)).mono hbb.size)
                  have hbv2 : Hid (bv + h = h * (j + 1)) := by show _ = _; rw [hbv.out, Nat.mul_add, Nat.mul_one]
                  clear q0 q1 q2 q3
                  go_roundw
                  case rel => exact ⟨bv + h, j + 1, by go_num, hbv2, by omega, by omega, hbb8⟩
                  case measure => simp [intOf]; omega
              · have hnb : ¬ ((bv : Int) ≤ 6) := by omega
                have hav2 : Hid (av + x = x * (i + 1)) := by show _ = _; rw [hav.out, Nat.mul_add, Nat.mul_one]
                go_wp2_with fail
                go_roundw
                case rel => exact ⟨av + x, i + 1, by go_num, hav2, by omega, by omega, hbb0⟩
                case measure => simp [intOf]; omega
          · have hna : ¬ ((av : Int) ≤ 6) := by omega
            have hbwa : Below w.heap.size w wa := hbl.trans (hba.mono hbl.size)
            go_wp2_with (go_at_call 7; refine (HAW.out _ hbwa).mono ?_; rintro e w9 ⟨rfl, hb9⟩)
            go_ret
            exact ⟨rfl, hbwa.trans (hb9.mono hbwa.size)⟩
end Go.Proofs.YthjponagoahdhaaDoor

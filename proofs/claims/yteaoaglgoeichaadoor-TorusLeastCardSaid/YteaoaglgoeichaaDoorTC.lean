/-
  torus.isPeriod, torus.tooMany, torus.check.
  torus.pattern, torus.Find.
  torus.Least: sizes in order.
-/
import Derived.Test.YteaoaglgoeichaaDoorFa
import Derived.Test.YteaoaglgoeichaaDoorSw
import Derived.Test.YteaoaglgoeichaaDoorTB
namespace Go.Proofs.YteaoaglgoeichaaDoor
section
open Go.RowKit Go.Maps Go.BigFrame
set_option linter.unusedVariables false
set_option linter.unusedSimpArgs false
set_option maxRecDepth 100000

def perB (n : Int) : Bool := decide (1 ≤ n) && decide (n ≤ 6)
theorem per_any (n : Int) (w : World) : Calls Tryd.prog 31 #[.int .i64 n] w fun e w' => e = .returned (.bool (perB n)) ∧ w = w' := by
  by_cases h1 : 1 ≤ n
  · by_cases h2 : n ≤ 6
    · have HK : Hid (perB n = true) := by unfold Hid perB; simp [h1, h2]
      have d1 : decide (1 ≤ n) = true := decide_eq_true h1
      have d2 : decide (n ≤ 6) = true := decide_eq_true h2
      go_enter Tryd.func31, Tryd.ntmps31
      go_wp2_with fail
      go_ret
      exact ⟨by rw [HK.out]; rfl, rfl⟩
    · have HK : Hid (perB n = false) := by unfold Hid perB; simp [h1, h2]
      have d1 : decide (1 ≤ n) = true := decide_eq_true h1
      have d2 : decide (n ≤ 6) = false := decide_eq_false h2
      go_enter Tryd.func31, Tryd.ntmps31
      go_wp2_with fail
      go_ret
      exact ⟨by rw [HK.out]; rfl, rfl⟩
  · have HK : Hid (perB n = false) := by unfold Hid perB; simp [h1]
    have d1 : decide (1 ≤ n) = false := decide_eq_false h1
    go_enter Tryd.func31, Tryd.ntmps31
    go_wp2_with fail
    go_ret
    exact ⟨by rw [HK.out]; rfl, rfl⟩
set_option maxHeartbeats 1000000 in
theorem ttooMany_any (t k : Nat) (r : Bool) (w : World) (hr : tooM t k = r) (ht : t ≤ 1000) (hk : k ≤ 8) :
    Calls Tryd.prog 32 #[.int .i64 (t : Int), .int .i64 (k : Int)] w fun e w' => e = .returned (.bool r) ∧ w = w' := by
  have HR := Lib.hid hr
  clear hr
  go_enter Tryd.func32, Tryd.ntmps32
  go_wp2
  go_loop [5, 7] (fun l i => ∃ (j : Nat) (p : Nat), j ≤ k ∧ i = .int .i64 j ∧ l = .int .i64 (p : Int) ∧ p ≤ 5000 ∧ Hid (p = t ^ j)) (fun _ i => k - (intOf i).toNat)
  case atStart => exact ⟨0, 1, Nat.zero_le _, rfl, rfl, by omega, by show 1 = t ^ 0; simp⟩
  case round =>
    obtain ⟨j, p, hj, rfl, rfl, hp, hpe⟩ := hrel
    by_cases hlt : j < k
    · obtain ⟨q, hq⟩ : ∃ q, q = p * t := ⟨_, rfl⟩
      have hq1 : q ≤ 5000 * 1000 := by rw [hq]; exact Nat.mul_le_mul hp ht
      have HQ : Hid (q = t ^ (j + 1)) := by show _ = _; rw [hq, hpe.out, Nat.pow_succ]
      have e1 : (p : Int) * (t : Int) = (q : Int) := by rw [hq, Int.natCast_mul]
      clear hq
      by_cases h5 : 5000 < q
      · have hr2 : r = true := by
          rw [← HR.out]
          refine decide_eq_true (pow_more ?_ (show j + 1 ≤ k by omega) (by rw [← HQ.out]; exact h5))
          rcases Nat.eq_zero_or_pos t with e | e
          · have := HQ.out
            rw [e, Nat.pow_succ, Nat.mul_zero] at this
            omega
          · exact e
        clear HR
        subst hr2
        go_wp2
        go_ret
        exact ⟨rfl, rfl⟩
      · go_wp2
        go_round
        case rel => exact ⟨j + 1, q, by omega, by go_num, rfl, by omega, HQ⟩
        case measure => simp [intOf]; omega
    · have hr2 : r = false := by
        rw [← HR.out]
        have e : j = k := by omega
        exact decide_eq_false (by rw [← e, ← hpe.out]; omega)
      clear HR
      subst hr2
      go_wp2
      go_ret
      exact ⟨rfl, rfl⟩
/-- the error that is due for a set and a size, whatever tori there are: 0 where there is none -/
def tcheckE (s : List Tl) (wd hg : Int) : Int :=
  if vld s = false then 1 else if perB wd = false ∨ perB hg = false then 2 else if tooM s.length wd.toNat = true then 4 else 0
theorem tcheck_ok {s : List Tl} {wd hg : Int} (h : tcheckE s wd hg = 0) : vld s = true ∧ 1 ≤ wd ∧ wd ≤ 6 ∧ 1 ≤ hg ∧ hg ≤ 6 ∧ tooM s.length wd.toNat = false := by
  unfold tcheckE at h
  cases hv : vld s
  · simp [hv] at h
  · simp only [hv, Bool.true_eq_false, if_false] at h
    by_cases hp : perB wd = false ∨ perB hg = false
    · rw [if_pos hp] at h; simp at h
    · rw [if_neg hp] at h
      have h1 : perB wd = true := by cases e : perB wd; exact absurd (Or.inl e) hp; rfl
      have h2 : perB hg = true := by cases e : perB hg; exact absurd (Or.inr e) hp; rfl
      unfold perB at h1 h2
      simp only [Bool.and_eq_true, decide_eq_true_eq] at h1 h2
      refine ⟨rfl, h1.1, h1.2, h2.1, h2.2, ?_⟩
      cases ht : tooM s.length wd.toNat
      · rfl
      · rw [ht] at h; simp at h
set_option maxHeartbeats 4000000 in
theorem tcheck_any (s : List Tl) (S : Option Addr) (m d : Nat) (wd hg : Int) (w : World) (hm : m = s.length) (hS : SetIn w w.heap.size S s) (hwf : ∀ t ∈ s, twf t) (hml : m ≤ 9223372036854775807) :
    Calls Tryd.prog 19 #[.slice S m d, .int .i64 wd, .int .i64 hg] w fun e' w' => e' = .returned (.int .i64 (tcheckE s wd hg)) ∧ Below w.heap.size w w' := by
  have hval := valid_any s S d w hS hwf (by omega)
  rw [← hm] at hval
  have HM := Lib.hid hm
  cases hV : vld s
  · have HK : Hid (tcheckE s wd hg = 1) := by unfold Hid tcheckE; rw [hV]; simp
    rw [hV] at hval
    clear hm hV hS hwf
    go_enter Tryd.func19, Tryd.ntmps19
    go_wp2_with fail
    refine hval.mono ?_
    rintro e' w1 ⟨rfl, hb1⟩
    go_wp2_with fail
    go_ret
    exact ⟨by rw [HK.out]; rfl, hb1⟩
  have hm1 : m ≤ 1000 := by rw [hm]; exact (vld_iff.1 hV).1
  rw [hV] at hval
  have HK0 : Hid (tcheckE s wd hg = if perB wd = false ∨ perB hg = false then 2 else if tooM s.length wd.toNat = true then 4 else 0) := by unfold Hid tcheckE; rw [hV]; simp
  have HP := fun (n : Int) (W : World) => per_any n W
  clear hm hV hS hwf
  cases hp1 : perB wd
  · have HK : Hid (tcheckE s wd hg = 2) := by show _ = _; rw [HK0.out, if_pos (Or.inl hp1)]
    clear HK0
    go_enter Tryd.func19, Tryd.ntmps19
    go_wp2_with fail
    refine hval.mono ?_
    rintro e' w1 ⟨rfl, hb1⟩
    go_wp2_with fail
    refine (per_any wd w1).mono ?_
    rintro e' w2 ⟨rfl, rfl⟩
    go_wp2_with fail
    go_ret
    exact ⟨by rw [HK.out]; rfl, hb1⟩
  cases hp2 : perB hg
  · have HK : Hid (tcheckE s wd hg = 2) := by show _ = _; rw [HK0.out, if_pos (Or.inr hp2)]
    clear HK0
    go_enter Tryd.func19, Tryd.ntmps19
    go_wp2_with fail
    refine hval.mono ?_
    rintro e' w1 ⟨rfl, hb1⟩
    go_wp2_with fail
    refine (per_any wd w1).mono ?_
    rintro e' w2 ⟨rfl, rfl⟩
    go_wp2_with fail
    refine (per_any hg w1).mono ?_
    rintro e' w2 ⟨rfl, rfl⟩
    go_wp2_with fail
    go_ret
    exact ⟨by rw [HK.out]; rfl, hb1⟩
  have hw16 : 1 ≤ wd ∧ wd ≤ 6 := by
    unfold perB at hp1
    simpa only [Bool.and_eq_true, decide_eq_true_eq] using hp1
  obtain ⟨k, rfl⟩ : ∃ k : Nat, wd = (k : Int) := ⟨wd.toNat, by omega⟩
  have ht := fun (W : World) => ttooMany_any m k _ W rfl hm1 (by omega)
  cases htm : tooM m k
  · have HK : Hid (tcheckE s k hg = 0) := by
      show _ = _
      rw [HK0.out, if_neg (by rw [hp1, hp2]; simp), ← HM.out, show ((k : Int)).toNat = k from rfl, htm]
      rfl
    rw [htm] at ht
    clear HK0 htm HP hw16
    go_enter Tryd.func19, Tryd.ntmps19
    go_wp2_with fail
    refine hval.mono ?_
    rintro e' w1 ⟨rfl, hb1⟩
    go_wp2_with fail
    refine (per_any k w1).mono ?_
    rintro e' w2 ⟨rfl, rfl⟩
    go_wp2_with fail
    refine (per_any hg w1).mono ?_
    rintro e' w2 ⟨rfl, rfl⟩
    go_wp2_with fail
    refine (ht _).mono ?_
    rintro e' w2 ⟨rfl, rfl⟩
    go_wp2_with fail
    go_ret
    exact ⟨by rw [HK.out]; rfl, hb1⟩
  · have HK : Hid (tcheckE s k hg = 4) := by
      show _ = _
      rw [HK0.out, if_neg (by rw [hp1, hp2]; simp), ← HM.out, show ((k : Int)).toNat = k from rfl, htm]
      rfl
    rw [htm] at ht
    clear HK0 htm HP hw16
    go_enter Tryd.func19, Tryd.ntmps19
    go_wp2_with fail
    refine hval.mono ?_
    rintro e' w1 ⟨rfl, hb1⟩
    go_wp2_with fail
    refine (per_any k w1).mono ?_
    rintro e' w2 ⟨rfl, rfl⟩
    go_wp2_with fail
    refine (per_any hg w1).mono ?_
    rintro e' w2 ⟨rfl, rfl⟩
    go_wp2_with fail
    refine (ht _).mono ?_
    rintro e' w2 ⟨rfl, rfl⟩
    go_wp2_with fail
    go_ret
    exact ⟨by rw [HK.out]; rfl, hb1⟩
end
section
open Go.RowKit Go.Maps Go.BigFrame Go.Sort
set_option linter.unusedVariables false
set_option linter.unusedSimpArgs false
set_option maxRecDepth 100000

theorem sets3T {w : World} {q : Nat} {z0 z1 z2 a b c : Value} {t : TypeId} (h : w.heap[q]? = some (.cells #[z0, z1, z2] t (0, 0))) :
    (((w.setCell ⟨q, 0, none⟩ a).setCell ⟨q, 1, none⟩ b).setCell ⟨q, 2, none⟩ c).heap[q]? = some (.cells #[a, b, c] t (0, 0)) := by
  have h1 := heap_setCell_same _ q 2 _ t c (heap_setCell_same _ q 1 _ t b (heap_setCell_same w q 0 _ t a h))
  rw [h1]
  rfl
theorem below3T {w0 w : World} {B q : Nat} {a b c : Value} (h : Below B w0 w) (hq : B ≤ q) : Below B w0 (((w.setCell ⟨q, 0, none⟩ a).setCell ⟨q, 1, none⟩ b).setCell ⟨q, 2, none⟩ c) := ((h.setCell hq _).setCell hq _).setCell hq _
theorem grown3T (w : World) (q : Nat) (a b c : Value) : w.grownBy (((w.setCell ⟨q, 0, none⟩ a).setCell ⟨q, 1, none⟩ b).setCell ⟨q, 2, none⟩ c) (some q) :=
  ((grown_one w q 0 a).trans (grown_one _ q 1 b)).trans (grown_one _ q 2 c)
theorem rws_countT (s : List Tl) : ∀ x, (rws s x).length ≤ s.length ^ x
  | 0 => by simp [rws]
  | x + 1 => by
    have ih := rws_countT s x
    simp only [rws, List.length_flatMap]
    have h : ∀ l : List (List Nat), (l.map fun r => (longer s r).length).sum ≤ l.length * s.length := fun l => by
      induction l with
      | nil => simp
      | cons r l ihl =>
        have h1 : (longer s r).length ≤ s.length := by
          unfold longer
          rw [List.length_map]
          exact Nat.le_trans (List.length_filter_le _ _) (by simp)
        rw [List.map_cons, List.sum_cons, List.length_cons, Nat.add_mul, Nat.one_mul]
        omega
    exact Nat.le_trans (h _) (by rw [Nat.pow_succ]; exact Nat.mul_le_mul_right _ ih)
theorem rws_fewT (s : List Tl) (wd : Nat) (h : tooM s.length wd = false) : ∀ x, x ≤ wd → (rws s x).length ≤ 5000 := fun x hx => by
  have hp : s.length ^ wd ≤ 5000 := by
    unfold tooM at h
    have := of_decide_eq_false h
    omega
  have h1 := rws_countT s x
  rcases Nat.eq_zero_or_pos s.length with e | e
  · rw [e] at h1
    cases x with
    | zero => simp at h1; omega
    | succ x => rw [Nat.zero_pow (by omega)] at h1; omega
  · exact Nat.le_trans h1 (Nat.le_trans (Nat.pow_le_pow_right e hx) hp)
/-- the tiles of a ring's struct -/
theorem ring_news {s : List Tl} {x : Nat} {r : List Nat} {w : World} {q : Nat} {t : TypeId} (h : w.heap[q]? = some (.cells (ringA s x r) t (0, 0))) (h6 : r.length ≤ 6) :
    ∀ j u, (vals (idxI r))[j]? = some u → w.cell? ((⟨q, 0, none⟩ : Addr).add j) = some u := by
  intro j u hj
  rw [Addr.add_mid, Nat.zero_add, cell_of_row _ _ _ _ _ _ h]
  have hjl : j < (vals (idxI r)).length := (List.getElem?_eq_some_iff.1 hj).1
  have hjr : j < r.length := by simpa [vals, idxI] using hjl
  have e : ringV s x r = vals (idxI r) ++ (vals (List.replicate (6 - (idxI r).length) 0) ++ vals [(numT s x (lineN s r) : Int), (numT s x (lineS s r) : Int)]) := by
    unfold ringV ringInts pad6 vals
    rw [List.map_append, List.map_append, List.append_assoc]
  have : (ringV s x r)[j]? = some u := by
    rw [e, List.getElem?_append_left hjl]
    exact hj
  simpa [ringA] using this
theorem ints_grownT {w w' : World} {q : Nat} {A : Option Addr} {l : List Int} (h : IntsIn w w.heap.size A l) (hg : w.grownBy w' (some q)) (hne : ∀ b, A = some b → b.block ≠ q) : IntsIn w' w'.heap.size A l := fun hn => by
  obtain ⟨b, off, hA, hb, hc⟩ := h hn
  refine ⟨b, off, hA, Nat.lt_of_lt_of_le hb hg.size, fun i hi => ?_⟩
  exact (World.cell?_of_block (a := ⟨b, off + i, none⟩) (hg.block b hb (by intro e; injection e with e; exact hne _ hA e))).trans (hc i hi)
/-- what pattern returns -/
def IsPatT (x h : Nat) (rs : List (List Nat)) (W : World) (e : Ending) (w' : World) : Prop :=
  ∃ A c, e = .returned (.agg #[.int .i64 (x : Nat), .int .i64 (h : Nat), .slice A rs.flatten.length c]) ∧ IntsIn w' w'.heap.size A (idxI rs.flatten) ∧ Below W.heap.size W w' ∧ ∀ b, A = some b → W.heap.size ≤ b.block
theorem flat_len_row : ∀ (rs : List (List Nat)) (x : Nat), (∀ r ∈ rs, r.length = x) → rs.flatten.length = rs.length * x
  | [], x, _ => by simp
  | r :: rs, x, h => by
    rw [List.flatten_cons, List.length_append, h r (by simp), flat_len_row rs x (fun q hq => h q (by simp [hq])), List.length_cons, Nat.add_mul]
    omega
set_option maxHeartbeats 8000000 in
theorem pattern_anyT (s : List Tl) (X x h g : Nat) (rs : List (List Nat)) (w : World) (hx1 : 1 ≤ x) (hx6 : x ≤ 6) (hh6 : h ≤ 6) (hrs : h = rs.length) (hrl : ∀ r ∈ rs, r.length = x)
    (hR : ∀ W, Below w.heap.size w W → ∀ y r, rs[y]? = some r → W.rangeAt g (y * 8) (ringV s X r)) :
    Calls Tryd.prog 22 #[.slice (some ⟨g, 0, none⟩) h h, .int .i64 (x : Nat)] w (IsPatT x h rs w) := by
  obtain ⟨i0, hi, hz0, hz1, hz2⟩ := info_parts int_info
  obtain ⟨N, hN⟩ : ∃ N, N = x * h := ⟨_, rfl⟩
  have hN36 : N ≤ 36 := by rw [hN]; exact Nat.mul_le_mul hx6 hh6
  have mN : IntKind.i64.wrap ((x : Int) * (h : Int)) = (N : Int) := by
    have : (x : Int) * (h : Int) = (N : Int) := by rw [hN, Int.natCast_mul]
    rw [this]
    exact IntWalk.i64_in _ (by omega)
  have hby : i0.bytes * N ≤ 281474976710656 := by rw [hz2]; omega
  have HRS := Lib.hid hrs
  have HRL := Lib.hid hrl
  have HR := Lib.hid hR
  clear hrs hrl hR hN
  go_enter Tryd.func22, Tryd.ntmps22
  go_wp2_with (first
    | (at_make; refine wpList_make_own _ rfl _ _ 25 rfl (w.heap.size + 1) 3 i0 (.int .i64 0) 1 Tryd.underlying25 hi hz0 hz1 .i64 .i64 _ N rfl rfl rfl hby (by simp only [maxLen]; omega) (by simp) ?_; intro w3 hown3 hgrow3)
    | fail)
  have hb3 : Below w.heap.size w w3 := ((Below.refl _ _).alloc (Nat.le_refl _) _).grown hgrow3 (by simp) (fun j hj => by cases hj)
  have hres3 : w3.heap[w.heap.size]? = some (.cells #[.int .i64 0, .int .i64 0, .slice none 0 0] 27 (0, 0)) := (hgrow3.block _ (by simp) (by simp)).trans (heap_at w _ _ rfl)
  go_loopw [5, 15] (fun v i wr => ∃ y : Nat, y ≤ h ∧ i = .int .i64 y ∧ wr.ownsRow (w.heap.size + 1) 3 1 v (y * x) (vals (idxI (rs.take y).flatten)) ∧ Hid (wr.heap[w.heap.size]? = some (.cells #[.int .i64 0, .int .i64 0, .slice none 0 0] 27 (0, 0))) ∧ Below w.heap.size w wr) (fun _ i _ => h - (intOf i).toNat)
  case atStart =>
    refine ⟨0, Nat.zero_le _, rfl, ?_, hres3, hb3⟩
    rw [Nat.zero_mul]
    simpa [idxI, vals] using hown3
  case round =>
    clear hown3 hgrow3 hb3 hres3
    obtain ⟨y, hy, rfl, hown, hres, hbw⟩ := hrel
    obtain ⟨wo, rfl⟩ : ∃ wo : World, wo = wr := ⟨_, rfl⟩
    have hsr : w.heap.size < wo.heap.size := (Array.getElem?_eq_some_iff.1 hres.out).1
    by_cases hyh : y < h
    · have hyl : y < rs.length := by rw [← HRS.out]; exact hyh
      obtain ⟨r, hr⟩ : ∃ r, rs[y]? = some r := ⟨_, List.getElem?_eq_getElem hyl⟩
      have hrange := HR.out wo hbw y r hr
      have hrx : r.length = x := HRL.out r (List.mem_of_getElem? hr)
      have hr6 : r.length ≤ 6 := by omega
      have hone : Hid ((ringA s X r).all (·.oneCell') = true) := ringA_one s X r
      have hsize : Hid ((ringA s X r).size = 8) := ringA_size s X r hr6
      have hy0 : (0 : Int) ≤ (y : Int) := by omega
      have hy1 : (y : Int) < (h : Int) := by omega
      have hx0 : (0 : Int) ≤ (x : Int) := by omega
      have hx6i : (x : Int) ≤ 6 := by omega
      have htk : (rs.take (y + 1)).flatten = (rs.take y).flatten ++ r := by
        rw [List.take_succ_eq_append_getElem hyl, List.flatten_append]
        have := (List.getElem?_eq_some_iff.1 hr).2
        rw [this]
        simp
      have hvl : (vals (idxI r)).length = x * 1 := by simp [vals, idxI, hrx]
      have hyx : y * x ≤ 36 := by
        have := Nat.mul_le_mul (Nat.le_trans hy hh6) hx6
        omega
      have HTK := Lib.hid htk
      have HVL := Lib.hid hvl
      have HOWN := Lib.hid hown
      have HRX := Lib.hid hrx
      clear hyl hr htk hvl hrx hown
      go_wp2_with (first
        | (refine wpList_load_mid rfl _ _ rfl g (y * 8) rfl (ringV s X r) _ hrange Tryd.underlying75 rfl (by rw [ring_size]; simp [ringV_len s X r hr6]) ?_)
        | (refine wpList_store_whole rfl _ _ _ rfl wo.heap.size (ringA s X r) rfl rfl _ _ (heap_alloc_new wo _) (by rw [hsize.out]; rfl) (by rw [ring_size, hsize.out]) hone.out ?_; intro wz hgz hsz' hbz; have hvz := below_var hgz)
        | (at_builtin; refine wpList_append_own_at _ rfl _ _ 25 rfl (w.heap.size + 1) 3 i0 _ 1 8 Tryd.underlying25 hi hz0 hz1 hz2 rfl (by decide) _ (y * x) _ rfl (own_keep' HOWN.out hvz) ⟨wo.heap.size, 0, none⟩ x 6 (vals (idxI r)) rfl HVL.out (ring_news hbz hr6) (vals_one _) (by simp only [maxLen]; omega) (by omega) (by have := hvz.size; omega) ?_; intro v7 w7 hown7 hgrow7 hnil7 hat7)
        | fail)
      have hgr7 := grown_to (r := u5.ownBlock) hgrow7 rfl
      have hown9 : w7.ownsRow (w.heap.size + 1) 3 1 v7 ((y + 1) * x) (vals (idxI (rs.take (y + 1)).flatten)) := by
        have e : vals (idxI (rs.take (y + 1)).flatten) = vals (idxI (rs.take y).flatten) ++ vals (idxI r) := by rw [HTK.out]; simp [vals, idxI]
        rw [e, Nat.add_mul, Nat.one_mul]
        exact hown7
      have hlo : ∀ j, u5.ownBlock = some j → w.heap.size + 1 ≤ j := fun j e => (HOWN.out.lt j e).1
      have hzs := hvz.size
      have hres7 : Hid (w7.heap[w.heap.size]? = some (.cells #[.int .i64 0, .int .i64 0, .slice none 0 0] 27 (0, 0))) := (hgr7.block _ (by omega) (fun e => by have := hlo _ e.symm; omega)).trans ((hvz.block _ hsr).trans hres.out)
      have hb7 : Below w.heap.size w w7 := (hbw.trans (hvz.mono (by omega))).grown hgr7 (by omega) (fun j e => by have := hlo j e; omega)
      clear hown7 hgrow7 hgr7 hnil7 hat7 hbz hgz hsz' hrange
      go_roundw
      case rel => exact ⟨y + 1, by omega, by go_num, hown9, hres7, hb7⟩
      case measure => simp [intOf]; omega
    · have e : h = y := by omega
      subst e
      obtain ⟨A, c, rfl, hln, hnc, hnm, hI, hA⟩ := own_ints hown
      have htk : rs.take h = rs := by rw [HRS.out]; exact List.take_length
      rw [htk] at hI
      have hfl : rs.flatten.length = h * x := by rw [flat_len_row rs x HRL.out, ← HRS.out]
      have HI := Lib.hid hI
      have HFL := Lib.hid hfl
      have HRES := Lib.hid hres.out
      obtain ⟨y0, y1, y2, y3⟩ := zcells hres.out
      clear hI hfl htk hln hown hres
      go_wp2_with fail
      obtain ⟨x0, x1, x2, -⟩ := zcells (sets3T (a := .int .i64 x) (b := .int .i64 h) (c := .slice A (h * x) c) HRES.out)
      refine bodyPost_ret (v := .agg #[.int .i64 x, .int .i64 h, .slice A (h * x) c]) (by simp [results, Tryd.results22, go_sem, x0, x1, x2]) rfl ?_
      have G6 := grown3T wo w.heap.size (.int .i64 x) (.int .i64 h) (.slice A (h * x) c)
      exact ⟨A, c, by rw [HFL.out], ints_grownT HI.out G6 (fun b e => by have := hA b e; omega), hbw.grown G6 (by omega) (fun j e => by cases e; exact Nat.le_refl _), fun b e => by have := hA b e; omega⟩
def zPat : Value := .agg #[.int .i64 0, .int .i64 0, .slice none 0 0]
/-- what Find returns -/
def IsFindT (s : List Tl) (wd hg : Int) (W : World) (e : Ending) (w' : World) : Prop :=
  Below W.heap.size W w' ∧ if tcheckE s wd hg ≠ 0 then e = .returned (.tuple #[zPat, .int .i64 (tcheckE s wd hg)]) else match (torsE s wd.toNat hg.toNat).head? with
    | none => e = .returned (.tuple #[zPat, .int .i64 6])
    | some t => ∃ A c, e = .returned (.tuple #[.agg #[.int .i64 wd, .int .i64 hg, .slice A t.flatten.length c], .int .i64 0]) ∧ IntsIn w' w'.heap.size A (idxI t.flatten)
theorem tors_len {s : List Tl} {x : Nat} {u : List Nat} (hu : ∀ i ∈ u, i < (ringsE s x).length) : ∀ r ∈ u.map (fun i => (ringsE s x).getD i []), r.length = x := fun r hr => by
  obtain ⟨i, hi, rfl⟩ := List.mem_map.1 hr
  exact (rings_row (getD_mem' (hu i hi))).1
set_option maxHeartbeats 8000000 in
theorem find_anyT (s : List Tl) (S : Option Addr) (m d : Nat) (wd hg : Int) (w : World) (hm : m = s.length) (hS : SetIn w w.heap.size S s) (hwf : ∀ t ∈ s, twf t) (hml : m ≤ 9223372036854775807) :
    Calls Tryd.prog 7 #[.slice S m d, .int .i64 wd, .int .i64 hg] w (IsFindT s wd hg w) := by
  have hck := fun (W : World) (hb : Below w.heap.size w W) => tcheck_any s S m d wd hg W hm (hS.keep hb hb.size) hwf hml
  have HCK := Lib.hid hck
  have hb1 : Below w.heap.size w (w.alloc (.cells #[.int .i64 0, .int .i64 0, .slice none 0 0] 27)) := (Below.refl _ _).alloc (Nat.le_refl _) _
  have hp1 := heap_at w (.cells #[.int .i64 0, .int .i64 0, .slice none 0 0] 27) _ rfl
  by_cases hc : tcheckE s wd hg = 0
  rotate_left
  · have HK : Hid (∀ e w', e = .returned (.tuple #[zPat, .int .i64 (tcheckE s wd hg)]) → Below w.heap.size w w' → IsFindT s wd hg w e w') := fun e w' h1 h2 => ⟨h2, by rw [if_pos hc]; exact h1⟩
    obtain ⟨ce, hce⟩ : ∃ ce, ce = tcheckE s wd hg := ⟨_, rfl⟩
    rw [← hce] at HK hc
    have HCE := Lib.hid hce
    have d0 : (ce != 0) = true := by simpa using hc
    have HP1 := Lib.hid hp1
    clear hce hck hm hS hwf hc hp1
    go_enter Tryd.func7, Tryd.ntmps7
    go_wp2_with (first
      | (go_at_call 19; refine (HCK.out _ hb1).mono ?_; rw [← HCE.out]; rintro e w1 ⟨rfl, hb2⟩; have hpz := (hb2.block w.heap.size (by simp)).trans HP1.out; have HPZ := Lib.hid hpz; obtain ⟨y0, y1, y2, y3⟩ := zcells hpz; clear hpz)
      | fail)
    obtain ⟨x0, x1, x2, -⟩ := zcells (sets3T (a := .int .i64 0) (b := .int .i64 0) (c := .slice none 0 0) HPZ.out)
    refine bodyPost_ret (v := .tuple #[.agg #[.int .i64 0, .int .i64 0, .slice none 0 0], .int .i64 ce]) (by simp [results, Tryd.results7, go_sem, x0, x1, x2]) rfl ?_
    exact HK.out _ _ rfl (below3T (hb1.trans (hb2.mono hb1.size)) (Nat.le_refl _))
  · obtain ⟨hv, hw1, hw6, hh1, hh6, htm⟩ := tcheck_ok hc
    obtain ⟨x, rfl⟩ : ∃ x : Nat, wd = (x : Int) := ⟨wd.toNat, by omega⟩
    obtain ⟨h, rfl⟩ : ∃ h : Nat, hg = (h : Int) := ⟨hg.toNat, by omega⟩
    have hm1 : m ≤ 1000 := by rw [hm]; exact (vld_iff.1 hv).1
    have hN : ∀ y, y ≤ x → (rws s y).length ≤ 100000000 := fun y hy => Nat.le_trans (rws_fewT s x htm y hy) (by omega)
    have hrn : (ringsE s x).length ≤ 100000000 := Nat.le_trans (List.length_filter_le _ _) (hN x (Nat.le_refl _))
    have hbd := fun (W : World) (hb : Below w.heap.size w W) => bandOf_any s S m d x W hm (hS.keep hb hb.size) hm1 hwf (by omega) hN
    have htor := firstT_tors s x h (by omega)
    have HBD := Lib.hid hbd
    have HP1 := Lib.hid hp1
    have HRN := Lib.hid hrn
    have HTOR := Lib.hid htor
    have HC := Lib.hid hc
    clear hck hm hS hwf hbd hp1 hN hrn htor hv htm
    rw [hc] at HCK
    clear hc
    cases hf : firstT s x h with
    | none =>
      have hth : (torsE s x h).head? = none := by rw [← HTOR.out, hf]; rfl
      have HK : Hid (∀ e w', e = .returned (.tuple #[zPat, .int .i64 6]) → Below w.heap.size w w' → IsFindT s x h w e w') := fun e w' h1 h2 => ⟨h2, by rw [if_neg (by rw [HC.out]; simp)]; simp only [Int.toNat_natCast]; rw [hth]; exact h1⟩
      have HF := Lib.hid hf
      clear hf hth
      go_enter Tryd.func7, Tryd.ntmps7
      go_wp2_with (first
        | (go_at_call 19; refine (HCK.out _ hb1).mono ?_; rintro e w1 ⟨rfl, hb2⟩; have hpz := (hb2.block w.heap.size (by simp)).trans HP1.out; have HPZ := Lib.hid hpz; have hbw1 := hb1.trans (hb2.mono hb1.size); clear hpz)
        | (go_at_call 20; refine (HBD.out _ hbw1).mono ?_; rintro e w2 ⟨R, rc, O, oc, rfl, hband, -, hb3⟩; have HBAND := Lib.hid hband; clear hband; have hw1s := (Array.getElem?_eq_some_iff.1 HPZ.out).1)
        | (go_at_call 21; refine (first_anyT s x h rc O oc R _ (by omega) (by omega) (by omega) HRN.out HBAND.out).mono ?_; rintro e w3 ⟨hb4, hres⟩; rw [HF.out] at hres; subst hres; have hp3 := (hb4.block w.heap.size (by have := hb3.size; omega)).trans ((hb3.block _ hw1s).trans HPZ.out); have HP3 := Lib.hid hp3; obtain ⟨y0, y1, y2, y3⟩ := zcells hp3; clear hp3)
        | fail)
      obtain ⟨x0, x1, x2, -⟩ := zcells (sets3T (a := .int .i64 0) (b := .int .i64 0) (c := .slice none 0 0) HP3.out)
      refine bodyPost_ret (v := .tuple #[.agg #[.int .i64 0, .int .i64 0, .slice none 0 0], .int .i64 6]) (by simp [results, Tryd.results7, go_sem, x0, x1, x2]) rfl ?_
      exact HK.out _ _ rfl (below3T ((hbw1.trans (hb3.mono hbw1.size)).trans (hb4.mono (by have := hb3.size; omega))) (Nat.le_refl _))
    | some u =>
      have hth : (torsE s x h).head? = some (u.map fun i => (ringsE s x).getD i []) := by rw [← HTOR.out, hf]; rfl
      obtain ⟨rs, hrs⟩ : ∃ rs, rs = u.map fun i => (ringsE s x).getD i [] := ⟨_, rfl⟩
      rw [← hrs] at hth
      have HK : Hid (∀ A c e w', e = .returned (.tuple #[.agg #[.int .i64 (x : Int), .int .i64 (h : Int), .slice A rs.flatten.length c], .int .i64 0]) → IntsIn w' w'.heap.size A (idxI rs.flatten) → Below w.heap.size w w' → IsFindT s x h w e w') := fun A c e w' h1 h3 h2 => ⟨h2, by rw [if_neg (by rw [HC.out]; simp)]; simp only [Int.toNat_natCast]; rw [hth]; exact ⟨A, c, h1, h3⟩⟩
      obtain ⟨L, hL⟩ : ∃ L, L = rs.flatten.length := ⟨_, rfl⟩
      have h0 : (0 : Int) < (h : Int) := by omega
      have HRS := Lib.hid hrs
      have HF := Lib.hid hf
      have HL := Lib.hid hL
      clear hf hth hrs hL
      go_enter Tryd.func7, Tryd.ntmps7
      go_wp2_with (first
        | (go_at_call 19; refine (HCK.out _ hb1).mono ?_; rintro e w1 ⟨rfl, hb2⟩; have hpz := (hb2.block w.heap.size (by simp)).trans HP1.out; have HPZ := Lib.hid hpz; have hbw1 := hb1.trans (hb2.mono hb1.size); clear hpz)
        | (go_at_call 20; refine (HBD.out _ hbw1).mono ?_; rintro e w2 ⟨R, rc, O, oc, rfl, hband, -, hb3⟩; have HBAND := Lib.hid hband; clear hband; have hw1s := (Array.getElem?_eq_some_iff.1 HPZ.out).1)
        | (go_at_call 21; refine (first_anyT s x h rc O oc R _ (by omega) (by omega) (by omega) HRN.out HBAND.out).mono ?_; rintro e w3 ⟨hb4, hres⟩; rw [HF.out] at hres; obtain ⟨g, rfl, hg2, hg3, hul, hui, hrng⟩ := hres; have hp3 := (hb4.block w.heap.size (by have := hb3.size; omega)).trans ((hb3.block _ hw1s).trans HPZ.out); have HP3 := Lib.hid hp3; have HUL := Lib.hid hul; have HUI := Lib.hid hui; have HRNG := Lib.hid hrng; clear hp3 hul hui hrng)
        | (go_at_call 22; refine (pattern_anyT s x x h g rs w3 (by omega) (by omega) (by omega) (by rw [HRS.out, List.length_map]; exact HUL.out.symm) (by rw [HRS.out]; exact tors_len HUI.out) (fun W hb y r hr => rangeAt_keep (HRNG.out y r (by rw [← HRS.out]; exact hr)) hb hg3)).mono ?_; rintro e w4 ⟨A, c, rfl, hI, hb5, hA⟩; rw [← HL.out]; have hp4 := (hb5.block w.heap.size (Array.getElem?_eq_some_iff.1 HP3.out).1).trans HP3.out; have HP4 := Lib.hid hp4; have HI := Lib.hid hI; obtain ⟨y0, y1, y2, y3⟩ := zcells hp4; clear hp4 hI)
        | fail)
      obtain ⟨x0, x1, x2, -⟩ := zcells (sets3T (a := .int .i64 x) (b := .int .i64 h) (c := .slice A L c) HP4.out)
      refine bodyPost_ret (v := .tuple #[.agg #[.int .i64 x, .int .i64 h, .slice A L c], .int .i64 0]) (by simp [results, Tryd.results7, go_sem, x0, x1, x2]) rfl ?_
      have hs2 := hb3.size
      have hs3 := hb4.size
      have hlow : w.heap.size < w3.heap.size := (Array.getElem?_eq_some_iff.1 HP3.out).1
      exact HK.out A c _ _ (by rw [← HL.out]) (ints_grownT HI.out (grown3T w4 w.heap.size _ _ _) fun b e => by have := hA b e; omega) (below3T (((hbw1.trans (hb3.mono hbw1.size)).trans (hb4.mono (by omega))).trans (hb5.mono (by omega))) (Nat.le_refl _))
end
section
open Go.RowKit Go.Maps Go.BigFrame Go.Sort
set_option linter.unusedVariables false
set_option linter.unusedSimpArgs false
set_option maxRecDepth 100000

/-- the size of c + 1 cells and a width of w + 1, if there is one -/
def szT (m c w : Nat) : Option (Nat × Nat) := if (c + 1) % (w + 1) = 0 ∧ (c + 1) / (w + 1) ≤ m then some (w + 1, (c + 1) / (w + 1)) else none
def lsF (s : List Tl) (p : Nat × Nat) : Option (Nat × Nat × List (List Nat)) := (torsE s p.1 p.2).head?.map fun t => (p.1, p.2, t)
/-- the first torus of less than C + 1 cells -/
def lstK (s : List Tl) (m C : Nat) : Option (Nat × Nat × List (List Nat)) := ((List.range C).flatMap fun c => (List.range m).filterMap (szT m c)).findSome? (lsF s)
/-- the first torus of C + 1 cells and a width of less than j + 1 -/
def lstR (s : List Tl) (m C j : Nat) : Option (Nat × Nat × List (List Nat)) := ((List.range j).filterMap (szT m C)).findSome? (lsF s)
theorem lst_all (s : List Tl) (m : Nat) : lstK s m (m * m) = leastE s m := rfl
theorem lst_end {s : List Tl} {m C : Nat} (h : lstK s m C = none) (h' : lstR s m C m = none) : lstK s m (C + 1) = none := by
  unfold lstK at h ⊢
  unfold lstR at h'
  rw [List.range_succ, List.flatMap_append, List.findSome?_append, h]
  simpa using h'
theorem lst_skip {s : List Tl} {m C j : Nat} (h : lstR s m C j = none) (hs : szT m C j = none) : lstR s m C (j + 1) = none := by
  unfold lstR at h ⊢
  rw [List.range_succ, List.filterMap_append, List.findSome?_append, h]
  simp [hs]
theorem lst_none {s : List Tl} {m C j : Nat} {p : Nat × Nat} (h : lstR s m C j = none) (hs : szT m C j = some p) (hf : lsF s p = none) : lstR s m C (j + 1) = none := by
  unfold lstR at h ⊢
  rw [List.range_succ, List.filterMap_append, List.findSome?_append, h]
  simp [hs, hf]
theorem range_split (n j : Nat) (h : j < n) : List.range n = List.range j ++ j :: (List.range (n - (j + 1))).map (j + 1 + ·) := by
  have h2 : n = j + (1 + (n - (j + 1))) := by omega
  conv => lhs; rw [h2, List.range_add, List.range_add]
  simp [Nat.add_assoc, Nat.add_comm, Nat.add_left_comm]
theorem lst_found {s : List Tl} {m C j : Nat} {p : Nat × Nat} {v : Nat × Nat × List (List Nat)} (hC : C < m * m) (hj : j < m) (h : lstK s m C = none) (h' : lstR s m C j = none) (hs : szT m C j = some p) (hf : lsF s p = some v) : leastE s m = some v := by
  rw [← lst_all]
  unfold lstK at h ⊢
  unfold lstR at h'
  rw [range_split (m * m) C hC, List.flatMap_append, List.findSome?_append, h, List.flatMap_cons, List.findSome?_append]
  rw [range_split m j hj, List.filterMap_append, List.findSome?_append, h']
  simp [hs, hf]
theorem sz_some {m C j ht : Nat} (h1 : ht * (j + 1) = C + 1) (h2 : ht ≤ m) : szT m C j = some (j + 1, ht) := by
  have e : (C + 1) / (j + 1) = ht := by rw [← h1]; exact Nat.mul_div_cancel _ (by omega)
  unfold szT
  rw [e, if_pos ⟨by rw [← h1]; exact Nat.mul_mod_left _ _, h2⟩]
theorem sz_no {m C j : Nat} (h : (C + 1) / (j + 1) * (j + 1) ≠ C + 1 ∨ m < (C + 1) / (j + 1)) : szT m C j = none := by
  unfold szT
  rw [if_neg]
  rintro ⟨h1, h2⟩
  rcases h with h | h
  · exact h (Nat.div_mul_cancel (Nat.dvd_of_mod_eq_zero h1))
  · omega
/-- the band of a width lies in the table of bands -/
def BandAt (s : List Tl) (w : World) (bb v : Nat) : Prop :=
  ∃ R rc O oc, w.cell? ⟨bb, v * 2, none⟩ = some (.slice R (ringsE s v).length rc) ∧ w.cell? ⟨bb, v * 2 + 1, none⟩ = some (.slice (some ⟨O, 0, none⟩) (nlT s v) oc) ∧ BandIn s v w w.heap.size R O ∧ BandLo (bb + 1) w R O (nlT s v)
theorem BandAt.keep {s : List Tl} {w w' : World} {bb v : Nat} (h : BandAt s w bb v) (hbb : bb < w.heap.size) (hb : Below w.heap.size w w') : BandAt s w' bb v := by
  obtain ⟨R, rc, O, oc, h1, h2, h3, h4⟩ := h
  exact ⟨R, rc, O, oc, (hb.cell (p := ⟨bb, v * 2, none⟩) hbb).trans h1, (hb.cell (p := ⟨bb, v * 2 + 1, none⟩) hbb).trans h2, h3.keep hb hb.size, h4.keep h3.lt hb⟩
theorem BandAt.set {s : List Tl} {w : World} {bb v v' : Nat} (h : BandAt s w bb v) (hne : v ≠ v') (a b : Value) : BandAt s ((w.setCell ⟨bb, v' * 2, none⟩ a).setCell ⟨bb, v' * 2 + 1, none⟩ b) bb v := by
  obtain ⟨R, rc, O, oc, h1, h2, h3, h4⟩ := h
  have hg := (grown_one w bb (v' * 2) a).trans (grown_one (w.setCell ⟨bb, v' * 2, none⟩ a) bb (v' * 2 + 1) b)
  refine ⟨R, rc, O, oc, ?_, ?_, h3.grown h4 hg (by omega), h4.grown h3.lt hg (by omega)⟩
  · rw [World.cell?_setCell_other _ _ _ _ (fun e => by injection e with _ e2; omega), World.cell?_setCell_other _ _ _ _ (fun e => by injection e with _ e2; omega)]
    exact h1
  · rw [World.cell?_setCell_other _ _ _ _ (fun e => by injection e with _ e2; omega), World.cell?_setCell_other _ _ _ _ (fun e => by injection e with _ e2; omega)]
    exact h2
theorem BandAt.made {s : List Tl} {w : World} {bb v : Nat} {R : Option Addr} {rc O oc : Nat} (hB : BandIn s v w w.heap.size R O) (hl : BandLo (bb + 1) w R O (nlT s v)) (h1 : ∃ u, w.cell? ⟨bb, v * 2, none⟩ = some u) (h2 : ∃ u, w.cell? ⟨bb, v * 2 + 1, none⟩ = some u) :
    BandAt s ((w.setCell ⟨bb, v * 2, none⟩ (.slice R (ringsE s v).length rc)).setCell ⟨bb, v * 2 + 1, none⟩ (.slice (some ⟨O, 0, none⟩) (nlT s v) oc)) bb v := by
  obtain ⟨u1, h1⟩ := h1
  obtain ⟨u2, h2⟩ := h2
  have hg := (grown_one w bb (v * 2) (.slice R (ringsE s v).length rc)).trans (grown_one (w.setCell ⟨bb, v * 2, none⟩ (.slice R (ringsE s v).length rc)) bb (v * 2 + 1) (.slice (some ⟨O, 0, none⟩) (nlT s v) oc))
  refine ⟨R, rc, O, oc, ?_, ?_, hB.grown hl hg (by omega), hl.grown hB.lt hg (by omega)⟩
  · rw [World.cell?_setCell_other _ _ _ _ (fun e => by injection e with _ e2; omega)]
    exact World.cell?_setCell_same _ _ _ h1
  · exact World.cell?_setCell_same _ _ _ ((World.cell?_setCell_other _ _ _ _ (fun e => by injection e with _ e2; omega)).trans h2)
/-- the table of bands: fourteen cells that may be written -/
def TabOk (w : World) (bb : Nat) : Prop := bb < w.heap.size ∧ (∀ o, o < 14 → ∃ u, w.cell? ⟨bb, o, none⟩ = some u) ∧ ∀ o, w.frozen? ⟨bb, o, none⟩ = false
theorem TabOk.keep {w w' : World} {bb : Nat} (h : TabOk w bb) (hb : Below w.heap.size w w') : TabOk w' bb :=
  ⟨Nat.lt_of_lt_of_le h.1 hb.size, fun o ho => by obtain ⟨u, hu⟩ := h.2.1 o ho; exact ⟨u, (hb.cell (p := ⟨bb, o, none⟩) h.1).trans hu⟩, fun o => (hb.frozen (p := ⟨bb, o, none⟩) h.1).trans (h.2.2 o)⟩
theorem TabOk.set {w : World} {bb : Nat} (h : TabOk w bb) (o : Nat) (v : Value) : TabOk (w.setCell ⟨bb, o, none⟩ v) bb := by
  refine ⟨by rw [setCell_heap_size]; exact h.1, fun o' ho' => ?_, fun o' => by rw [World.frozen?_setCell]; exact h.2.2 o'⟩
  obtain ⟨u, hu⟩ := h.2.1 o' ho'
  by_cases e : o' = o
  · subst e; exact ⟨v, World.cell?_setCell_same _ _ _ hu⟩
  · exact ⟨u, (World.cell?_setCell_other _ _ _ _ (fun e' => by injection e' with _ e2; omega)).trans hu⟩
/-- what Least returns -/
def IsLeastT (s : List Tl) (mo : Int) (W : World) (e : Ending) (w' : World) : Prop :=
  Below W.heap.size W w' ∧ if tcheckE s mo mo ≠ 0 then e = .returned (.tuple #[zPat, .int .i64 (tcheckE s mo mo)]) else match leastE s mo.toNat with
    | none => e = .returned (.tuple #[zPat, .int .i64 6])
    | some (a, b, t) => ∃ A c, e = .returned (.tuple #[.agg #[.int .i64 (a : Nat), .int .i64 (b : Nat), .slice A t.flatten.length c], .int .i64 0]) ∧ IntsIn w' w'.heap.size A (idxI t.flatten)
set_option maxHeartbeats 8000000 in
theorem least_anyT (s : List Tl) (S : Option Addr) (md d : Nat) (mo : Int) (w : World) (hm : md = s.length) (hS : SetIn w w.heap.size S s) (hwf : ∀ t ∈ s, twf t) (hml : md ≤ 9223372036854775807) :
    Calls Tryd.prog 13 #[.slice S md d, .int .i64 mo] w (IsLeastT s mo w) := by
  have hck := fun (W : World) (hb : Below w.heap.size w W) => tcheck_any s S md d mo mo W hm (hS.keep hb hb.size) hwf hml
  have HCK := Lib.hid hck
  have hb1 : Below w.heap.size w (w.alloc (.cells #[.int .i64 0, .int .i64 0, .slice none 0 0] 27)) := (Below.refl _ _).alloc (Nat.le_refl _) _
  have hp1 := heap_at w (.cells #[.int .i64 0, .int .i64 0, .slice none 0 0] 27) _ rfl
  by_cases hc : tcheckE s mo mo = 0
  rotate_left
  · have HK : Hid (∀ e w', e = .returned (.tuple #[zPat, .int .i64 (tcheckE s mo mo)]) → Below w.heap.size w w' → IsLeastT s mo w e w') := fun e w' h1 h2 => ⟨h2, by rw [if_pos hc]; exact h1⟩
    obtain ⟨ce, hce⟩ : ∃ ce, ce = tcheckE s mo mo := ⟨_, rfl⟩
    rw [← hce] at HK hc
    have HCE := Lib.hid hce
    have d0 : (ce != 0) = true := by simpa using hc
    have HP1 := Lib.hid hp1
    clear hce hck hm hS hwf hc hp1
    go_enter Tryd.func13, Tryd.ntmps13
    go_wp2_with (first
      | (go_at_call 19; refine (HCK.out _ hb1).mono ?_; rw [← HCE.out]; rintro e w1 ⟨rfl, hb2⟩; have hpz := (hb2.block w.heap.size (by simp)).trans HP1.out; have HPZ := Lib.hid hpz; obtain ⟨y0, y1, y2, y3⟩ := zcells hpz; clear hpz)
      | fail)
    obtain ⟨x0, x1, x2, -⟩ := zcells (sets3T (a := .int .i64 0) (b := .int .i64 0) (c := .slice none 0 0) HPZ.out)
    refine bodyPost_ret (v := .tuple #[.agg #[.int .i64 0, .int .i64 0, .slice none 0 0], .int .i64 ce]) (by simp [results, Tryd.results13, go_sem, x0, x1, x2]) rfl ?_
    exact HK.out _ _ rfl (below3T (hb1.trans (hb2.mono hb1.size)) (Nat.le_refl _))
  · obtain ⟨hv, hw1, hw6, -, -, htm⟩ := tcheck_ok hc
    obtain ⟨m, rfl⟩ : ∃ m : Nat, mo = (m : Int) := ⟨mo.toNat, by omega⟩
    have hm1 : md ≤ 1000 := by rw [hm]; exact (vld_iff.1 hv).1
    have hN : ∀ y, y ≤ m → (rws s y).length ≤ 100000000 := fun y hy => Nat.le_trans (rws_fewT s m htm y hy) (by omega)
    have hbd := fun (v : Nat) (hvm : v ≤ m) (W : World) (hb : Below w.heap.size w W) => bandOf_any s S md d v W hm (hS.keep hb hb.size) hm1 hwf (by omega) (fun y hy => hN y (by omega))
    have hrn : ∀ v, v ≤ m → (ringsE s v).length ≤ 100000000 := fun v hvm => Nat.le_trans (List.length_filter_le _ _) (hN v hvm)
    obtain ⟨M, hM⟩ : ∃ M, M = m * m := ⟨_, rfl⟩
    have hm6 : m ≤ 6 := by omega
    have hm0 : 1 ≤ m := by omega
    have hM36 : M ≤ 36 := by rw [hM]; exact Nat.mul_le_mul hm6 hm6
    have hmM : m ≤ M := by rw [hM]; exact Nat.le_mul_of_pos_left m hm0
    have mM : IntKind.i64.wrap ((m : Int) * (m : Int)) = (M : Int) := by
      have : (m : Int) * (m : Int) = (M : Int) := by rw [hM, Int.natCast_mul]
      rw [this]
      exact IntWalk.i64_in _ (by omega)
    have HBD := Lib.hid hbd
    have HP1 := Lib.hid hp1
    have HRN := Lib.hid hrn
    have HC := Lib.hid hc
    have HM := Lib.hid hM
    clear hck hm hS hwf hbd hp1 hN hrn hv htm hM
    rw [hc] at HCK
    clear hc hw1 hw6
    go_enter Tryd.func13, Tryd.ntmps13
    go_wp2_with (first
      | (go_at_call 19; refine (HCK.out _ hb1).mono ?_; rintro e w1 ⟨rfl, hb2⟩; have hpz := (hb2.block w.heap.size (by simp)).trans HP1.out; have HPZ := Lib.hid hpz; have hbw1 := hb1.trans (hb2.mono hb1.size); clear hpz)
      | fail)
    obtain ⟨bb, hbb⟩ : ∃ bb, bb = w1.heap.size := ⟨_, rfl⟩
    obtain ⟨W2, hW2⟩ : ∃ W2, W2 = w1.alloc (.cells #[.slice none 0 0, .slice none 0 0, .slice none 0 0, .slice none 0 0, .slice none 0 0, .slice none 0 0, .slice none 0 0, .slice none 0 0, .slice none 0 0, .slice none 0 0, .slice none 0 0, .slice none 0 0, .slice none 0 0, .slice none 0 0] 59) := ⟨_, rfl⟩
    have hblk := heap_at w1 (.cells #[.slice none 0 0, .slice none 0 0, .slice none 0 0, .slice none 0 0, .slice none 0 0, .slice none 0 0, .slice none 0 0, .slice none 0 0, .slice none 0 0, .slice none 0 0, .slice none 0 0, .slice none 0 0, .slice none 0 0, .slice none 0 0] 59) _ rfl
    rw [← hW2, ← hbb] at hblk
    have htab : TabOk W2 bb := by
      refine ⟨(Array.getElem?_eq_some_iff.1 hblk).1, fun o ho => ?_, frozen_b hblk⟩
      rw [cell_of_row _ _ o _ _ _ hblk]
      exact ⟨_, Array.getElem?_eq_getElem (by simpa using ho)⟩
    have hresW : W2.heap[w.heap.size]? = some (.cells #[.int .i64 0, .int .i64 0, .slice none 0 0] 27 (0, 0)) := by rw [hW2]; exact heap_kp HPZ.out _
    have hbW : Below w.heap.size w W2 := by rw [hW2]; exact hbw1.alloc hbw1.size _
    have hbbw : w.heap.size < bb := by rw [hbb]; exact (Array.getElem?_eq_some_iff.1 HPZ.out).1
    rw [← hW2, ← hbb]
    clear hblk hW2 hbb hb2 HPZ hbw1 hb1 HP1
    go_loopw [8] (fun cv wr => ∃ c C : Nat, cv = .int .i64 (c : Int) ∧ Hid (c = C + 1) ∧ C ≤ M ∧ Hid (TabOk wr bb) ∧ Hid (wr.heap[w.heap.size]? = some (.cells #[.int .i64 0, .int .i64 0, .slice none 0 0] 27 (0, 0))) ∧ Below w.heap.size w wr ∧
      Hid (∀ v, 1 ≤ v → v ≤ m → v < c → BandAt s wr bb v) ∧ Hid (lstK s m C = none)) (fun cv _ => M + 1 - (intOf cv).toNat)
    case atStart => exact ⟨1, 0, rfl, rfl, Nat.zero_le _, htab, hresW, hbW, fun v h1 _ h2 => by omega, rfl⟩
    case round =>
      clear htab hresW hbW
      obtain ⟨c, C, rfl, hcC, hCM, htab, hres, hbw, hbands, hK⟩ := hrel
      obtain ⟨wo, rfl⟩ : ∃ wo : World, wo = wr := ⟨_, rfl⟩
      have hc1 : c = C + 1 := hcC
      by_cases hcM : c ≤ M
      · have HC1 := Lib.hid hc1
        have hcM' : (c : Int) ≤ (M : Int) := by omega
        have hCM1 : C < M := by omega
        have hc36 : c ≤ 36 := by omega
        have hc01 : 1 ≤ c := by omega
        clear hc1
        go_wp2_with fail
        go_loopw [9] (fun wv wr => ∃ wd j : Nat, wv = .int .i64 (wd : Int) ∧ Hid (wd = j + 1) ∧ j ≤ m ∧ Hid (TabOk wr bb) ∧ Hid (wr.heap[w.heap.size]? = some (.cells #[.int .i64 0, .int .i64 0, .slice none 0 0] 27 (0, 0))) ∧ Below w.heap.size w wr ∧
          Hid (∀ v, 1 ≤ v → v ≤ m → (v < c ∨ (v = c ∧ v < wd)) → BandAt s wr bb v) ∧ Hid (lstR s m C j = none)) (fun wv _ => m + 1 - (intOf wv).toNat)
        case atStart => exact ⟨1, 0, rfl, rfl, Nat.zero_le _, htab, hres, hbw, fun v h1 h2 h3 => hbands.out v h1 h2 (by omega), rfl⟩
        case round =>
          clear htab hres hbw hbands
          obtain ⟨wd, j, rfl, hwj, hjm, htab, hres, hbw, hbands, hR⟩ := hrel
          obtain ⟨wi, rfl⟩ : ∃ wi : World, wi = wr := ⟨_, rfl⟩
          have hwj1 : wd = j + 1 := hwj
          by_cases hwm : wd ≤ m
          · have hwm' : (wd : Int) ≤ (m : Int) := by omega
            have hjm1 : j < m := by omega
            have hwd1 : 1 ≤ wd := by omega
            have hwd6 : wd ≤ 6 := by omega
            have hwd0 : ¬ ((wd : Int) = 0) := by omega
            have HW1 := Lib.hid hwj1
            clear hwj1
            obtain ⟨ht, hht⟩ : ∃ ht, ht = c / wd := ⟨_, rfl⟩
            have hq : Int.tdiv (c : Int) (wd : Int) = (ht : Int) := by rw [hht]; rfl
            have hht36 : ht ≤ 36 := by rw [hht]; exact Nat.le_trans (Nat.div_le_self _ _) hc36
            obtain ⟨pr, hpr⟩ : ∃ pr, pr = ht * wd := ⟨_, rfl⟩
            have hpr' : pr ≤ 36 := by rw [hpr, hht]; exact Nat.le_trans (Nat.div_mul_le_self _ _) hc36
            have mp : IntKind.i64.wrap ((ht : Int) * (wd : Int)) = (pr : Int) := by
              have : (ht : Int) * (wd : Int) = (pr : Int) := by rw [hpr, Int.natCast_mul]
              rw [this]
              exact IntWalk.i64_in _ (by omega)
            have HHT := Lib.hid hht
            have HPR := Lib.hid hpr
            clear hht hpr
            by_cases e1 : pr = c
            · have d1 : ((pr : Int) != (c : Int)) = false := by simp; omega
              have HE1 := Lib.hid e1
              clear e1
              by_cases e2 : m < ht
              · have d2 : (m : Int) < (ht : Int) := by omega
                have hsk : Hid (szT m C j = none) := sz_no (Or.inr (by rw [← HC1.out, ← HW1.out, ← HHT.out]; exact e2))
                have hbands2 : ∀ v, 1 ≤ v → v ≤ m → (v < c ∨ (v = c ∧ v < wd + 1)) → BandAt s wi bb v := fun v h1 h2 h3 => hbands.out v h1 h2 (by
                  rcases h3 with h3 | ⟨h3, h4⟩
                  · exact Or.inl h3
                  · refine Or.inr ⟨h3, ?_⟩
                    rcases Nat.lt_or_ge v wd with h5 | h5
                    · exact h5
                    · exfalso
                      have e5 : wd = c := by omega
                      have e6 : ht = 1 := by rw [HHT.out, e5]; exact Nat.div_self (by omega)
                      have e7 : pr = c := by rw [HPR.out, e6, e5, Nat.one_mul]
                      omega)
                have HB2 := Lib.hid hbands2
                clear hbands2
                go_wp2_with fail
                go_roundw
                case rel => exact ⟨wd + 1, j + 1, by go_num, by show _ = _; rw [HW1.out], by omega, htab, hres, hbw, HB2.out, lst_skip hR.out hsk.out⟩
                case measure => simp [intOf]; omega
              · have d2 : ¬ ((m : Int) < (ht : Int)) := by omega
                have hsz : Hid (szT m C j = some (wd, ht)) := by
                  show _ = _
                  rw [HW1.out]
                  exact sz_some (by rw [← HW1.out, ← HC1.out, ← HE1.out, HPR.out]) (by omega)
                have hht0 : 1 ≤ ht := by
                  rcases Nat.eq_zero_or_pos ht with e | e
                  · have := HPR.out
                    rw [e, Nat.zero_mul] at this
                    have := HE1.out
                    omega
                  · exact e
                go_upto_if 46 with fail
                go_cut [] from 45 to 62 (fun wx => Hid (TabOk wx bb) ∧ Hid (wx.heap[w.heap.size]? = some (.cells #[.int .i64 0, .int .i64 0, .slice none 0 0] 27 (0, 0))) ∧ Below w.heap.size w wx ∧ Hid (∀ v, 1 ≤ v → v ≤ m → (v < c ∨ (v = c ∧ v < wd + 1)) → BandAt s wx bb v) ∧ Hid (BandAt s wx bb wd))
                case first =>
                  have wd0 : (0 : Int) ≤ (wd : Int) := by omega
                  have wd7 : (wd : Int) < 7 := by omega
                  have hbbi : bb < wi.heap.size := htab.out.1
                  by_cases e3 : ht = 1
                  · have d3 : ((ht : Int) == 1) = true := by rw [beq_iff_eq]; omega
                    clear e3
                    go_wp2_with (first
                      | (go_at_call 20; refine (HBD.out wd hwm wi hbw).mono ?_; rintro e w5 ⟨R, rc, O, oc, rfl, hband, hlo, hb5⟩; have HBAND := Lib.hid hband; have HLO := Lib.hid (hlo.mono (lo' := bb + 1) hbbi); have hT5 := htab.out.keep hb5; obtain ⟨u1, z1⟩ := hT5.2.1 (wd * 2) (by omega); obtain ⟨u2, z2⟩ := hT5.2.1 (wd * 2 + 1) (by omega); have zf1 := hT5.2.2 (wd * 2); have zf2 := hT5.2.2 (wd * 2 + 1); have HT5 := Lib.hid hT5; clear hband hlo hT5)
                      | fail)
                    have hg := (grown_one w5 bb (wd * 2) (.slice R (ringsE s wd).length rc)).trans (grown_one (w5.setCell ⟨bb, wd * 2, none⟩ (.slice R (ringsE s wd).length rc)) bb (wd * 2 + 1) (.slice (some ⟨O, 0, none⟩) (nlT s wd) oc))
                    have hmade := BandAt.made (rc := rc) (oc := oc) HBAND.out HLO.out ⟨_, z1⟩ ⟨_, z2⟩
                    have hothers : ∀ v, 1 ≤ v → v ≤ m → (v < c ∨ (v = c ∧ v < wd + 1)) → BandAt s ((w5.setCell ⟨bb, wd * 2, none⟩ (.slice R (ringsE s wd).length rc)).setCell ⟨bb, wd * 2 + 1, none⟩ (.slice (some ⟨O, 0, none⟩) (nlT s wd) oc)) bb v := fun v h1 h2 h3 => by
                      by_cases ev : v = wd
                      · rw [ev]; exact hmade
                      · exact ((hbands.out v h1 h2 (by omega)).keep hbbi hb5).set ev _ _
                    have hres7 : Hid (((w5.setCell ⟨bb, wd * 2, none⟩ (.slice R (ringsE s wd).length rc)).setCell ⟨bb, wd * 2 + 1, none⟩ (.slice (some ⟨O, 0, none⟩) (nlT s wd) oc)).heap[w.heap.size]? = some (.cells #[.int .i64 0, .int .i64 0, .slice none 0 0] 27 (0, 0))) := (hg.block _ (by have := hb5.size; omega) (by intro e; injection e with e; omega)).trans ((hb5.block _ (by omega)).trans hres.out)
                    have hb7 : Below w.heap.size w ((w5.setCell ⟨bb, wd * 2, none⟩ (.slice R (ringsE s wd).length rc)).setCell ⟨bb, wd * 2 + 1, none⟩ (.slice (some ⟨O, 0, none⟩) (nlT s wd) oc)) := (hbw.trans (hb5.mono hbw.size)).grown hg (by have := hb5.size; omega) (fun j e => by cases e; omega)
                    have HMADE := Lib.hid hmade
                    have HOTH := Lib.hid hothers
                    clear hmade hothers hg z1 z2 zf1 zf2
                    go_meet
                    exact ⟨(HT5.out.set _ _).set _ _, hres7, hb7, HOTH, HMADE⟩
                  · have d3 : ((ht : Int) == 1) = false := by rw [beq_eq_false_iff_ne]; omega
                    have hwc : wd < c := by
                      have h1 : 2 * wd ≤ ht * wd := Nat.mul_le_mul_right wd (by omega)
                      have := HPR.out
                      have := HE1.out
                      omega
                    clear e3
                    go_wp2_with fail
                    go_meet
                    exact ⟨htab, hres, hbw, fun v h1 h2 h3 => hbands.out v h1 h2 (by omega), hbands.out wd hwd1 hwm (Or.inl hwc)⟩
                case rest =>
                  clear htab hres hbw hbands
                  obtain ⟨htab, hres, hbw, hbands, hband⟩ := hcut
                  obtain ⟨R, rc, O, oc, k1, k2, hBI, hBL⟩ := hband.out
                  have wd0 : (0 : Int) ≤ (wd : Int) := by omega
                  have wd7 : (wd : Int) < 7 := by omega
                  have htor := firstT_tors s wd ht hht0
                  have hrw := HRN.out wd hwm
                  have hbbc : bb < wc.heap.size := htab.out.1
                  have HBI := Lib.hid hBI
                  have HTOR := Lib.hid htor
                  clear hBI hBL htor hband
                  cases hf : firstT s wd ht with
                  | none =>
                    have hls : Hid (lsF s (wd, ht) = none) := by
                      show (torsE s wd ht).head?.map _ = none
                      rw [← HTOR.out, hf]
                      rfl
                    have HF := Lib.hid hf
                    clear hf
                    go_wp2_with (first
                      | (go_at_call 21; refine (first_anyT s wd ht rc O oc R _ (by omega) hht0 (by omega) hrw HBI.out).mono ?_; rintro e w6 ⟨hb6, hresf⟩; rw [HF.out] at hresf; subst hresf)
                      | fail)
                    have htab6 : Hid (TabOk w6 bb) := htab.out.keep hb6
                    have hres6 : Hid (w6.heap[w.heap.size]? = some (.cells #[.int .i64 0, .int .i64 0, .slice none 0 0] 27 (0, 0))) := (hb6.block _ (by omega)).trans hres.out
                    have hbw6 := hbw.trans (hb6.mono (by omega))
                    have hbands6 : Hid (∀ v, 1 ≤ v → v ≤ m → (v < c ∨ (v = c ∧ v < wd + 1)) → BandAt s w6 bb v) := fun v h1 h2 h3 => (hbands.out v h1 h2 h3).keep hbbc hb6
                    clear htab hres hbands k1 k2
                    go_roundw
                    case rel => exact ⟨wd + 1, j + 1, by go_num, by show _ = _; rw [HW1.out], by omega, htab6, hres6, hbw6, hbands6, lst_none hR.out hsz.out hls.out⟩
                    case measure => simp [intOf]; omega
                  | some u =>
                    obtain ⟨rs, hrs⟩ : ∃ rs, rs = u.map fun i => (ringsE s wd).getD i [] := ⟨_, rfl⟩
                    have hls : lsF s (wd, ht) = some (wd, ht, rs) := by
                      show (torsE s wd ht).head?.map _ = _
                      rw [← HTOR.out, hf, hrs]
                      rfl
                    have hle : leastE s m = some (wd, ht, rs) := lst_found (by rw [← HM.out]; exact hCM1) hjm1 hK.out hR.out hsz.out hls
                    have HKK : Hid (∀ A cc e w', e = .returned (.tuple #[.agg #[.int .i64 (wd : Int), .int .i64 (ht : Int), .slice A rs.flatten.length cc], .int .i64 0]) → IntsIn w' w'.heap.size A (idxI rs.flatten) → Below w.heap.size w w' → IsLeastT s m w e w') := fun A cc e w' h1 h3 h2 => ⟨h2, by rw [if_neg (by rw [HC.out]; simp)]; simp only [Int.toNat_natCast]; rw [hle]; exact ⟨A, cc, h1, h3⟩⟩
                    obtain ⟨L, hL⟩ : ∃ L, L = rs.flatten.length := ⟨_, rfl⟩
                    have h0 : (0 : Int) < (ht : Int) := by omega
                    have HRS := Lib.hid hrs
                    have HF := Lib.hid hf
                    have HL := Lib.hid hL
                    clear hf hrs hL hle hls
                    go_wp2_with (first
                      | (go_at_call 21; refine (first_anyT s wd ht rc O oc R _ (by omega) hht0 (by omega) hrw HBI.out).mono ?_; rintro e w3 ⟨hb4, hresf⟩; rw [HF.out] at hresf; obtain ⟨g, rfl, hg2, hg3, hul, hui, hrng⟩ := hresf; have hp3 := (hb4.block w.heap.size (by omega)).trans hres.out; have HP3 := Lib.hid hp3; have HUL := Lib.hid hul; have HUI := Lib.hid hui; have HRNG := Lib.hid hrng; clear hp3 hul hui hrng)
                      | (go_at_call 22; refine (pattern_anyT s wd wd ht g rs w3 (by omega) (by omega) (by omega) (by rw [HRS.out, List.length_map]; exact HUL.out.symm) (by rw [HRS.out]; exact tors_len HUI.out) (fun W hb y r hr => rangeAt_keep (HRNG.out y r (by rw [← HRS.out]; exact hr)) hb hg3)).mono ?_; rintro e w4 ⟨A, cc, rfl, hI, hb5, hA⟩; rw [← HL.out]; have hp4 := (hb5.block w.heap.size (Array.getElem?_eq_some_iff.1 HP3.out).1).trans HP3.out; have HP4 := Lib.hid hp4; have HI := Lib.hid hI; obtain ⟨y0, y1, y2, y3⟩ := zcells hp4; clear hp4 hI)
                      | fail)
                    obtain ⟨x0, x1, x2, -⟩ := zcells (sets3T (a := .int .i64 wd) (b := .int .i64 ht) (c := .slice A L cc) HP4.out)
                    refine bodyPost_ret (v := .tuple #[.agg #[.int .i64 wd, .int .i64 ht, .slice A L cc], .int .i64 0]) (by simp [results, Tryd.results13, go_sem, x0, x1, x2]) rfl ?_
                    have hs3 := hb4.size
                    have hlow : w.heap.size < w3.heap.size := (Array.getElem?_eq_some_iff.1 HP3.out).1
                    exact HKK.out A cc _ _ (by rw [← HL.out]) (ints_grownT HI.out (grown3T w4 w.heap.size _ _ _) fun b e => by have := hA b e; omega) (below3T ((hbw.trans (hb4.mono (by omega))).trans (hb5.mono (by omega))) (Nat.le_refl _))
            · have d1 : ((pr : Int) != (c : Int)) = true := by simp; omega
              have hsk : Hid (szT m C j = none) := sz_no (Or.inl (by rw [← HC1.out, ← HW1.out, ← HHT.out, ← HPR.out]; exact e1))
              have hbands2 : ∀ v, 1 ≤ v → v ≤ m → (v < c ∨ (v = c ∧ v < wd + 1)) → BandAt s wi bb v := fun v h1 h2 h3 => hbands.out v h1 h2 (by
                rcases h3 with h3 | ⟨h3, h4⟩
                · exact Or.inl h3
                · refine Or.inr ⟨h3, ?_⟩
                  rcases Nat.lt_or_ge v wd with h5 | h5
                  · exact h5
                  · exfalso
                    have e5 : wd = c := by omega
                    have e6 : ht = 1 := by rw [HHT.out, e5]; exact Nat.div_self (by omega)
                    have e7 : pr = c := by rw [HPR.out, e6, e5, Nat.one_mul]
                    exact e1 e7)
              have HB2 := Lib.hid hbands2
              clear hbands2
              go_wp2_with fail
              go_roundw
              case rel => exact ⟨wd + 1, j + 1, by go_num, by show _ = _; rw [HW1.out], by omega, htab, hres, hbw, HB2.out, lst_skip hR.out hsk.out⟩
              case measure => simp [intOf]; omega
          · have e : j = m := by omega
            have hK2 : Hid (lstK s m (C + 1) = none) := lst_end hK.out (by have := hR.out; rw [e] at this; exact this)
            have hb3 : Hid (∀ v, 1 ≤ v → v ≤ m → v < c + 1 → BandAt s wi bb v) := fun v h1 h2 h3 => hbands.out v h1 h2 (by omega)
            clear hwj1 hK hR
            go_wp2_with fail
            go_roundw
            case rel => exact ⟨c + 1, C + 1, by go_num, by show _ = _; rw [HC1.out], by omega, htab, hres, hbw, hb3, hK2⟩
            case measure => simp [intOf]; omega
      · have hCM2 : C = M := by omega
        have hle : leastE s m = none := by
          have := hK.out
          rw [hCM2, HM.out, lst_all] at this
          exact this
        have HK : Hid (∀ e w', e = .returned (.tuple #[zPat, .int .i64 6]) → Below w.heap.size w w' → IsLeastT s m w e w') := fun e w' h1 h2 => ⟨h2, by rw [if_neg (by rw [HC.out]; simp)]; simp only [Int.toNat_natCast]; rw [hle]; exact h1⟩
        have HRES := Lib.hid hres.out
        obtain ⟨y0, y1, y2, y3⟩ := zcells hres.out
        clear hle hres hc1 hcC hCM2
        go_wp2_with fail
        obtain ⟨x0, x1, x2, -⟩ := zcells (sets3T (a := .int .i64 0) (b := .int .i64 0) (c := .slice none 0 0) HRES.out)
        refine bodyPost_ret (v := .tuple #[.agg #[.int .i64 0, .int .i64 0, .slice none 0 0], .int .i64 6]) (by simp [results, Tryd.results13, go_sem, x0, x1, x2]) rfl ?_
        exact HK.out _ _ rfl (below3T hbw (Nat.le_refl _))
end
end Go.Proofs.YteaoaglgoeichaaDoor

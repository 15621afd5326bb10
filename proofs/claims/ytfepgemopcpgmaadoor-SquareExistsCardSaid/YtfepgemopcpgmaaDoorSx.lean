/-
  groutworkref05: Exists, Largest; groutworklaw05: one, greatest; SquareExists returns true, for every set, side and limit.
-/
import Derived.Test.YtfepgemopcpgmaaDoorRf
import Derived.Test.YtfepgemopcpgmaaDoorEx
import Derived.Test.YtfepgemopcpgmaaDoorSf
namespace Go.Proofs.YtfepgemopcpgmaaDoor
open Go.RowKit Go.Maps Go.BigFrame
set_option linter.unusedVariables false
set_option linter.unusedSimpArgs false
set_option maxRecDepth 100000

theorem light_less {s : List Tl} {n k : Nat} (h : lightB s n = true) (h1 : 1 ≤ k) (hk : k ≤ n) : lightB s k = true := by
  unfold lightB pw at h ⊢
  rw [Bool.and_eq_true, decide_eq_true_eq, decide_eq_true_eq] at h ⊢
  have key : ∀ c : Nat, c ^ k ≤ c ^ n := fun c => by
    rcases Nat.eq_zero_or_pos c with e | e
    · rw [e, Nat.zero_pow h1]; exact Nat.zero_le _
    · exact Nat.pow_le_pow_right e hk
  have e1 := key (colsOf s).length
  have e2 := key s.length
  omega
theorem rex_any (s : List Tl) (S : Option Addr) (m sc n : Nat) (w : World) (hm : m = s.length) (hml : m ≤ 1000) (hS : SetIn w w.heap.size S s) (h1 : 1 ≤ n) (h8 : n ≤ 8) (hl : lightB s n = true) :
    Calls Tryd.prog 35 #[.slice S m sc, .int .i64 (n : Int)] w fun e w' => e = .returned (.bool (sqB s n)) ∧ Below w.heap.size w w' := by
  have hl' := hl
  unfold lightB at hl'
  rw [Bool.and_eq_true, decide_eq_true_eq, decide_eq_true_eq] at hl'
  have hR : ∀ W, Below w.heap.size w W → Calls Tryd.prog 28 #[.slice S m sc, .int .i64 (n : Int)] W (IsRowsR s n W) := fun W hb => rows_done s S m sc n W hm hml (hS.keep hb hb.size) h1 h8 hl'.1 hl'.2
  have hf := rfirst_any s S m sc n n noE none none none none 0 0 0 0 w hR hm hml hS h1 h8 h1 (by omega) (noE_ok n n) ⟨fun h => absurd rfl h, fun h => absurd rfl h, fun h => absurd rfl h, fun h => absurd rfl h⟩ hl'.1
  have HF : Hid (Calls Tryd.prog 12 #[.slice S m sc, .int .i64 (n : Int), .int .i64 (n : Int), .agg #[.slice none 0 0, .slice none 0 0, .slice none 0 0, .slice none 0 0]] w fun e w' => ∃ (x y : Int) (A : Option Addr) (k cc : Nat), e = .returned (.tuple #[.agg #[.int .i64 x, .int .i64 y, .slice A k cc], .bool (sqB s n)]) ∧ Below w.heap.size w w') := hf.mono fun e w' h => by
    obtain ⟨hb, h⟩ := h
    unfold sqB
    cases hx : firstE s n n noE with
    | none => rw [hx] at h; exact ⟨0, 0, none, 0, 0, h, hb⟩
    | some l => rw [hx] at h; obtain ⟨A, cc, he, _⟩ := h; exact ⟨n, n, A, l.length, cc, he, hb⟩
  clear hm hS hR hf hl hl'
  go_enter Tryd.func35, Tryd.ntmps35
  go_wp2_with fail
  refine HF.out.mono ?_
  rintro e w2 ⟨x, y, A, k, cc, rfl, hb2⟩
  go_wp2_with fail
  go_ret
  exact ⟨rfl, be_alloc hb2 _⟩
set_option maxHeartbeats 2000000 in
theorem rlg_any (s : List Tl) (S : Option Addr) (m sc mo : Nat) (w : World) (hm : m = s.length) (hml : m ≤ 1000) (hS : SetIn w w.heap.size S s) (h1 : 1 ≤ mo) (h8 : mo ≤ 8) (hl : lightB s mo = true) :
    Calls Tryd.prog 36 #[.slice S m sc, .int .i64 (mo : Int)] w fun e w' => e = .returned (.tuple #[.int .i64 (lastS s mo : Nat), .bool (decide (lastS s mo < mo))]) ∧ Below w.heap.size w w' := by
  have HE : Hid (∀ (W : World) (n : Nat), Below w.heap.size w W → 1 ≤ n → n ≤ mo → Calls Tryd.prog 35 #[.slice S m sc, .int .i64 (n : Int)] W fun e w' => e = .returned (.bool (sqB s n)) ∧ Below W.heap.size W w') := fun W n hb ha hb' => rex_any s S m sc n W hm hml (hS.keep hb hb.size) ha (by omega) (light_less hl ha hb')
  obtain ⟨L, hL⟩ : ∃ L, L = lastS s mo := ⟨_, rfl⟩
  have HL := Lib.hid hL
  rw [← hL]
  clear hm hS hl hL
  go_enter Tryd.func36, Tryd.ntmps36
  go_wp2_with fail
  go_loopw [6] (fun i wr => ∃ n : Nat, n ≤ mo ∧ i = .int .i64 (n : Int) ∧ Hid (lastS s n = L) ∧ Below w.heap.size w wr) (fun i _ => (intOf i).toNat)
  case atStart => exact ⟨mo, Nat.le_refl _, rfl, HL.out.symm, Below.refl _ _⟩
  case round =>
    obtain ⟨n, hn, rfl, hln, hbr⟩ := hrel
    by_cases hn0 : 0 < n
    · have hex := HE.out wr n hbr hn0 hn
      have hn0' : (0 : Int) < (n : Int) := by omega
      cases hq : sqB s n
      · rw [hq] at hex
        have hl1 : Hid (lastS s (n - 1) = L) := by
          show _ = _
          rw [← hln.out]
          obtain ⟨j, rfl⟩ : ∃ j, n = j + 1 := ⟨n - 1, by omega⟩
          rw [Nat.add_sub_cancel]
          conv => rhs; rw [lastS, if_neg (by rw [hq]; simp)]
        have hn1 : (n : Int) - 1 = ((n - 1 : Nat) : Int) := by omega
        have HN1 := Lib.hid hn1
        clear hq hn1
        go_wp2_with (go_at_call 35; refine hex.mono ?_; rintro e w3 ⟨rfl, hb3⟩)
        go_roundw
        case rel => exact ⟨n - 1, by omega, by rw [← HN1.out], hl1, hbr.trans (hb3.mono hbr.size)⟩
        case measure => simp [intOf]; omega
      · rw [hq] at hex
        have hLn : L = n := by rw [← hln.out]; exact lastS_top hn0 hq
        have hd : Hid (decide (L < mo) = decide ((n : Int) < (mo : Int))) := by show _ = _; rw [hLn, decide_eq_decide]; omega
        have HLN := Lib.hid hLn
        clear hq hLn
        go_wp2_with (go_at_call 35; refine hex.mono ?_; rintro e w3 ⟨rfl, hb3⟩)
        refine bodyPost_ret (v := .tuple #[.int .i64 (n : Int), .bool (decide ((n : Int) < (mo : Int)))]) (by simp [results, Tryd.results36, go_sem]) rfl ?_
        exact ⟨by rw [hd.out, HLN.out], hbr.trans (hb3.mono hbr.size)⟩
    · have hn0' : n = 0 := by omega
      subst hn0'
      have hL0 : L = 0 := by rw [← hln.out]; rfl
      have HL0 := Lib.hid hL0
      clear hL0 hln
      go_wp2_with fail
      refine bodyPost_ret (v := .tuple #[.int .i64 0, .bool true]) (by simp [results, Tryd.results36, go_sem]) rfl ?_
      refine ⟨?_, hbr⟩
      rw [HL0.out, decide_eq_true (show 0 < mo by omega)]
      rfl

/-- one side: what Exists says of it -/
theorem ex_side {s : List Tl} {j : Nat} (hv : vld s = true) (h1 : 1 ≤ j) (h8 : j ≤ 8) : exE s (j : Int) = (sqB s j, 0) ∨ (exE s (j : Int) = (false, 4) ∧ tooM s.length j = true) := by
  cases ht : tooM s.length j
  · exact Or.inl (ex_light hv ht h8 h1 (Nat.le_refl _))
  · right
    refine ⟨?_, rfl⟩
    have : checkE s (j : Int) (j : Int) 0 0 0 0 = 4 := by
      unfold checkE faultE
      simp only [hv, Bool.true_eq_false, if_false]
      rw [if_neg (show ¬ ((j : Int) < 1 ∨ 8 < (j : Int) ∨ (j : Int) < 1 ∨ 60 < (j : Int)) by omega)]
      simp [sideOk, ht]
    unfold exE
    rw [this]
    simp
theorem tooM_more {t j n : Nat} (h : tooM t j = true) (h1 : 1 ≤ j) (hj : j ≤ n) : tooM t n = true := by
  unfold tooM at h ⊢
  rw [decide_eq_true_eq] at h ⊢
  refine pow_more ?_ hj h
  rcases Nat.eq_zero_or_pos t with e | e
  · rw [e, Nat.zero_pow h1] at h; omega
  · exact e
theorem lg_cases {s : List Tl} {n : Nat} (hv : vld s = true) (h1 : 1 ≤ n) (h8 : n ≤ 8) : (lgE s (n : Int) = (0, 4) ∧ tooM s.length n = true) ∨ (lgE s (n : Int) = (0, 6) ∧ lastS s n = n) ∨ (lgE s (n : Int) = (((lastS s n : Nat) : Int), (0 : Int)) ∧ lastS s n < n) := by
  have h0 : sideE5 s (n : Int) = 0 := by
    unfold sideE5
    rw [hv]
    simp only [Bool.true_eq_false, if_false]
    rw [if_neg (by omega)]
  have hs : ∀ k, k < n → exE s ((k : Int) + 1) = (sqB s (k + 1), 0) ∨ (exE s ((k : Int) + 1) = (false, 4) ∧ tooM s.length (k + 1) = true) := fun k hk => by
    have := ex_side hv (show 1 ≤ k + 1 by omega) (show k + 1 ≤ 8 by omega)
    rwa [Int.natCast_succ] at this
  have hlg : lgE s (n : Int) = match stopL s n with
    | none => (0, 6)
    | some k => if (exE s ((k : Int) + 1)).2 ≠ 0 then (0, (exE s ((k : Int) + 1)).2) else ((k : Int), 0) := by
    unfold lgE
    rw [h0, if_neg (by simp), Int.toNat_natCast]
    cases stopL s n <;> rfl
  cases hst : stopL s n with
  | none =>
    right; left
    rw [hlg, hst]
    refine ⟨rfl, ?_⟩
    unfold stopL at hst
    rw [List.find?_eq_none] at hst
    have h := hst (n - 1) (List.mem_range.2 (by omega))
    have h' : exE s (((n - 1 : Nat) : Int) + 1) = (true, 0) := by simpa using h
    rcases hs (n - 1) (by omega) with h2 | ⟨h2, _⟩
    · rw [h2] at h'
      have : sqB s (n - 1 + 1) = true := (Prod.mk.inj h').1
      rw [show n - 1 + 1 = n by omega] at this
      exact lastS_top h1 this
    · rw [h2] at h'
      cases (Prod.mk.inj h').1
  | some k =>
    rw [hlg, hst]
    unfold stopL at hst
    rw [List.find?_range_eq_some] at hst
    obtain ⟨hk, hkn, hlow⟩ := hst
    have hkn' := List.mem_range.1 hkn
    rcases hs k hkn' with h2 | ⟨h2, ht⟩
    · right; right
      have hq : sqB s (k + 1) = false := by
        cases hq : sqB s (k + 1)
        · rfl
        · rw [h2, hq] at hk; simp at hk
      have hall : ∀ j, 1 ≤ j → j ≤ k → sqB s j = true := fun j hj1 hjk => by
        have hl := hlow (j - 1) (by omega)
        have h' : exE s (((j - 1 : Nat) : Int) + 1) = (true, 0) := by simpa using hl
        rcases hs (j - 1) (by omega) with h3 | ⟨h3, _⟩
        · rw [h3] at h'
          have := (Prod.mk.inj h').1
          rwa [show j - 1 + 1 = j by omega] at this
        · rw [h3] at h'; cases (Prod.mk.inj h').1
      have hL : lastS s n = k := lastS_char n (by omega) hall fun j hj1 hj2 => by
        cases hjq : sqB s j
        · rfl
        · have := sqB_less (show 1 ≤ k + 1 by omega) (show k + 1 ≤ j by omega) hjq
          rw [hq] at this
          cases this
      rw [hL]
      refine ⟨?_, hkn'⟩
      show (if (exE s ((k : Int) + 1)).2 ≠ 0 then (0, (exE s ((k : Int) + 1)).2) else ((k : Int), 0)) = _
      rw [h2]
      simp
    · left
      refine ⟨?_, tooM_more ht (by omega) (by omega)⟩
      show (if (exE s ((k : Int) + 1)).2 ≠ 0 then (0, (exE s ((k : Int) + 1)).2) else ((k : Int), 0)) = _
      rw [h2]
      simp
end Go.Proofs.YtfepgemopcpgmaaDoor

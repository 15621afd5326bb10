/-
  groutworkref01.Parse as a function of lists: what it makes of a text, byte by byte. No program, no memory.
-/
import Derived.Test.YtmmpdniafmhjpaaDoorRt
namespace Go.Proofs.YtmmpdniafmhjpaaDoor
open Go.RowKit Go.Sort
set_option linter.unusedVariables false
set_option maxRecDepth 100000

structure Ps where
  acc : List Tl
  l0 : Nat
  l1 : Nat
  l2 : Nat
  l3 : Nat
  pl : Nat
  n : Nat
  many : Nat
def Ps.zero : Ps := ⟨[], 0, 0, 0, 0, 0, 0, 0⟩
def isD (c : UInt8) : Bool := decide (48 ≤ c.toNat ∧ c.toNat ≤ 57)
/-- the number that was read is put into its place -/
def Ps.put (st : Ps) : Ps :=
  match st.pl with
  | 0 => ⟨st.acc, st.n, st.l1, st.l2, st.l3, 1, 0, 0⟩
  | 1 => ⟨st.acc, st.l0, st.n, st.l2, st.l3, 2, 0, 0⟩
  | 2 => ⟨st.acc, st.l0, st.l1, st.n, st.l3, 3, 0, 0⟩
  | _ => ⟨st.acc ++ [⟨st.l0, st.l1, st.l2, st.n⟩], st.l0, st.l1, st.l2, st.n, 0, 0, 0⟩
def Ps.more (st : Ps) (c : UInt8) : Ps := { st with n := 10 * st.n + (c.toNat - 48), many := st.many + 1 }
def Ps.step (st : Ps) (c : UInt8) : Option Ps :=
  if isD c = true ∧ st.many < 4 then some (st.more c)
  else if st.many = 0 then none
  else if st.pl = 3 then (if c = 32 then some st.put else none)
  else (if c = 46 then some st.put else none)
def Ps.fin (st : Ps) : Option Ps := if st.many = 0 then none else if st.pl = 3 then some st.put else none
def runs : Ps → List UInt8 → Option Ps
  | st, [] => some st
  | st, c :: r => match st.step c with
    | some st' => runs st' r
    | none => none
theorem runs_cons (st : Ps) (c : UInt8) (r : List UInt8) : runs st (c :: r) = match st.step c with
    | some st' => runs st' r
    | none => none := rfl
theorem runs_append : ∀ (a b : List UInt8) (st : Ps), runs st (a ++ b) = (runs st a).bind fun st' => runs st' b
  | [], b, st => rfl
  | c :: a, b, st => by
    rw [List.cons_append]
    rw [runs_cons, runs_cons]
    cases h : st.step c with
    | none => rfl
    | some st' => exact runs_append a b st'
theorem runs_one (st : Ps) (c : UInt8) : runs st [c] = st.step c := by
  rw [runs_cons]
  cases h : st.step c with
  | none => rfl
  | some st' => rfl
theorem digits_len (k : Nat) : ∀ u : Nat, u < 10 ^ (k + 1) → (Lib.decDigits u).length ≤ k + 1 := by
  induction k with
  | zero => intro u hu; rw [Lib.decDigits_one (by omega)]; simp
  | succ k ih =>
    intro u hu
    by_cases h : u < 10
    · rw [Lib.decDigits_one h]; simp
    · rw [Lib.decDigits, dif_neg h, List.length_append]
      have := ih (u / 10) (by rw [Nat.pow_succ] at hu; omega)
      simp only [List.length_cons, List.length_nil]
      omega
theorem step_digit (st : Ps) (d : Nat) (hd : d < 10) (hm : st.many < 4) : st.step (UInt8.ofNat (48 + d)) = some { st with n := 10 * st.n + d, many := st.many + 1 } := by
  have e : (UInt8.ofNat (48 + d)).toNat = 48 + d := by simp; omega
  unfold Ps.step Ps.more
  rw [if_pos ⟨by unfold isD; rw [e]; exact decide_eq_true (by omega), hm⟩, e]
  simp
theorem runs_digits (u : Nat) : u < 10000 → ∀ st : Ps, st.n = 0 → st.many = 0 → runs st (Lib.decDigits u) = some { st with n := u, many := (Lib.decDigits u).length } := by
  induction u using Nat.strongRecOn with
  | _ u ih =>
    intro hu st hn hm
    by_cases h : u < 10
    · rw [Lib.decDigits_one h, runs_one, step_digit st u h (by omega), hn, hm]
      simp
    · have hl := digits_len 2 (u / 10) (by omega)
      rw [Lib.decDigits, dif_neg h, runs_append, ih (u / 10) (by omega) (by omega) st hn hm, Option.bind_some, runs_one, step_digit _ _ (Nat.mod_lt _ (by decide)) (by show (Lib.decDigits (u / 10)).length < 4; omega)]
      simp
      omega
theorem runs_dec {x : Int} (h0 : 0 ≤ x) (h1 : x < 1000) (st : Ps) (hn : st.n = 0) (hm : st.many = 0) : ∃ k, 0 < k ∧ runs st (dec x).data.toList = some { st with n := x.toNat, many := k } := by
  refine ⟨(Lib.decDigits x.toNat).length, List.length_pos_iff.2 (digits_ne _), ?_⟩
  rw [dec_nat h0]
  exact runs_digits x.toNat (by omega) st hn hm
theorem step_point (st : Ps) (k : Nat) (hk : 0 < k) (hm : st.many = k) (hp : st.pl < 3) : st.step 46 = some st.put := by
  unfold Ps.step
  rw [if_neg (fun h => by have := h.1; revert this; decide), if_neg (by omega), if_neg (by omega), if_pos rfl]
theorem step_blank (st : Ps) (k : Nat) (hk : 0 < k) (hm : st.many = k) (hp : st.pl = 3) : st.step 32 = some st.put := by
  unfold Ps.step
  rw [if_neg (fun h => by have := h.1; revert this; decide), if_neg (by omega), if_pos hp, if_pos rfl]
/-- the text of a tile -/
theorem runs_tile (t : Tl) (h : okt t = true) (st : Ps) (hp : st.pl = 0) (hn : st.n = 0) (hm : st.many = 0) :
    ∃ st', runs st (tText t).data.toList = some st' ∧ st'.acc = st.acc ∧ st'.pl = 3 ∧ 0 < st'.many ∧ st'.l0 = t.n.toNat ∧ st'.l1 = t.e.toNat ∧ st'.l2 = t.s.toNat ∧ st'.n = t.w.toNat := by
  obtain ⟨⟨a0, a1⟩, ⟨b0, b1⟩, ⟨c0, c1⟩, ⟨d0, d1⟩⟩ := okt_range h
  obtain ⟨acc, l0, l1, l2, l3, pl, n, many⟩ := st
  simp only at hp hn hm
  subst hp
  subst hn
  subst hm
  obtain ⟨k1, p1, e1⟩ := runs_dec a0 a1 ⟨acc, l0, l1, l2, l3, 0, 0, 0⟩ rfl rfl
  obtain ⟨k2, p2, e2⟩ := runs_dec b0 b1 ⟨acc, t.n.toNat, l1, l2, l3, 1, 0, 0⟩ rfl rfl
  obtain ⟨k3, p3, e3⟩ := runs_dec c0 c1 ⟨acc, t.n.toNat, t.e.toNat, l2, l3, 2, 0, 0⟩ rfl rfl
  obtain ⟨k4, p4, e4⟩ := runs_dec d0 d1 ⟨acc, t.n.toNat, t.e.toNat, t.s.toNat, l3, 3, 0, 0⟩ rfl rfl
  refine ⟨⟨acc, t.n.toNat, t.e.toNat, t.s.toNat, l3, 3, t.w.toNat, k4⟩, ?_, rfl, rfl, p4, rfl, rfl, rfl, rfl⟩
  unfold tText tList
  rw [glue_data]
  simp only [List.map_cons, List.map_nil, joined, Lib.join_one]
  rw [runs_append, e1, Option.bind_some, runs_cons, step_point _ k1 p1 rfl (by show 0 < 3; omega)]
  simp only [Ps.put]
  rw [runs_append, e2, Option.bind_some, runs_cons, step_point _ k2 p2 rfl (by show 1 < 3; omega)]
  simp only [Ps.put]
  rw [runs_append, e3, Option.bind_some, runs_cons, step_point _ k3 p3 rfl (by show 2 < 3; omega)]
  simp only [Ps.put]
  exact e4
theorem put_tile {st : Ps} {t : Tl} (h : okt t = true) (hp : st.pl = 3) (h0 : st.l0 = t.n.toNat) (h1 : st.l1 = t.e.toNat) (h2 : st.l2 = t.s.toNat) (h3 : st.n = t.w.toNat) : st.put.acc = st.acc ++ [t] ∧ st.put.pl = 0 ∧ st.put.n = 0 ∧ st.put.many = 0 := by
  obtain ⟨⟨a0, a1⟩, ⟨b0, b1⟩, ⟨c0, c1⟩, ⟨d0, d1⟩⟩ := okt_range h
  obtain ⟨acc, l0, l1, l2, l3, pl, n, many⟩ := st
  simp only at hp h0 h1 h2 h3
  subst hp
  refine ⟨?_, rfl, rfl, rfl⟩
  show acc ++ [(⟨l0, l1, l2, n⟩ : Tl)] = acc ++ [t]
  rw [h0, h1, h2, h3, Int.toNat_of_nonneg a0, Int.toNat_of_nonneg b0, Int.toNat_of_nonneg c0, Int.toNat_of_nonneg d0]
theorem runs_text : ∀ (r : List Tl) (t : Tl) (st : Ps), (∀ u ∈ t :: r, okt u = true) → st.pl = 0 → st.n = 0 → st.many = 0 →
    ∃ st' e, runs st (Lib.join ((t :: r).map fun u => (tText u).data.toList) [32]) = some st' ∧ st'.fin = some e ∧ e.acc = st.acc ++ t :: r
  | [], t, st, ho, hp, hn, hm => by
    obtain ⟨st', h1, h2, h3, h4, h5, h6, h7, h8⟩ := runs_tile t (ho t (by simp)) st hp hn hm
    refine ⟨st', st'.put, by simpa [Lib.join_one] using h1, by unfold Ps.fin; rw [if_neg (by omega), if_pos h3], ?_⟩
    rw [(put_tile (ho t (by simp)) h3 h5 h6 h7 h8).1, h2]
  | u :: r, t, st, ho, hp, hn, hm => by
    obtain ⟨st', h1, h2, h3, h4, h5, h6, h7, h8⟩ := runs_tile t (ho t (by simp)) st hp hn hm
    obtain ⟨q1, q2, q3, q4⟩ := put_tile (ho t (by simp)) h3 h5 h6 h7 h8
    obtain ⟨s2, e, g1, g2, g3⟩ := runs_text r u st'.put (fun v hv => ho v (by simp at hv ⊢; right; exact hv)) q2 q3 q4
    refine ⟨s2, e, ?_, g2, by rw [g3, q1, h2]; simp⟩
    rw [List.map_cons, List.map_cons, joined, runs_append, h1, Option.bind_some, runs_cons, step_blank st' _ h4 rfl h3]
    simpa using g1
theorem runs_set {set : List Tl} (hv : vld set = true) (hne : (sText set).size ≠ 0) : ∃ st e, runs Ps.zero (sText set).data.toList = some st ∧ st.fin = some e ∧ e.acc = set := by
  cases set with
  | nil => exact absurd rfl hne
  | cons t r =>
    obtain ⟨st, e, h1, h2, h3⟩ := runs_text r t Ps.zero (vld_iff.1 hv).2.1 rfl rfl rfl
    refine ⟨st, e, ?_, h2, by rw [h3]; rfl⟩
    unfold sText
    rw [glue_data, List.map_map]
    exact h1
theorem runs_take {l : List UInt8} {k : Nat} {st e : Ps} (h : runs Ps.zero (l.take k) = some st) (hk : k < l.length) (c : UInt8) (hc : l[k]'hk = c) : runs Ps.zero (l.take (k + 1)) = st.step c := by
  rw [List.take_succ_eq_append_getElem hk, runs_append, h, Option.bind_some, runs_one, hc]
/-- a byte that doesn't fit: no text of a valid set -/
theorem parse_stop {s : ByteArray} (h0 : s.size ≠ 0) {k : Nat} {st : Ps} (h : runs Ps.zero (s.data.toList.take k) = some st) (hk : k < s.data.toList.length) (hs : st.step (s.data.toList[k]'hk) = none) : pParse s = none := by
  cases hp : pParse s with
  | none => rfl
  | some set =>
    exfalso
    obtain ⟨e1, e2⟩ := text_parse hp
    obtain ⟨st', e, g1, _, _⟩ := runs_set e2 (by rw [e1]; exact h0)
    rw [e1, ← List.take_append_drop (k + 1) s.data.toList, runs_append, runs_take (e := st) h hk _ rfl, hs] at g1
    cases g1
theorem parse_fin {s : ByteArray} (h0 : s.size ≠ 0) {st : Ps} (h : runs Ps.zero s.data.toList = some st) (hs : st.fin = none) : pParse s = none := by
  cases hp : pParse s with
  | none => rfl
  | some set =>
    exfalso
    obtain ⟨e1, e2⟩ := text_parse hp
    obtain ⟨st', e, g1, g2, _⟩ := runs_set e2 (by rw [e1]; exact h0)
    rw [e1, h] at g1
    injection g1 with g1
    rw [← g1, hs] at g2
    cases g2
theorem parse_acc {s : ByteArray} (h0 : s.size ≠ 0) {st e : Ps} (h : runs Ps.zero s.data.toList = some st) (hs : st.fin = some e) {set : List Tl} (hp : pParse s = some set) : e.acc = set := by
  obtain ⟨e1, e2⟩ := text_parse hp
  obtain ⟨st', e', g1, g2, g3⟩ := runs_set e2 (by rw [e1]; exact h0)
  rw [e1, h] at g1
  injection g1 with g1
  rw [← g1, hs] at g2
  injection g2 with g2
  rw [g2, g3]
theorem parse_inv {s : ByteArray} (h0 : s.size ≠ 0) {st e : Ps} (h : runs Ps.zero s.data.toList = some st) (hs : st.fin = some e) (hv : vld e.acc = false) : pParse s = none := by
  cases hp : pParse s with
  | none => rfl
  | some set =>
    exfalso
    have := parse_acc h0 h hs hp
    rw [this, (text_parse hp).2] at hv
    cases hv
theorem parse_other {s : ByteArray} (h0 : s.size ≠ 0) {st e : Ps} (h : runs Ps.zero s.data.toList = some st) (hs : st.fin = some e) (ht : sText e.acc ≠ s) : pParse s = none := by
  cases hp : pParse s with
  | none => rfl
  | some set =>
    exfalso
    have := parse_acc h0 h hs hp
    rw [this] at ht
    exact ht (text_parse hp).1
theorem parse_same {s : ByteArray} {l : List Tl} (hv : vld l = true) (ht : sText l = s) : pParse s = some l := by rw [← ht]; exact parse_text hv

/-- what the walk keeps of a state: numbers in range -/
def Ps.good (st : Ps) : Prop := st.pl ≤ 3 ∧ st.many ≤ 4 ∧ st.n < 10 ^ st.many ∧ st.l0 < 10000 ∧ st.l1 < 10000 ∧ st.l2 < 10000 ∧ st.l3 < 10000 ∧ ∀ t ∈ st.acc, twf t
theorem good_zero : Ps.zero.good := ⟨by decide, by decide, by decide, by decide, by decide, by decide, by decide, fun t ht => by cases ht⟩
theorem good_n {st : Ps} (h : st.good) : st.n < 10000 := Nat.lt_of_lt_of_le h.2.2.1 (by have := Nat.pow_le_pow_right (show 0 < 10 by decide) h.2.1; simpa using this)
theorem good_n3 {st : Ps} (h : st.good) (hm : st.many < 4) : st.n < 1000 := Nat.lt_of_lt_of_le h.2.2.1 (by have := Nat.pow_le_pow_right (show 0 < 10 by decide) (show st.many ≤ 3 by omega); simpa using this)
theorem good_more {st : Ps} (h : st.good) (hm : st.many < 4) {c : UInt8} (hc : isD c = true) : (st.more c).good := by
  obtain ⟨h1, h2, h3, h4⟩ := h
  refine ⟨h1, hm, ?_, h4⟩
  show 10 * st.n + (c.toNat - 48) < 10 ^ (st.many + 1)
  have := of_decide_eq_true hc
  rw [Nat.pow_succ]
  omega
theorem wf_small {x : Int} (h0 : 0 ≤ x) (h1 : x < 10000) : (Lit.int .i64 x).wf = true := by
  unfold Lit.wf
  rw [Bool.and_eq_true]
  have b1 : (-9223372036854775808 : Int) ≤ x := by omega
  have b2 : x ≤ 9223372036854775807 := by omega
  exact ⟨decide_eq_true b1, decide_eq_true b2⟩
theorem good_put {st : Ps} (h : st.good) : st.put.good := by
  have hn := good_n h
  obtain ⟨acc, l0, l1, l2, l3, pl, n, many⟩ := st
  obtain ⟨h1, h2, h3, h4, h5, h6, h7, h8⟩ := h
  simp only at h1 h2 h4 h5 h6 h7 h8 hn
  match pl, h1 with
  | 0, _ => exact ⟨by show (1 : Nat) ≤ 3; omega, by show (0 : Nat) ≤ 4; omega, by show (0 : Nat) < 10 ^ 0; decide, hn, h5, h6, h7, h8⟩
  | 1, _ => exact ⟨by show (2 : Nat) ≤ 3; omega, by show (0 : Nat) ≤ 4; omega, by show (0 : Nat) < 10 ^ 0; decide, h4, hn, h6, h7, h8⟩
  | 2, _ => exact ⟨by show (3 : Nat) ≤ 3; omega, by show (0 : Nat) ≤ 4; omega, by show (0 : Nat) < 10 ^ 0; decide, h4, h5, hn, h7, h8⟩
  | 3, _ =>
    refine ⟨by show (0 : Nat) ≤ 3; omega, by show (0 : Nat) ≤ 4; omega, by show (0 : Nat) < 10 ^ 0; decide, h4, h5, h6, hn, fun t ht => ?_⟩
    have ht' : t ∈ acc ++ [(⟨l0, l1, l2, n⟩ : Tl)] := ht
    rcases List.mem_append.1 ht' with ht' | ht'
    · exact h8 t ht'
    · rw [List.mem_singleton] at ht'
      subst ht'
      exact ⟨wf_small (by simp only; omega) (by simp only; omega), wf_small (by simp only; omega) (by simp only; omega), wf_small (by simp only; omega) (by simp only; omega), wf_small (by simp only; omega) (by simp only; omega)⟩
end Go.Proofs.YtmmpdniafmhjpaaDoor

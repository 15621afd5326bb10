/-
  Words for what a set and a pattern are in memory; hasForm, cell, refers.
-/
import Derived.Test.YtnmigjohomdbnaaA
import Derived.Deep.Draws
namespace Go.Proofs.Ytnmigjohomdbnaa
open Go.RowKit
set_option linter.unusedVariables false

/-- A row of integers below block B. -/
def IntsIn (w : World) (B : Nat) (A : Option Addr) (cs : List Int) : Prop :=
  cs ≠ [] → ∃ b off, A = some ⟨b, off, none⟩ ∧ b < B ∧ ∀ i, i < cs.length → w.cell? ⟨b, off + i, none⟩ = some (.int .i64 (cs.getD i 0))
/-- A row of tiles below block B, each colour an int's number. -/
def SetIn (w : World) (B : Nat) (A : Option Addr) (s : List Tl) : Prop :=
  s ≠ [] → ∃ b off, A = some ⟨b, off, none⟩ ∧ b < B ∧ ∀ i, i < s.length →
    w.cell? ⟨b, off + i * 4, none⟩ = some (.int .i64 (s.getD i ⟨0, 0, 0, 0⟩).n) ∧ w.cell? ⟨b, off + i * 4 + 1, none⟩ = some (.int .i64 (s.getD i ⟨0, 0, 0, 0⟩).e) ∧
    w.cell? ⟨b, off + i * 4 + 2, none⟩ = some (.int .i64 (s.getD i ⟨0, 0, 0, 0⟩).s) ∧ w.cell? ⟨b, off + i * 4 + 3, none⟩ = some (.int .i64 (s.getD i ⟨0, 0, 0, 0⟩).w)

theorem IntsIn.keep {w w' : World} {B B' : Nat} {A : Option Addr} {cs : List Int} (h : IntsIn w B A cs) (hb : Below B w w') (hB : B ≤ B') : IntsIn w' B' A cs := fun hn => by
  obtain ⟨b, off, hA, hlt, hc⟩ := h hn
  exact ⟨b, off, hA, by omega, fun i hi => (hb.cell (p := ⟨b, off + i, none⟩) hlt).trans (hc i hi)⟩
theorem SetIn.keep {w w' : World} {B B' : Nat} {A : Option Addr} {s : List Tl} (h : SetIn w B A s) (hb : Below B w w') (hB : B ≤ B') : SetIn w' B' A s := fun hn => by
  obtain ⟨b, off, hA, hlt, hc⟩ := h hn
  refine ⟨b, off, hA, by omega, fun i hi => ?_⟩
  obtain ⟨h0, h1, h2, h3⟩ := hc i hi
  exact ⟨(hb.cell (p := ⟨b, _, none⟩) hlt).trans h0, (hb.cell (p := ⟨b, _, none⟩) hlt).trans h1, (hb.cell (p := ⟨b, _, none⟩) hlt).trans h2, (hb.cell (p := ⟨b, _, none⟩) hlt).trans h3⟩

theorem hasForm_any (a b : Int) (A : Option Addr) (n c : Nat) (w : World) (hn : n ≤ 9223372036854775807) :
    Calls Try.prog 18 #[.agg #[.int .i64 a, .int .i64 b, .slice A n c]] w fun e w' => e = .returned (.bool (incl a b && decide ((n : Int) = a * b))) ∧ Below w.heap.size w w' := by
  cases h0 : incl a b
  · go_enter Try.func18, Try.ntmps18
    go_wp2_with (go_at_call 19; refine (inCells_any _ _ _).mono ?_; rintro e w' ⟨rfl, rfl⟩)
    go_ret
    exact ⟨ret_bool (by simp), (Below.refl _ _).alloc (Nat.le_refl _) _⟩
  · have hi := h0
    unfold incl at hi
    rw [decide_eq_true_eq] at hi
    obtain ⟨h1, h2, h3⟩ := hi
    have h4 : 0 ≤ a * b := Int.mul_nonneg (by omega) (by omega)
    go_enter Try.func18, Try.ntmps18
    go_wp2_with (go_at_call 19; refine (inCells_any _ _ _).mono ?_; rintro e w' ⟨rfl, rfl⟩)
    go_ret
    exact ⟨ret_bool (by simp; rfl), (Below.refl _ _).alloc (Nat.le_refl _) _⟩

theorem cell_any (a b x y v : Int) (A : Option Addr) (n c bk off : Nat) (w : World) (hA : A = some ⟨bk, off, none⟩) (hlt : bk < w.heap.size)
    (ha : 1 ≤ a) (hb : 1 ≤ b) (hx : 0 ≤ x) (hy : 0 ≤ y) (hn : (n : Int) = a * b) (hab : a * b ≤ 40000)
    (hc : w.cell? ⟨bk, off + (y % b * a + x % a).toNat, none⟩ = some (.int .i64 v)) :
    Calls Try.prog 31 #[.agg #[.int .i64 a, .int .i64 b, .slice A n c], .int .i64 x, .int .i64 y] w fun e w' => e = .returned (.int .i64 v) ∧ Below w.heap.size w w' := by
  subst hA
  have h1 := Int.emod_nonneg x (show a ≠ 0 by omega)
  have h2 := Int.emod_lt_of_pos x (show 0 < a by omega)
  have h3 := Int.emod_nonneg y (show b ≠ 0 by omega)
  have h4 := Int.emod_lt_of_pos y (show 0 < b by omega)
  have h5 : 0 ≤ y % b * a := Int.mul_nonneg (by omega) (by omega)
  have h6 : (y % b + 1) * a ≤ b * a := Int.mul_le_mul_of_nonneg_right (by omega) (by omega)
  rw [Int.add_mul, Int.mul_comm b a, Int.one_mul] at h6
  have h7 : 0 ≤ y % b * a + x % a := by omega
  have h8 : y % b * a + x % a < (n : Int) := by omega
  have h9 : a ≤ 40000 := by
    have : a * 1 ≤ a * b := Int.mul_le_mul_of_nonneg_left (by omega) (by omega)
    omega
  have hn' : (n : Int) ≤ 40000 := by omega
  clear hn
  go_enter Try.func31, Try.ntmps31
  go_wp2
  go_quiet (fail)
  go_wp2
  go_ret
  exact ⟨rfl, ((Below.refl _ _).alloc (Nat.le_refl _) _).trans ⟨rfl, rfl, rfl, by simp, fun _ _ => rfl⟩⟩

theorem all_take {α : Type} (f : α → Bool) (l : List α) (k : Nat) (hk : k < l.length) (d : α) (h : (l.take k).all f = true) (hv : f (l.getD k d) = true) : (l.take (k + 1)).all f = true := by
  rw [List.take_succ_eq_append_getElem hk, List.all_append, h]
  rw [List.getD_eq_getElem?_getD, List.getElem?_eq_getElem hk] at hv
  simpa using hv
theorem all_bad {α : Type} (f : α → Bool) (l : List α) (k : Nat) (hk : k < l.length) (d : α) (hv : f (l.getD k d) = false) : l.all f = false := by
  rw [List.getD_eq_getElem?_getD, List.getElem?_eq_getElem hk] at hv
  rw [List.all_eq_false]
  exact ⟨_, List.getElem_mem hk, by simpa using hv⟩
theorem ne_nil_of_lt {α : Type} {l : List α} {k : Nat} (h : k < l.length) : l ≠ [] := by intro e; rw [e] at h; simp at h

/-- an index of a set of m tiles -/
def isIdx (m : Nat) (i : Int) : Bool := decide (0 ≤ i ∧ i < (m : Int))

set_option maxHeartbeats 400000 in
theorem refers_any (a b : Int) (A S : Option Addr) (cs : List Int) (m c d : Nat) (w : World) (hp : IntsIn w w.heap.size A cs) (hl : cs.length ≤ 9223372036854775807) (hm : m ≤ 9223372036854775807) :
    Calls Try.prog 22 #[.slice S m d, .agg #[.int .i64 a, .int .i64 b, .slice A cs.length c]] w fun e w' => e = .returned (.bool (cs.all (isIdx m))) ∧ Below w.heap.size w w' := by
  obtain ⟨n, hn⟩ : ∃ n, n = cs.length := ⟨_, rfl⟩
  have hl' : n ≤ 9223372036854775807 := by omega
  rw [← hn]
  have HN := Lib.hid hn
  clear hn hl
  go_enter Try.func22, Try.ntmps22
  go_wp2
  go_loop [6, 10] (fun _ i => ∃ k : Nat, k ≤ n ∧ i = .int .i64 k ∧ Hid ((cs.take k).all (isIdx m) = true)) (fun _ i => n - (intOf i).toNat)
  case atStart => exact ⟨0, Nat.zero_le _, rfl, by simp [Hid]⟩
  case round =>
    obtain ⟨k, hk, rfl, hall⟩ := hrel
    by_cases hlt : k < n
    · have hkc : k < cs.length := by rw [← HN.out]; exact hlt
      obtain ⟨bk, off, rfl, hbk, hc⟩ := hp (ne_nil_of_lt hkc)
      obtain ⟨v, hv⟩ : ∃ v, v = cs.getD k 0 := ⟨_, rfl⟩
      have hcell : w.cell? ⟨bk, off + k, none⟩ = some (.int .i64 v) := by rw [hv]; exact hc k hkc
      have HV := Lib.hid hv
      clear hv hc hp
      by_cases h0 : 0 ≤ v
      · by_cases h1 : v < (m : Int)
        · have HK : Hid ((cs.take (k + 1)).all (isIdx m) = true) := all_take _ _ k hkc 0 hall.out (by rw [← HV.out]; simp [isIdx, h0, h1])
          clear hkc hall
          go_wp2
          go_round
          case rel => exact ⟨k + 1, by omega, by go_num, HK⟩
          case measure => simp [intOf]; omega
        · have HK : Hid (cs.all (isIdx m) = false) := all_bad _ _ k hkc 0 (by rw [← HV.out]; simp [isIdx]; omega)
          clear hkc hall
          go_wp2
          go_ret
          exact ⟨ret_bool HK.out.symm, (Below.refl _ _).alloc (Nat.le_refl _) _⟩
      · have HK : Hid (cs.all (isIdx m) = false) := all_bad _ _ k hkc 0 (by rw [← HV.out]; simp [isIdx]; omega)
        clear hkc hall
        go_wp2
        go_ret
        exact ⟨ret_bool HK.out.symm, (Below.refl _ _).alloc (Nat.le_refl _) _⟩
    · have HK : Hid (cs.all (isIdx m) = true) := by
        have := hall.out
        rw [List.take_of_length_le (by rw [← HN.out]; omega)] at this
        exact this
      clear hall
      go_wp2
      go_ret
      exact ⟨ret_bool HK.out.symm, (Below.refl _ _).alloc (Nat.le_refl _) _⟩
end Go.Proofs.Ytnmigjohomdbnaa

/-
  strip.colours: a set of colours as bits.
-/
import Derived.Test.YtgadfmknjpanpaaDoorFi
import Derived.Test.YtgadfmknjpanpaaDoorSo
import Derived.Laws.BitsAllLaws
import Derived.BigQuiet
namespace Go.Proofs.YtgadfmknjpanpaaDoor
open Go.RowKit Go.Maps Go.BigFrame
set_option linter.unusedVariables false
set_option linter.unusedSimpArgs false
set_option maxRecDepth 100000

/-- sixteen words that hold a set of colours -/
def ColW (w : World) (b o : Nat) (P : Nat → Bool) : Prop := (∀ j, j < 16 → ∃ v : Nat, w.cell? ⟨b, o + j, none⟩ = some (.int .u64 (v : Int)) ∧ v < 18446744073709551616 ∧ ∀ i, i < 64 → v.testBit i = P (64 * j + i)) ∧ ∀ i, w.frozen? ⟨b, i, none⟩ = false
theorem bit_or (v r : Nat) (hv : v < 18446744073709551616) (hr : r < 64) : bits .or .u64 (v : Int) (IntKind.u64.wrap (2 ^ r)) = ((v ||| 2 ^ r : Nat) : Int) := by
  have h2 : 2 ^ r < 18446744073709551616 := by have := Nat.pow_lt_pow_right (show 1 < 2 by omega) hr; simpa using this
  have e : IntKind.u64.wrap (2 ^ r) = ((2 ^ r : Nat) : Int) := by
    rw [IntKind.wrap_u64]
    have : ((2 : Int) ^ r) = ((2 ^ r : Nat) : Int) := by norm_cast
    rw [this]
    generalize 2 ^ r = p at h2
    omega
  rw [e, u64_or_nat _ _ hv h2]
theorem bit_or_at (v r i : Nat) : (v ||| 2 ^ r).testBit i = (decide (i = r) || v.testBit i) := by
  rw [Nat.testBit_or, Nat.testBit_two_pow, Bool.or_comm]
  congr 1
  rw [decide_eq_decide]
  exact eq_comm
theorem ColW.add {w : World} {b o c : Nat} {P : Nat → Bool} (h : ColW w b o P) (v : Nat) (hc : c < 1000) (hv : w.cell? ⟨b, o + c / 64, none⟩ = some (.int .u64 (v : Int))) (hvb : ∀ i, i < 64 → v.testBit i = P (64 * (c / 64) + i)) (hvl : v < 18446744073709551616) :
    ColW (w.setCell ⟨b, o + c / 64, none⟩ (.int .u64 ((v ||| 2 ^ (c % 64) : Nat) : Int))) b o (fun i => decide (i = c) || P i) := by
  refine ⟨fun j hj => ?_, fun i => (World.frozen?_setCell _ _ _ _).trans (h.2 i)⟩
  by_cases e : j = c / 64
  · subst e
    refine ⟨_, World.cell?_setCell_same _ _ _ hv, ?_, fun i hi => ?_⟩
    · exact Nat.or_lt_two_pow (n := 64) (by simpa using hvl) (by exact Nat.pow_lt_pow_right (by omega) (by omega))
    · rw [bit_or_at, hvb i hi]
      congr 1
      rw [decide_eq_decide]
      omega
  · obtain ⟨u, hu, hul, hub⟩ := h.1 j hj
    refine ⟨u, (World.cell?_setCell_other _ _ _ _ (fun e' => by injection e' with _ e2; omega)).trans hu, hul, fun i hi => ?_⟩
    rw [hub i hi]
    have : ¬ (64 * j + i = c) := by omega
    simp [this]
theorem bit_one (v r : Nat) (hv : v < 18446744073709551616) : (bits .and .u64 ((v : Int) / 2 ^ r) 1 == 1) = v.testBit r := by
  have e : ((v : Int) / 2 ^ r) = ((v / 2 ^ r : Nat) : Int) := by norm_cast
  have hlt : v / 2 ^ r < 18446744073709551616 := Nat.lt_of_le_of_lt (Nat.div_le_self _ _) hv
  rw [e, show (1 : Int) = ((1 : Nat) : Int) from rfl, u64_and_nat _ 1 hlt (by omega), Nat.and_one_is_mod]
  rw [Nat.testBit_eq_decide_div_mod_eq, Bool.eq_iff_iff, beq_iff_eq, decide_eq_true_eq]
  omega
set_option maxHeartbeats 1000000 in
theorem chas_any (b o c : Nat) (P : Nat → Bool) (w : World) (hc : c < 1000) (h : ColW w b o P) :
    Calls Tryd.prog 38 #[.pointer (some ⟨b, o, none⟩), .int .i64 (c : Int)] w fun e w' => e = .returned (.bool (P c)) ∧ w = w' := by
  obtain ⟨q, hq⟩ : ∃ q, q = c / 64 := ⟨_, rfl⟩
  obtain ⟨r, hr⟩ : ∃ r, r = c % 64 := ⟨_, rfl⟩
  have hqi : Int.tdiv (c : Int) 64 = (q : Int) := by rw [hq]; rfl
  have hri : Int.tmod (c : Int) 64 = (r : Int) := by rw [hr]; rfl
  have hq16 : q < 16 := by omega
  have hr64 : r < 64 := by omega
  obtain ⟨v, hv, hvl, hvb⟩ := h.1 q hq16
  rw [hq] at hv
  have hq16' : c / 64 < 16 := by omega
  clear h
  go_enter Tryd.func38, Tryd.ntmps38
  go_wp2_with fail
  go_ret
  refine ⟨?_, rfl⟩
  show Ending.returned (Value.bool (bits .and .u64 ((v : Int) / 2 ^ (c % 64)) 1 == 1)) = _
  rw [bit_one v _ hvl, ← hr, hvb r hr64, show 64 * q + r = c by omega]
theorem grown_cell {w wr : World} {q : Nat} (h : w.grownBy wr (some q)) (o : Nat) (v : Value) : w.grownBy (wr.setCell ⟨q, o, none⟩ v) (some q) := by
  refine ⟨h.os, h.tape, h.output, by simpa using h.size, fun k hk hne => ?_⟩
  rw [Below.heap_setCell _ _ _ _ (by intro e; exact hne (by rw [e]))]
  exact h.block k hk hne
set_option maxHeartbeats 1000000 in
theorem cadd_any (b o c : Nat) (P : Nat → Bool) (w : World) (hc : c < 1000) (h : ColW w b o P) :
    Calls Tryd.prog 48 #[.pointer (some ⟨b, o, none⟩), .int .i64 (c : Int)] w fun e w' => e = .returned (.tuple #[]) ∧ ColW w' b o (fun i => decide (i = c) || P i) ∧ w.grownBy w' (some b) := by
  obtain ⟨q, hq⟩ : ∃ q, q = c / 64 := ⟨_, rfl⟩
  obtain ⟨r, hr⟩ : ∃ r, r = c % 64 := ⟨_, rfl⟩
  have hq16 : q < 16 := by omega
  have hr64 : r < 64 := by omega
  obtain ⟨v, hv, hvl, hvb⟩ := h.1 q hq16
  rw [hq] at hv
  have hq16' : c / 64 < 16 := by omega
  have hz := h.2 (o + c / 64)
  have H := Lib.hid h
  clear h
  go_enter Tryd.func48, Tryd.ntmps48
  go_wp2_with fail
  go_region
  go_wp2_with fail
  rw [bit_or v _ hvl (by omega)]
  go_end0
  exact ⟨rfl, ⟨(H.out.add v hc hv (fun i hi => by rw [← hq]; exact hvb i hi) hvl).1, (H.out.add v hc hv (fun i hi => by rw [← hq]; exact hvb i hi) hvl).2⟩, grown_drew (grown_cell (World.grownBy.refl w (some b)) _ _)⟩
end Go.Proofs.YtgadfmknjpanpaaDoor

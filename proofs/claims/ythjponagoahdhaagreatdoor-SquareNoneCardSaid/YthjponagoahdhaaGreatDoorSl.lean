/-
  groutworklaw02.wide.
  groutworklaw02: heavy.
  groutworklaw02: small.
  What the laws of the second chapter know of small sets: Count's answer, sums of them.
-/
import Derived.Test.YthjponagoahdhaaGreatDoorFl
import Derived.Test.YthjponagoahdhaaGreatDoorFi
import Derived.Test.YthjponagoahdhaaGreatDoorFu
import Derived.Test.YthjponagoahdhaaGreatDoorAE
import Derived.Test.YthjponagoahdhaaGreatDoorFp
namespace Go.Proofs.YthjponagoahdhaaGreatDoor
section
open Go.RowKit Go.Maps
set_option linter.unusedVariables false
set_option maxRecDepth 100000

end
section
open Go.RowKit Go.Maps
set_option linter.unusedVariables false
set_option maxRecDepth 100000

end
section
open Go.RowKit Go.Maps Go.BigFrame
set_option linter.unusedVariables false
set_option maxRecDepth 100000

def wideB (m n e u v : Nat) : Bool := decide (1100 < m ∨ 200 < n ∨ 200 < u ∨ 200 < v ∨ 200 < e)
def heavyB (s : List Tl) (k : Nat) : Bool := decide (60 < s.length) || !lightB s k
def smallB (s : List Tl) (wd hg : Int) (n e u v : Nat) : Bool := !wideB s.length n e u v && (decide (faultE s wd hg n e u v = 0) && (!tooM s.length wd.toNat && !heavyB s wd.toNat))
theorem fault_ok {s : List Tl} {wd hg : Int} {n e u v : Nat} (h : faultE s wd hg n e u v = 0) : ∃ a : Nat, wd = a ∧ 1 ≤ a ∧ a ≤ 8 ∧ vld s = true := by
  unfold faultE at h
  split at h
  · cases h
  · rename_i hv
    split at h
    · cases h
    · obtain ⟨a, ha⟩ := Int.eq_ofNat_of_zero_le (show 0 ≤ wd by omega)
      exact ⟨a, ha, by omega, by omega, by simpa using hv⟩
end
section
set_option linter.unusedVariables false

theorem sideOk_iff {n : Nat} {k : Int} : sideOk n k = true ↔ n = 0 ∨ (n : Int) = k := by unfold sideOk; exact decide_eq_true_iff
theorem faultE_iff {s : List Tl} {wd hg : Int} {n e u v : Nat} : faultE s wd hg n e u v = 0 ↔ vld s = true ∧ (1 ≤ wd ∧ wd ≤ 8 ∧ 1 ≤ hg ∧ hg ≤ 60) ∧ (n = 0 ∨ (n : Int) = wd) ∧ (u = 0 ∨ (u : Int) = wd) ∧ (v = 0 ∨ (v : Int) = hg) ∧ (e = 0 ∨ (e : Int) = hg) := by
  unfold faultE
  constructor
  · intro h
    split at h
    · cases h
    · rename_i hv
      split at h
      · cases h
      · split at h
        · rename_i hs
          simp only [Bool.and_eq_true, sideOk_iff] at hs
          exact ⟨by simpa using hv, by omega, hs⟩
        · cases h
  · rintro ⟨hv, hr, h1, h2, h3, h4⟩
    rw [if_neg (by simp [hv]), if_neg (by omega), if_pos (by simp only [Bool.and_eq_true, sideOk_iff]; exact ⟨h1, h2, h3, h4⟩)]
theorem smallB_iff {s : List Tl} {wd hg : Int} {n e u v : Nat} : smallB s wd hg n e u v = true ↔ wideB s.length n e u v = false ∧ faultE s wd hg n e u v = 0 ∧ tooM s.length wd.toNat = false ∧ heavyB s wd.toNat = false := by
  unfold smallB
  simp only [Bool.and_eq_true, Bool.not_eq_true', decide_eq_true_eq]
theorem checkE_ok {s : List Tl} {wd hg : Int} {n e u v : Nat} (h : faultE s wd hg n e u v = 0) (h2 : tooM s.length wd.toNat = false) : checkE s wd hg n e u v = 0 := by
  unfold checkE
  rw [if_neg (by rw [h]; simp), if_neg (by rw [h2]; simp)]
/-- Count's answer where no error is due but for the number -/
theorem countRes_ok {s : List Tl} {wd hg : Int} {d : Ed} (h : faultE s wd hg d.n.length d.e.length d.s.length d.w.length = 0) (h2 : tooM s.length wd.toNat = false) :
    countRes s wd hg d = if 1152921504606846976 < countE s wd.toNat hg.toNat d then .tuple #[.int .i64 0, .int .i64 4] else .tuple #[.int .i64 (countE s wd.toNat hg.toNat d : Nat), .int .i64 0] := by
  unfold countRes
  rw [if_neg (by rw [checkE_ok h h2]; simp)]
theorem len_or {l : List Int} {k : Nat} (h : l.length = 0 ∨ (l.length : Int) = (k : Int)) : l = [] ∨ l.length = k := h.imp (fun e => List.length_eq_zero_iff.1 e) (fun e => by omega)
theorem edOk_of {s : List Tl} {a b : Nat} {d : Ed} (h : faultE s (a : Int) (b : Int) d.n.length d.e.length d.s.length d.w.length = 0) : EdOk a b d := by
  obtain ⟨_, _, h1, h2, h3, h4⟩ := faultE_iff.1 h
  exact ⟨len_or h1, len_or h4, len_or h2, len_or h3⟩
end
end Go.Proofs.YthjponagoahdhaaGreatDoor

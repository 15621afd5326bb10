/-
  groutworkref01: Same, SamePattern, of equal lists.
-/
import Derived.Test.YthjponagoahdhaaGreatDoorAE
import Derived.Test.YthjponagoahdhaaGreatDoorFg
namespace Go.Proofs.YthjponagoahdhaaGreatDoor
open Go.RowKit Go.Maps Go.BigFrame
set_option linter.unusedVariables false
set_option maxRecDepth 100000

theorem ints_at {w : World} {B : Nat} {A : Option Addr} {cs : List Int} (h : IntsIn w B A cs) {w' : World} (hb : Below B w w') {k : Nat} (hk : k < cs.length) : ∃ bk off, A = some ⟨bk, off, none⟩ ∧ bk < B ∧ w'.cell? ⟨bk, off + k, none⟩ = some (.int .i64 (cs.getD k 0)) := by
  obtain ⟨bk, off, hA, hlt, hc⟩ := h (ne_nil_of_lt hk)
  exact ⟨bk, off, hA, hlt, (hb.cell (p := ⟨bk, _, none⟩) hlt).trans (hc k hk)⟩
end Go.Proofs.YthjponagoahdhaaGreatDoor

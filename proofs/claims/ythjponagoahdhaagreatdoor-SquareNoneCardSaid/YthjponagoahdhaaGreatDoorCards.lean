/-
  DERIVED. GIVEN WITH THE SEED: THE CARDS: each row of YthjponagoahdhaaGreatDoorRows.lean that lists a variable, with what it lists TIED to the program's text (the seventh form; the later family's looks); each row that meets fmt, with fmt's text TOLD by the authors' own Lean function (tested against real Go, not proved from fmt's source: count such statements apart). THE CARD IS WHAT COUNTS. Prove the row's statement (the work); the ties are given (YthjponagoahdhaaGreatDoorTie.lean); close each card by the builder's one call (the guide's Derived/Test/ToyasCard.lean, 'card_holds'). Laid BY PROGRAM, IN A SANDBOX (cutbox-door.mjs). By AI agents, Wed Nov 11 2026. No macro, syntax, notation, axiom, sorry.
-/
import Derived.Test.YthjponagoahdhaaGreatDoorRows
import GoSem.ClaimSeven
namespace Go.Proofs.YthjponagoahdhaaGreatDoor
namespace Rows

/-- THE TIED CARD OF 'groutworklaw05.SquareNone'. -/
def squareNoneCard : Claim7 := { stood := { row := squareNoneRow, standIns := [], harness := (true, "67814db6b49aef262eb57fe59b2bc82bf0115caf633e4fe1aad00771e9908267"), looks := true }, kinds := [], alts := [], laidByText := true, laidKinds := [.data, .data, .data, .data, .sentinel, .sentinel, .pinned], laidTests := true, laidLooks := .later }
def SquareNoneCardSaid : Prop := Claim7.holds Tryz.pinned (.plain (OpenSpec.ofChange squareNoneSpec)) squareNoneCard

/-- THE SECOND FORM's CARD OF 'groutworklaw05.SquareNone'. -/
def squareNoneUptoCard : Claim7 := { stood := { row := squareNoneUptoRow, standIns := [], harness := (true, "67814db6b49aef262eb57fe59b2bc82bf0115caf633e4fe1aad00771e9908267"), looks := true }, kinds := [], alts := [], laidByText := true, laidKinds := [.data, .data, .data, .data, .sentinel, .sentinel, .pinned], laidTests := true, laidLooks := .later }
def SquareNoneUptoCardSaid : Prop := Claim7.holds Tryz.pinned (.plain (OpenSpec.upto squareNoneSpec)) squareNoneUptoCard
end Rows
end Go.Proofs.YthjponagoahdhaaGreatDoor

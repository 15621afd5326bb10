/-
  DERIVED. GIVEN WITH THE SEED: THE CARDS: each row of YtgadfmknjpanpaaGreatDoorRows.lean that lists a variable, with what it lists TIED to the program's text (the seventh form; the later family's looks); each row that meets fmt, with fmt's text TOLD by the authors' own Lean function (tested against real Go, not proved from fmt's source: count such statements apart). THE CARD IS WHAT COUNTS. Prove the row's statement (the work); the ties are given (YtgadfmknjpanpaaGreatDoorTie.lean); close each card by the builder's one call (the guide's Derived/Test/ToyasCard.lean, 'card_holds'). Laid BY PROGRAM, IN A SANDBOX (cutbox-door.mjs). By AI agents, Wed Nov 11 2026. No macro, syntax, notation, axiom, sorry.
-/
import Derived.Test.YtgadfmknjpanpaaGreatDoorRows
import GoSem.ClaimSeven
namespace Go.Proofs.YtgadfmknjpanpaaGreatDoor
namespace Rows

/-- THE TIED CARD OF 'groutworklaw04.StripRows'. -/
def stripRowsCard : Claim7 := { stood := { row := stripRowsRow, standIns := [], harness := (true, "4f5eb34fe5a3c2cb890ae855ad3d9257ffd628733f9853361bd43754a64df8a6"), looks := true }, kinds := [], alts := [], laidByText := true, laidKinds := [.data, .data, .data, .data, .sentinel, .sentinel, .pinned], laidTests := true, laidLooks := .later }
def StripRowsCardSaid : Prop := Claim7.holds Tryz.pinned (.plain (OpenSpec.ofChange stripRowsSpec)) stripRowsCard

/-- THE SECOND FORM's CARD OF 'groutworklaw04.StripRows'. -/
def stripRowsUptoCard : Claim7 := { stood := { row := stripRowsUptoRow, standIns := [], harness := (true, "4f5eb34fe5a3c2cb890ae855ad3d9257ffd628733f9853361bd43754a64df8a6"), looks := true }, kinds := [], alts := [], laidByText := true, laidKinds := [.data, .data, .data, .data, .sentinel, .sentinel, .pinned], laidTests := true, laidLooks := .later }
def StripRowsUptoCardSaid : Prop := Claim7.holds Tryz.pinned (.plain (OpenSpec.upto stripRowsSpec)) stripRowsUptoCard
end Rows
end Go.Proofs.YtgadfmknjpanpaaGreatDoor

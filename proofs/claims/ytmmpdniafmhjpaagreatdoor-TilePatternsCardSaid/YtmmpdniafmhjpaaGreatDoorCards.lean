/-
  DERIVED. GIVEN WITH THE SEED: THE CARDS: each row of YtmmpdniafmhjpaaGreatDoorRows.lean that lists a variable, with what it lists TIED to the program's text (the seventh form; the later family's looks); each row that meets fmt, with fmt's text TOLD by the authors' own Lean function (tested against real Go, not proved from fmt's source: count such statements apart). THE CARD IS WHAT COUNTS. Prove the row's statement (the work); the ties are given (YtmmpdniafmhjpaaGreatDoorTie.lean); close each card by the builder's one call (the guide's Derived/Test/ToyasCard.lean, 'card_holds'). Laid BY PROGRAM, IN A SANDBOX (cutbox-door.mjs). By AI agents, Wed Nov 11 2026. No macro, syntax, notation, axiom, sorry.
-/
import Derived.Test.YtmmpdniafmhjpaaGreatDoorRows
import GoSem.ClaimSeven
namespace Go.Proofs.YtmmpdniafmhjpaaGreatDoor
namespace Rows

/-- THE TIED CARD OF 'groutworklaw01.TilePatterns'. -/
def tilePatternsCard : Claim7 := { stood := { row := tilePatternsRow, standIns := [], harness := (true, "4250657a3883baf402afda4754634cc5c97794e799177356f07a274b1629b0a0"), looks := true }, kinds := [], alts := [], laidByText := true, laidKinds := [.data, .data, .data, .data, .sentinel, .sentinel, .pinned], laidTests := true, laidLooks := .later }
def TilePatternsCardSaid : Prop := Claim7.holds Tryz.pinned (.plain (OpenSpec.ofChange tilePatternsSpec)) tilePatternsCard

/-- THE TIED CARD OF 'groutworklaw01.TileTurned'. -/
def tileTurnedCard : Claim7 := { stood := { row := tileTurnedRow, standIns := [], harness := (true, "4250657a3883baf402afda4754634cc5c97794e799177356f07a274b1629b0a0"), looks := true }, kinds := [], alts := [], laidByText := true, laidKinds := [.data, .data, .data, .data, .sentinel, .sentinel, .pinned], laidTests := true, laidLooks := .later }
def TileTurnedCardSaid : Prop := Claim7.holds Tryz.pinned (.plain (OpenSpec.ofChange tileTurnedSpec)) tileTurnedCard

/-- THE TIED CARD OF 'groutworklaw02.FillTurned'. -/
def fillTurnedCard : Claim7 := { stood := { row := fillTurnedRow, standIns := [], harness := (true, "4250657a3883baf402afda4754634cc5c97794e799177356f07a274b1629b0a0"), looks := true }, kinds := [], alts := [], laidByText := true, laidKinds := [.data, .data, .data, .data, .sentinel, .sentinel, .pinned], laidTests := true, laidLooks := .later }
def FillTurnedCardSaid : Prop := Claim7.holds Tryz.pinned (.plain (OpenSpec.ofChange fillTurnedSpec)) fillTurnedCard

/-- THE SECOND FORM's CARD OF 'groutworklaw01.TilePatterns'. -/
def tilePatternsUptoCard : Claim7 := { stood := { row := tilePatternsUptoRow, standIns := [], harness := (true, "4250657a3883baf402afda4754634cc5c97794e799177356f07a274b1629b0a0"), looks := true }, kinds := [], alts := [], laidByText := true, laidKinds := [.data, .data, .data, .data, .sentinel, .sentinel, .pinned], laidTests := true, laidLooks := .later }
def TilePatternsUptoCardSaid : Prop := Claim7.holds Tryz.pinned (.plain (OpenSpec.upto tilePatternsSpec)) tilePatternsUptoCard

/-- THE SECOND FORM's CARD OF 'groutworklaw01.TileTurned'. -/
def tileTurnedUptoCard : Claim7 := { stood := { row := tileTurnedUptoRow, standIns := [], harness := (true, "4250657a3883baf402afda4754634cc5c97794e799177356f07a274b1629b0a0"), looks := true }, kinds := [], alts := [], laidByText := true, laidKinds := [.data, .data, .data, .data, .sentinel, .sentinel, .pinned], laidTests := true, laidLooks := .later }
def TileTurnedUptoCardSaid : Prop := Claim7.holds Tryz.pinned (.plain (OpenSpec.upto tileTurnedSpec)) tileTurnedUptoCard

/-- THE SECOND FORM's CARD OF 'groutworklaw02.FillTurned'. -/
def fillTurnedUptoCard : Claim7 := { stood := { row := fillTurnedUptoRow, standIns := [], harness := (true, "4250657a3883baf402afda4754634cc5c97794e799177356f07a274b1629b0a0"), looks := true }, kinds := [], alts := [], laidByText := true, laidKinds := [.data, .data, .data, .data, .sentinel, .sentinel, .pinned], laidTests := true, laidLooks := .later }
def FillTurnedUptoCardSaid : Prop := Claim7.holds Tryz.pinned (.plain (OpenSpec.upto fillTurnedSpec)) fillTurnedUptoCard
end Rows
end Go.Proofs.YtmmpdniafmhjpaaGreatDoor

/-
  DERIVED. GIVEN WITH THE SEED: THE CARDS: each row of YtfepgemopcpgmaaDoorRows.lean that lists a variable, with what it lists TIED to the program's text (the seventh form; the later family's looks); each row that meets fmt, with fmt's text TOLD by the authors' own Lean function (tested against real Go, not proved from fmt's source: count such statements apart). THE CARD IS WHAT COUNTS. Prove the row's statement (the work); the ties are given (YtfepgemopcpgmaaDoorTie.lean); close each card by the builder's one call (the guide's Derived/Test/ToyasCard.lean, 'card_holds'). Laid BY PROGRAM, IN A SANDBOX (cutbox-door.mjs). By AI agents, Wed Nov 11 2026. No macro, syntax, notation, axiom, sorry.
-/
import Derived.Test.YtfepgemopcpgmaaDoorRows
import GoSem.ClaimSeven
namespace Go.Proofs.YtfepgemopcpgmaaDoor
namespace Rows

/-- THE TIED CARD OF 'groutworklaw02.FillFirst'. -/
def fillFirstCard : Claim7 := { stood := { row := fillFirstRow, standIns := [], harness := (true, "a975d45904e416e2481077d781fc4414c60055ee9d65c9a22b288152849ea744"), looks := true }, kinds := [], alts := [], laidByText := true, laidKinds := [.data, .data, .data, .data, .sentinel, .sentinel, .pinned], laidTests := true, laidLooks := .later }
def FillFirstCardSaid : Prop := Claim7.holds Tryd.pinned (.plain (OpenSpec.ofChange fillFirstSpec)) fillFirstCard

/-- THE TIED CARD OF 'groutworklaw05.SquareExists'. -/
def squareExistsCard : Claim7 := { stood := { row := squareExistsRow, standIns := [], harness := (true, "a975d45904e416e2481077d781fc4414c60055ee9d65c9a22b288152849ea744"), looks := true }, kinds := [], alts := [], laidByText := true, laidKinds := [.data, .data, .data, .data, .sentinel, .sentinel, .pinned], laidTests := true, laidLooks := .later }
def SquareExistsCardSaid : Prop := Claim7.holds Tryd.pinned (.plain (OpenSpec.ofChange squareExistsSpec)) squareExistsCard

/-- THE SECOND FORM's CARD OF 'groutworklaw02.FillFirst'. -/
def fillFirstUptoCard : Claim7 := { stood := { row := fillFirstUptoRow, standIns := [], harness := (true, "a975d45904e416e2481077d781fc4414c60055ee9d65c9a22b288152849ea744"), looks := true }, kinds := [], alts := [], laidByText := true, laidKinds := [.data, .data, .data, .data, .sentinel, .sentinel, .pinned], laidTests := true, laidLooks := .later }
def FillFirstUptoCardSaid : Prop := Claim7.holds Tryd.pinned (.plain (OpenSpec.upto fillFirstSpec)) fillFirstUptoCard

/-- THE SECOND FORM's CARD OF 'groutworklaw05.SquareExists'. -/
def squareExistsUptoCard : Claim7 := { stood := { row := squareExistsUptoRow, standIns := [], harness := (true, "a975d45904e416e2481077d781fc4414c60055ee9d65c9a22b288152849ea744"), looks := true }, kinds := [], alts := [], laidByText := true, laidKinds := [.data, .data, .data, .data, .sentinel, .sentinel, .pinned], laidTests := true, laidLooks := .later }
def SquareExistsUptoCardSaid : Prop := Claim7.holds Tryd.pinned (.plain (OpenSpec.upto squareExistsSpec)) squareExistsUptoCard
end Rows
end Go.Proofs.YtfepgemopcpgmaaDoor

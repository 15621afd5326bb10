/-
  DERIVED. GIVEN WITH THE SEED: THE CARDS: each row of YtnmigjohomdbnaaDoorRows.lean that lists a variable, with what it lists TIED to the program's text (the seventh form; the later family's looks); each row that meets fmt, with fmt's text TOLD by the authors' own Lean function (tested against real Go, not proved from fmt's source: count such statements apart). THE CARD IS WHAT COUNTS. Prove the row's statement (the work); the ties are given (YtnmigjohomdbnaaDoorTie.lean); close each card by the builder's one call (the guide's Derived/Test/ToyasCard.lean, 'card_holds'). Laid BY PROGRAM, IN A SANDBOX (cutbox-door.mjs). By AI agents, Wed Nov 11 2026. No macro, syntax, notation, axiom, sorry.
-/
import Derived.Test.YtnmigjohomdbnaaDoorRows
import GoSem.ClaimSeven
namespace Go.Proofs.YtnmigjohomdbnaaDoor
namespace Rows

/-- THE TIED CARD OF 'groutworklaw02.FillCounts'. -/
def fillCountsCard : Claim7 := { stood := { row := fillCountsRow, standIns := [], harness := (true, "dcaa97dfbaf128f382561ef18d36e72db0f5d61687cc4bfe797c44997ac538d9"), looks := true }, kinds := [], alts := [], laidByText := true, laidKinds := [.data, .data, .data, .data, .sentinel, .sentinel, .pinned], laidTests := true, laidLooks := .later }
def FillCountsCardSaid : Prop := Claim7.holds Tryd.pinned (.plain (OpenSpec.ofChange fillCountsSpec)) fillCountsCard

/-- THE TIED CARD OF 'groutworklaw05.SquareFalls'. -/
def squareFallsCard : Claim7 := { stood := { row := squareFallsRow, standIns := [], harness := (true, "dcaa97dfbaf128f382561ef18d36e72db0f5d61687cc4bfe797c44997ac538d9"), looks := true }, kinds := [], alts := [], laidByText := true, laidKinds := [.data, .data, .data, .data, .sentinel, .sentinel, .pinned], laidTests := true, laidLooks := .later }
def SquareFallsCardSaid : Prop := Claim7.holds Tryd.pinned (.plain (OpenSpec.ofChange squareFallsSpec)) squareFallsCard

/-- THE SECOND FORM's CARD OF 'groutworklaw02.FillCounts'. -/
def fillCountsUptoCard : Claim7 := { stood := { row := fillCountsUptoRow, standIns := [], harness := (true, "dcaa97dfbaf128f382561ef18d36e72db0f5d61687cc4bfe797c44997ac538d9"), looks := true }, kinds := [], alts := [], laidByText := true, laidKinds := [.data, .data, .data, .data, .sentinel, .sentinel, .pinned], laidTests := true, laidLooks := .later }
def FillCountsUptoCardSaid : Prop := Claim7.holds Tryd.pinned (.plain (OpenSpec.upto fillCountsSpec)) fillCountsUptoCard

/-- THE SECOND FORM's CARD OF 'groutworklaw05.SquareFalls'. -/
def squareFallsUptoCard : Claim7 := { stood := { row := squareFallsUptoRow, standIns := [], harness := (true, "dcaa97dfbaf128f382561ef18d36e72db0f5d61687cc4bfe797c44997ac538d9"), looks := true }, kinds := [], alts := [], laidByText := true, laidKinds := [.data, .data, .data, .data, .sentinel, .sentinel, .pinned], laidTests := true, laidLooks := .later }
def SquareFallsUptoCardSaid : Prop := Claim7.holds Tryd.pinned (.plain (OpenSpec.upto squareFallsSpec)) squareFallsUptoCard
end Rows
end Go.Proofs.YtnmigjohomdbnaaDoor

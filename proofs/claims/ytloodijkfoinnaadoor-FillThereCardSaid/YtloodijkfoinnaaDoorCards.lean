/-
  DERIVED. GIVEN WITH THE SEED: THE CARDS: each row of YtloodijkfoinnaaDoorRows.lean that lists a variable, with what it lists TIED to the program's text (the seventh form; the later family's looks); each row that meets fmt, with fmt's text TOLD by the authors' own Lean function (tested against real Go, not proved from fmt's source: count such statements apart). THE CARD IS WHAT COUNTS. Prove the row's statement (the work); the ties are given (YtloodijkfoinnaaDoorTie.lean); close each card by the builder's one call (the guide's Derived/Test/ToyasCard.lean, 'card_holds'). Laid BY PROGRAM, IN A SANDBOX (cutbox-door.mjs). By AI agents, Wed Nov 11 2026. No macro, syntax, notation, axiom, sorry.
-/
import Derived.Test.YtloodijkfoinnaaDoorRows
import GoSem.ClaimSeven
namespace Go.Proofs.YtloodijkfoinnaaDoor
namespace Rows

/-- THE TIED CARD OF 'groutworklaw02.FillCounts'. -/
def fillCountsCard : Claim7 := { stood := { row := fillCountsRow, standIns := [], harness := (true, "f5b28513adcc478cb98a107d889100ab901cd0512c71224bb339e57a60fe17f6"), looks := true }, kinds := [], alts := [], laidByText := true, laidKinds := [.data, .data, .data, .data, .sentinel, .sentinel, .pinned], laidTests := true, laidLooks := .later }
def FillCountsCardSaid : Prop := Claim7.holds Tryd.pinned (.plain (OpenSpec.ofChange fillCountsSpec)) fillCountsCard

/-- THE TIED CARD OF 'groutworklaw02.FillFirst'. -/
def fillFirstCard : Claim7 := { stood := { row := fillFirstRow, standIns := [], harness := (true, "f5b28513adcc478cb98a107d889100ab901cd0512c71224bb339e57a60fe17f6"), looks := true }, kinds := [], alts := [], laidByText := true, laidKinds := [.data, .data, .data, .data, .sentinel, .sentinel, .pinned], laidTests := true, laidLooks := .later }
def FillFirstCardSaid : Prop := Claim7.holds Tryd.pinned (.plain (OpenSpec.ofChange fillFirstSpec)) fillFirstCard

/-- THE TIED CARD OF 'groutworklaw02.FillThere'. -/
def fillThereCard : Claim7 := { stood := { row := fillThereRow, standIns := [], harness := (true, "f5b28513adcc478cb98a107d889100ab901cd0512c71224bb339e57a60fe17f6"), looks := true }, kinds := [], alts := [], laidByText := true, laidKinds := [.data, .data, .data, .data, .sentinel, .sentinel, .pinned], laidTests := true, laidLooks := .later }
def FillThereCardSaid : Prop := Claim7.holds Tryd.pinned (.plain (OpenSpec.ofChange fillThereSpec)) fillThereCard

/-- THE TIED CARD OF 'groutworklaw02.FillSum'. -/
def fillSumCard : Claim7 := { stood := { row := fillSumRow, standIns := [], harness := (true, "f5b28513adcc478cb98a107d889100ab901cd0512c71224bb339e57a60fe17f6"), looks := true }, kinds := [], alts := [], laidByText := true, laidKinds := [.data, .data, .data, .data, .sentinel, .sentinel, .pinned], laidTests := true, laidLooks := .later }
def FillSumCardSaid : Prop := Claim7.holds Tryd.pinned (.plain (OpenSpec.ofChange fillSumSpec)) fillSumCard

/-- THE TIED CARD OF 'groutworklaw02.FillStacked'. -/
def fillStackedCard : Claim7 := { stood := { row := fillStackedRow, standIns := [], harness := (true, "f5b28513adcc478cb98a107d889100ab901cd0512c71224bb339e57a60fe17f6"), looks := true }, kinds := [], alts := [], laidByText := true, laidKinds := [.data, .data, .data, .data, .sentinel, .sentinel, .pinned], laidTests := true, laidLooks := .later }
def FillStackedCardSaid : Prop := Claim7.holds Tryd.pinned (.plain (OpenSpec.ofChange fillStackedSpec)) fillStackedCard

/-- THE SECOND FORM's CARD OF 'groutworklaw02.FillCounts'. -/
def fillCountsUptoCard : Claim7 := { stood := { row := fillCountsUptoRow, standIns := [], harness := (true, "f5b28513adcc478cb98a107d889100ab901cd0512c71224bb339e57a60fe17f6"), looks := true }, kinds := [], alts := [], laidByText := true, laidKinds := [.data, .data, .data, .data, .sentinel, .sentinel, .pinned], laidTests := true, laidLooks := .later }
def FillCountsUptoCardSaid : Prop := Claim7.holds Tryd.pinned (.plain (OpenSpec.upto fillCountsSpec)) fillCountsUptoCard

/-- THE SECOND FORM's CARD OF 'groutworklaw02.FillFirst'. -/
def fillFirstUptoCard : Claim7 := { stood := { row := fillFirstUptoRow, standIns := [], harness := (true, "f5b28513adcc478cb98a107d889100ab901cd0512c71224bb339e57a60fe17f6"), looks := true }, kinds := [], alts := [], laidByText := true, laidKinds := [.data, .data, .data, .data, .sentinel, .sentinel, .pinned], laidTests := true, laidLooks := .later }
def FillFirstUptoCardSaid : Prop := Claim7.holds Tryd.pinned (.plain (OpenSpec.upto fillFirstSpec)) fillFirstUptoCard

/-- THE SECOND FORM's CARD OF 'groutworklaw02.FillThere'. -/
def fillThereUptoCard : Claim7 := { stood := { row := fillThereUptoRow, standIns := [], harness := (true, "f5b28513adcc478cb98a107d889100ab901cd0512c71224bb339e57a60fe17f6"), looks := true }, kinds := [], alts := [], laidByText := true, laidKinds := [.data, .data, .data, .data, .sentinel, .sentinel, .pinned], laidTests := true, laidLooks := .later }
def FillThereUptoCardSaid : Prop := Claim7.holds Tryd.pinned (.plain (OpenSpec.upto fillThereSpec)) fillThereUptoCard

/-- THE SECOND FORM's CARD OF 'groutworklaw02.FillSum'. -/
def fillSumUptoCard : Claim7 := { stood := { row := fillSumUptoRow, standIns := [], harness := (true, "f5b28513adcc478cb98a107d889100ab901cd0512c71224bb339e57a60fe17f6"), looks := true }, kinds := [], alts := [], laidByText := true, laidKinds := [.data, .data, .data, .data, .sentinel, .sentinel, .pinned], laidTests := true, laidLooks := .later }
def FillSumUptoCardSaid : Prop := Claim7.holds Tryd.pinned (.plain (OpenSpec.upto fillSumSpec)) fillSumUptoCard

/-- THE SECOND FORM's CARD OF 'groutworklaw02.FillStacked'. -/
def fillStackedUptoCard : Claim7 := { stood := { row := fillStackedUptoRow, standIns := [], harness := (true, "f5b28513adcc478cb98a107d889100ab901cd0512c71224bb339e57a60fe17f6"), looks := true }, kinds := [], alts := [], laidByText := true, laidKinds := [.data, .data, .data, .data, .sentinel, .sentinel, .pinned], laidTests := true, laidLooks := .later }
def FillStackedUptoCardSaid : Prop := Claim7.holds Tryd.pinned (.plain (OpenSpec.upto fillStackedSpec)) fillStackedUptoCard
end Rows
end Go.Proofs.YtloodijkfoinnaaDoor

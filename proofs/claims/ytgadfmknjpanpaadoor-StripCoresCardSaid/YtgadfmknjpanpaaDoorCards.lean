/-
  DERIVED. GIVEN WITH THE SEED: THE CARDS: each row of YtgadfmknjpanpaaDoorRows.lean that lists a variable, with what it lists TIED to the program's text (the seventh form; the later family's looks); each row that meets fmt, with fmt's text TOLD by the authors' own Lean function (tested against real Go, not proved from fmt's source: count such statements apart). THE CARD IS WHAT COUNTS. Prove the row's statement (the work); the ties are given (YtgadfmknjpanpaaDoorTie.lean); close each card by the builder's one call (the guide's Derived/Test/ToyasCard.lean, 'card_holds'). Laid BY PROGRAM, IN A SANDBOX (cutbox-door.mjs). By AI agents, Wed Nov 11 2026. No macro, syntax, notation, axiom, sorry.
-/
import Derived.Test.YtgadfmknjpanpaaDoorRows
import GoSem.ClaimSeven
namespace Go.Proofs.YtgadfmknjpanpaaDoor
namespace Rows

/-- THE TIED CARD OF 'groutworklaw04.StripCores'. -/
def stripCoresCard : Claim7 := { stood := { row := stripCoresRow, standIns := [], harness := (true, "d6c7de520de8f0d787fb92d423b81f8fabd4edf0ec54e238d70e9bee0e596a2d"), looks := true }, kinds := [], alts := [], laidByText := true, laidKinds := [.data, .data, .data, .data, .sentinel, .sentinel, .pinned], laidTests := true, laidLooks := .later }
def StripCoresCardSaid : Prop := Claim7.holds Tryd.pinned (.plain (OpenSpec.ofChange stripCoresSpec)) stripCoresCard

/-- THE TIED CARD OF 'groutworklaw04.StripOn'. -/
def stripOnCard : Claim7 := { stood := { row := stripOnRow, standIns := [], harness := (true, "d6c7de520de8f0d787fb92d423b81f8fabd4edf0ec54e238d70e9bee0e596a2d"), looks := true }, kinds := [], alts := [], laidByText := true, laidKinds := [.data, .data, .data, .data, .sentinel, .sentinel, .pinned], laidTests := true, laidLooks := .later }
def StripOnCardSaid : Prop := Claim7.holds Tryd.pinned (.plain (OpenSpec.ofChange stripOnSpec)) stripOnCard

/-- THE TIED CARD OF 'groutworklaw04.StripPaths'. -/
def stripPathsCard : Claim7 := { stood := { row := stripPathsRow, standIns := [], harness := (true, "d6c7de520de8f0d787fb92d423b81f8fabd4edf0ec54e238d70e9bee0e596a2d"), looks := true }, kinds := [], alts := [], laidByText := true, laidKinds := [.data, .data, .data, .data, .sentinel, .sentinel, .pinned], laidTests := true, laidLooks := .later }
def StripPathsCardSaid : Prop := Claim7.holds Tryd.pinned (.plain (OpenSpec.ofChange stripPathsSpec)) stripPathsCard

/-- THE TIED CARD OF 'groutworklaw04.StripCore'. -/
def stripCoreCard : Claim7 := { stood := { row := stripCoreRow, standIns := [], harness := (true, "d6c7de520de8f0d787fb92d423b81f8fabd4edf0ec54e238d70e9bee0e596a2d"), looks := true }, kinds := [], alts := [], laidByText := true, laidKinds := [.data, .data, .data, .data, .sentinel, .sentinel, .pinned], laidTests := true, laidLooks := .later }
def StripCoreCardSaid : Prop := Claim7.holds Tryd.pinned (.plain (OpenSpec.ofChange stripCoreSpec)) stripCoreCard

/-- THE SECOND FORM's CARD OF 'groutworklaw04.StripCores'. -/
def stripCoresUptoCard : Claim7 := { stood := { row := stripCoresUptoRow, standIns := [], harness := (true, "d6c7de520de8f0d787fb92d423b81f8fabd4edf0ec54e238d70e9bee0e596a2d"), looks := true }, kinds := [], alts := [], laidByText := true, laidKinds := [.data, .data, .data, .data, .sentinel, .sentinel, .pinned], laidTests := true, laidLooks := .later }
def StripCoresUptoCardSaid : Prop := Claim7.holds Tryd.pinned (.plain (OpenSpec.upto stripCoresSpec)) stripCoresUptoCard

/-- THE SECOND FORM's CARD OF 'groutworklaw04.StripOn'. -/
def stripOnUptoCard : Claim7 := { stood := { row := stripOnUptoRow, standIns := [], harness := (true, "d6c7de520de8f0d787fb92d423b81f8fabd4edf0ec54e238d70e9bee0e596a2d"), looks := true }, kinds := [], alts := [], laidByText := true, laidKinds := [.data, .data, .data, .data, .sentinel, .sentinel, .pinned], laidTests := true, laidLooks := .later }
def StripOnUptoCardSaid : Prop := Claim7.holds Tryd.pinned (.plain (OpenSpec.upto stripOnSpec)) stripOnUptoCard

/-- THE SECOND FORM's CARD OF 'groutworklaw04.StripPaths'. -/
def stripPathsUptoCard : Claim7 := { stood := { row := stripPathsUptoRow, standIns := [], harness := (true, "d6c7de520de8f0d787fb92d423b81f8fabd4edf0ec54e238d70e9bee0e596a2d"), looks := true }, kinds := [], alts := [], laidByText := true, laidKinds := [.data, .data, .data, .data, .sentinel, .sentinel, .pinned], laidTests := true, laidLooks := .later }
def StripPathsUptoCardSaid : Prop := Claim7.holds Tryd.pinned (.plain (OpenSpec.upto stripPathsSpec)) stripPathsUptoCard

/-- THE SECOND FORM's CARD OF 'groutworklaw04.StripCore'. -/
def stripCoreUptoCard : Claim7 := { stood := { row := stripCoreUptoRow, standIns := [], harness := (true, "d6c7de520de8f0d787fb92d423b81f8fabd4edf0ec54e238d70e9bee0e596a2d"), looks := true }, kinds := [], alts := [], laidByText := true, laidKinds := [.data, .data, .data, .data, .sentinel, .sentinel, .pinned], laidTests := true, laidLooks := .later }
def StripCoreUptoCardSaid : Prop := Claim7.holds Tryd.pinned (.plain (OpenSpec.upto stripCoreSpec)) stripCoreUptoCard
end Rows
end Go.Proofs.YtgadfmknjpanpaaDoor

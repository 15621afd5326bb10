/-
  DERIVED. GIVEN WITH THE SEED: THE CARDS: each row of YthjponagoahdhaaDoorRows.lean that lists a variable, with what it lists TIED to the program's text (the seventh form; the later family's looks); each row that meets fmt, with fmt's text TOLD by the authors' own Lean function (tested against real Go, not proved from fmt's source: count such statements apart). THE CARD IS WHAT COUNTS. Prove the row's statement (the work); the ties are given (YthjponagoahdhaaDoorTie.lean); close each card by the builder's one call (the guide's Derived/Test/ToyasCard.lean, 'card_holds'). Laid BY PROGRAM, IN A SANDBOX (cutbox-door.mjs). By AI agents, Wed Nov 11 2026. No macro, syntax, notation, axiom, sorry.
-/
import Derived.Test.YthjponagoahdhaaDoorRows
import GoSem.ClaimSeven
namespace Go.Proofs.YthjponagoahdhaaDoor
namespace Rows

/-- THE TIED CARD OF 'groutworklaw03.TorusFinds'. -/
def torusFindsCard : Claim7 := { stood := { row := torusFindsRow, standIns := [], harness := (true, "5cfab31c1ef96c3037f256a85f508719b11f96c60708b9990832463a619e01f7"), looks := true }, kinds := [], alts := [], laidByText := true, laidKinds := [.data, .data, .data, .data, .sentinel, .sentinel, .pinned], laidTests := true, laidLooks := .later }
def TorusFindsCardSaid : Prop := Claim7.holds Tryd.pinned (.plain (OpenSpec.ofChange torusFindsSpec)) torusFindsCard

/-- THE TIED CARD OF 'groutworklaw03.TorusLeast'. -/
def torusLeastCard : Claim7 := { stood := { row := torusLeastRow, standIns := [], harness := (true, "5cfab31c1ef96c3037f256a85f508719b11f96c60708b9990832463a619e01f7"), looks := true }, kinds := [], alts := [], laidByText := true, laidKinds := [.data, .data, .data, .data, .sentinel, .sentinel, .pinned], laidTests := true, laidLooks := .later }
def TorusLeastCardSaid : Prop := Claim7.holds Tryd.pinned (.plain (OpenSpec.ofChange torusLeastSpec)) torusLeastCard

/-- THE TIED CARD OF 'groutworklaw03.TorusRight'. -/
def torusRightCard : Claim7 := { stood := { row := torusRightRow, standIns := [], harness := (true, "5cfab31c1ef96c3037f256a85f508719b11f96c60708b9990832463a619e01f7"), looks := true }, kinds := [], alts := [], laidByText := true, laidKinds := [.data, .data, .data, .data, .sentinel, .sentinel, .pinned], laidTests := true, laidLooks := .later }
def TorusRightCardSaid : Prop := Claim7.holds Tryd.pinned (.plain (OpenSpec.ofChange torusRightSpec)) torusRightCard

/-- THE TIED CARD OF 'groutworklaw03.TorusRows'. -/
def torusRowsCard : Claim7 := { stood := { row := torusRowsRow, standIns := [], harness := (true, "5cfab31c1ef96c3037f256a85f508719b11f96c60708b9990832463a619e01f7"), looks := true }, kinds := [], alts := [], laidByText := true, laidKinds := [.data, .data, .data, .data, .sentinel, .sentinel, .pinned], laidTests := true, laidLooks := .later }
def TorusRowsCardSaid : Prop := Claim7.holds Tryd.pinned (.plain (OpenSpec.ofChange torusRowsSpec)) torusRowsCard

/-- THE SECOND FORM's CARD OF 'groutworklaw03.TorusFinds'. -/
def torusFindsUptoCard : Claim7 := { stood := { row := torusFindsUptoRow, standIns := [], harness := (true, "5cfab31c1ef96c3037f256a85f508719b11f96c60708b9990832463a619e01f7"), looks := true }, kinds := [], alts := [], laidByText := true, laidKinds := [.data, .data, .data, .data, .sentinel, .sentinel, .pinned], laidTests := true, laidLooks := .later }
def TorusFindsUptoCardSaid : Prop := Claim7.holds Tryd.pinned (.plain (OpenSpec.upto torusFindsSpec)) torusFindsUptoCard

/-- THE SECOND FORM's CARD OF 'groutworklaw03.TorusLeast'. -/
def torusLeastUptoCard : Claim7 := { stood := { row := torusLeastUptoRow, standIns := [], harness := (true, "5cfab31c1ef96c3037f256a85f508719b11f96c60708b9990832463a619e01f7"), looks := true }, kinds := [], alts := [], laidByText := true, laidKinds := [.data, .data, .data, .data, .sentinel, .sentinel, .pinned], laidTests := true, laidLooks := .later }
def TorusLeastUptoCardSaid : Prop := Claim7.holds Tryd.pinned (.plain (OpenSpec.upto torusLeastSpec)) torusLeastUptoCard

/-- THE SECOND FORM's CARD OF 'groutworklaw03.TorusRight'. -/
def torusRightUptoCard : Claim7 := { stood := { row := torusRightUptoRow, standIns := [], harness := (true, "5cfab31c1ef96c3037f256a85f508719b11f96c60708b9990832463a619e01f7"), looks := true }, kinds := [], alts := [], laidByText := true, laidKinds := [.data, .data, .data, .data, .sentinel, .sentinel, .pinned], laidTests := true, laidLooks := .later }
def TorusRightUptoCardSaid : Prop := Claim7.holds Tryd.pinned (.plain (OpenSpec.upto torusRightSpec)) torusRightUptoCard

/-- THE SECOND FORM's CARD OF 'groutworklaw03.TorusRows'. -/
def torusRowsUptoCard : Claim7 := { stood := { row := torusRowsUptoRow, standIns := [], harness := (true, "5cfab31c1ef96c3037f256a85f508719b11f96c60708b9990832463a619e01f7"), looks := true }, kinds := [], alts := [], laidByText := true, laidKinds := [.data, .data, .data, .data, .sentinel, .sentinel, .pinned], laidTests := true, laidLooks := .later }
def TorusRowsUptoCardSaid : Prop := Claim7.holds Tryd.pinned (.plain (OpenSpec.upto torusRowsSpec)) torusRowsUptoCard
end Rows
end Go.Proofs.YthjponagoahdhaaDoor

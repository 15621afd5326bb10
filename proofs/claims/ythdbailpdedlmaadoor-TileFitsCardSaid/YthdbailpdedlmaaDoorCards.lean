/-
  DERIVED. GIVEN WITH THE SEED: THE CARDS: each row of YthdbailpdedlmaaDoorRows.lean that lists a variable, with what it lists TIED to the program's text (the seventh form; the later family's looks); each row that meets fmt, with fmt's text TOLD by the authors' own Lean function (tested against real Go, not proved from fmt's source: count such statements apart). THE CARD IS WHAT COUNTS. Prove the row's statement (the work); the ties are given (YthdbailpdedlmaaDoorTie.lean); close each card by the builder's one call (the guide's Derived/Test/ToyasCard.lean, 'card_holds'). Laid BY PROGRAM, IN A SANDBOX (cutbox-door.mjs). By AI agents, Wed Nov 11 2026. No macro, syntax, notation, axiom, sorry.
-/
import Derived.Test.YthdbailpdedlmaaDoorRows
import GoSem.ClaimSeven
namespace Go.Proofs.YthdbailpdedlmaaDoor
namespace Rows

/-- THE TIED CARD OF 'groutworklaw01.TileSets'. -/
def tileSetsCard : Claim7 := { stood := { row := tileSetsRow, standIns := [], harness := (true, "6c62a1a9b10afe9cb07bedd05a0af0adc53c9f5e9085885ad39a520a2c10776c"), looks := true }, kinds := [], alts := [], laidByText := true, laidKinds := [.data, .data, .data, .data, .sentinel, .sentinel, .pinned], laidTests := true, laidLooks := .later }
def TileSetsCardSaid : Prop := Claim7.holds Tryd.pinned (.plain (OpenSpec.ofChange tileSetsSpec)) tileSetsCard

/-- THE TIED CARD OF 'groutworklaw01.TileParses'. -/
def tileParsesCard : Claim7 := { stood := { row := tileParsesRow, standIns := [], harness := (true, "6c62a1a9b10afe9cb07bedd05a0af0adc53c9f5e9085885ad39a520a2c10776c"), looks := true }, kinds := [], alts := [], laidByText := true, laidKinds := [.data, .data, .data, .data, .sentinel, .sentinel, .pinned], laidTests := true, laidLooks := .later }
def TileParsesCardSaid : Prop := Claim7.holds Tryd.pinned (.plain (OpenSpec.ofChange tileParsesSpec)) tileParsesCard

/-- THE TIED CARD OF 'groutworklaw01.TileFits'. -/
def tileFitsCard : Claim7 := { stood := { row := tileFitsRow, standIns := [], harness := (true, "6c62a1a9b10afe9cb07bedd05a0af0adc53c9f5e9085885ad39a520a2c10776c"), looks := true }, kinds := [], alts := [], laidByText := true, laidKinds := [.data, .data, .data, .data, .sentinel, .sentinel, .pinned], laidTests := true, laidLooks := .later }
def TileFitsCardSaid : Prop := Claim7.holds Tryd.pinned (.plain (OpenSpec.ofChange tileFitsSpec)) tileFitsCard

/-- THE SECOND FORM's CARD OF 'groutworklaw01.TileSets'. -/
def tileSetsUptoCard : Claim7 := { stood := { row := tileSetsUptoRow, standIns := [], harness := (true, "6c62a1a9b10afe9cb07bedd05a0af0adc53c9f5e9085885ad39a520a2c10776c"), looks := true }, kinds := [], alts := [], laidByText := true, laidKinds := [.data, .data, .data, .data, .sentinel, .sentinel, .pinned], laidTests := true, laidLooks := .later }
def TileSetsUptoCardSaid : Prop := Claim7.holds Tryd.pinned (.plain (OpenSpec.upto tileSetsSpec)) tileSetsUptoCard

/-- THE SECOND FORM's CARD OF 'groutworklaw01.TileParses'. -/
def tileParsesUptoCard : Claim7 := { stood := { row := tileParsesUptoRow, standIns := [], harness := (true, "6c62a1a9b10afe9cb07bedd05a0af0adc53c9f5e9085885ad39a520a2c10776c"), looks := true }, kinds := [], alts := [], laidByText := true, laidKinds := [.data, .data, .data, .data, .sentinel, .sentinel, .pinned], laidTests := true, laidLooks := .later }
def TileParsesUptoCardSaid : Prop := Claim7.holds Tryd.pinned (.plain (OpenSpec.upto tileParsesSpec)) tileParsesUptoCard

/-- THE SECOND FORM's CARD OF 'groutworklaw01.TileFits'. -/
def tileFitsUptoCard : Claim7 := { stood := { row := tileFitsUptoRow, standIns := [], harness := (true, "6c62a1a9b10afe9cb07bedd05a0af0adc53c9f5e9085885ad39a520a2c10776c"), looks := true }, kinds := [], alts := [], laidByText := true, laidKinds := [.data, .data, .data, .data, .sentinel, .sentinel, .pinned], laidTests := true, laidLooks := .later }
def TileFitsUptoCardSaid : Prop := Claim7.holds Tryd.pinned (.plain (OpenSpec.upto tileFitsSpec)) tileFitsUptoCard
end Rows
end Go.Proofs.YthdbailpdedlmaaDoor

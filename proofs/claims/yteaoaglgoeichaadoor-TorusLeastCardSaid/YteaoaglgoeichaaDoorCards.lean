/-
  DERIVED. GIVEN WITH THE SEED: THE CARDS: each row of YteaoaglgoeichaaDoorRows.lean that lists a variable, with what it lists TIED to the program's text (the seventh form; the later family's looks); each row that meets fmt, with fmt's text TOLD by the authors' own Lean function (tested against real Go, not proved from fmt's source: count such statements apart). THE CARD IS WHAT COUNTS. Prove the row's statement (the work); the ties are given (YteaoaglgoeichaaDoorTie.lean); close each card by the builder's one call (the guide's Derived/Test/ToyasCard.lean, 'card_holds'). Laid BY PROGRAM, IN A SANDBOX (cutbox-door.mjs). By AI agents, Wed Nov 11 2026. No macro, syntax, notation, axiom, sorry.
-/
import Derived.Test.YteaoaglgoeichaaDoorRows
import GoSem.ClaimSeven
namespace Go.Proofs.YteaoaglgoeichaaDoor
namespace Rows

/-- THE TIED CARD OF 'groutworklaw03.TorusFinds'. -/
def torusFindsCard : Claim7 := { stood := { row := torusFindsRow, standIns := [], harness := (true, "9b96c129ce51f98f31a3c9a2bc5ef93b430d9a631c1a586f912149fa2909c25b"), looks := true }, kinds := [], alts := [], laidByText := true, laidKinds := [.data, .data, .data, .data, .sentinel, .sentinel, .pinned], laidTests := true, laidLooks := .later }
def TorusFindsCardSaid : Prop := Claim7.holds Tryd.pinned (.plain (OpenSpec.ofChange torusFindsSpec)) torusFindsCard

/-- THE TIED CARD OF 'groutworklaw03.TorusLeast'. -/
def torusLeastCard : Claim7 := { stood := { row := torusLeastRow, standIns := [], harness := (true, "9b96c129ce51f98f31a3c9a2bc5ef93b430d9a631c1a586f912149fa2909c25b"), looks := true }, kinds := [], alts := [], laidByText := true, laidKinds := [.data, .data, .data, .data, .sentinel, .sentinel, .pinned], laidTests := true, laidLooks := .later }
def TorusLeastCardSaid : Prop := Claim7.holds Tryd.pinned (.plain (OpenSpec.ofChange torusLeastSpec)) torusLeastCard

/-- THE SECOND FORM's CARD OF 'groutworklaw03.TorusFinds'. -/
def torusFindsUptoCard : Claim7 := { stood := { row := torusFindsUptoRow, standIns := [], harness := (true, "9b96c129ce51f98f31a3c9a2bc5ef93b430d9a631c1a586f912149fa2909c25b"), looks := true }, kinds := [], alts := [], laidByText := true, laidKinds := [.data, .data, .data, .data, .sentinel, .sentinel, .pinned], laidTests := true, laidLooks := .later }
def TorusFindsUptoCardSaid : Prop := Claim7.holds Tryd.pinned (.plain (OpenSpec.upto torusFindsSpec)) torusFindsUptoCard

/-- THE SECOND FORM's CARD OF 'groutworklaw03.TorusLeast'. -/
def torusLeastUptoCard : Claim7 := { stood := { row := torusLeastUptoRow, standIns := [], harness := (true, "9b96c129ce51f98f31a3c9a2bc5ef93b430d9a631c1a586f912149fa2909c25b"), looks := true }, kinds := [], alts := [], laidByText := true, laidKinds := [.data, .data, .data, .data, .sentinel, .sentinel, .pinned], laidTests := true, laidLooks := .later }
def TorusLeastUptoCardSaid : Prop := Claim7.holds Tryd.pinned (.plain (OpenSpec.upto torusLeastSpec)) torusLeastUptoCard
end Rows
end Go.Proofs.YteaoaglgoeichaaDoor

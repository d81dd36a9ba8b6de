/-
  DERIVED. GIVEN WITH THE SEED: THE CARDS: each row of YtjajngngajnnpabGreatDoorRows.lean that lists a variable, with what it lists TIED to the program's text (the seventh form; the later family's looks); each row that meets fmt, with fmt's text TOLD by the authors' own Lean function (tested against real Go, not proved from fmt's source: count such statements apart). THE CARD IS WHAT COUNTS. Prove the row's statement (the work); the ties are given (YtjajngngajnnpabGreatDoorTie.lean); close each card by the builder's one call (the guide's Derived/Test/ToyasCard.lean, 'card_holds'). Laid BY PROGRAM, IN A SANDBOX (cutbox-door.mjs). By AI agents, Wed Nov 11 2026. No macro, syntax, notation, axiom, sorry.
-/
import Derived.Test.YtjajngngajnnpabGreatDoorRows
import GoSem.ClaimSeven
namespace Go.Proofs.YtjajngngajnnpabGreatDoor
namespace Rows

/-- THE TIED CARD OF 'stilelaw02.TypesFixed'. -/
def typesFixedCard : Claim7 := { stood := { row := typesFixedRow, standIns := [], harness := (true, "260fa17515929ccdd05a205ef16f5853fc6f2c10032a0badef9d8fddf31a9bf0"), looks := true }, kinds := [], alts := [], laidByText := true, laidKinds := [.data, .data, .data, .data, .sentinel, .sentinel, .data, .pinned, .pinned], laidTests := true, laidLooks := .later }
def TypesFixedCardSaid : Prop := Claim7.holds Tryz.pinned (.plain (OpenSpec.ofChange typesFixedSpec)) typesFixedCard

/-- THE TIED CARD OF 'stilelaw02.TypesLong'. -/
def typesLongCard : Claim7 := { stood := { row := typesLongRow, standIns := [], harness := (true, "260fa17515929ccdd05a205ef16f5853fc6f2c10032a0badef9d8fddf31a9bf0"), looks := true }, kinds := [], alts := [], laidByText := true, laidKinds := [.data, .data, .data, .data, .sentinel, .sentinel, .data, .pinned, .pinned], laidTests := true, laidLooks := .later }
def TypesLongCardSaid : Prop := Claim7.holds Tryz.pinned (.plain (OpenSpec.ofChange typesLongSpec)) typesLongCard

/-- THE SECOND FORM's CARD OF 'stilelaw02.TypesFixed'. -/
def typesFixedUptoCard : Claim7 := { stood := { row := typesFixedUptoRow, standIns := [], harness := (true, "260fa17515929ccdd05a205ef16f5853fc6f2c10032a0badef9d8fddf31a9bf0"), looks := true }, kinds := [], alts := [], laidByText := true, laidKinds := [.data, .data, .data, .data, .sentinel, .sentinel, .data, .pinned, .pinned], laidTests := true, laidLooks := .later }
def TypesFixedUptoCardSaid : Prop := Claim7.holds Tryz.pinned (.plain (OpenSpec.upto typesFixedSpec)) typesFixedUptoCard

/-- THE SECOND FORM's CARD OF 'stilelaw02.TypesLong'. -/
def typesLongUptoCard : Claim7 := { stood := { row := typesLongUptoRow, standIns := [], harness := (true, "260fa17515929ccdd05a205ef16f5853fc6f2c10032a0badef9d8fddf31a9bf0"), looks := true }, kinds := [], alts := [], laidByText := true, laidKinds := [.data, .data, .data, .data, .sentinel, .sentinel, .data, .pinned, .pinned], laidTests := true, laidLooks := .later }
def TypesLongUptoCardSaid : Prop := Claim7.holds Tryz.pinned (.plain (OpenSpec.upto typesLongSpec)) typesLongUptoCard
end Rows
end Go.Proofs.YtjajngngajnnpabGreatDoor

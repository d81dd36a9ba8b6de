/-
  DERIVED. GIVEN WITH THE SEED: THE CARDS: each row of YtleenjdkgbhfiaaGreatDoorRows.lean that lists a variable, with what it lists TIED to the program's text (the seventh form; the later family's looks); each row that meets fmt, with fmt's text TOLD by the authors' own Lean function (tested against real Go, not proved from fmt's source: count such statements apart). THE CARD IS WHAT COUNTS. Prove the row's statement (the work); the ties are given (YtleenjdkgbhfiaaGreatDoorTie.lean); close each card by the builder's one call (the guide's Derived/Test/ToyasCard.lean, 'card_holds'). Laid BY PROGRAM, IN A SANDBOX (cutbox-door.mjs). By AI agents, Wed Nov 11 2026. No macro, syntax, notation, axiom, sorry.
-/
import Derived.Test.YtleenjdkgbhfiaaGreatDoorRows
import GoSem.ClaimSeven
namespace Go.Proofs.YtleenjdkgbhfiaaGreatDoor
namespace Rows

/-- THE TIED CARD OF 'stilelaw02.TypesNames'. -/
def typesNamesCard : Claim7 := { stood := { row := typesNamesRow, standIns := [], harness := (true, "d1bda6686ff7529f55cabdbe98f3a827077e9d3420d2eb794af05ef8c9f38a4a"), looks := true }, kinds := [], alts := [], laidByText := true, laidKinds := [.data, .data, .data, .data, .sentinel, .sentinel, .data, .pinned, .pinned], laidTests := true, laidLooks := .later }
def TypesNamesCardSaid : Prop := Claim7.holds Tryz.pinned (.plain (OpenSpec.ofChange typesNamesSpec)) typesNamesCard

/-- THE TIED CARD OF 'stilelaw02.TypesAssigns'. -/
def typesAssignsCard : Claim7 := { stood := { row := typesAssignsRow, standIns := [], harness := (true, "d1bda6686ff7529f55cabdbe98f3a827077e9d3420d2eb794af05ef8c9f38a4a"), looks := true }, kinds := [], alts := [], laidByText := true, laidKinds := [.data, .data, .data, .data, .sentinel, .sentinel, .data, .pinned, .pinned], laidTests := true, laidLooks := .later }
def TypesAssignsCardSaid : Prop := Claim7.holds Tryz.pinned (.plain (OpenSpec.ofChange typesAssignsSpec)) typesAssignsCard

/-- THE TIED CARD OF 'stilelaw02.TypesCasts'. -/
def typesCastsCard : Claim7 := { stood := { row := typesCastsRow, standIns := [], harness := (true, "d1bda6686ff7529f55cabdbe98f3a827077e9d3420d2eb794af05ef8c9f38a4a"), looks := true }, kinds := [], alts := [], laidByText := true, laidKinds := [.data, .data, .data, .data, .sentinel, .sentinel, .data, .pinned, .pinned], laidTests := true, laidLooks := .later }
def TypesCastsCardSaid : Prop := Claim7.holds Tryz.pinned (.plain (OpenSpec.ofChange typesCastsSpec)) typesCastsCard

/-- THE TIED CARD OF 'stilelaw02.TypesFixed'. -/
def typesFixedCard : Claim7 := { stood := { row := typesFixedRow, standIns := [], harness := (true, "d1bda6686ff7529f55cabdbe98f3a827077e9d3420d2eb794af05ef8c9f38a4a"), looks := true }, kinds := [], alts := [], laidByText := true, laidKinds := [.data, .data, .data, .data, .sentinel, .sentinel, .data, .pinned, .pinned], laidTests := true, laidLooks := .later }
def TypesFixedCardSaid : Prop := Claim7.holds Tryz.pinned (.plain (OpenSpec.ofChange typesFixedSpec)) typesFixedCard

/-- THE TIED CARD OF 'stilelaw02.TypesBack'. -/
def typesBackCard : Claim7 := { stood := { row := typesBackRow, standIns := [], harness := (true, "d1bda6686ff7529f55cabdbe98f3a827077e9d3420d2eb794af05ef8c9f38a4a"), looks := true }, kinds := [], alts := [], laidByText := true, laidKinds := [.data, .data, .data, .data, .sentinel, .sentinel, .data, .pinned, .pinned], laidTests := true, laidLooks := .later }
def TypesBackCardSaid : Prop := Claim7.holds Tryz.pinned (.plain (OpenSpec.ofChange typesBackSpec)) typesBackCard

/-- THE TIED CARD OF 'stilelaw02.TypesRanges'. -/
def typesRangesCard : Claim7 := { stood := { row := typesRangesRow, standIns := [], harness := (true, "d1bda6686ff7529f55cabdbe98f3a827077e9d3420d2eb794af05ef8c9f38a4a"), looks := true }, kinds := [], alts := [], laidByText := true, laidKinds := [.data, .data, .data, .data, .sentinel, .sentinel, .data, .pinned, .pinned], laidTests := true, laidLooks := .later }
def TypesRangesCardSaid : Prop := Claim7.holds Tryz.pinned (.plain (OpenSpec.ofChange typesRangesSpec)) typesRangesCard

/-- THE SECOND FORM's CARD OF 'stilelaw02.TypesNames'. -/
def typesNamesUptoCard : Claim7 := { stood := { row := typesNamesUptoRow, standIns := [], harness := (true, "d1bda6686ff7529f55cabdbe98f3a827077e9d3420d2eb794af05ef8c9f38a4a"), looks := true }, kinds := [], alts := [], laidByText := true, laidKinds := [.data, .data, .data, .data, .sentinel, .sentinel, .data, .pinned, .pinned], laidTests := true, laidLooks := .later }
def TypesNamesUptoCardSaid : Prop := Claim7.holds Tryz.pinned (.plain (OpenSpec.upto typesNamesSpec)) typesNamesUptoCard

/-- THE SECOND FORM's CARD OF 'stilelaw02.TypesAssigns'. -/
def typesAssignsUptoCard : Claim7 := { stood := { row := typesAssignsUptoRow, standIns := [], harness := (true, "d1bda6686ff7529f55cabdbe98f3a827077e9d3420d2eb794af05ef8c9f38a4a"), looks := true }, kinds := [], alts := [], laidByText := true, laidKinds := [.data, .data, .data, .data, .sentinel, .sentinel, .data, .pinned, .pinned], laidTests := true, laidLooks := .later }
def TypesAssignsUptoCardSaid : Prop := Claim7.holds Tryz.pinned (.plain (OpenSpec.upto typesAssignsSpec)) typesAssignsUptoCard

/-- THE SECOND FORM's CARD OF 'stilelaw02.TypesCasts'. -/
def typesCastsUptoCard : Claim7 := { stood := { row := typesCastsUptoRow, standIns := [], harness := (true, "d1bda6686ff7529f55cabdbe98f3a827077e9d3420d2eb794af05ef8c9f38a4a"), looks := true }, kinds := [], alts := [], laidByText := true, laidKinds := [.data, .data, .data, .data, .sentinel, .sentinel, .data, .pinned, .pinned], laidTests := true, laidLooks := .later }
def TypesCastsUptoCardSaid : Prop := Claim7.holds Tryz.pinned (.plain (OpenSpec.upto typesCastsSpec)) typesCastsUptoCard

/-- THE SECOND FORM's CARD OF 'stilelaw02.TypesFixed'. -/
def typesFixedUptoCard : Claim7 := { stood := { row := typesFixedUptoRow, standIns := [], harness := (true, "d1bda6686ff7529f55cabdbe98f3a827077e9d3420d2eb794af05ef8c9f38a4a"), looks := true }, kinds := [], alts := [], laidByText := true, laidKinds := [.data, .data, .data, .data, .sentinel, .sentinel, .data, .pinned, .pinned], laidTests := true, laidLooks := .later }
def TypesFixedUptoCardSaid : Prop := Claim7.holds Tryz.pinned (.plain (OpenSpec.upto typesFixedSpec)) typesFixedUptoCard

/-- THE SECOND FORM's CARD OF 'stilelaw02.TypesBack'. -/
def typesBackUptoCard : Claim7 := { stood := { row := typesBackUptoRow, standIns := [], harness := (true, "d1bda6686ff7529f55cabdbe98f3a827077e9d3420d2eb794af05ef8c9f38a4a"), looks := true }, kinds := [], alts := [], laidByText := true, laidKinds := [.data, .data, .data, .data, .sentinel, .sentinel, .data, .pinned, .pinned], laidTests := true, laidLooks := .later }
def TypesBackUptoCardSaid : Prop := Claim7.holds Tryz.pinned (.plain (OpenSpec.upto typesBackSpec)) typesBackUptoCard

/-- THE SECOND FORM's CARD OF 'stilelaw02.TypesRanges'. -/
def typesRangesUptoCard : Claim7 := { stood := { row := typesRangesUptoRow, standIns := [], harness := (true, "d1bda6686ff7529f55cabdbe98f3a827077e9d3420d2eb794af05ef8c9f38a4a"), looks := true }, kinds := [], alts := [], laidByText := true, laidKinds := [.data, .data, .data, .data, .sentinel, .sentinel, .data, .pinned, .pinned], laidTests := true, laidLooks := .later }
def TypesRangesUptoCardSaid : Prop := Claim7.holds Tryz.pinned (.plain (OpenSpec.upto typesRangesSpec)) typesRangesUptoCard
end Rows
end Go.Proofs.YtleenjdkgbhfiaaGreatDoor

/-
  DERIVED. GIVEN WITH THE SEED: THE CARDS: each row of YtfmnlgepllgpnaaGreatDoorRows.lean that lists a variable, with what it lists TIED to the program's text (the seventh form; the later family's looks); each row that meets fmt, with fmt's text TOLD by the authors' own Lean function (tested against real Go, not proved from fmt's source: count such statements apart). THE CARD IS WHAT COUNTS. Prove the row's statement (the work); the ties are given (YtfmnlgepllgpnaaGreatDoorTie.lean); close each card by the builder's one call (the guide's Derived/Test/ToyasCard.lean, 'card_holds'). Laid BY PROGRAM, IN A SANDBOX (cutbox-door.mjs). By AI agents, Wed Nov 11 2026. No macro, syntax, notation, axiom, sorry.
-/
import Derived.Test.YtfmnlgepllgpnaaGreatDoorRows
import GoSem.ClaimSeven
namespace Go.Proofs.YtfmnlgepllgpnaaGreatDoor
namespace Rows

/-- THE TIED CARD OF 'stilelaw02.TypesCasts'. -/
def typesCastsCard : Claim7 := { stood := { row := typesCastsRow, standIns := [], harness := (true, "3cbecd4ac773b28c2021ac14afad0450def06b6f39fcb16948d67700ebd42b26"), looks := true }, kinds := [], alts := [], laidByText := true, laidKinds := [.data, .data, .data, .data, .sentinel, .sentinel, .data, .pinned, .pinned], laidTests := true, laidLooks := .later }
def TypesCastsCardSaid : Prop := Claim7.holds Tryz.pinned (.plain (OpenSpec.ofChange typesCastsSpec)) typesCastsCard

/-- THE SECOND FORM's CARD OF 'stilelaw02.TypesCasts'. -/
def typesCastsUptoCard : Claim7 := { stood := { row := typesCastsUptoRow, standIns := [], harness := (true, "3cbecd4ac773b28c2021ac14afad0450def06b6f39fcb16948d67700ebd42b26"), looks := true }, kinds := [], alts := [], laidByText := true, laidKinds := [.data, .data, .data, .data, .sentinel, .sentinel, .data, .pinned, .pinned], laidTests := true, laidLooks := .later }
def TypesCastsUptoCardSaid : Prop := Claim7.holds Tryz.pinned (.plain (OpenSpec.upto typesCastsSpec)) typesCastsUptoCard
end Rows
end Go.Proofs.YtfmnlgepllgpnaaGreatDoor

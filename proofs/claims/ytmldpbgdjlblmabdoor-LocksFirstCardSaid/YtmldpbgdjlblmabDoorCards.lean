/-
  DERIVED. GIVEN WITH THE SEED: THE CARDS: each row of YtmldpbgdjlblmabDoorRows.lean that lists a variable, with what it lists TIED to the program's text (the seventh form; the later family's looks); each row that meets fmt, with fmt's text TOLD by the authors' own Lean function (tested against real Go, not proved from fmt's source: count such statements apart). THE CARD IS WHAT COUNTS. Prove the row's statement (the work); the ties are given (YtmldpbgdjlblmabDoorTie.lean); close each card by the builder's one call (the guide's Derived/Test/ToyasCard.lean, 'card_holds'). Laid BY PROGRAM, IN A SANDBOX (cutbox-door.mjs). By AI agents, Wed Nov 11 2026. No macro, syntax, notation, axiom, sorry.
-/
import Derived.Test.YtmldpbgdjlblmabDoorRows
import GoSem.ClaimSeven
namespace Go.Proofs.YtmldpbgdjlblmabDoor
namespace Rows

/-- THE TIED CARD OF 'stilelaw11.LocksFirst'. -/
def locksFirstCard : Claim7 := { stood := { row := locksFirstRow, standIns := [], harness := (true, "11a7af9974b57f5d8c18f9e4bb5ac14b77d2c95cf0d25a00686485b8272a8f5c"), looks := false }, kinds := [], alts := [], laidByText := true, laidKinds := [.data, .data], laidTests := true, laidLooks := .later }
def LocksFirstCardSaid : Prop := Claim7.holds Tryd.pinned (.plain (OpenSpec.ofChange locksFirstSpec)) locksFirstCard

/-- THE TIED CARD OF 'stilelaw11.LocksAgain'. -/
def locksAgainCard : Claim7 := { stood := { row := locksAgainRow, standIns := [], harness := (true, "11a7af9974b57f5d8c18f9e4bb5ac14b77d2c95cf0d25a00686485b8272a8f5c"), looks := false }, kinds := [], alts := [], laidByText := true, laidKinds := [.data, .data], laidTests := true, laidLooks := .later }
def LocksAgainCardSaid : Prop := Claim7.holds Tryd.pinned (.plain (OpenSpec.ofChange locksAgainSpec)) locksAgainCard

/-- THE SECOND FORM's CARD OF 'stilelaw11.LocksFirst'. -/
def locksFirstUptoCard : Claim7 := { stood := { row := locksFirstUptoRow, standIns := [], harness := (true, "11a7af9974b57f5d8c18f9e4bb5ac14b77d2c95cf0d25a00686485b8272a8f5c"), looks := false }, kinds := [], alts := [], laidByText := true, laidKinds := [.data, .data], laidTests := true, laidLooks := .later }
def LocksFirstUptoCardSaid : Prop := Claim7.holds Tryd.pinned (.plain (OpenSpec.upto locksFirstSpec)) locksFirstUptoCard

/-- THE SECOND FORM's CARD OF 'stilelaw11.LocksAgain'. -/
def locksAgainUptoCard : Claim7 := { stood := { row := locksAgainUptoRow, standIns := [], harness := (true, "11a7af9974b57f5d8c18f9e4bb5ac14b77d2c95cf0d25a00686485b8272a8f5c"), looks := false }, kinds := [], alts := [], laidByText := true, laidKinds := [.data, .data], laidTests := true, laidLooks := .later }
def LocksAgainUptoCardSaid : Prop := Claim7.holds Tryd.pinned (.plain (OpenSpec.upto locksAgainSpec)) locksAgainUptoCard
end Rows
end Go.Proofs.YtmldpbgdjlblmabDoor

/- The document's words over lists of requests: Same, Odds, Ready. -/
import Derived.Test.YtmldpbgdjlblmabDoorL11G
namespace Go.Proofs.YtmldpbgdjlblmabDoor
open Go.RowKit Go.Joins
set_option linter.unusedVariables false
set_option linter.unusedSimpArgs false

/-- A list of requests, as it is read. -/
structure QList (w : World) (ao : Option Addr) (cap : Nat) (L : List Rq) : Prop where
  le : L.length ≤ cap
  row : L = [] ∨ ∃ g, ao = some ⟨g, 0, none⟩ ∧ ∀ k (h : k < L.length), RqAt w g k L[k]
theorem QList.keep {w w' : World} {ao : Option Addr} {cap : Nat} {L : List Rq} (h : QList w ao cap L) (hb : Below w.heap.size w w') : QList w' ao cap L :=
  ⟨h.le, h.row.imp id (fun ⟨g, e, hX⟩ => ⟨g, e, fun k hk => (hX k hk).keep hb⟩)⟩
theorem QList.at_ {w : World} {ao : Option Addr} {cap : Nat} {L : List Rq} (h : QList w ao cap L) {k : Nat} (hk : k < L.length) : ∃ g, ao = some ⟨g, 0, none⟩ ∧ RqAt w g k L[k] := by
  rcases h.row with h0 | ⟨g, e, hX⟩
  · rw [h0] at hk; simp at hk
  · exact ⟨g, e, hX k hk⟩
end Go.Proofs.YtmldpbgdjlblmabDoor

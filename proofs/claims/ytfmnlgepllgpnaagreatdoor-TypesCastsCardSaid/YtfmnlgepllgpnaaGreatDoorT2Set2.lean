/- A call that reads the library's variables, behind a draw. -/
import Derived.Test.YtfmnlgepllgpnaaGreatDoorT2Set
namespace Go.Proofs.YtfmnlgepllgpnaaGreatDoor
open Go.RowKit
set_option linter.unusedVariables false

theorem drewL {f : Nat} {args : Array Value} {v : Value} {a : Addr} (h : ∀ w : World, LibW a w → Calls Tryz.prog f args w fun e w' => e = .returned v ∧ Below w.heap.size w w') (W : World) (hL : LibW a W) :
    Calls Tryz.prog f args W.drew fun e w' => e = .returned v ∧ Below W.heap.size W w' :=
  (h W.drew (hL.keep (Below.refl _ _).drew)).mono fun e w' ⟨he, hb⟩ => ⟨he, (Below.refl _ _).drew.trans hb⟩
end Go.Proofs.YtfmnlgepllgpnaaGreatDoor

/- The document's table of locks: either, blocks, may. -/
import Derived.Test.YtmldpbgdjlblmabDoorL11A
import Derived.Test.YtmldpbgdjlblmabDoorL11C
import Derived.Deep.RegionHeld3
import Derived.Deep.RegionHeldLaw
namespace Go.Proofs.YtmldpbgdjlblmabDoor
open Go.RowKit Go.Joins
set_option linter.unusedVariables false
set_option linter.unusedSimpArgs false

theorem keepKI {w w' : World} {t g cap k i : Nat} {most : Int} {L : List Rq} {xt yt sa sb xm ym : Int} {ta la ua tb lb' ub : ByteArray} {na nb xg xs yg ys : Bool} (h : QTab w t most (some ⟨g, 0, none⟩) cap L) (hx : RqAt w g k ⟨xt, ⟨sa, ta, la, ua, na⟩, xm, xg, xs⟩) (hy : RqAt w g i ⟨yt, ⟨sb, tb, lb', ub, nb⟩, ym, yg, ys⟩) (hb : Below w.heap.size w w') : Below w.heap.size w w' ∧ w'.cell? ⟨t, 1, none⟩ = some (.slice (some ⟨g, 0, none⟩) L.length cap) ∧ w'.cell? ⟨g, k * 9, none⟩ = some (.int .i64 xt) ∧ w'.cell? ⟨g, k * 9 + 1, none⟩ = some (.int .i64 sa) ∧ w'.cell? ⟨g, k * 9 + 2, none⟩ = some (.string ta) ∧ w'.cell? ⟨g, k * 9 + 3, none⟩ = some (.string la) ∧ w'.cell? ⟨g, k * 9 + 4, none⟩ = some (.string ua) ∧ w'.cell? ⟨g, k * 9 + 5, none⟩ = some (.bool na) ∧ w'.cell? ⟨g, k * 9 + 6, none⟩ = some (.int .i64 xm) ∧ w'.cell? ⟨g, k * 9 + 7, none⟩ = some (.bool xg) ∧ w'.cell? ⟨g, k * 9 + 8, none⟩ = some (.bool xs) ∧ w'.cell? ⟨g, i * 9, none⟩ = some (.int .i64 yt) ∧ w'.cell? ⟨g, i * 9 + 1, none⟩ = some (.int .i64 sb) ∧ w'.cell? ⟨g, i * 9 + 2, none⟩ = some (.string tb) ∧ w'.cell? ⟨g, i * 9 + 3, none⟩ = some (.string lb') ∧ w'.cell? ⟨g, i * 9 + 4, none⟩ = some (.string ub) ∧ w'.cell? ⟨g, i * 9 + 5, none⟩ = some (.bool nb) ∧ w'.cell? ⟨g, i * 9 + 6, none⟩ = some (.int .i64 ym) ∧ w'.cell? ⟨g, i * 9 + 7, none⟩ = some (.bool yg) ∧ w'.cell? ⟨g, i * 9 + 8, none⟩ = some (.bool ys) :=
  have X := hx.keep hb
  have Y := hy.keep hb
  ⟨hb, (h.keep hb).l, X.c0, X.c1, X.c2, X.c3, X.c4, X.c5, X.c6, X.c7, X.c8, Y.c0, Y.c1, Y.c2, Y.c3, Y.c4, Y.c5, Y.c6, Y.c7, Y.c8⟩
theorem keepF11 {P : Prop} {W0 W w' : World} (h : Below W0.heap.size W0 W ∧ P) (hb : Below W.heap.size W w') : Below W0.heap.size W0 w' := keepA h.1 hb
end Go.Proofs.YtmldpbgdjlblmabDoor

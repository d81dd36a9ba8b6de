/- The document's table of locks: conversion. -/
import Derived.Test.YtmldpbgdjlblmabDoorL11B
import Derived.Deep.QuietTactic
import Derived.BigQuiet
namespace Go.Proofs.YtmldpbgdjlblmabDoor
open Go.RowKit Go.Joins
set_option linter.unusedVariables false
set_option linter.unusedSimpArgs false

/-- Are two objects one? As the model asks it. -/
theorem run_eql_obj (w : World) (sa sb : Int) (ta la ua tb lb' ub : ByteArray) (na nb : Bool) : (binOp .eql 24 (.agg #[.int .i64 sa, .string ta, .string la, .string ua, .bool na]) (.agg #[.int .i64 sb, .string tb, .string lb', .string ub, .bool nb])).run Tryd.prog w = .ok (.bool (oe ⟨sa, ta, la, ua, na⟩ ⟨sb, tb, lb', ub, nb⟩)) w := by
  simp only [oe]
  go_simp
  repeat' split
  all_goals simp_all
theorem chain_obj (sa sb : Int) (ta la ua tb lb' ub : ByteArray) (na nb : Bool) (w : World) : (if sa = sb then if ta.toList = tb.toList then if la.toList = lb'.toList then if ua.toList = ub.toList then if na = nb then Result.ok (Value.bool true) w else Result.ok (Value.bool false) w else Result.ok (Value.bool false) w else Result.ok (Value.bool false) w else Result.ok (Value.bool false) w else Result.ok (Value.bool false) w) = Result.ok (Value.bool (oe ⟨sa, ta, la, ua, na⟩ ⟨sb, tb, lb', ub, nb⟩)) w := by
  simp only [oe]
  repeat' split
  all_goals simp_all
def cgB (r : Rq) (g : Rq) : Bool := cg g r
end Go.Proofs.YtmldpbgdjlblmabDoor

/- The walk of the law PoolNil. -/
import Derived.Test.YtpmbpadckbkglaaP7Q
namespace Go.Proofs.Ytpmbpadckbkglaa
open Go.RowKit Go.Maps
set_option linter.unusedVariables false

set_option maxRecDepth 20000 in
set_option maxHeartbeats 1000000 in
theorem poolNil_law (i : Int) (v : Value) (w : World) :
    Calls Try.prog 5 #[.int .i64 i, v] w fun e w' => e = .returned (.bool true) ∧ Below w.heap.size w w' := by
  go_enter Try.func5, Try.ntmps5
  go_wp2_with (first
    | (go_at_call 22; refine (safe_nil _ _).mono ?_; rintro e wx ⟨rfl, rfl⟩)
    | (go_at_call 18; refine (pin_nil _ _).mono ?_; rintro e wx ⟨rfl, rfl⟩)
    | (go_at_call 9; refine (pnew_nil _ _ _ _).mono ?_; rintro e wx ⟨rfl, rfl⟩)
    | (go_at_call 19; refine (put_nil _ _ _ _).mono ?_; rintro e wx ⟨rfl, rfl⟩)
    | (go_at_call 21; refine (unpin_nil _ _).mono ?_; rintro e wx ⟨rfl, rfl⟩)
    | (go_at_call 23; refine (flush_nil _).mono ?_; rintro e wx ⟨rfl, rfl⟩)
    | (go_at_call 13; refine (held_nil _).mono ?_; rintro e wx ⟨rfl, rfl⟩)
    | (go_at_call 8; refine (alive_any _).mono ?_; rintro e w1 ⟨rfl, hb⟩))
  go_ret
  exact ⟨rfl, hb⟩
end Go.Proofs.Ytpmbpadckbkglaa

/- The walk of the law DiskNil. -/
import Derived.Test.YtdpcjpdmmkibpaaD5G
namespace Go.Proofs.Ytdpcjpdmmkibpaa
open Go.RowKit Go.Maps
set_option linter.unusedVariables false

set_option maxHeartbeats 1000000 in
theorem diskNil_law (i : Int) (v : Value) (w : World) :
    Calls Try.prog 5 #[.int .i64 i, v] w fun e w' => e = .returned (.bool true) ∧ Below w.heap.size w w' := by
  go_enter Try.func5, Try.ntmps5
  go_wp2_with (first
    | (go_at_call 11; refine (nil_sync _).mono ?_; rintro e wx ⟨rfl, rfl⟩)
    | (go_at_call 13; refine (nil_read _ _).mono ?_; rintro e wx ⟨rfl, rfl⟩)
    | (go_at_call 9; refine (nil_write _ _ _).mono ?_; rintro e wx ⟨rfl, rfl⟩)
    | (go_at_call 23; refine (nil_size _).mono ?_; rintro e wx ⟨rfl, rfl⟩)
    | (go_at_call 22; refine (nil_pending _).mono ?_; rintro e wx ⟨rfl, rfl⟩)
    | (go_at_call 24; refine (nil_writes _).mono ?_; rintro e wx ⟨rfl, rfl⟩)
    | (go_at_call 16; refine (nil_cut _ _).mono ?_; rintro e wx ⟨rfl, rfl⟩)
    | (go_at_call 18; refine (nil_cutAt _ _ _).mono ?_; rintro e wx ⟨rfl, rfl⟩)
    | (go_at_call 8; refine (alive_any _).mono ?_; rintro e w1 ⟨rfl, hb⟩))
  go_ret
  exact ⟨rfl, hb⟩
end Go.Proofs.Ytdpcjpdmmkibpaa

/- The walk of the law WalNil. -/
import Derived.Test.YtcommmgelmbhbaaW6L
namespace Go.Proofs.Ytcommmgelmbhbaa
open Go.RowKit Go.Maps
set_option linter.unusedVariables false

theorem format_nil (f s : Int) (w : World) : Calls Try.prog 11 #[.pointer none, .int .i64 f, .int .i64 s] w fun e w' => e = .returned (.tuple #[.pointer none, .int .i64 1]) ∧ w' = w := by
  go_enter Try.func11, Try.ntmps11
  go_wp2_with (go_at_call 29; refine (check_nil f s _).mono ?_; rintro e wx ⟨rfl, hwx⟩; subst hwx)
  exact bodyPost_ret (v := .tuple #[.pointer none, .int .i64 1]) (by simp [results, Try.results11, go_sem]) rfl ⟨rfl, rfl⟩
theorem open_nil (f s : Int) (w : World) : Calls Try.prog 13 #[.pointer none, .int .i64 f, .int .i64 s] w fun e w' => e = .returned (.tuple #[.pointer none, .int .i64 1]) ∧ w' = w := by
  go_enter Try.func13, Try.ntmps13
  go_wp2_with (go_at_call 29; refine (check_nil f s _).mono ?_; rintro e wx ⟨rfl, hwx⟩; subst hwx)
  exact bodyPost_ret (v := .tuple #[.pointer none, .int .i64 1]) (by simp [results, Try.results13, go_sem]) rfl ⟨rfl, rfl⟩
theorem flush_nil (w : World) : Calls Try.prog 16 #[.pointer none] w fun e w' => e = .returned (.int .i64 1) ∧ w' = w := by
  go_enter Try.func16, Try.ntmps16
  go_wp2
  go_ret
  exact ⟨rfl, rfl⟩
theorem records_nil (w : World) : Calls Try.prog 23 #[.pointer none] w fun e w' => e = .returned (.slice none 0 0) ∧ w' = w := by
  go_enter Try.func23, Try.ntmps23
  go_wp2
  go_ret
  exact ⟨rfl, rfl⟩
theorem flushed_nil (w : World) : Calls Try.prog 24 #[.pointer none] w fun e w' => e = .returned (.int .i64 0) ∧ w' = w := by
  go_enter Try.func24, Try.ntmps24
  go_wp2
  go_ret
  exact ⟨rfl, rfl⟩
theorem free_nil (w : World) : Calls Try.prog 25 #[.pointer none] w fun e w' => e = .returned (.int .i64 0) ∧ w' = w := by
  go_enter Try.func25, Try.ntmps25
  go_wp2
  go_ret
  exact ⟨rfl, rfl⟩
set_option maxHeartbeats 1000000 in
theorem walNil_law (v : Value) (w : World) :
    Calls Try.prog 6 #[v] w fun e w' => e = .returned (.bool true) ∧ Below w.heap.size w w' := by
  go_enter Try.func6, Try.ntmps6
  go_wp2_with (first
    | (go_at_call 11; refine (format_nil _ _ _).mono ?_; rintro e wx ⟨rfl, rfl⟩)
    | (go_at_call 13; refine (open_nil _ _ _).mono ?_; rintro e wx ⟨rfl, rfl⟩)
    | (go_at_call 15; refine (append_nil _ _).mono ?_; rintro e wx ⟨rfl, rfl⟩)
    | (go_at_call 16; refine (flush_nil _).mono ?_; rintro e wx ⟨rfl, rfl⟩)
    | (go_at_call 23; refine (records_nil _).mono ?_; rintro e wx ⟨rfl, rfl⟩)
    | (go_at_call 24; refine (flushed_nil _).mono ?_; rintro e wx ⟨rfl, rfl⟩)
    | (go_at_call 25; refine (free_nil _).mono ?_; rintro e wx ⟨rfl, rfl⟩)
    | (go_at_call 10; refine (alive_any _).mono ?_; rintro e w1 ⟨rfl, hb⟩))
  go_ret
  exact ⟨rfl, hb⟩
end Go.Proofs.Ytcommmgelmbhbaa

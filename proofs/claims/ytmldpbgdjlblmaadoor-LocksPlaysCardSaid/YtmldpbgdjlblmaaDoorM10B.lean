/- The walks of Covers, and of the document's Fits and Covers. -/
import Derived.Test.YtmldpbgdjlblmaaDoorM10A
import Derived.Deep.RegionWith
namespace Go.Proofs.YtmldpbgdjlblmaaDoor
open Go.RowKit Go.Joins
set_option linter.unusedVariables false
set_option linter.unusedSimpArgs false

set_option maxHeartbeats 4000000 in
theorem covers_out (x y : Int) (w : World) (h : (rt x && rt y) = false) :
    Calls Tryd.prog 70 #[.int .i64 x, .int .i64 y] w fun e w' => e = .returned (.bool false) ∧ ∃ q, w' = w.drewN q := by
  cases hx : rt x with
  | false =>
    go_enter Tryd.func70, Tryd.ntmps70
    go_wp2
    go_quiet ((go_at_call 55; exact Calls.quiet_of_same (right_is hx _)))
    go_wp2
    go_ret
    exact ⟨rfl, _, rfl⟩
  | true =>
    have hy : rt y = false := by simpa [hx] using h
    go_enter Tryd.func70, Tryd.ntmps70
    go_wp2
    go_quiet (first | (go_at_call_of 55 (Value.int .i64 x); exact Calls.quiet_of_same (right_is hx _)) | (go_at_call_of 55 (Value.int .i64 y); exact Calls.quiet_of_same (right_is hy _)))
    go_wp2
    go_ret
    exact ⟨rfl, _, rfl⟩
set_option maxHeartbeats 4000000 in
theorem covers_in (x y : Int) (w : World) (hx : rt x = true) (hy : rt y = true) (hL : LibW w) :
    Calls Tryd.prog 70 #[.int .i64 x, .int .i64 y] w fun e w' => e = .returned (.bool (cv x y)) ∧ ∃ q, w' = w.drewN q := by
  have hfx := rt_cases hx
  have hfy := rt_cases hy
  have hc := hL.covr x.toNat (by omega)
  have h1 : 0 ≤ x := by omega
  have h2 : x < 7 := by omega
  have h3 : 0 ≤ y := by omega
  have h4 : y < 7 := by omega
  have hcv : cv x y = covB.getD (x.toNat * 7 + y.toNat) false := by simp [cv, hx, hy]
  go_enter Tryd.func70, Tryd.ntmps70
  go_wp2
  go_quiet (first | (go_at_call_of 55 (Value.int .i64 x); exact Calls.quiet_of_same (right_is hx _)) | (go_at_call_of 55 (Value.int .i64 y); exact Calls.quiet_of_same (right_is hy _)))
  go_wp2
  go_ret
  refine ⟨?_, _, rfl⟩
  rw [hcv]
  clear hc hcv hx hy hL h1 h2 h3 h4
  rcases hfx with rfl | rfl | rfl | rfl | rfl | rfl | rfl <;> rcases hfy with rfl | rfl | rfl | rfl | rfl | rfl | rfl <;> rfl
theorem covers_any (x y : Int) (w : World) (hL : LibW w) :
    Calls Tryd.prog 70 #[.int .i64 x, .int .i64 y] w fun e w' => e = .returned (.bool (cv x y)) ∧ ∃ q, w' = w.drewN q := by
  cases hx : rt x with
  | false =>
    rw [show cv x y = false by simp [cv, hx]]
    exact covers_out x y w (by simp [hx])
  | true =>
    cases hy : rt y with
    | false =>
      rw [show cv x y = false by simp [cv, hy]]
      exact covers_out x y w (by simp [hy])
    | true => exact covers_in x y w hx hy hL
end Go.Proofs.YtmldpbgdjlblmaaDoor

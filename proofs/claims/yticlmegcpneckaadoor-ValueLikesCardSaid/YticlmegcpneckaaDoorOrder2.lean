/- The walk of value.Order, a theorem a kind. -/
import Derived.Test.YticlmegcpneckaaDoorOrder1
import Derived.WalkKit
import Derived.WalkSpells
import Derived.WalkLawsBesides
import Derived.Deep.QuietTactic
import Derived.BigQuiet
namespace Go.Proofs.YticlmegcpneckaaDoor
open Go.RowKit
set_option linter.unusedVariables false

set_option maxHeartbeats 400000 in
theorem order_kind (k1 n1 k2 n2 : Int) (s1 s2 : ByteArray) (b1 b2 : Bool) (w : World) (h : (k1 != k2) = true) :
    Calls Tryd.prog 15 #[val k1 n1 s1 b1, val k2 n2 s2 b2] w fun e w' => e = .returned (.int .i64 (cmpI k1 k2)) ∧ Below w.heap.size w w' := by
  go_enter Tryd.func15, Tryd.ntmps15
  go_wp2_with (go_at_call 45; refine (cmpK_any _ _ _).mono ?_; rintro e w' ⟨rfl, rfl⟩)
  go_ret
  exact ⟨rfl, (by repeat (first | exact Below.refl _ _ | assumption | refine Below.alloc ?_ (by first | (simp; done) | (simp; omega)) _ | refine Below.setCell ?_ (by first | (simp; done) | (simp; omega)) _ | refine Below.drew ?_ | refine below_drewN ?_ _))⟩

set_option maxHeartbeats 400000 in
theorem order_num (n1 n2 : Int) (s1 s2 : ByteArray) (b1 b2 : Bool) (w : World) :
    Calls Tryd.prog 15 #[val 1 n1 s1 b1, val 1 n2 s2 b2] w fun e w' => e = .returned (.int .i64 (cmpI n1 n2)) ∧ Below w.heap.size w w' := by
  go_enter Tryd.func15, Tryd.ntmps15
  go_wp2_with (go_at_call 46; refine (cmpN_any _ _ _).mono ?_; rintro e w' ⟨rfl, rfl⟩)
  go_ret
  exact ⟨rfl, (by repeat (first | exact Below.refl _ _ | assumption | refine Below.alloc ?_ (by first | (simp; done) | (simp; omega)) _ | refine Below.setCell ?_ (by first | (simp; done) | (simp; omega)) _ | refine Below.drew ?_ | refine below_drewN ?_ _))⟩

set_option maxHeartbeats 400000 in
theorem order_null (n1 n2 : Int) (s1 s2 : ByteArray) (b1 b2 : Bool) (w : World) :
    Calls Tryd.prog 15 #[val 0 n1 s1 b1, val 0 n2 s2 b2] w fun e w' => e = .returned (.int .i64 0) ∧ Below w.heap.size w w' := by
  go_enter Tryd.func15, Tryd.ntmps15
  go_wp2
  go_ret
  exact ⟨rfl, (by repeat (first | exact Below.refl _ _ | assumption | refine Below.alloc ?_ (by first | (simp; done) | (simp; omega)) _ | refine Below.setCell ?_ (by first | (simp; done) | (simp; omega)) _ | refine Below.drew ?_ | refine below_drewN ?_ _))⟩

def ordB (a b : Bool) : Int := if a = b then 0 else if b then -1 else 1
set_option maxHeartbeats 400000 in
theorem order_bool (n1 n2 : Int) (s1 s2 : ByteArray) (b1 b2 : Bool) (w : World) :
    Calls Tryd.prog 15 #[val 3 n1 s1 b1, val 3 n2 s2 b2] w fun e w' => e = .returned (.int .i64 (ordB b1 b2)) ∧ Below w.heap.size w w' := by
  cases b1 <;> cases b2
  all_goals
    go_enter Tryd.func15, Tryd.ntmps15
    go_wp2
    go_ret
    exact ⟨rfl, (by repeat (first | exact Below.refl _ _ | assumption | refine Below.alloc ?_ (by first | (simp; done) | (simp; omega)) _ | refine Below.setCell ?_ (by first | (simp; done) | (simp; omega)) _ | refine Below.drew ?_ | refine below_drewN ?_ _))⟩

set_option maxHeartbeats 400000 in
theorem order_text (n1 n2 : Int) (s1 s2 : ByteArray) (b1 b2 : Bool) (w : World) (h1 : s1.size ≤ maxLen) (h2 : s2.size ≤ maxLen) :
    Calls Tryd.prog 15 #[val 2 n1 s1 b1, val 2 n2 s2 b2] w fun e w' => e = .returned (.int .i64 (cmpB (trimL s1.data.toList) (trimL s2.data.toList))) ∧ Below w.heap.size w w' := by
  go_enter Tryd.func15, Tryd.ntmps15
  go_wp2_with fail
  go_quiet (first | (go_at_call 48; exact Calls.quiet_of_same (words_any _ _ (by assumption))) | (go_at_call 47; exact Calls.quiet_of_same (cmpS_any _ _ _)))
  go_wp2
  go_ret
  exact ⟨ret_int (by rw [Lib.toList_data, Lib.toList_data]), (by repeat (first | exact Below.refl _ _ | assumption | refine Below.alloc ?_ (by first | (simp; done) | (simp; omega)) _ | refine Below.setCell ?_ (by first | (simp; done) | (simp; omega)) _ | refine Below.drew ?_ | refine below_drewN ?_ _))⟩
end Go.Proofs.YticlmegcpneckaaDoor

/- The walks of value.Right and of the document's own Right. -/
import Derived.Test.YticlmegcpneckaaDoorRefOrder
namespace Go.Proofs.YticlmegcpneckaaDoor
open Go.RowKit
set_option linter.unusedVariables false

def rightB (K N : Int) (S : List UInt8) (B : Bool) : Bool := if K == 0 then (N == 0 && (S.isEmpty && !B)) else if K == 1 then (S.isEmpty && !B) else if K == 2 then (N == 0 && !B) else if K == 3 then (N == 0 && S.isEmpty) else false

set_option maxHeartbeats 1000000 in
theorem right_any (K N : Int) (S : ByteArray) (B : Bool) (w : World) :
    Calls Tryd.prog 13 #[val K N S B] w fun e w' => e = .returned (.bool (rightB K N S.toList B)) ∧ Below w.heap.size w w' := by
  cases z0 : (K == 0)
  · cases z1 : (K == 1)
    · cases z2 : (K == 2)
      · cases z3 : (K == 3)
        all_goals
          go_enter Tryd.func13, Tryd.ntmps13
          go_wp2
          all_goals
            go_ret
            exact ⟨ret_bool (by simp [rightB, *]), (by repeat (first | exact Below.refl _ _ | assumption | refine Below.alloc ?_ (by first | (simp; done) | (simp; omega)) _ | refine Below.setCell ?_ (by first | (simp; done) | (simp; omega)) _ | refine Below.drew ?_ | refine below_drewN ?_ _))⟩
      · go_enter Tryd.func13, Tryd.ntmps13
        go_wp2
        all_goals
          go_ret
          exact ⟨ret_bool (by simp [rightB, *]), (by repeat (first | exact Below.refl _ _ | assumption | refine Below.alloc ?_ (by first | (simp; done) | (simp; omega)) _ | refine Below.setCell ?_ (by first | (simp; done) | (simp; omega)) _ | refine Below.drew ?_ | refine below_drewN ?_ _))⟩
    · go_enter Tryd.func13, Tryd.ntmps13
      go_wp2
      all_goals
        go_ret
        exact ⟨ret_bool (by simp [rightB, *]), (by repeat (first | exact Below.refl _ _ | assumption | refine Below.alloc ?_ (by first | (simp; done) | (simp; omega)) _ | refine Below.setCell ?_ (by first | (simp; done) | (simp; omega)) _ | refine Below.drew ?_ | refine below_drewN ?_ _))⟩
  · go_enter Tryd.func13, Tryd.ntmps13
    go_wp2
    all_goals
      go_ret
      exact ⟨ret_bool (by simp [rightB, *]), (by repeat (first | exact Below.refl _ _ | assumption | refine Below.alloc ?_ (by first | (simp; done) | (simp; omega)) _ | refine Below.setCell ?_ (by first | (simp; done) | (simp; omega)) _ | refine Below.drew ?_ | refine below_drewN ?_ _))⟩

set_option maxHeartbeats 1000000 in
theorem refRight_any (K N : Int) (S : ByteArray) (B : Bool) (w : World) :
    Calls Tryd.prog 14 #[val K N S B] w fun e w' => e = .returned (.bool (rightB K N S.toList B)) ∧ Below w.heap.size w w' := by
  cases z0 : (K == 0)
  · cases z1 : (K == 1)
    · cases z2 : (K == 2)
      · cases z3 : (K == 3)
        all_goals
          go_enter Tryd.func14, Tryd.ntmps14
          go_wp2
          all_goals
            go_ret
            exact ⟨ret_bool (by simp [rightB, *]), (by repeat (first | exact Below.refl _ _ | assumption | refine Below.alloc ?_ (by first | (simp; done) | (simp; omega)) _ | refine Below.setCell ?_ (by first | (simp; done) | (simp; omega)) _ | refine Below.drew ?_ | refine below_drewN ?_ _))⟩
      · go_enter Tryd.func14, Tryd.ntmps14
        go_wp2
        all_goals
          go_ret
          exact ⟨ret_bool (by simp [rightB, *]), (by repeat (first | exact Below.refl _ _ | assumption | refine Below.alloc ?_ (by first | (simp; done) | (simp; omega)) _ | refine Below.setCell ?_ (by first | (simp; done) | (simp; omega)) _ | refine Below.drew ?_ | refine below_drewN ?_ _))⟩
    · go_enter Tryd.func14, Tryd.ntmps14
      go_wp2
      all_goals
        go_ret
        exact ⟨ret_bool (by simp [rightB, *]), (by repeat (first | exact Below.refl _ _ | assumption | refine Below.alloc ?_ (by first | (simp; done) | (simp; omega)) _ | refine Below.setCell ?_ (by first | (simp; done) | (simp; omega)) _ | refine Below.drew ?_ | refine below_drewN ?_ _))⟩
  · go_enter Tryd.func14, Tryd.ntmps14
    go_wp2
    all_goals
      go_ret
      exact ⟨ret_bool (by simp [rightB, *]), (by repeat (first | exact Below.refl _ _ | assumption | refine Below.alloc ?_ (by first | (simp; done) | (simp; omega)) _ | refine Below.setCell ?_ (by first | (simp; done) | (simp; omega)) _ | refine Below.drew ?_ | refine below_drewN ?_ _))⟩

end Go.Proofs.YticlmegcpneckaaDoor

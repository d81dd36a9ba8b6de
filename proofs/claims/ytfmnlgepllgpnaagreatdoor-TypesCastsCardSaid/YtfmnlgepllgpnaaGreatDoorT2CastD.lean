/- The walks of types.Cast, part D. -/
import Derived.Test.YtfmnlgepllgpnaaGreatDoorT2CastG
namespace Go.Proofs.YtfmnlgepllgpnaaGreatDoor
open Go.RowKit Go.Joins
set_option linter.unusedVariables false

set_option maxHeartbeats 20000000 in
theorem tcast_22 (N : Int) (S : ByteArray) (B : Bool) (b : Int) (m : Nat) (a : Addr) (w : World) (hm0 : 1 ≤ m ∧ m ≤ 100) (hs : S.size ≤ 140737488355328) (hr : Hid (rightT b m = true)) (hk : Hid (kindT b m = 2)) :
    Calls Tryz.prog 4 #[val 2 0 S false, typ b m] w fun e w' => e = .returned (.tuple #[val 2 0 ⟨(padL (S.data.toList.take (min (S.size : Int) (m : Int)).toNat) b m).toArray⟩ false, .string sDone]) ∧ Below w.heap.size w w' := by
  go_enter Tryz.func4, Tryz.ntmps4
  go_wp2_with fail
  refine (tright_is hr.out _).mono ?_
  rintro e w1 ⟨rfl, hb⟩
  have T := trio_first hb
  clear hb
  obtain ⟨c0, c1, c2, c3, d0, d1, e0, e1, e2, e3, f0, f1, f2, f3, lt, h1⟩ := id T
  go_wp2_with fail
  refine (tkind_is hk.out _).mono ?_
  rintro e w2 ⟨rfl, hb⟩
  replace T := T.keep hb
  clear hb c0 c1 c2 c3 d0 d1 e0 e1 e2 e3 f0 f1 f2 f3 lt h1
  obtain ⟨c0, c1, c2, c3, d0, d1, e0, e1, e2, e3, f0, f1, f2, f3, lt, h1⟩ := id T
  go_wp2_with fail
  go_region_with (go_at_call 10; refine (tfilled_any _ b m _ (fun _ => ⟨by first | omega | (simp; omega), by omega⟩)).mono ?_; rintro e w3 ⟨rfl, hb⟩; (first | replace T := T.keepD hb | replace T := T.keep hb); clear hb c0 c1 c2 c3 d0 d1 e0 e1 e2 e3 f0 f1 f2 f3 lt h1; obtain ⟨c0, c1, c2, c3, d0, d1, e0, e1, e2, e3, f0, f1, f2, f3, lt, h1⟩ := id T)
  all_goals go_wp2
  all_goals exact bodyPost_ret (v := .tuple #[val 2 0 ⟨(padL (S.data.toList.take (min (S.size : Int) (m : Int)).toNat) b m).toArray⟩ false, .string sDone]) (by simp [results, Tryz.results4, go_sem, *]) rfl ⟨rfl, (by repeat (first | exact Below.refl _ _ | assumption | refine Below.alloc ?_ (by first | (simp; done) | (simp; omega)) _ | refine Below.setCell ?_ (by first | (simp; done) | (simp; omega)) _ | refine Below.drew ?_ | refine below_drewN ?_ _))⟩
end Go.Proofs.YtfmnlgepllgpnaaGreatDoor

/- The walk of the document's own Cast of a text to a text. -/
import Derived.Test.YtfmnlgepllgpnaaGreatDoorT2RefCast
namespace Go.Proofs.YtfmnlgepllgpnaaGreatDoor
open Go.RowKit Go.Joins
set_option linter.unusedVariables false

set_option maxHeartbeats 40000000 in
set_option maxRecDepth 100000 in
theorem rcast_22 (S : ByteArray) (b : Int) (m : Nat) (w : World) (hm0 : 1 ≤ m ∧ m ≤ 100) (hs : S.size ≤ 140737488355328) (hk : Hid (kindT b m = 2)) :
    Calls Tryz.prog 6 #[val 2 0 S false, typ b m] w fun e w' => e = .returned (.tuple #[val 2 0 ⟨(padL (S.data.toList.take (min (S.size : Int) (m : Int)).toNat) b m).toArray⟩ false, .string sDone]) ∧ Below w.heap.size w w' := by
  go_enter Tryz.func6, Tryz.ntmps6
  go_wp2_with fail
  refine (rkind_is hk.out _).mono ?_
  rintro e w1 ⟨rfl, hb⟩
  have T := trio_first hb
  clear hb
  obtain ⟨c0, c1, c2, c3, d0, d1, e0, e1, e2, e3, f0, f1, f2, f3, lt, h1⟩ := id T
  go_wp2_with fail
  go_region_with (go_at_call 24; refine (rpad_any _ b m _ ⟨by omega, by omega⟩ (by first | omega | (simp; omega))).mono ?_; rintro e w3 ⟨rfl, hb⟩; (first | replace T := T.keepD hb | replace T := T.keep hb); clear hb c0 c1 c2 c3 d0 d1 e0 e1 e2 e3 f0 f1 f2 f3 lt h1; obtain ⟨c0, c1, c2, c3, d0, d1, e0, e1, e2, e3, f0, f1, f2, f3, lt, h1⟩ := id T)
  all_goals go_wp2
  all_goals exact bodyPost_ret (v := .tuple #[val 2 0 ⟨(padL (S.data.toList.take (min (S.size : Int) (m : Int)).toNat) b m).toArray⟩ false, .string sDone]) (by simp [results, Tryz.results6, go_sem, *]) rfl ⟨by simp, (by repeat (first | exact Below.refl _ _ | assumption | refine Below.alloc ?_ (by first | (simp; done) | (simp; omega)) _ | refine Below.setCell ?_ (by first | (simp; done) | (simp; omega)) _ | refine Below.drew ?_ | refine below_drewN ?_ _))⟩
end Go.Proofs.YtfmnlgepllgpnaaGreatDoor

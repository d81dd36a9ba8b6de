/- The walk of the document's own Cast of a text to a number. -/
import Derived.Test.YtfmnlgepllgpnaaGreatDoorT2RefCast
namespace Go.Proofs.YtfmnlgepllgpnaaGreatDoor
open Go.RowKit Go.Joins
set_option linter.unusedVariables false

set_option maxHeartbeats 40000000 in
set_option maxRecDepth 100000 in
theorem rcast_21 (S : ByteArray) (A : Ans) (b l : Int) (w : World) (hk : Hid (kindT b l = 1)) (hs : S.size ≤ 140737488355328) (RN : ∀ w : World, Calls Tryz.prog 26 #[.string ⟨(leftL (trimL S.data.toList)).toArray⟩, typ b l] w fun e w' => e = .returned A.ret ∧ Below w.heap.size w w') :
    Calls Tryz.prog 6 #[val 2 0 S false, typ b l] w fun e w' => e = .returned A.ret ∧ Below w.heap.size w w' := by
  go_enter Tryz.func6, Tryz.ntmps6
  go_wp2_with fail
  refine (rkind_is hk.out _).mono ?_
  rintro e w1 ⟨rfl, hb⟩
  have T := trio_first hb
  clear hb
  obtain ⟨c0, c1, c2, c3, d0, d1, e0, e1, e2, e3, f0, f1, f2, f3, lt, h1⟩ := id T
  go_wp2_with fail
  go_region_with (first
    | (go_at_call 27; refine (trimmed_any S _ (by unfold maxLen; omega)).mono ?_; rintro e w2 ⟨rfl, rfl⟩)
    | (go_at_call 26; (first | refine (RN _).mono ?_ | refine (drewC RN _).mono ?_); rintro e w3 ⟨rfl, hb⟩; (first | replace T := T.keepD hb | replace T := T.keep hb); clear hb c0 c1 c2 c3 d0 d1 e0 e1 e2 e3 f0 f1 f2 f3 lt h1; obtain ⟨c0, c1, c2, c3, d0, d1, e0, e1, e2, e3, f0, f1, f2, f3, lt, h1⟩ := id T))
  all_goals go_wp2
  all_goals exact bodyPost_ret (v := A.ret) (by simp [results, Tryz.results6, go_sem, *]) rfl ⟨rfl, (by repeat (first | exact Below.refl _ _ | assumption | refine Below.alloc ?_ (by first | (simp; done) | (simp; omega)) _ | refine Below.setCell ?_ (by first | (simp; done) | (simp; omega)) _ | refine Below.drew ?_ | refine below_drewN ?_ _))⟩
end Go.Proofs.YtfmnlgepllgpnaaGreatDoor

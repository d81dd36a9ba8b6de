/- The walks of types.Cast, part C. -/
import Derived.Test.YtfmnlgepllgpnaaGreatDoorT2CastG
namespace Go.Proofs.YtfmnlgepllgpnaaGreatDoor
open Go.RowKit Go.Joins
set_option linter.unusedVariables false

set_option maxHeartbeats 2000000 in
theorem tcast_21 (N : Int) (S : ByteArray) (B : Bool) (b l : Int) (a : Addr) (w : World) (hr : Hid (rightT b l = true)) (hk : Hid (kindT b l = 1)) (hs : Hid (S.size ≤ 140737488355328)) (hL : LibW a w) :
    Calls Tryz.prog 4 #[val 2 0 S false, typ b l] w fun e w' => e = .returned ((readA (Lib.trimB S.data.toList 32) b).ret) ∧ Below w.heap.size w w' := by
  rw [← trimBA_data]
  generalize hA : readA (trimBA S).data.toList b = A
  go_enter Tryz.func4, Tryz.ntmps4
  go_wp2_with fail
  refine (tright_is hr.out _).mono ?_
  rintro e w1 ⟨rfl, hb⟩
  have T := trio_first hb
  clear hb
  obtain ⟨c0, c1, c2, c3, d0, d1, e0, e1, e2, e3, f0, f1, f2, f3, lt, h1⟩ := id T
  go_wp2_with fail
  refine (tkind_is hk.out _).mono ?_
  rintro e w2 ⟨rfl, hb⟩
  replace T := T.keep hb
  clear hb c0 c1 c2 c3 d0 d1 e0 e1 e2 e3 f0 f1 f2 f3 lt h1
  obtain ⟨c0, c1, c2, c3, d0, d1, e0, e1, e2, e3, f0, f1, f2, f3, lt, h1⟩ := id T
  go_wp2_with fail
  go_region_with (first
    | (go_at_call 16; refine (ttrim_any S _ (Nat.le_trans hs.out (by unfold maxLen; omega))).mono ?_; rintro e w3 ⟨rfl, hb⟩; (first | replace T := T.keepD hb | replace T := T.keep hb); clear hb c0 c1 c2 c3 d0 d1 e0 e1 e2 e3 f0 f1 f2 f3 lt h1; obtain ⟨c0, c1, c2, c3, d0, d1, e0, e1, e2, e3, f0, f1, f2, f3, lt, h1⟩ := id T)
    | (go_at_call 15; refine (tread_any (trimBA S) b l a _ (Nat.le_trans (trimBA_size S) (Nat.le_trans hs.out (by omega))) (by first | exact hL.keep T.below | exact (hL.keep T.below).keep (Below.refl _ _).drew)).mono ?_; rw [hA]; rintro e w4 ⟨rfl, hb⟩; (first | replace T := T.keepD hb | replace T := T.keep hb); clear hb c0 c1 c2 c3 d0 d1 e0 e1 e2 e3 f0 f1 f2 f3 lt h1; obtain ⟨c0, c1, c2, c3, d0, d1, e0, e1, e2, e3, f0, f1, f2, f3, lt, h1⟩ := id T))
  all_goals go_wp2
  all_goals exact bodyPost_ret (v := A.ret) (by simp [results, Tryz.results4, go_sem, *]) rfl ⟨rfl, (by repeat (first | exact Below.refl _ _ | assumption | refine Below.alloc ?_ (by first | (simp; done) | (simp; omega)) _ | refine Below.setCell ?_ (by first | (simp; done) | (simp; omega)) _ | refine Below.drew ?_ | refine below_drewN ?_ _))⟩
set_option maxHeartbeats 2000000 in
theorem tcast_23 (N : Int) (S : ByteArray) (B : Bool) (b l : Int) (a : Addr) (w : World) (hr : Hid (rightT b l = true)) (hk : Hid (kindT b l = 3)) (hs : Hid (S.size ≤ 140737488355328)) :
    Calls Tryz.prog 4 #[val 2 0 S false, typ b l] w fun e w' => e = .returned ((truthA (Lib.trimB S.data.toList 32)).ret) ∧ Below w.heap.size w w' := by
  rw [← trimBA_data]
  generalize hA : truthA (trimBA S).data.toList = A
  go_enter Tryz.func4, Tryz.ntmps4
  go_wp2_with fail
  refine (tright_is hr.out _).mono ?_
  rintro e w1 ⟨rfl, hb⟩
  have T := trio_first hb
  clear hb
  obtain ⟨c0, c1, c2, c3, d0, d1, e0, e1, e2, e3, f0, f1, f2, f3, lt, h1⟩ := id T
  go_wp2_with fail
  refine (tkind_is hk.out _).mono ?_
  rintro e w2 ⟨rfl, hb⟩
  replace T := T.keep hb
  clear hb c0 c1 c2 c3 d0 d1 e0 e1 e2 e3 f0 f1 f2 f3 lt h1
  obtain ⟨c0, c1, c2, c3, d0, d1, e0, e1, e2, e3, f0, f1, f2, f3, lt, h1⟩ := id T
  go_wp2_with (first
    | (go_at_call 16; refine (ttrim_any S _ (Nat.le_trans hs.out (by unfold maxLen; omega))).mono ?_; rintro e w3 ⟨rfl, hb⟩; (first | replace T := T.keepD hb | replace T := T.keep hb); clear hb c0 c1 c2 c3 d0 d1 e0 e1 e2 e3 f0 f1 f2 f3 lt h1; obtain ⟨c0, c1, c2, c3, d0, d1, e0, e1, e2, e3, f0, f1, f2, f3, lt, h1⟩ := id T)
    | (go_at_call 17; refine (ttruth_any (trimBA S) _ (Nat.le_trans (trimBA_size S) (Nat.le_trans hs.out (by unfold maxLen; omega)))).mono ?_; rw [hA]; rintro e w4 ⟨rfl, hb⟩; (first | replace T := T.keepD hb | replace T := T.keep hb); clear hb c0 c1 c2 c3 d0 d1 e0 e1 e2 e3 f0 f1 f2 f3 lt h1; obtain ⟨c0, c1, c2, c3, d0, d1, e0, e1, e2, e3, f0, f1, f2, f3, lt, h1⟩ := id T))
  exact bodyPost_ret (v := A.ret) (by simp [results, Tryz.results4, go_sem, *]) rfl ⟨rfl, (by repeat (first | exact Below.refl _ _ | assumption | refine Below.alloc ?_ (by first | (simp; done) | (simp; omega)) _ | refine Below.setCell ?_ (by first | (simp; done) | (simp; omega)) _ | refine Below.drew ?_ | refine below_drewN ?_ _))⟩
end Go.Proofs.YtfmnlgepllgpnaaGreatDoor

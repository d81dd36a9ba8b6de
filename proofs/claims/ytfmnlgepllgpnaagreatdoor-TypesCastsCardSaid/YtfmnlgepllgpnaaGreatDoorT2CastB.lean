/- The walks of types.Cast, part B. -/
import Derived.Test.YtfmnlgepllgpnaaGreatDoorT2CastG
namespace Go.Proofs.YtfmnlgepllgpnaaGreatDoor
open Go.RowKit Go.Joins
set_option linter.unusedVariables false

set_option maxHeartbeats 2000000 in
theorem tcast_12 (N : Int) (S : ByteArray) (B : Bool) (b l : Int) (a : Addr) (w : World) (hr : Hid (rightT b l = true)) (hk : Hid (kindT b l = 2)) (hn : Hid (-9223372036854775808 ≤ N ∧ N ≤ 9223372036854775807)) (hl : Hid (1 ≤ l ∧ l ≤ 100)) (hL : LibW a w) :
    Calls Tryz.prog 4 #[val 1 N ⟨#[]⟩ false, typ b l] w fun e w' => e = .returned ((toldA (Lib.itoa N) b l).ret) ∧ Below w.heap.size w w' := by
  have hz := itoaB_size hn.out
  have HZ : Hid _ := hz
  clear hz
  rw [← itoaB_data]
  generalize hA : toldA (itoaB N).data.toList b l = A
  go_enter Tryz.func4, Tryz.ntmps4
  go_wp2_with fail
  refine (tright_is hr.out _).mono ?_
  rintro e w1 ⟨rfl, hb⟩
  have T := trio_first hb
  clear hb
  obtain ⟨c0, c1, c2, c3, d0, d1, e0, e1, e2, e3, f0, f1, f2, f3, lt, h1⟩ := id T
  go_wp2_with fail
  refine (tkind_is hk.out _).mono ?_
  rintro e w2 ⟨rfl, hb⟩
  replace T := T.keep hb
  clear hb c0 c1 c2 c3 d0 d1 e0 e1 e2 e3 f0 f1 f2 f3 lt h1
  obtain ⟨c0, c1, c2, c3, d0, d1, e0, e1, e2, e3, f0, f1, f2, f3, lt, h1⟩ := id T
  go_wp2_with fail
  go_region_with (first
    | (go_at_call 12; refine (tformat_any N a _ hn.out (by first | exact hL.keep T.below | exact (hL.keep T.below).keep (Below.refl _ _).drew)).mono ?_; rintro e w3 ⟨rfl, hb⟩; (first | replace T := T.keepD hb | replace T := T.keep hb); clear hb c0 c1 c2 c3 d0 d1 e0 e1 e2 e3 f0 f1 f2 f3 lt h1; obtain ⟨c0, c1, c2, c3, d0, d1, e0, e1, e2, e3, f0, f1, f2, f3, lt, h1⟩ := id T)
    | (go_at_call 11; refine (ttold_any _ b l _ hl.out (Nat.le_trans HZ.out (by omega))).mono ?_; rw [hA]; rintro e w4 ⟨rfl, hb⟩; (first | replace T := T.keepD hb | replace T := T.keep hb); clear hb c0 c1 c2 c3 d0 d1 e0 e1 e2 e3 f0 f1 f2 f3 lt h1; obtain ⟨c0, c1, c2, c3, d0, d1, e0, e1, e2, e3, f0, f1, f2, f3, lt, h1⟩ := id T))
  all_goals go_wp2
  all_goals exact bodyPost_ret (v := A.ret) (by simp [results, Tryz.results4, go_sem, *]) rfl ⟨rfl, (by repeat (first | exact Below.refl _ _ | assumption | refine Below.alloc ?_ (by first | (simp; done) | (simp; omega)) _ | refine Below.setCell ?_ (by first | (simp; done) | (simp; omega)) _ | refine Below.drew ?_ | refine below_drewN ?_ _))⟩
end Go.Proofs.YtfmnlgepllgpnaaGreatDoor

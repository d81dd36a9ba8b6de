/- The walks of types.Cast, part A. -/
import Derived.Test.YtfmnlgepllgpnaaGreatDoorT2CastG
namespace Go.Proofs.YtfmnlgepllgpnaaGreatDoor
open Go.RowKit Go.Joins
set_option linter.unusedVariables false

set_option maxHeartbeats 2000000 in
theorem tcast_wrong (K N : Int) (S : ByteArray) (B : Bool) (b l : Int) (w : World) (hr : Hid (rightT b l = false)) :
    Calls Tryz.prog 4 #[val K N S B, typ b l] w fun e w' => e = .returned (.tuple #[nullV, .string sMis]) ∧ Below w.heap.size w w' := by
  go_enter Tryz.func4, Tryz.ntmps4
  go_wp2_with fail
  refine (tright_is hr.out _).mono ?_
  rintro e w1 ⟨rfl, hb⟩
  have T := trio_first hb
  clear hb
  obtain ⟨c0, c1, c2, c3, d0, d1, e0, e1, e2, e3, f0, f1, f2, f3, lt, h1⟩ := id T
  go_wp2
  exact bodyPost_ret (v := .tuple #[nullV, .string sMis]) (by simp [results, Tryz.results4, go_sem, *]) rfl ⟨rfl, (by repeat (first | exact Below.refl _ _ | assumption | refine Below.alloc ?_ (by first | (simp; done) | (simp; omega)) _ | refine Below.setCell ?_ (by first | (simp; done) | (simp; omega)) _ | refine Below.drew ?_ | refine below_drewN ?_ _))⟩
set_option maxHeartbeats 2000000 in
theorem tcast_01 (N : Int) (S : ByteArray) (B : Bool) (b l : Int) (a : Addr) (w : World) (hr : Hid (rightT b l = true)) (hk : Hid (kindT b l = 1)) :
    Calls Tryz.prog 4 #[val 0 0 ⟨#[]⟩ false, typ b l] w fun e w' => e = .returned ((assignA 0 0 (⟨#[]⟩ : ByteArray).data.toList false b l).ret) ∧ Below w.heap.size w w' := by
  generalize hA : assignA 0 0 (⟨#[]⟩ : ByteArray).data.toList false b l = A
  go_enter Tryz.func4, Tryz.ntmps4
  go_wp2_with fail
  refine (tright_is hr.out _).mono ?_
  rintro e w1 ⟨rfl, hb⟩
  have T := trio_first hb
  clear hb
  obtain ⟨c0, c1, c2, c3, d0, d1, e0, e1, e2, e3, f0, f1, f2, f3, lt, h1⟩ := id T
  go_wp2_with fail
  refine (tkind_is hk.out _).mono ?_
  rintro e w2 ⟨rfl, hb⟩
  replace T := T.keep hb
  clear hb c0 c1 c2 c3 d0 d1 e0 e1 e2 e3 f0 f1 f2 f3 lt h1
  obtain ⟨c0, c1, c2, c3, d0, d1, e0, e1, e2, e3, f0, f1, f2, f3, lt, h1⟩ := id T
  go_wp2_with (go_at_call 18; refine (tassign_any 0 0 ⟨#[]⟩ false b l _ (Or.inl ⟨rfl, rfl, rfl, rfl⟩) ⟨by decide, by decide⟩ (by decide)).mono ?_; rw [hA]; rintro e w3 ⟨rfl, hb⟩; replace T := T.keep hb; clear hb c0 c1 c2 c3 d0 d1 e0 e1 e2 e3 f0 f1 f2 f3 lt h1; obtain ⟨c0, c1, c2, c3, d0, d1, e0, e1, e2, e3, f0, f1, f2, f3, lt, h1⟩ := id T)
  exact bodyPost_ret (v := A.ret) (by simp [results, Tryz.results4, go_sem, *]) rfl ⟨rfl, (by repeat (first | exact Below.refl _ _ | assumption | refine Below.alloc ?_ (by first | (simp; done) | (simp; omega)) _ | refine Below.setCell ?_ (by first | (simp; done) | (simp; omega)) _ | refine Below.drew ?_ | refine below_drewN ?_ _))⟩
set_option maxHeartbeats 2000000 in
theorem tcast_02 (N : Int) (S : ByteArray) (B : Bool) (b l : Int) (a : Addr) (w : World) (hr : Hid (rightT b l = true)) (hk : Hid (kindT b l = 2)) :
    Calls Tryz.prog 4 #[val 0 0 ⟨#[]⟩ false, typ b l] w fun e w' => e = .returned ((assignA 0 0 (⟨#[]⟩ : ByteArray).data.toList false b l).ret) ∧ Below w.heap.size w w' := by
  generalize hA : assignA 0 0 (⟨#[]⟩ : ByteArray).data.toList false b l = A
  go_enter Tryz.func4, Tryz.ntmps4
  go_wp2_with fail
  refine (tright_is hr.out _).mono ?_
  rintro e w1 ⟨rfl, hb⟩
  have T := trio_first hb
  clear hb
  obtain ⟨c0, c1, c2, c3, d0, d1, e0, e1, e2, e3, f0, f1, f2, f3, lt, h1⟩ := id T
  go_wp2_with fail
  refine (tkind_is hk.out _).mono ?_
  rintro e w2 ⟨rfl, hb⟩
  replace T := T.keep hb
  clear hb c0 c1 c2 c3 d0 d1 e0 e1 e2 e3 f0 f1 f2 f3 lt h1
  obtain ⟨c0, c1, c2, c3, d0, d1, e0, e1, e2, e3, f0, f1, f2, f3, lt, h1⟩ := id T
  go_wp2_with (go_at_call 18; refine (tassign_any 0 0 ⟨#[]⟩ false b l _ (Or.inl ⟨rfl, rfl, rfl, rfl⟩) ⟨by decide, by decide⟩ (by decide)).mono ?_; rw [hA]; rintro e w3 ⟨rfl, hb⟩; replace T := T.keep hb; clear hb c0 c1 c2 c3 d0 d1 e0 e1 e2 e3 f0 f1 f2 f3 lt h1; obtain ⟨c0, c1, c2, c3, d0, d1, e0, e1, e2, e3, f0, f1, f2, f3, lt, h1⟩ := id T)
  exact bodyPost_ret (v := A.ret) (by simp [results, Tryz.results4, go_sem, *]) rfl ⟨rfl, (by repeat (first | exact Below.refl _ _ | assumption | refine Below.alloc ?_ (by first | (simp; done) | (simp; omega)) _ | refine Below.setCell ?_ (by first | (simp; done) | (simp; omega)) _ | refine Below.drew ?_ | refine below_drewN ?_ _))⟩
set_option maxHeartbeats 2000000 in
theorem tcast_03 (N : Int) (S : ByteArray) (B : Bool) (b l : Int) (a : Addr) (w : World) (hr : Hid (rightT b l = true)) (hk : Hid (kindT b l = 3)) :
    Calls Tryz.prog 4 #[val 0 0 ⟨#[]⟩ false, typ b l] w fun e w' => e = .returned ((assignA 0 0 (⟨#[]⟩ : ByteArray).data.toList false b l).ret) ∧ Below w.heap.size w w' := by
  generalize hA : assignA 0 0 (⟨#[]⟩ : ByteArray).data.toList false b l = A
  go_enter Tryz.func4, Tryz.ntmps4
  go_wp2_with fail
  refine (tright_is hr.out _).mono ?_
  rintro e w1 ⟨rfl, hb⟩
  have T := trio_first hb
  clear hb
  obtain ⟨c0, c1, c2, c3, d0, d1, e0, e1, e2, e3, f0, f1, f2, f3, lt, h1⟩ := id T
  go_wp2_with fail
  refine (tkind_is hk.out _).mono ?_
  rintro e w2 ⟨rfl, hb⟩
  replace T := T.keep hb
  clear hb c0 c1 c2 c3 d0 d1 e0 e1 e2 e3 f0 f1 f2 f3 lt h1
  obtain ⟨c0, c1, c2, c3, d0, d1, e0, e1, e2, e3, f0, f1, f2, f3, lt, h1⟩ := id T
  go_wp2_with (go_at_call 18; refine (tassign_any 0 0 ⟨#[]⟩ false b l _ (Or.inl ⟨rfl, rfl, rfl, rfl⟩) ⟨by decide, by decide⟩ (by decide)).mono ?_; rw [hA]; rintro e w3 ⟨rfl, hb⟩; replace T := T.keep hb; clear hb c0 c1 c2 c3 d0 d1 e0 e1 e2 e3 f0 f1 f2 f3 lt h1; obtain ⟨c0, c1, c2, c3, d0, d1, e0, e1, e2, e3, f0, f1, f2, f3, lt, h1⟩ := id T)
  exact bodyPost_ret (v := A.ret) (by simp [results, Tryz.results4, go_sem, *]) rfl ⟨rfl, (by repeat (first | exact Below.refl _ _ | assumption | refine Below.alloc ?_ (by first | (simp; done) | (simp; omega)) _ | refine Below.setCell ?_ (by first | (simp; done) | (simp; omega)) _ | refine Below.drew ?_ | refine below_drewN ?_ _))⟩
set_option maxHeartbeats 2000000 in
theorem tcast_11 (N : Int) (S : ByteArray) (B : Bool) (b l : Int) (a : Addr) (w : World) (hr : Hid (rightT b l = true)) (hk : Hid (kindT b l = 1)) (hn : Hid (-9223372036854775808 ≤ N ∧ N ≤ 9223372036854775807)) :
    Calls Tryz.prog 4 #[val 1 N ⟨#[]⟩ false, typ b l] w fun e w' => e = .returned ((assignA 1 N (⟨#[]⟩ : ByteArray).data.toList false b l).ret) ∧ Below w.heap.size w w' := by
  generalize hA : assignA 1 N (⟨#[]⟩ : ByteArray).data.toList false b l = A
  go_enter Tryz.func4, Tryz.ntmps4
  go_wp2_with fail
  refine (tright_is hr.out _).mono ?_
  rintro e w1 ⟨rfl, hb⟩
  have T := trio_first hb
  clear hb
  obtain ⟨c0, c1, c2, c3, d0, d1, e0, e1, e2, e3, f0, f1, f2, f3, lt, h1⟩ := id T
  go_wp2_with fail
  refine (tkind_is hk.out _).mono ?_
  rintro e w2 ⟨rfl, hb⟩
  replace T := T.keep hb
  clear hb c0 c1 c2 c3 d0 d1 e0 e1 e2 e3 f0 f1 f2 f3 lt h1
  obtain ⟨c0, c1, c2, c3, d0, d1, e0, e1, e2, e3, f0, f1, f2, f3, lt, h1⟩ := id T
  go_wp2_with (go_at_call 18; refine (tassign_any 1 N ⟨#[]⟩ false b l _ (Or.inr (Or.inl ⟨rfl, rfl, rfl⟩)) hn.out (by decide)).mono ?_; rw [hA]; rintro e w3 ⟨rfl, hb⟩; replace T := T.keep hb; clear hb c0 c1 c2 c3 d0 d1 e0 e1 e2 e3 f0 f1 f2 f3 lt h1; obtain ⟨c0, c1, c2, c3, d0, d1, e0, e1, e2, e3, f0, f1, f2, f3, lt, h1⟩ := id T)
  exact bodyPost_ret (v := A.ret) (by simp [results, Tryz.results4, go_sem, *]) rfl ⟨rfl, (by repeat (first | exact Below.refl _ _ | assumption | refine Below.alloc ?_ (by first | (simp; done) | (simp; omega)) _ | refine Below.setCell ?_ (by first | (simp; done) | (simp; omega)) _ | refine Below.drew ?_ | refine below_drewN ?_ _))⟩
set_option maxHeartbeats 2000000 in
theorem tcast_13 (N : Int) (S : ByteArray) (B : Bool) (b l : Int) (a : Addr) (w : World) (hr : Hid (rightT b l = true)) (hk : Hid (kindT b l = 3)) (hn : Hid (-9223372036854775808 ≤ N ∧ N ≤ 9223372036854775807)) :
    Calls Tryz.prog 4 #[val 1 N ⟨#[]⟩ false, typ b l] w fun e w' => e = .returned ((assignA 1 N (⟨#[]⟩ : ByteArray).data.toList false b l).ret) ∧ Below w.heap.size w w' := by
  generalize hA : assignA 1 N (⟨#[]⟩ : ByteArray).data.toList false b l = A
  go_enter Tryz.func4, Tryz.ntmps4
  go_wp2_with fail
  refine (tright_is hr.out _).mono ?_
  rintro e w1 ⟨rfl, hb⟩
  have T := trio_first hb
  clear hb
  obtain ⟨c0, c1, c2, c3, d0, d1, e0, e1, e2, e3, f0, f1, f2, f3, lt, h1⟩ := id T
  go_wp2_with fail
  refine (tkind_is hk.out _).mono ?_
  rintro e w2 ⟨rfl, hb⟩
  replace T := T.keep hb
  clear hb c0 c1 c2 c3 d0 d1 e0 e1 e2 e3 f0 f1 f2 f3 lt h1
  obtain ⟨c0, c1, c2, c3, d0, d1, e0, e1, e2, e3, f0, f1, f2, f3, lt, h1⟩ := id T
  go_wp2_with (go_at_call 18; refine (tassign_any 1 N ⟨#[]⟩ false b l _ (Or.inr (Or.inl ⟨rfl, rfl, rfl⟩)) hn.out (by decide)).mono ?_; rw [hA]; rintro e w3 ⟨rfl, hb⟩; replace T := T.keep hb; clear hb c0 c1 c2 c3 d0 d1 e0 e1 e2 e3 f0 f1 f2 f3 lt h1; obtain ⟨c0, c1, c2, c3, d0, d1, e0, e1, e2, e3, f0, f1, f2, f3, lt, h1⟩ := id T)
  exact bodyPost_ret (v := A.ret) (by simp [results, Tryz.results4, go_sem, *]) rfl ⟨rfl, (by repeat (first | exact Below.refl _ _ | assumption | refine Below.alloc ?_ (by first | (simp; done) | (simp; omega)) _ | refine Below.setCell ?_ (by first | (simp; done) | (simp; omega)) _ | refine Below.drew ?_ | refine below_drewN ?_ _))⟩
set_option maxHeartbeats 2000000 in
theorem tcast_31 (N : Int) (S : ByteArray) (B : Bool) (b l : Int) (a : Addr) (w : World) (hr : Hid (rightT b l = true)) (hk : Hid (kindT b l = 1)) :
    Calls Tryz.prog 4 #[val 3 0 ⟨#[]⟩ B, typ b l] w fun e w' => e = .returned ((assignA 3 0 (⟨#[]⟩ : ByteArray).data.toList B b l).ret) ∧ Below w.heap.size w w' := by
  generalize hA : assignA 3 0 (⟨#[]⟩ : ByteArray).data.toList B b l = A
  go_enter Tryz.func4, Tryz.ntmps4
  go_wp2_with fail
  refine (tright_is hr.out _).mono ?_
  rintro e w1 ⟨rfl, hb⟩
  have T := trio_first hb
  clear hb
  obtain ⟨c0, c1, c2, c3, d0, d1, e0, e1, e2, e3, f0, f1, f2, f3, lt, h1⟩ := id T
  go_wp2_with fail
  refine (tkind_is hk.out _).mono ?_
  rintro e w2 ⟨rfl, hb⟩
  replace T := T.keep hb
  clear hb c0 c1 c2 c3 d0 d1 e0 e1 e2 e3 f0 f1 f2 f3 lt h1
  obtain ⟨c0, c1, c2, c3, d0, d1, e0, e1, e2, e3, f0, f1, f2, f3, lt, h1⟩ := id T
  go_wp2_with (go_at_call 18; refine (tassign_any 3 0 ⟨#[]⟩ B b l _ (Or.inr (Or.inr (Or.inr ⟨rfl, rfl, rfl⟩))) ⟨by decide, by decide⟩ (by decide)).mono ?_; rw [hA]; rintro e w3 ⟨rfl, hb⟩; replace T := T.keep hb; clear hb c0 c1 c2 c3 d0 d1 e0 e1 e2 e3 f0 f1 f2 f3 lt h1; obtain ⟨c0, c1, c2, c3, d0, d1, e0, e1, e2, e3, f0, f1, f2, f3, lt, h1⟩ := id T)
  exact bodyPost_ret (v := A.ret) (by simp [results, Tryz.results4, go_sem, *]) rfl ⟨rfl, (by repeat (first | exact Below.refl _ _ | assumption | refine Below.alloc ?_ (by first | (simp; done) | (simp; omega)) _ | refine Below.setCell ?_ (by first | (simp; done) | (simp; omega)) _ | refine Below.drew ?_ | refine below_drewN ?_ _))⟩
set_option maxHeartbeats 2000000 in
theorem tcast_33 (N : Int) (S : ByteArray) (B : Bool) (b l : Int) (a : Addr) (w : World) (hr : Hid (rightT b l = true)) (hk : Hid (kindT b l = 3)) :
    Calls Tryz.prog 4 #[val 3 0 ⟨#[]⟩ B, typ b l] w fun e w' => e = .returned ((assignA 3 0 (⟨#[]⟩ : ByteArray).data.toList B b l).ret) ∧ Below w.heap.size w w' := by
  generalize hA : assignA 3 0 (⟨#[]⟩ : ByteArray).data.toList B b l = A
  go_enter Tryz.func4, Tryz.ntmps4
  go_wp2_with fail
  refine (tright_is hr.out _).mono ?_
  rintro e w1 ⟨rfl, hb⟩
  have T := trio_first hb
  clear hb
  obtain ⟨c0, c1, c2, c3, d0, d1, e0, e1, e2, e3, f0, f1, f2, f3, lt, h1⟩ := id T
  go_wp2_with fail
  refine (tkind_is hk.out _).mono ?_
  rintro e w2 ⟨rfl, hb⟩
  replace T := T.keep hb
  clear hb c0 c1 c2 c3 d0 d1 e0 e1 e2 e3 f0 f1 f2 f3 lt h1
  obtain ⟨c0, c1, c2, c3, d0, d1, e0, e1, e2, e3, f0, f1, f2, f3, lt, h1⟩ := id T
  go_wp2_with (go_at_call 18; refine (tassign_any 3 0 ⟨#[]⟩ B b l _ (Or.inr (Or.inr (Or.inr ⟨rfl, rfl, rfl⟩))) ⟨by decide, by decide⟩ (by decide)).mono ?_; rw [hA]; rintro e w3 ⟨rfl, hb⟩; replace T := T.keep hb; clear hb c0 c1 c2 c3 d0 d1 e0 e1 e2 e3 f0 f1 f2 f3 lt h1; obtain ⟨c0, c1, c2, c3, d0, d1, e0, e1, e2, e3, f0, f1, f2, f3, lt, h1⟩ := id T)
  exact bodyPost_ret (v := A.ret) (by simp [results, Tryz.results4, go_sem, *]) rfl ⟨rfl, (by repeat (first | exact Below.refl _ _ | assumption | refine Below.alloc ?_ (by first | (simp; done) | (simp; omega)) _ | refine Below.setCell ?_ (by first | (simp; done) | (simp; omega)) _ | refine Below.drew ?_ | refine below_drewN ?_ _))⟩
end Go.Proofs.YtfmnlgepllgpnaaGreatDoor

/- The walk of the document's own Cast at every right value and every type; its reading of a number is a hypothesis. -/
import Derived.Test.YtfmnlgepllgpnaaGreatDoorT2RefTruth2
import Derived.Test.YtfmnlgepllgpnaaGreatDoorT2RefAssign
import Derived.Deep.Cut
import Derived.Deep.DeepCutAuto
namespace Go.Proofs.YtfmnlgepllgpnaaGreatDoor
open Go.RowKit Go.Joins
set_option linter.unusedVariables false

set_option maxHeartbeats 4000000 in
set_option maxRecDepth 100000 in
theorem rcast_wrong (K N : Int) (S : ByteArray) (B : Bool) (b l : Int) (w : World) (hk : Hid (kindT b l = 0)) :
    Calls Tryz.prog 6 #[val K N S B, typ b l] w fun e w' => e = .returned (.tuple #[nullV, .string sMis]) ∧ Below w.heap.size w w' := by
  go_enter Tryz.func6, Tryz.ntmps6
  go_wp2_with fail
  refine (rkind_is hk.out _).mono ?_
  rintro e w1 ⟨rfl, hb⟩
  have T := trio_first hb
  clear hb
  obtain ⟨c0, c1, c2, c3, d0, d1, e0, e1, e2, e3, f0, f1, f2, f3, lt, h1⟩ := id T
  go_wp2
  exact bodyPost_ret (v := .tuple #[nullV, .string sMis]) (by simp [results, Tryz.results6, go_sem, *]) rfl ⟨rfl, (by repeat (first | exact Below.refl _ _ | assumption | refine Below.alloc ?_ (by first | (simp; done) | (simp; omega)) _ | refine Below.setCell ?_ (by first | (simp; done) | (simp; omega)) _ | refine Below.drew ?_ | refine below_drewN ?_ _))⟩
set_option maxHeartbeats 4000000 in
set_option maxRecDepth 100000 in
theorem rcast_01 (N : Int) (B : Bool) (A : Ans) (b l : Int) (w : World) (hk : Hid (kindT b l = 1)) (RA : ∀ w : World, Calls Tryz.prog 23 #[val 0 0 ⟨#[]⟩ false, typ b l] w fun e w' => e = .returned A.ret ∧ Below w.heap.size w w') :
    Calls Tryz.prog 6 #[val 0 0 ⟨#[]⟩ false, typ b l] w fun e w' => e = .returned (A.ret) ∧ Below w.heap.size w w' := by
  go_enter Tryz.func6, Tryz.ntmps6
  go_wp2_with fail
  refine (rkind_is hk.out _).mono ?_
  rintro e w1 ⟨rfl, hb⟩
  have T := trio_first hb
  clear hb
  obtain ⟨c0, c1, c2, c3, d0, d1, e0, e1, e2, e3, f0, f1, f2, f3, lt, h1⟩ := id T
  go_wp2_with (go_at_call 23; refine (RA _).mono ?_; rintro e w2 ⟨rfl, hb⟩; replace T := T.keep hb; clear hb c0 c1 c2 c3 d0 d1 e0 e1 e2 e3 f0 f1 f2 f3 lt h1; obtain ⟨c0, c1, c2, c3, d0, d1, e0, e1, e2, e3, f0, f1, f2, f3, lt, h1⟩ := id T)
  exact bodyPost_ret (v := A.ret) (by simp [results, Tryz.results6, go_sem, *]) rfl ⟨rfl, (by repeat (first | exact Below.refl _ _ | assumption | refine Below.alloc ?_ (by first | (simp; done) | (simp; omega)) _ | refine Below.setCell ?_ (by first | (simp; done) | (simp; omega)) _ | refine Below.drew ?_ | refine below_drewN ?_ _))⟩
set_option maxHeartbeats 4000000 in
set_option maxRecDepth 100000 in
theorem rcast_11 (N : Int) (B : Bool) (A : Ans) (b l : Int) (w : World) (hk : Hid (kindT b l = 1)) (RA : ∀ w : World, Calls Tryz.prog 23 #[val 1 N ⟨#[]⟩ false, typ b l] w fun e w' => e = .returned A.ret ∧ Below w.heap.size w w') :
    Calls Tryz.prog 6 #[val 1 N ⟨#[]⟩ false, typ b l] w fun e w' => e = .returned (A.ret) ∧ Below w.heap.size w w' := by
  go_enter Tryz.func6, Tryz.ntmps6
  go_wp2_with fail
  refine (rkind_is hk.out _).mono ?_
  rintro e w1 ⟨rfl, hb⟩
  have T := trio_first hb
  clear hb
  obtain ⟨c0, c1, c2, c3, d0, d1, e0, e1, e2, e3, f0, f1, f2, f3, lt, h1⟩ := id T
  go_wp2_with (go_at_call 23; refine (RA _).mono ?_; rintro e w2 ⟨rfl, hb⟩; replace T := T.keep hb; clear hb c0 c1 c2 c3 d0 d1 e0 e1 e2 e3 f0 f1 f2 f3 lt h1; obtain ⟨c0, c1, c2, c3, d0, d1, e0, e1, e2, e3, f0, f1, f2, f3, lt, h1⟩ := id T)
  exact bodyPost_ret (v := A.ret) (by simp [results, Tryz.results6, go_sem, *]) rfl ⟨rfl, (by repeat (first | exact Below.refl _ _ | assumption | refine Below.alloc ?_ (by first | (simp; done) | (simp; omega)) _ | refine Below.setCell ?_ (by first | (simp; done) | (simp; omega)) _ | refine Below.drew ?_ | refine below_drewN ?_ _))⟩
set_option maxHeartbeats 4000000 in
set_option maxRecDepth 100000 in
theorem rcast_03 (N : Int) (B : Bool) (A : Ans) (b l : Int) (w : World) (hk : Hid (kindT b l = 3)) (RA : ∀ w : World, Calls Tryz.prog 23 #[val 0 0 ⟨#[]⟩ false, typ b l] w fun e w' => e = .returned A.ret ∧ Below w.heap.size w w') :
    Calls Tryz.prog 6 #[val 0 0 ⟨#[]⟩ false, typ b l] w fun e w' => e = .returned (A.ret) ∧ Below w.heap.size w w' := by
  go_enter Tryz.func6, Tryz.ntmps6
  go_wp2_with fail
  refine (rkind_is hk.out _).mono ?_
  rintro e w1 ⟨rfl, hb⟩
  have T := trio_first hb
  clear hb
  obtain ⟨c0, c1, c2, c3, d0, d1, e0, e1, e2, e3, f0, f1, f2, f3, lt, h1⟩ := id T
  go_wp2_with (go_at_call 23; refine (RA _).mono ?_; rintro e w2 ⟨rfl, hb⟩; replace T := T.keep hb; clear hb c0 c1 c2 c3 d0 d1 e0 e1 e2 e3 f0 f1 f2 f3 lt h1; obtain ⟨c0, c1, c2, c3, d0, d1, e0, e1, e2, e3, f0, f1, f2, f3, lt, h1⟩ := id T)
  exact bodyPost_ret (v := A.ret) (by simp [results, Tryz.results6, go_sem, *]) rfl ⟨rfl, (by repeat (first | exact Below.refl _ _ | assumption | refine Below.alloc ?_ (by first | (simp; done) | (simp; omega)) _ | refine Below.setCell ?_ (by first | (simp; done) | (simp; omega)) _ | refine Below.drew ?_ | refine below_drewN ?_ _))⟩
set_option maxHeartbeats 4000000 in
set_option maxRecDepth 100000 in
theorem rcast_33 (N : Int) (B : Bool) (A : Ans) (b l : Int) (w : World) (hk : Hid (kindT b l = 3)) (RA : ∀ w : World, Calls Tryz.prog 23 #[val 3 0 ⟨#[]⟩ B, typ b l] w fun e w' => e = .returned A.ret ∧ Below w.heap.size w w') :
    Calls Tryz.prog 6 #[val 3 0 ⟨#[]⟩ B, typ b l] w fun e w' => e = .returned (A.ret) ∧ Below w.heap.size w w' := by
  go_enter Tryz.func6, Tryz.ntmps6
  go_wp2_with fail
  refine (rkind_is hk.out _).mono ?_
  rintro e w1 ⟨rfl, hb⟩
  have T := trio_first hb
  clear hb
  obtain ⟨c0, c1, c2, c3, d0, d1, e0, e1, e2, e3, f0, f1, f2, f3, lt, h1⟩ := id T
  go_wp2_with (go_at_call 23; refine (RA _).mono ?_; rintro e w2 ⟨rfl, hb⟩; replace T := T.keep hb; clear hb c0 c1 c2 c3 d0 d1 e0 e1 e2 e3 f0 f1 f2 f3 lt h1; obtain ⟨c0, c1, c2, c3, d0, d1, e0, e1, e2, e3, f0, f1, f2, f3, lt, h1⟩ := id T)
  exact bodyPost_ret (v := A.ret) (by simp [results, Tryz.results6, go_sem, *]) rfl ⟨rfl, (by repeat (first | exact Below.refl _ _ | assumption | refine Below.alloc ?_ (by first | (simp; done) | (simp; omega)) _ | refine Below.setCell ?_ (by first | (simp; done) | (simp; omega)) _ | refine Below.drew ?_ | refine below_drewN ?_ _))⟩
set_option maxHeartbeats 4000000 in
set_option maxRecDepth 100000 in
theorem rcast_02 (N : Int) (B : Bool) (A : Ans) (b l : Int) (w : World) (hk : Hid (kindT b l = 2)) (RA : ∀ w : World, Calls Tryz.prog 23 #[val 0 0 ⟨#[]⟩ false, typ b l] w fun e w' => e = .returned A.ret ∧ Below w.heap.size w w') :
    Calls Tryz.prog 6 #[val 0 0 ⟨#[]⟩ false, typ b l] w fun e w' => e = .returned (A.ret) ∧ Below w.heap.size w w' := by
  go_enter Tryz.func6, Tryz.ntmps6
  go_wp2_with fail
  refine (rkind_is hk.out _).mono ?_
  rintro e w1 ⟨rfl, hb⟩
  have T := trio_first hb
  clear hb
  obtain ⟨c0, c1, c2, c3, d0, d1, e0, e1, e2, e3, f0, f1, f2, f3, lt, h1⟩ := id T
  go_wp2_with (go_at_call 23; refine (RA _).mono ?_; rintro e w2 ⟨rfl, hb⟩; replace T := T.keep hb; clear hb c0 c1 c2 c3 d0 d1 e0 e1 e2 e3 f0 f1 f2 f3 lt h1; obtain ⟨c0, c1, c2, c3, d0, d1, e0, e1, e2, e3, f0, f1, f2, f3, lt, h1⟩ := id T)
  exact bodyPost_ret (v := A.ret) (by simp [results, Tryz.results6, go_sem, *]) rfl ⟨rfl, (by repeat (first | exact Below.refl _ _ | assumption | refine Below.alloc ?_ (by first | (simp; done) | (simp; omega)) _ | refine Below.setCell ?_ (by first | (simp; done) | (simp; omega)) _ | refine Below.drew ?_ | refine below_drewN ?_ _))⟩
set_option maxHeartbeats 4000000 in
set_option maxRecDepth 100000 in
theorem rcast_13 (N : Int) (B : Bool) (b l : Int) (w : World) (hk : Hid (kindT b l = 3)) :
    Calls Tryz.prog 6 #[val 1 N ⟨#[]⟩ false, typ b l] w fun e w' => e = .returned (.tuple #[nullV, .string sMis]) ∧ Below w.heap.size w w' := by
  go_enter Tryz.func6, Tryz.ntmps6
  go_wp2_with fail
  refine (rkind_is hk.out _).mono ?_
  rintro e w1 ⟨rfl, hb⟩
  have T := trio_first hb
  clear hb
  obtain ⟨c0, c1, c2, c3, d0, d1, e0, e1, e2, e3, f0, f1, f2, f3, lt, h1⟩ := id T
  go_wp2
  exact bodyPost_ret (v := .tuple #[nullV, .string sMis]) (by simp [results, Tryz.results6, go_sem, *]) rfl ⟨rfl, (by repeat (first | exact Below.refl _ _ | assumption | refine Below.alloc ?_ (by first | (simp; done) | (simp; omega)) _ | refine Below.setCell ?_ (by first | (simp; done) | (simp; omega)) _ | refine Below.drew ?_ | refine below_drewN ?_ _))⟩
set_option maxHeartbeats 4000000 in
set_option maxRecDepth 100000 in
theorem rcast_31 (N : Int) (B : Bool) (b l : Int) (w : World) (hk : Hid (kindT b l = 1)) :
    Calls Tryz.prog 6 #[val 3 0 ⟨#[]⟩ B, typ b l] w fun e w' => e = .returned (.tuple #[nullV, .string sMis]) ∧ Below w.heap.size w w' := by
  go_enter Tryz.func6, Tryz.ntmps6
  go_wp2_with fail
  refine (rkind_is hk.out _).mono ?_
  rintro e w1 ⟨rfl, hb⟩
  have T := trio_first hb
  clear hb
  obtain ⟨c0, c1, c2, c3, d0, d1, e0, e1, e2, e3, f0, f1, f2, f3, lt, h1⟩ := id T
  go_wp2
  exact bodyPost_ret (v := .tuple #[nullV, .string sMis]) (by simp [results, Tryz.results6, go_sem, *]) rfl ⟨rfl, (by repeat (first | exact Below.refl _ _ | assumption | refine Below.alloc ?_ (by first | (simp; done) | (simp; omega)) _ | refine Below.setCell ?_ (by first | (simp; done) | (simp; omega)) _ | refine Below.drew ?_ | refine below_drewN ?_ _))⟩
set_option maxHeartbeats 4000000 in
set_option maxRecDepth 100000 in
theorem rcast_12y (N : Int) (D : ByteArray) (b l : Int) (w : World) (hk : Hid (kindT b l = 2)) (hl : 0 ≤ l ∧ l ≤ 100) (hn : -9223372036854775808 ≤ N ∧ N ≤ 9223372036854775807) (hE : itoaB N = D) (hD : (D.size : Int) ≤ l) :
    Calls Tryz.prog 6 #[val 1 N ⟨#[]⟩ false, typ b l] w fun e w' => e = .returned (.tuple #[val 2 0 ⟨(padL D.data.toList b l).toArray⟩ false, .string sDone]) ∧ Below w.heap.size w w' := by
  go_enter Tryz.func6, Tryz.ntmps6
  go_wp2_with fail
  refine (rkind_is hk.out _).mono ?_
  rintro e w1 ⟨rfl, hb⟩
  have T := trio_first hb
  clear hb
  obtain ⟨c0, c1, c2, c3, d0, d1, e0, e1, e2, e3, f0, f1, f2, f3, lt, h1⟩ := id T
  go_wp2_with (first
    | (go_at_call 25; refine (rdig_any N _ hn).mono ?_; rintro e w2 ⟨rfl, hb⟩; replace T := T.keep hb; clear hb c0 c1 c2 c3 d0 d1 e0 e1 e2 e3 f0 f1 f2 f3 lt h1; obtain ⟨c0, c1, c2, c3, d0, d1, e0, e1, e2, e3, f0, f1, f2, f3, lt, h1⟩ := id T)
    | (go_at_call 24; refine (rpad_any D b l _ hl (by omega)).mono ?_; rintro e w3 ⟨rfl, hb⟩; replace T := T.keep hb; clear hb c0 c1 c2 c3 d0 d1 e0 e1 e2 e3 f0 f1 f2 f3 lt h1; obtain ⟨c0, c1, c2, c3, d0, d1, e0, e1, e2, e3, f0, f1, f2, f3, lt, h1⟩ := id T))
  exact bodyPost_ret (v := .tuple #[val 2 0 ⟨(padL D.data.toList b l).toArray⟩ false, .string sDone]) (by simp [results, Tryz.results6, go_sem, *]) rfl ⟨rfl, (by repeat (first | exact Below.refl _ _ | assumption | refine Below.alloc ?_ (by first | (simp; done) | (simp; omega)) _ | refine Below.setCell ?_ (by first | (simp; done) | (simp; omega)) _ | refine Below.drew ?_ | refine below_drewN ?_ _))⟩
set_option maxHeartbeats 4000000 in
set_option maxRecDepth 100000 in
theorem rcast_12n (N : Int) (D : ByteArray) (b l : Int) (w : World) (hk : Hid (kindT b l = 2)) (hl : 0 ≤ l ∧ l ≤ 100) (hn : -9223372036854775808 ≤ N ∧ N ≤ 9223372036854775807) (hE : itoaB N = D) (hD : ¬ (D.size : Int) ≤ l) :
    Calls Tryz.prog 6 #[val 1 N ⟨#[]⟩ false, typ b l] w fun e w' => e = .returned (.tuple #[nullV, .string sLong]) ∧ Below w.heap.size w w' := by
  go_enter Tryz.func6, Tryz.ntmps6
  go_wp2_with fail
  refine (rkind_is hk.out _).mono ?_
  rintro e w1 ⟨rfl, hb⟩
  have T := trio_first hb
  clear hb
  obtain ⟨c0, c1, c2, c3, d0, d1, e0, e1, e2, e3, f0, f1, f2, f3, lt, h1⟩ := id T
  go_wp2_with (go_at_call 25; refine (rdig_any N _ hn).mono ?_; rintro e w2 ⟨rfl, hb⟩; replace T := T.keep hb; clear hb c0 c1 c2 c3 d0 d1 e0 e1 e2 e3 f0 f1 f2 f3 lt h1; obtain ⟨c0, c1, c2, c3, d0, d1, e0, e1, e2, e3, f0, f1, f2, f3, lt, h1⟩ := id T)
  exact bodyPost_ret (v := .tuple #[nullV, .string sLong]) (by simp [results, Tryz.results6, go_sem, *]) rfl ⟨rfl, (by repeat (first | exact Below.refl _ _ | assumption | refine Below.alloc ?_ (by first | (simp; done) | (simp; omega)) _ | refine Below.setCell ?_ (by first | (simp; done) | (simp; omega)) _ | refine Below.drew ?_ | refine below_drewN ?_ _))⟩
theorem rdig_zero (w : World) : Calls Tryz.prog 25 #[.int .i64 0] w fun e w' => (∃ D0 : ByteArray, e = .returned (.string D0)) ∧ Below w.heap.size w w' :=
  (rdig_any 0 w (by decide)).mono fun e w' ⟨he, hb⟩ => ⟨⟨_, he⟩, hb⟩
set_option maxHeartbeats 4000000 in
set_option maxRecDepth 100000 in
theorem rcast_32fy  (b l : Int) (w : World) (hk : Hid (kindT b l = 2)) (hl : 0 ≤ l ∧ l ≤ 100) (PP : ByteArray) (RP : ∀ w : World, Calls Tryz.prog 24 #[.string ⟨#[70, 65, 76, 83, 69]⟩, typ b l] w fun e w' => e = .returned (val 2 0 PP false) ∧ Below w.heap.size w w') (hD : (5 : Int) ≤ l) :
    Calls Tryz.prog 6 #[val 3 0 ⟨#[]⟩ false, typ b l] w fun e w' => e = .returned (.tuple #[val 2 0 PP false, .string sDone]) ∧ Below w.heap.size w w' := by
  go_enter Tryz.func6, Tryz.ntmps6
  go_wp2_with fail
  refine (rkind_is hk.out _).mono ?_
  rintro e w1 ⟨rfl, hb⟩
  have T := trio_first hb
  clear hb
  obtain ⟨c0, c1, c2, c3, d0, d1, e0, e1, e2, e3, f0, f1, f2, f3, lt, h1⟩ := id T
  go_wp2_with (first
    | (go_at_call 25; refine (rdig_zero _).mono ?_; rintro e w2 ⟨⟨D0, rfl⟩, hb⟩; replace T := T.keep hb; clear hb c0 c1 c2 c3 d0 d1 e0 e1 e2 e3 f0 f1 f2 f3 lt h1; obtain ⟨c0, c1, c2, c3, d0, d1, e0, e1, e2, e3, f0, f1, f2, f3, lt, h1⟩ := id T)
    | (go_at_call 24; refine (RP _).mono ?_; rintro e w3 ⟨rfl, hb⟩; replace T := T.keep hb; clear hb c0 c1 c2 c3 d0 d1 e0 e1 e2 e3 f0 f1 f2 f3 lt h1; obtain ⟨c0, c1, c2, c3, d0, d1, e0, e1, e2, e3, f0, f1, f2, f3, lt, h1⟩ := id T))
  exact bodyPost_ret (v := .tuple #[val 2 0 PP false, .string sDone]) (by simp [results, Tryz.results6, go_sem, *]) rfl ⟨rfl, (by repeat (first | exact Below.refl _ _ | assumption | refine Below.alloc ?_ (by first | (simp; done) | (simp; omega)) _ | refine Below.setCell ?_ (by first | (simp; done) | (simp; omega)) _ | refine Below.drew ?_ | refine below_drewN ?_ _))⟩
set_option maxHeartbeats 4000000 in
set_option maxRecDepth 100000 in
theorem rcast_32fn  (b l : Int) (w : World) (hk : Hid (kindT b l = 2)) (hl : 0 ≤ l ∧ l ≤ 100) (hD : ¬ (5 : Int) ≤ l) :
    Calls Tryz.prog 6 #[val 3 0 ⟨#[]⟩ false, typ b l] w fun e w' => e = .returned (.tuple #[nullV, .string sLong]) ∧ Below w.heap.size w w' := by
  go_enter Tryz.func6, Tryz.ntmps6
  go_wp2_with fail
  refine (rkind_is hk.out _).mono ?_
  rintro e w1 ⟨rfl, hb⟩
  have T := trio_first hb
  clear hb
  obtain ⟨c0, c1, c2, c3, d0, d1, e0, e1, e2, e3, f0, f1, f2, f3, lt, h1⟩ := id T
  go_wp2_with (go_at_call 25; refine (rdig_zero _).mono ?_; rintro e w2 ⟨⟨D0, rfl⟩, hb⟩; replace T := T.keep hb; clear hb c0 c1 c2 c3 d0 d1 e0 e1 e2 e3 f0 f1 f2 f3 lt h1; obtain ⟨c0, c1, c2, c3, d0, d1, e0, e1, e2, e3, f0, f1, f2, f3, lt, h1⟩ := id T)
  exact bodyPost_ret (v := .tuple #[nullV, .string sLong]) (by simp [results, Tryz.results6, go_sem, *]) rfl ⟨rfl, (by repeat (first | exact Below.refl _ _ | assumption | refine Below.alloc ?_ (by first | (simp; done) | (simp; omega)) _ | refine Below.setCell ?_ (by first | (simp; done) | (simp; omega)) _ | refine Below.drew ?_ | refine below_drewN ?_ _))⟩
set_option maxHeartbeats 4000000 in
set_option maxRecDepth 100000 in
theorem rcast_32ty  (b l : Int) (w : World) (hk : Hid (kindT b l = 2)) (hl : 0 ≤ l ∧ l ≤ 100) (PP : ByteArray) (RP : ∀ w : World, Calls Tryz.prog 24 #[.string ⟨#[84, 82, 85, 69]⟩, typ b l] w fun e w' => e = .returned (val 2 0 PP false) ∧ Below w.heap.size w w') (hD : (4 : Int) ≤ l) :
    Calls Tryz.prog 6 #[val 3 0 ⟨#[]⟩ true, typ b l] w fun e w' => e = .returned (.tuple #[val 2 0 PP false, .string sDone]) ∧ Below w.heap.size w w' := by
  go_enter Tryz.func6, Tryz.ntmps6
  go_wp2_with fail
  refine (rkind_is hk.out _).mono ?_
  rintro e w1 ⟨rfl, hb⟩
  have T := trio_first hb
  clear hb
  obtain ⟨c0, c1, c2, c3, d0, d1, e0, e1, e2, e3, f0, f1, f2, f3, lt, h1⟩ := id T
  go_wp2_with (first
    | (go_at_call 25; refine (rdig_zero _).mono ?_; rintro e w2 ⟨⟨D0, rfl⟩, hb⟩; replace T := T.keep hb; clear hb c0 c1 c2 c3 d0 d1 e0 e1 e2 e3 f0 f1 f2 f3 lt h1; obtain ⟨c0, c1, c2, c3, d0, d1, e0, e1, e2, e3, f0, f1, f2, f3, lt, h1⟩ := id T)
    | (go_at_call 24; refine (RP _).mono ?_; rintro e w3 ⟨rfl, hb⟩; replace T := T.keep hb; clear hb c0 c1 c2 c3 d0 d1 e0 e1 e2 e3 f0 f1 f2 f3 lt h1; obtain ⟨c0, c1, c2, c3, d0, d1, e0, e1, e2, e3, f0, f1, f2, f3, lt, h1⟩ := id T))
  exact bodyPost_ret (v := .tuple #[val 2 0 PP false, .string sDone]) (by simp [results, Tryz.results6, go_sem, *]) rfl ⟨rfl, (by repeat (first | exact Below.refl _ _ | assumption | refine Below.alloc ?_ (by first | (simp; done) | (simp; omega)) _ | refine Below.setCell ?_ (by first | (simp; done) | (simp; omega)) _ | refine Below.drew ?_ | refine below_drewN ?_ _))⟩
set_option maxHeartbeats 4000000 in
set_option maxRecDepth 100000 in
theorem rcast_32tn  (b l : Int) (w : World) (hk : Hid (kindT b l = 2)) (hl : 0 ≤ l ∧ l ≤ 100) (hD : ¬ (4 : Int) ≤ l) :
    Calls Tryz.prog 6 #[val 3 0 ⟨#[]⟩ true, typ b l] w fun e w' => e = .returned (.tuple #[nullV, .string sLong]) ∧ Below w.heap.size w w' := by
  go_enter Tryz.func6, Tryz.ntmps6
  go_wp2_with fail
  refine (rkind_is hk.out _).mono ?_
  rintro e w1 ⟨rfl, hb⟩
  have T := trio_first hb
  clear hb
  obtain ⟨c0, c1, c2, c3, d0, d1, e0, e1, e2, e3, f0, f1, f2, f3, lt, h1⟩ := id T
  go_wp2_with (go_at_call 25; refine (rdig_zero _).mono ?_; rintro e w2 ⟨⟨D0, rfl⟩, hb⟩; replace T := T.keep hb; clear hb c0 c1 c2 c3 d0 d1 e0 e1 e2 e3 f0 f1 f2 f3 lt h1; obtain ⟨c0, c1, c2, c3, d0, d1, e0, e1, e2, e3, f0, f1, f2, f3, lt, h1⟩ := id T)
  exact bodyPost_ret (v := .tuple #[nullV, .string sLong]) (by simp [results, Tryz.results6, go_sem, *]) rfl ⟨rfl, (by repeat (first | exact Below.refl _ _ | assumption | refine Below.alloc ?_ (by first | (simp; done) | (simp; omega)) _ | refine Below.setCell ?_ (by first | (simp; done) | (simp; omega)) _ | refine Below.drew ?_ | refine below_drewN ?_ _))⟩
set_option maxHeartbeats 4000000 in
set_option maxRecDepth 100000 in
theorem rcast_23 (S : ByteArray) (A : Ans) (b l : Int) (w : World) (hk : Hid (kindT b l = 3)) (hs : S.size ≤ 140737488355328) (RT : ∀ w : World, Calls Tryz.prog 28 #[.string ⟨(leftL (trimL S.data.toList)).toArray⟩] w fun e w' => e = .returned A.ret ∧ Below w.heap.size w w') :
    Calls Tryz.prog 6 #[val 2 0 S false, typ b l] w fun e w' => e = .returned (A.ret) ∧ Below w.heap.size w w' := by
  go_enter Tryz.func6, Tryz.ntmps6
  go_wp2_with fail
  refine (rkind_is hk.out _).mono ?_
  rintro e w1 ⟨rfl, hb⟩
  have T := trio_first hb
  clear hb
  obtain ⟨c0, c1, c2, c3, d0, d1, e0, e1, e2, e3, f0, f1, f2, f3, lt, h1⟩ := id T
  go_wp2_with (first
    | (go_at_call 27; refine (trimmed_any S _ (by unfold maxLen; omega)).mono ?_; rintro e w2 ⟨rfl, rfl⟩)
    | (go_at_call 28; refine (RT _).mono ?_; rintro e w3 ⟨rfl, hb⟩; replace T := T.keep hb; clear hb c0 c1 c2 c3 d0 d1 e0 e1 e2 e3 f0 f1 f2 f3 lt h1; obtain ⟨c0, c1, c2, c3, d0, d1, e0, e1, e2, e3, f0, f1, f2, f3, lt, h1⟩ := id T))
  exact bodyPost_ret (v := A.ret) (by simp [results, Tryz.results6, go_sem, *]) rfl ⟨rfl, (by repeat (first | exact Below.refl _ _ | assumption | refine Below.alloc ?_ (by first | (simp; done) | (simp; omega)) _ | refine Below.setCell ?_ (by first | (simp; done) | (simp; omega)) _ | refine Below.drew ?_ | refine below_drewN ?_ _))⟩
end Go.Proofs.YtfmnlgepllgpnaaGreatDoor

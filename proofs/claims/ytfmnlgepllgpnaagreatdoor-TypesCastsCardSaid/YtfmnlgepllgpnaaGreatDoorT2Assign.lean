/- The walk of types.Assign at every right value and every type. -/
import Derived.Test.YtfmnlgepllgpnaaGreatDoorT2Text
namespace Go.Proofs.YtfmnlgepllgpnaaGreatDoor
open Go.RowKit
set_option linter.unusedVariables false

theorem kind_of_right {b l : Int} (h : rightT b l = true) : (kindT b l = 1 ∧ (b = 1 ∨ b = 2 ∨ b = 3)) ∨ (kindT b l = 2 ∧ (b = 4 ∨ b = 5) ∧ 1 ≤ l ∧ l ≤ 100) ∨ (kindT b l = 3 ∧ b = 6) := by
  rcases right_cases h with ⟨h1, rfl⟩ | ⟨h1, h2⟩
  · rcases h1 with rfl | rfl | rfl | rfl
    · exact Or.inl ⟨rfl, Or.inl rfl⟩
    · exact Or.inl ⟨rfl, Or.inr (Or.inl rfl)⟩
    · exact Or.inl ⟨rfl, Or.inr (Or.inr rfl)⟩
    · exact Or.inr (Or.inr ⟨rfl, rfl⟩)
  · refine Or.inr (Or.inl ⟨?_, h1, h2⟩)
    rw [kindT, if_pos h]
    rcases h1 with rfl | rfl <;> rfl
theorem tkind_is {b l kd : Int} (h : kindT b l = kd) (w : World) :
    Calls Tryz.prog 9 #[typ b l] w fun e w' => e = .returned (.int .i64 kd) ∧ Below w.heap.size w w' := by
  have := tkind_any b l w
  rw [h] at this
  exact this
theorem tright_is {b l : Int} {r : Bool} (h : rightT b l = r) (w : World) :
    Calls Tryz.prog 8 #[typ b l] w fun e w' => e = .returned (.bool r) ∧ Below w.heap.size w w' := by
  have := tright_any b l w
  rw [h] at this
  exact this
/-- The three boxes of a call that takes a value and a type and gives a value: the value's, the type's, the result's. -/
structure Trio (w W : World) (K N : Int) (S : ByteArray) (B : Bool) (b l : Int) : Prop where
  c0 : W.cell? ⟨w.heap.size, 0, none⟩ = some (.int .i64 K)
  c1 : W.cell? ⟨w.heap.size, 1, none⟩ = some (.int .i64 N)
  c2 : W.cell? ⟨w.heap.size, 2, none⟩ = some (.string S)
  c3 : W.cell? ⟨w.heap.size, 3, none⟩ = some (.bool B)
  d0 : W.cell? ⟨w.heap.size + 1, 0, none⟩ = some (.int .i64 b)
  d1 : W.cell? ⟨w.heap.size + 1, 1, none⟩ = some (.int .i64 l)
  e0 : W.cell? ⟨w.heap.size + 2, 0, none⟩ = some (.int .i64 0)
  e1 : W.cell? ⟨w.heap.size + 2, 1, none⟩ = some (.int .i64 0)
  e2 : W.cell? ⟨w.heap.size + 2, 2, none⟩ = some (.string ⟨#[]⟩)
  e3 : W.cell? ⟨w.heap.size + 2, 3, none⟩ = some (.bool false)
  f0 : W.frozen? ⟨w.heap.size + 2, 0, none⟩ = false
  f1 : W.frozen? ⟨w.heap.size + 2, 1, none⟩ = false
  f2 : W.frozen? ⟨w.heap.size + 2, 2, none⟩ = false
  f3 : W.frozen? ⟨w.heap.size + 2, 3, none⟩ = false
  lt : w.heap.size + 2 < W.heap.size
  below : Below w.heap.size w W
theorem frozen_keep {W w' : World} (hb : Below W.heap.size W w') {b o : Nat} {v : Bool} (hl : b < W.heap.size) (h : W.frozen? ⟨b, o, none⟩ = v) : w'.frozen? ⟨b, o, none⟩ = v :=
  (hb.frozen (p := ⟨b, o, none⟩) hl).trans h
theorem Trio.keep {w W W' : World} {K N : Int} {S : ByteArray} {B : Bool} {b l : Int} (T : Trio w W K N S B b l) (hb : Below W.heap.size W W') : Trio w W' K N S B b l :=
  ⟨cell_keep hb T.c0, cell_keep hb T.c1, cell_keep hb T.c2, cell_keep hb T.c3, cell_keep hb T.d0, cell_keep hb T.d1, cell_keep hb T.e0, cell_keep hb T.e1, cell_keep hb T.e2, cell_keep hb T.e3,
    frozen_keep hb T.lt T.f0, frozen_keep hb T.lt T.f1, frozen_keep hb T.lt T.f2, frozen_keep hb T.lt T.f3, Nat.lt_of_lt_of_le T.lt hb.size, keepA T.below hb⟩
theorem Trio.keepD {w W W' : World} {K N : Int} {S : ByteArray} {B : Bool} {b l : Int} (T : Trio w W K N S B b l) (hb : Below W.drew.heap.size W.drew W') : Trio w W' K N S B b l :=
  T.keep ((Below.drew (Below.refl _ _)).trans hb)
theorem Trio.held {w W W' : World} {K N : Int} {S : ByteArray} {B : Bool} {b l : Int} (T : Trio w W K N S B b l) (hb : Below W.heap.size W W') :
    Below W.heap.size W W' ∧ W'.cell? ⟨w.heap.size, 0, none⟩ = some (.int .i64 K) ∧ W'.cell? ⟨w.heap.size + 1, 0, none⟩ = some (.int .i64 b) ∧ W'.cell? ⟨w.heap.size + 1, 1, none⟩ = some (.int .i64 l) :=
  ⟨hb, cell_keep hb T.c0, cell_keep hb T.d0, cell_keep hb T.d1⟩
theorem keepF {P : Prop} {W0 W w' : World} (h : Below W0.heap.size W0 W ∧ P) (hb : Below W.heap.size W w') : Below W0.heap.size W0 w' := keepA h.1 hb
theorem trio_new (w : World) (K N : Int) (S : ByteArray) (B : Bool) (b l : Int) (t1 t2 t3 : Nat) :
    Trio w (((w.alloc (.cells #[.int .i64 K, .int .i64 N, .string S, .bool B] t1)).alloc (.cells #[.int .i64 b, .int .i64 l] t2)).alloc (.cells #[.int .i64 0, .int .i64 0, .string ⟨#[]⟩, .bool false] t3)) K N S B b l := by
  refine ⟨?_, ?_, ?_, ?_, ?_, ?_, ?_, ?_, ?_, ?_, ?_, ?_, ?_, ?_, ?_, below_alloc (below_alloc (below_alloc (Below.refl _ _) _) _) _⟩
  all_goals go_simp
theorem trio_first {w W : World} {K N : Int} {S : ByteArray} {B : Bool} {b l : Int} {t1 t2 t3 : Nat}
    (hb : Below (((w.alloc (.cells #[.int .i64 K, .int .i64 N, .string S, .bool B] t1)).alloc (.cells #[.int .i64 b, .int .i64 l] t2)).alloc (.cells #[.int .i64 0, .int .i64 0, .string ⟨#[]⟩, .bool false] t3)).heap.size (((w.alloc (.cells #[.int .i64 K, .int .i64 N, .string S, .bool B] t1)).alloc (.cells #[.int .i64 b, .int .i64 l] t2)).alloc (.cells #[.int .i64 0, .int .i64 0, .string ⟨#[]⟩, .bool false] t3)) W) :
    Trio w W K N S B b l := (trio_new w K N S B b l t1 t2 t3).keep hb

set_option maxHeartbeats 1000000 in
theorem tassign_wrong (K N : Int) (S : ByteArray) (B : Bool) (b l : Int) (w : World) (hr : Hid (rightT b l = false)) :
    Calls Tryz.prog 18 #[val K N S B, typ b l] w fun e w' => e = .returned (.tuple #[nullV, .string sMis]) ∧ Below w.heap.size w w' := by
  go_enter Tryz.func18, Tryz.ntmps18
  go_wp2_with fail
  refine (tright_is hr.out _).mono ?_
  rintro e w1 ⟨rfl, hb⟩
  have T := trio_first hb
  clear hb
  obtain ⟨c0, c1, c2, c3, d0, d1, e0, e1, e2, e3, f0, f1, f2, f3, lt, h1⟩ := T
  go_wp2
  exact bodyPost_ret (v := .tuple #[nullV, .string sMis]) (by simp [results, Tryz.results18, go_sem, *]) rfl ⟨rfl, ((by repeat (first | exact Below.refl _ _ | assumption | refine Below.alloc ?_ (by first | (simp; done) | (simp; omega)) _ | refine Below.setCell ?_ (by first | (simp; done) | (simp; omega)) _ | refine Below.drew ?_ | refine below_drewN ?_ _)))⟩
set_option maxHeartbeats 1000000 in
theorem tassign_null (b l : Int) (w : World) (hr : Hid (rightT b l = true)) :
    Calls Tryz.prog 18 #[nullV, typ b l] w fun e w' => e = .returned (.tuple #[nullV, .string sDone]) ∧ Below w.heap.size w w' := by
  go_enter Tryz.func18, Tryz.ntmps18
  go_wp2_with fail
  refine (tright_is hr.out _).mono ?_
  rintro e w1 ⟨rfl, hb⟩
  have T := trio_first hb
  clear hb
  obtain ⟨c0, c1, c2, c3, d0, d1, e0, e1, e2, e3, f0, f1, f2, f3, lt, h1⟩ := id T
  go_wp2
  exact bodyPost_ret (v := .tuple #[nullV, .string sDone]) (by simp [results, Tryz.results18, go_sem, *]) rfl ⟨rfl, (by repeat (first | exact Below.refl _ _ | assumption | refine Below.alloc ?_ (by first | (simp; done) | (simp; omega)) _ | refine Below.setCell ?_ (by first | (simp; done) | (simp; omega)) _ | refine Below.drew ?_ | refine below_drewN ?_ _))⟩
set_option maxHeartbeats 1000000 in
theorem tassign_m12 (N : Int) (S : ByteArray) (B : Bool) (b l : Int) (w : World) (hr : Hid (rightT b l = true)) (hk : Hid (kindT b l = 2)) :
    Calls Tryz.prog 18 #[val 1 N ⟨#[]⟩ false, typ b l] w fun e w' => e = .returned (.tuple #[nullV, .string sMis]) ∧ Below w.heap.size w w' := by
  go_enter Tryz.func18, Tryz.ntmps18
  go_wp2_with fail
  refine (tright_is hr.out _).mono ?_
  rintro e w1 ⟨rfl, hb⟩
  have T := trio_first hb
  clear hb
  obtain ⟨c0, c1, c2, c3, d0, d1, e0, e1, e2, e3, f0, f1, f2, f3, lt, h1⟩ := id T
  go_wp2_with fail
  go_region_held3 (fun w' => Below w1.heap.size w1 w' ∧ w'.cell? ⟨w.heap.size, 0, none⟩ = some (.int .i64 1) ∧ w'.cell? ⟨w.heap.size + 1, 0, none⟩ = some (.int .i64 b) ∧ w'.cell? ⟨w.heap.size + 1, 1, none⟩ = some (.int .i64 l)) (first | exact T.held (by assumption) | exact T.held (Below.refl _ _).drew | exact T.held (Below.refl _ _))
    (first | (go_at_call 9; refine (tkind_is hk.out _).mono ?_; rintro e w' ⟨rfl, hb⟩; have hk2 := keepF (by assumption) hb; clear hb))
  rename_i w2 hS
  replace T := T.keep hS.1
  clear hS c0 c1 c2 c3 d0 d1 e0 e1 e2 e3 f0 f1 f2 f3 lt h1
  obtain ⟨c0, c1, c2, c3, d0, d1, e0, e1, e2, e3, f0, f1, f2, f3, lt, h1⟩ := id T
  go_wp2
  exact bodyPost_ret (v := .tuple #[nullV, .string sMis]) (by simp [results, Tryz.results18, go_sem, *]) rfl ⟨rfl, (by repeat (first | exact Below.refl _ _ | assumption | refine Below.alloc ?_ (by first | (simp; done) | (simp; omega)) _ | refine Below.setCell ?_ (by first | (simp; done) | (simp; omega)) _ | refine Below.drew ?_ | refine below_drewN ?_ _))⟩
set_option maxHeartbeats 1000000 in
theorem tassign_m13 (N : Int) (S : ByteArray) (B : Bool) (b l : Int) (w : World) (hr : Hid (rightT b l = true)) (hk : Hid (kindT b l = 3)) :
    Calls Tryz.prog 18 #[val 1 N ⟨#[]⟩ false, typ b l] w fun e w' => e = .returned (.tuple #[nullV, .string sMis]) ∧ Below w.heap.size w w' := by
  go_enter Tryz.func18, Tryz.ntmps18
  go_wp2_with fail
  refine (tright_is hr.out _).mono ?_
  rintro e w1 ⟨rfl, hb⟩
  have T := trio_first hb
  clear hb
  obtain ⟨c0, c1, c2, c3, d0, d1, e0, e1, e2, e3, f0, f1, f2, f3, lt, h1⟩ := id T
  go_wp2_with fail
  go_region_held3 (fun w' => Below w1.heap.size w1 w' ∧ w'.cell? ⟨w.heap.size, 0, none⟩ = some (.int .i64 1) ∧ w'.cell? ⟨w.heap.size + 1, 0, none⟩ = some (.int .i64 b) ∧ w'.cell? ⟨w.heap.size + 1, 1, none⟩ = some (.int .i64 l)) (first | exact T.held (by assumption) | exact T.held (Below.refl _ _).drew | exact T.held (Below.refl _ _))
    (first | (go_at_call 9; refine (tkind_is hk.out _).mono ?_; rintro e w' ⟨rfl, hb⟩; have hk2 := keepF (by assumption) hb; clear hb))
  rename_i w2 hS
  replace T := T.keep hS.1
  clear hS c0 c1 c2 c3 d0 d1 e0 e1 e2 e3 f0 f1 f2 f3 lt h1
  obtain ⟨c0, c1, c2, c3, d0, d1, e0, e1, e2, e3, f0, f1, f2, f3, lt, h1⟩ := id T
  go_wp2
  exact bodyPost_ret (v := .tuple #[nullV, .string sMis]) (by simp [results, Tryz.results18, go_sem, *]) rfl ⟨rfl, (by repeat (first | exact Below.refl _ _ | assumption | refine Below.alloc ?_ (by first | (simp; done) | (simp; omega)) _ | refine Below.setCell ?_ (by first | (simp; done) | (simp; omega)) _ | refine Below.drew ?_ | refine below_drewN ?_ _))⟩
set_option maxHeartbeats 1000000 in
theorem tassign_m21 (N : Int) (S : ByteArray) (B : Bool) (b l : Int) (w : World) (hr : Hid (rightT b l = true)) (hk : Hid (kindT b l = 1)) :
    Calls Tryz.prog 18 #[val 2 0 S false, typ b l] w fun e w' => e = .returned (.tuple #[nullV, .string sMis]) ∧ Below w.heap.size w w' := by
  go_enter Tryz.func18, Tryz.ntmps18
  go_wp2_with fail
  refine (tright_is hr.out _).mono ?_
  rintro e w1 ⟨rfl, hb⟩
  have T := trio_first hb
  clear hb
  obtain ⟨c0, c1, c2, c3, d0, d1, e0, e1, e2, e3, f0, f1, f2, f3, lt, h1⟩ := id T
  go_wp2_with fail
  go_region_held3 (fun w' => Below w1.heap.size w1 w' ∧ w'.cell? ⟨w.heap.size, 0, none⟩ = some (.int .i64 2) ∧ w'.cell? ⟨w.heap.size + 1, 0, none⟩ = some (.int .i64 b) ∧ w'.cell? ⟨w.heap.size + 1, 1, none⟩ = some (.int .i64 l)) (first | exact T.held (by assumption) | exact T.held (Below.refl _ _).drew | exact T.held (Below.refl _ _))
    (first | (go_at_call 9; refine (tkind_is hk.out _).mono ?_; rintro e w' ⟨rfl, hb⟩; have hk2 := keepF (by assumption) hb; clear hb))
  rename_i w2 hS
  replace T := T.keep hS.1
  clear hS c0 c1 c2 c3 d0 d1 e0 e1 e2 e3 f0 f1 f2 f3 lt h1
  obtain ⟨c0, c1, c2, c3, d0, d1, e0, e1, e2, e3, f0, f1, f2, f3, lt, h1⟩ := id T
  go_wp2
  exact bodyPost_ret (v := .tuple #[nullV, .string sMis]) (by simp [results, Tryz.results18, go_sem, *]) rfl ⟨rfl, (by repeat (first | exact Below.refl _ _ | assumption | refine Below.alloc ?_ (by first | (simp; done) | (simp; omega)) _ | refine Below.setCell ?_ (by first | (simp; done) | (simp; omega)) _ | refine Below.drew ?_ | refine below_drewN ?_ _))⟩
set_option maxHeartbeats 1000000 in
theorem tassign_m23 (N : Int) (S : ByteArray) (B : Bool) (b l : Int) (w : World) (hr : Hid (rightT b l = true)) (hk : Hid (kindT b l = 3)) :
    Calls Tryz.prog 18 #[val 2 0 S false, typ b l] w fun e w' => e = .returned (.tuple #[nullV, .string sMis]) ∧ Below w.heap.size w w' := by
  go_enter Tryz.func18, Tryz.ntmps18
  go_wp2_with fail
  refine (tright_is hr.out _).mono ?_
  rintro e w1 ⟨rfl, hb⟩
  have T := trio_first hb
  clear hb
  obtain ⟨c0, c1, c2, c3, d0, d1, e0, e1, e2, e3, f0, f1, f2, f3, lt, h1⟩ := id T
  go_wp2_with fail
  go_region_held3 (fun w' => Below w1.heap.size w1 w' ∧ w'.cell? ⟨w.heap.size, 0, none⟩ = some (.int .i64 2) ∧ w'.cell? ⟨w.heap.size + 1, 0, none⟩ = some (.int .i64 b) ∧ w'.cell? ⟨w.heap.size + 1, 1, none⟩ = some (.int .i64 l)) (first | exact T.held (by assumption) | exact T.held (Below.refl _ _).drew | exact T.held (Below.refl _ _))
    (first | (go_at_call 9; refine (tkind_is hk.out _).mono ?_; rintro e w' ⟨rfl, hb⟩; have hk2 := keepF (by assumption) hb; clear hb))
  rename_i w2 hS
  replace T := T.keep hS.1
  clear hS c0 c1 c2 c3 d0 d1 e0 e1 e2 e3 f0 f1 f2 f3 lt h1
  obtain ⟨c0, c1, c2, c3, d0, d1, e0, e1, e2, e3, f0, f1, f2, f3, lt, h1⟩ := id T
  go_wp2
  exact bodyPost_ret (v := .tuple #[nullV, .string sMis]) (by simp [results, Tryz.results18, go_sem, *]) rfl ⟨rfl, (by repeat (first | exact Below.refl _ _ | assumption | refine Below.alloc ?_ (by first | (simp; done) | (simp; omega)) _ | refine Below.setCell ?_ (by first | (simp; done) | (simp; omega)) _ | refine Below.drew ?_ | refine below_drewN ?_ _))⟩
set_option maxHeartbeats 1000000 in
theorem tassign_m31 (N : Int) (S : ByteArray) (B : Bool) (b l : Int) (w : World) (hr : Hid (rightT b l = true)) (hk : Hid (kindT b l = 1)) :
    Calls Tryz.prog 18 #[val 3 0 ⟨#[]⟩ B, typ b l] w fun e w' => e = .returned (.tuple #[nullV, .string sMis]) ∧ Below w.heap.size w w' := by
  go_enter Tryz.func18, Tryz.ntmps18
  go_wp2_with fail
  refine (tright_is hr.out _).mono ?_
  rintro e w1 ⟨rfl, hb⟩
  have T := trio_first hb
  clear hb
  obtain ⟨c0, c1, c2, c3, d0, d1, e0, e1, e2, e3, f0, f1, f2, f3, lt, h1⟩ := id T
  go_wp2_with fail
  go_region_held3 (fun w' => Below w1.heap.size w1 w' ∧ w'.cell? ⟨w.heap.size, 0, none⟩ = some (.int .i64 3) ∧ w'.cell? ⟨w.heap.size + 1, 0, none⟩ = some (.int .i64 b) ∧ w'.cell? ⟨w.heap.size + 1, 1, none⟩ = some (.int .i64 l)) (first | exact T.held (by assumption) | exact T.held (Below.refl _ _).drew | exact T.held (Below.refl _ _))
    (first | (go_at_call 9; refine (tkind_is hk.out _).mono ?_; rintro e w' ⟨rfl, hb⟩; have hk2 := keepF (by assumption) hb; clear hb))
  rename_i w2 hS
  replace T := T.keep hS.1
  clear hS c0 c1 c2 c3 d0 d1 e0 e1 e2 e3 f0 f1 f2 f3 lt h1
  obtain ⟨c0, c1, c2, c3, d0, d1, e0, e1, e2, e3, f0, f1, f2, f3, lt, h1⟩ := id T
  go_wp2
  exact bodyPost_ret (v := .tuple #[nullV, .string sMis]) (by simp [results, Tryz.results18, go_sem, *]) rfl ⟨rfl, (by repeat (first | exact Below.refl _ _ | assumption | refine Below.alloc ?_ (by first | (simp; done) | (simp; omega)) _ | refine Below.setCell ?_ (by first | (simp; done) | (simp; omega)) _ | refine Below.drew ?_ | refine below_drewN ?_ _))⟩
set_option maxHeartbeats 1000000 in
theorem tassign_m32 (N : Int) (S : ByteArray) (B : Bool) (b l : Int) (w : World) (hr : Hid (rightT b l = true)) (hk : Hid (kindT b l = 2)) :
    Calls Tryz.prog 18 #[val 3 0 ⟨#[]⟩ B, typ b l] w fun e w' => e = .returned (.tuple #[nullV, .string sMis]) ∧ Below w.heap.size w w' := by
  go_enter Tryz.func18, Tryz.ntmps18
  go_wp2_with fail
  refine (tright_is hr.out _).mono ?_
  rintro e w1 ⟨rfl, hb⟩
  have T := trio_first hb
  clear hb
  obtain ⟨c0, c1, c2, c3, d0, d1, e0, e1, e2, e3, f0, f1, f2, f3, lt, h1⟩ := id T
  go_wp2_with fail
  go_region_held3 (fun w' => Below w1.heap.size w1 w' ∧ w'.cell? ⟨w.heap.size, 0, none⟩ = some (.int .i64 3) ∧ w'.cell? ⟨w.heap.size + 1, 0, none⟩ = some (.int .i64 b) ∧ w'.cell? ⟨w.heap.size + 1, 1, none⟩ = some (.int .i64 l)) (first | exact T.held (by assumption) | exact T.held (Below.refl _ _).drew | exact T.held (Below.refl _ _))
    (first | (go_at_call 9; refine (tkind_is hk.out _).mono ?_; rintro e w' ⟨rfl, hb⟩; have hk2 := keepF (by assumption) hb; clear hb))
  rename_i w2 hS
  replace T := T.keep hS.1
  clear hS c0 c1 c2 c3 d0 d1 e0 e1 e2 e3 f0 f1 f2 f3 lt h1
  obtain ⟨c0, c1, c2, c3, d0, d1, e0, e1, e2, e3, f0, f1, f2, f3, lt, h1⟩ := id T
  go_wp2
  exact bodyPost_ret (v := .tuple #[nullV, .string sMis]) (by simp [results, Tryz.results18, go_sem, *]) rfl ⟨rfl, (by repeat (first | exact Below.refl _ _ | assumption | refine Below.alloc ?_ (by first | (simp; done) | (simp; omega)) _ | refine Below.setCell ?_ (by first | (simp; done) | (simp; omega)) _ | refine Below.drew ?_ | refine below_drewN ?_ _))⟩
set_option maxHeartbeats 1000000 in
theorem tassign_bool (B : Bool) (b l : Int) (w : World) (hr : Hid (rightT b l = true)) (hk : Hid (kindT b l = 3)) :
    Calls Tryz.prog 18 #[val 3 0 ⟨#[]⟩ B, typ b l] w fun e w' => e = .returned (.tuple #[val 3 0 ⟨#[]⟩ B, .string sDone]) ∧ Below w.heap.size w w' := by
  go_enter Tryz.func18, Tryz.ntmps18
  go_wp2_with fail
  refine (tright_is hr.out _).mono ?_
  rintro e w1 ⟨rfl, hb⟩
  have T := trio_first hb
  clear hb
  obtain ⟨c0, c1, c2, c3, d0, d1, e0, e1, e2, e3, f0, f1, f2, f3, lt, h1⟩ := id T
  go_wp2_with fail
  go_region_held3 (fun w' => Below w1.heap.size w1 w' ∧ w'.cell? ⟨w.heap.size, 0, none⟩ = some (.int .i64 3) ∧ w'.cell? ⟨w.heap.size + 1, 0, none⟩ = some (.int .i64 b) ∧ w'.cell? ⟨w.heap.size + 1, 1, none⟩ = some (.int .i64 l)) (first | exact T.held (by assumption) | exact T.held (Below.refl _ _).drew | exact T.held (Below.refl _ _))
    (first | (go_at_call 9; refine (tkind_is hk.out _).mono ?_; rintro e w' ⟨rfl, hb⟩; have hk2 := keepF (by assumption) hb; clear hb))
  rename_i w2 hS
  replace T := T.keep hS.1
  clear hS c0 c1 c2 c3 d0 d1 e0 e1 e2 e3 f0 f1 f2 f3 lt h1
  obtain ⟨c0, c1, c2, c3, d0, d1, e0, e1, e2, e3, f0, f1, f2, f3, lt, h1⟩ := id T
  go_wp2
  exact bodyPost_ret (v := .tuple #[val 3 0 ⟨#[]⟩ B, .string sDone]) (by simp [results, Tryz.results18, go_sem, *]) rfl ⟨rfl, (by repeat (first | exact Below.refl _ _ | assumption | refine Below.alloc ?_ (by first | (simp; done) | (simp; omega)) _ | refine Below.setCell ?_ (by first | (simp; done) | (simp; omega)) _ | refine Below.drew ?_ | refine below_drewN ?_ _))⟩
set_option maxHeartbeats 1000000 in
theorem tassign_num (N : Int) (b l : Int) (w : World) (hr : Hid (rightT b l = true)) (hk : Hid (kindT b l = 1)) (hn : Hid (-9223372036854775808 ≤ N ∧ N ≤ 9223372036854775807)) :
    Calls Tryz.prog 18 #[val 1 N ⟨#[]⟩ false, typ b l] w fun e w' => e = .returned ((numA N b).ret) ∧ Below w.heap.size w w' := by
  generalize hA : numA N b = A
  go_enter Tryz.func18, Tryz.ntmps18
  go_wp2_with fail
  refine (tright_is hr.out _).mono ?_
  rintro e w1 ⟨rfl, hb⟩
  have T := trio_first hb
  clear hb
  obtain ⟨c0, c1, c2, c3, d0, d1, e0, e1, e2, e3, f0, f1, f2, f3, lt, h1⟩ := id T
  go_wp2_with fail
  go_region_held3 (fun w' => Below w1.heap.size w1 w' ∧ w'.cell? ⟨w.heap.size, 0, none⟩ = some (.int .i64 1) ∧ w'.cell? ⟨w.heap.size + 1, 0, none⟩ = some (.int .i64 b) ∧ w'.cell? ⟨w.heap.size + 1, 1, none⟩ = some (.int .i64 l)) (first | exact T.held (by assumption) | exact T.held (Below.refl _ _).drew | exact T.held (Below.refl _ _))
    (first | (go_at_call 9; refine (tkind_is hk.out _).mono ?_; rintro e w' ⟨rfl, hb⟩; have hk2 := keepF (by assumption) hb; clear hb))
  rename_i w2 hS
  replace T := T.keep hS.1
  clear hS c0 c1 c2 c3 d0 d1 e0 e1 e2 e3 f0 f1 f2 f3 lt h1
  obtain ⟨c0, c1, c2, c3, d0, d1, e0, e1, e2, e3, f0, f1, f2, f3, lt, h1⟩ := id T
  go_wp2_with (go_at_call 51; refine (tnum_any N b l _ hn.out).mono ?_; rw [hA]; rintro e w3 ⟨rfl, hb⟩; replace T := T.keep hb; clear hb c0 c1 c2 c3 d0 d1 e0 e1 e2 e3 f0 f1 f2 f3 lt h1; obtain ⟨c0, c1, c2, c3, d0, d1, e0, e1, e2, e3, f0, f1, f2, f3, lt, h1⟩ := T)
  exact bodyPost_ret (v := A.ret) (by simp [results, Tryz.results18, go_sem, *]) rfl ⟨rfl, ((by repeat (first | exact Below.refl _ _ | assumption | refine Below.alloc ?_ (by first | (simp; done) | (simp; omega)) _ | refine Below.setCell ?_ (by first | (simp; done) | (simp; omega)) _ | refine Below.drew ?_ | refine below_drewN ?_ _)))⟩
set_option maxHeartbeats 1000000 in
theorem tassign_text (S : ByteArray) (b l : Int) (w : World) (hr : Hid (rightT b l = true)) (hk : Hid (kindT b l = 2)) (hl : Hid (1 ≤ l ∧ l ≤ 100)) (hs : Hid (S.size ≤ maxLen)) :
    Calls Tryz.prog 18 #[val 2 0 S false, typ b l] w fun e w' => e = .returned ((textA S.data.toList b l).ret) ∧ Below w.heap.size w w' := by
  generalize hA : textA S.data.toList b l = A
  go_enter Tryz.func18, Tryz.ntmps18
  go_wp2_with fail
  refine (tright_is hr.out _).mono ?_
  rintro e w1 ⟨rfl, hb⟩
  have T := trio_first hb
  clear hb
  obtain ⟨c0, c1, c2, c3, d0, d1, e0, e1, e2, e3, f0, f1, f2, f3, lt, h1⟩ := id T
  go_wp2_with fail
  go_region_held3 (fun w' => Below w1.heap.size w1 w' ∧ w'.cell? ⟨w.heap.size, 0, none⟩ = some (.int .i64 2) ∧ w'.cell? ⟨w.heap.size + 1, 0, none⟩ = some (.int .i64 b) ∧ w'.cell? ⟨w.heap.size + 1, 1, none⟩ = some (.int .i64 l)) (first | exact T.held (by assumption) | exact T.held (Below.refl _ _).drew | exact T.held (Below.refl _ _))
    (first | (go_at_call 9; refine (tkind_is hk.out _).mono ?_; rintro e w' ⟨rfl, hb⟩; have hk2 := keepF (by assumption) hb; clear hb))
  rename_i w2 hS
  replace T := T.keep hS.1
  clear hS c0 c1 c2 c3 d0 d1 e0 e1 e2 e3 f0 f1 f2 f3 lt h1
  obtain ⟨c0, c1, c2, c3, d0, d1, e0, e1, e2, e3, f0, f1, f2, f3, lt, h1⟩ := id T
  go_wp2_with (go_at_call 52; refine (ttext_any S b l _ hl.out hs.out).mono ?_; rw [hA]; rintro e w3 ⟨rfl, hb⟩; replace T := T.keep hb; clear hb c0 c1 c2 c3 d0 d1 e0 e1 e2 e3 f0 f1 f2 f3 lt h1; obtain ⟨c0, c1, c2, c3, d0, d1, e0, e1, e2, e3, f0, f1, f2, f3, lt, h1⟩ := T)
  exact bodyPost_ret (v := A.ret) (by simp [results, Tryz.results18, go_sem, *]) rfl ⟨rfl, ((by repeat (first | exact Below.refl _ _ | assumption | refine Below.alloc ?_ (by first | (simp; done) | (simp; omega)) _ | refine Below.setCell ?_ (by first | (simp; done) | (simp; omega)) _ | refine Below.drew ?_ | refine below_drewN ?_ _)))⟩
theorem tassign_any (K N : Int) (S : ByteArray) (B : Bool) (b l : Int) (w : World) (hv : RightV K N S B) (hn : -9223372036854775808 ≤ N ∧ N ≤ 9223372036854775807) (hs : S.size ≤ maxLen) :
    Calls Tryz.prog 18 #[val K N S B, typ b l] w fun e w' => e = .returned ((assignA K N S.data.toList B b l).ret) ∧ Below w.heap.size w w' := by
  cases hr : rightT b l
  · rw [show assignA K N S.data.toList B b l = ansNo sMis by simp [assignA, kind_right, hr]]
    exact tassign_wrong K N S B b l w hr
  · rcases kind_of_right hr with ⟨hk, _⟩ | ⟨hk, _, hl⟩ | ⟨hk, _⟩
    · rcases hv with ⟨rfl, rfl, rfl, rfl⟩ | ⟨rfl, rfl, rfl⟩ | ⟨rfl, rfl, rfl⟩ | ⟨rfl, rfl, rfl⟩
      · rw [show assignA 0 0 (⟨#[]⟩ : ByteArray).data.toList false b l = ansNo sDone by simp [assignA, hk]]
        exact tassign_null b l w hr
      · rw [show assignA 1 N (⟨#[]⟩ : ByteArray).data.toList false b l = numA N b by simp [assignA, hk]]
        exact tassign_num N b l w hr hk hn
      · rw [show assignA 2 0 S.data.toList false b l = ansNo sMis by simp [assignA, hk]]
        exact tassign_m21 0 S false b l w hr hk
      · rw [show assignA 3 0 (⟨#[]⟩ : ByteArray).data.toList B b l = ansNo sMis by simp [assignA, hk]]
        exact tassign_m31 0 ⟨#[]⟩ B b l w hr hk
    · rcases hv with ⟨rfl, rfl, rfl, rfl⟩ | ⟨rfl, rfl, rfl⟩ | ⟨rfl, rfl, rfl⟩ | ⟨rfl, rfl, rfl⟩
      · rw [show assignA 0 0 (⟨#[]⟩ : ByteArray).data.toList false b l = ansNo sDone by simp [assignA, hk]]
        exact tassign_null b l w hr
      · rw [show assignA 1 N (⟨#[]⟩ : ByteArray).data.toList false b l = ansNo sMis by simp [assignA, hk]]
        exact tassign_m12 N ⟨#[]⟩ false b l w hr hk
      · rw [show assignA 2 0 S.data.toList false b l = textA S.data.toList b l by simp [assignA, hk]]
        exact tassign_text S b l w hr hk hl hs
      · rw [show assignA 3 0 (⟨#[]⟩ : ByteArray).data.toList B b l = ansNo sMis by simp [assignA, hk]]
        exact tassign_m32 0 ⟨#[]⟩ B b l w hr hk
    · rcases hv with ⟨rfl, rfl, rfl, rfl⟩ | ⟨rfl, rfl, rfl⟩ | ⟨rfl, rfl, rfl⟩ | ⟨rfl, rfl, rfl⟩
      · rw [show assignA 0 0 (⟨#[]⟩ : ByteArray).data.toList false b l = ansNo sDone by simp [assignA, hk]]
        exact tassign_null b l w hr
      · rw [show assignA 1 N (⟨#[]⟩ : ByteArray).data.toList false b l = ansNo sMis by simp [assignA, hk]]
        exact tassign_m13 N ⟨#[]⟩ false b l w hr hk
      · rw [show assignA 2 0 S.data.toList false b l = ansNo sMis by simp [assignA, hk]]
        exact tassign_m23 0 S false b l w hr hk
      · rw [show assignA 3 0 (⟨#[]⟩ : ByteArray).data.toList B b l = ansBool B by simp [assignA, hk]]
        exact tassign_bool B b l w hr hk
end Go.Proofs.YtfmnlgepllgpnaaGreatDoor

/- The walk of the document's Assign at every right value and every type. -/
import Derived.Test.YtfmnlgepllgpnaaGreatDoorT2Ref2
namespace Go.Proofs.YtfmnlgepllgpnaaGreatDoor
open Go.RowKit Go.Joins
set_option linter.unusedVariables false

set_option maxHeartbeats 2000000 in
theorem rassign_wrong (K N : Int) (S : ByteArray) (B : Bool) (b l : Int) (w : World) (hk : Hid (kindT b l = 0)) :
    Calls Tryz.prog 23 #[val K N S B, typ b l] w fun e w' => e = .returned (.tuple #[nullV, .string sMis]) ∧ Below w.heap.size w w' := by
  go_enter Tryz.func23, Tryz.ntmps23
  go_wp2_with fail
  refine (rkind_is hk.out _).mono ?_
  rintro e w1 ⟨rfl, hb⟩
  have T := trio_first hb
  clear hb
  obtain ⟨c0, c1, c2, c3, d0, d1, e0, e1, e2, e3, f0, f1, f2, f3, lt, h1⟩ := id T
  go_wp2
  exact bodyPost_ret (v := .tuple #[nullV, .string sMis]) (by simp [results, Tryz.results23, go_sem, *]) rfl ⟨rfl, (by repeat (first | exact Below.refl _ _ | assumption | refine Below.alloc ?_ (by first | (simp; done) | (simp; omega)) _ | refine Below.setCell ?_ (by first | (simp; done) | (simp; omega)) _ | refine Below.drew ?_ | refine below_drewN ?_ _))⟩
set_option maxHeartbeats 2000000 in
theorem rassign_01 (N : Int) (S : ByteArray) (B : Bool) (b l : Int) (w : World) (hk : Hid (kindT b l = 1)) :
    Calls Tryz.prog 23 #[val 0 0 ⟨#[]⟩ false, typ b l] w fun e w' => e = .returned (.tuple #[nullV, .string sDone]) ∧ Below w.heap.size w w' := by
  go_enter Tryz.func23, Tryz.ntmps23
  go_wp2_with fail
  refine (rkind_is hk.out _).mono ?_
  rintro e w1 ⟨rfl, hb⟩
  have T := trio_first hb
  clear hb
  obtain ⟨c0, c1, c2, c3, d0, d1, e0, e1, e2, e3, f0, f1, f2, f3, lt, h1⟩ := id T
  go_wp2
  exact bodyPost_ret (v := .tuple #[nullV, .string sDone]) (by simp [results, Tryz.results23, go_sem, *]) rfl ⟨rfl, (by repeat (first | exact Below.refl _ _ | assumption | refine Below.alloc ?_ (by first | (simp; done) | (simp; omega)) _ | refine Below.setCell ?_ (by first | (simp; done) | (simp; omega)) _ | refine Below.drew ?_ | refine below_drewN ?_ _))⟩
set_option maxHeartbeats 2000000 in
theorem rassign_21 (N : Int) (S : ByteArray) (B : Bool) (b l : Int) (w : World) (hk : Hid (kindT b l = 1)) :
    Calls Tryz.prog 23 #[val 2 0 S false, typ b l] w fun e w' => e = .returned (.tuple #[nullV, .string sMis]) ∧ Below w.heap.size w w' := by
  go_enter Tryz.func23, Tryz.ntmps23
  go_wp2_with fail
  refine (rkind_is hk.out _).mono ?_
  rintro e w1 ⟨rfl, hb⟩
  have T := trio_first hb
  clear hb
  obtain ⟨c0, c1, c2, c3, d0, d1, e0, e1, e2, e3, f0, f1, f2, f3, lt, h1⟩ := id T
  go_wp2
  exact bodyPost_ret (v := .tuple #[nullV, .string sMis]) (by simp [results, Tryz.results23, go_sem, *]) rfl ⟨rfl, (by repeat (first | exact Below.refl _ _ | assumption | refine Below.alloc ?_ (by first | (simp; done) | (simp; omega)) _ | refine Below.setCell ?_ (by first | (simp; done) | (simp; omega)) _ | refine Below.drew ?_ | refine below_drewN ?_ _))⟩
set_option maxHeartbeats 2000000 in
theorem rassign_31 (N : Int) (S : ByteArray) (B : Bool) (b l : Int) (w : World) (hk : Hid (kindT b l = 1)) :
    Calls Tryz.prog 23 #[val 3 0 ⟨#[]⟩ B, typ b l] w fun e w' => e = .returned (.tuple #[nullV, .string sMis]) ∧ Below w.heap.size w w' := by
  go_enter Tryz.func23, Tryz.ntmps23
  go_wp2_with fail
  refine (rkind_is hk.out _).mono ?_
  rintro e w1 ⟨rfl, hb⟩
  have T := trio_first hb
  clear hb
  obtain ⟨c0, c1, c2, c3, d0, d1, e0, e1, e2, e3, f0, f1, f2, f3, lt, h1⟩ := id T
  go_wp2
  exact bodyPost_ret (v := .tuple #[nullV, .string sMis]) (by simp [results, Tryz.results23, go_sem, *]) rfl ⟨rfl, (by repeat (first | exact Below.refl _ _ | assumption | refine Below.alloc ?_ (by first | (simp; done) | (simp; omega)) _ | refine Below.setCell ?_ (by first | (simp; done) | (simp; omega)) _ | refine Below.drew ?_ | refine below_drewN ?_ _))⟩
set_option maxHeartbeats 2000000 in
theorem rassign_02 (N : Int) (S : ByteArray) (B : Bool) (b l : Int) (w : World) (hk : Hid (kindT b l = 2)) :
    Calls Tryz.prog 23 #[val 0 0 ⟨#[]⟩ false, typ b l] w fun e w' => e = .returned (.tuple #[nullV, .string sDone]) ∧ Below w.heap.size w w' := by
  go_enter Tryz.func23, Tryz.ntmps23
  go_wp2_with fail
  refine (rkind_is hk.out _).mono ?_
  rintro e w1 ⟨rfl, hb⟩
  have T := trio_first hb
  clear hb
  obtain ⟨c0, c1, c2, c3, d0, d1, e0, e1, e2, e3, f0, f1, f2, f3, lt, h1⟩ := id T
  go_wp2
  exact bodyPost_ret (v := .tuple #[nullV, .string sDone]) (by simp [results, Tryz.results23, go_sem, *]) rfl ⟨rfl, (by repeat (first | exact Below.refl _ _ | assumption | refine Below.alloc ?_ (by first | (simp; done) | (simp; omega)) _ | refine Below.setCell ?_ (by first | (simp; done) | (simp; omega)) _ | refine Below.drew ?_ | refine below_drewN ?_ _))⟩
set_option maxHeartbeats 2000000 in
theorem rassign_12 (N : Int) (S : ByteArray) (B : Bool) (b l : Int) (w : World) (hk : Hid (kindT b l = 2)) :
    Calls Tryz.prog 23 #[val 1 N ⟨#[]⟩ false, typ b l] w fun e w' => e = .returned (.tuple #[nullV, .string sMis]) ∧ Below w.heap.size w w' := by
  go_enter Tryz.func23, Tryz.ntmps23
  go_wp2_with fail
  refine (rkind_is hk.out _).mono ?_
  rintro e w1 ⟨rfl, hb⟩
  have T := trio_first hb
  clear hb
  obtain ⟨c0, c1, c2, c3, d0, d1, e0, e1, e2, e3, f0, f1, f2, f3, lt, h1⟩ := id T
  go_wp2
  exact bodyPost_ret (v := .tuple #[nullV, .string sMis]) (by simp [results, Tryz.results23, go_sem, *]) rfl ⟨rfl, (by repeat (first | exact Below.refl _ _ | assumption | refine Below.alloc ?_ (by first | (simp; done) | (simp; omega)) _ | refine Below.setCell ?_ (by first | (simp; done) | (simp; omega)) _ | refine Below.drew ?_ | refine below_drewN ?_ _))⟩
set_option maxHeartbeats 2000000 in
theorem rassign_32 (N : Int) (S : ByteArray) (B : Bool) (b l : Int) (w : World) (hk : Hid (kindT b l = 2)) :
    Calls Tryz.prog 23 #[val 3 0 ⟨#[]⟩ B, typ b l] w fun e w' => e = .returned (.tuple #[nullV, .string sMis]) ∧ Below w.heap.size w w' := by
  go_enter Tryz.func23, Tryz.ntmps23
  go_wp2_with fail
  refine (rkind_is hk.out _).mono ?_
  rintro e w1 ⟨rfl, hb⟩
  have T := trio_first hb
  clear hb
  obtain ⟨c0, c1, c2, c3, d0, d1, e0, e1, e2, e3, f0, f1, f2, f3, lt, h1⟩ := id T
  go_wp2
  exact bodyPost_ret (v := .tuple #[nullV, .string sMis]) (by simp [results, Tryz.results23, go_sem, *]) rfl ⟨rfl, (by repeat (first | exact Below.refl _ _ | assumption | refine Below.alloc ?_ (by first | (simp; done) | (simp; omega)) _ | refine Below.setCell ?_ (by first | (simp; done) | (simp; omega)) _ | refine Below.drew ?_ | refine below_drewN ?_ _))⟩
set_option maxHeartbeats 2000000 in
theorem rassign_03 (N : Int) (S : ByteArray) (B : Bool) (b l : Int) (w : World) (hk : Hid (kindT b l = 3)) :
    Calls Tryz.prog 23 #[val 0 0 ⟨#[]⟩ false, typ b l] w fun e w' => e = .returned (.tuple #[nullV, .string sDone]) ∧ Below w.heap.size w w' := by
  go_enter Tryz.func23, Tryz.ntmps23
  go_wp2_with fail
  refine (rkind_is hk.out _).mono ?_
  rintro e w1 ⟨rfl, hb⟩
  have T := trio_first hb
  clear hb
  obtain ⟨c0, c1, c2, c3, d0, d1, e0, e1, e2, e3, f0, f1, f2, f3, lt, h1⟩ := id T
  go_wp2
  exact bodyPost_ret (v := .tuple #[nullV, .string sDone]) (by simp [results, Tryz.results23, go_sem, *]) rfl ⟨rfl, (by repeat (first | exact Below.refl _ _ | assumption | refine Below.alloc ?_ (by first | (simp; done) | (simp; omega)) _ | refine Below.setCell ?_ (by first | (simp; done) | (simp; omega)) _ | refine Below.drew ?_ | refine below_drewN ?_ _))⟩
set_option maxHeartbeats 2000000 in
theorem rassign_13 (N : Int) (S : ByteArray) (B : Bool) (b l : Int) (w : World) (hk : Hid (kindT b l = 3)) :
    Calls Tryz.prog 23 #[val 1 N ⟨#[]⟩ false, typ b l] w fun e w' => e = .returned (.tuple #[nullV, .string sMis]) ∧ Below w.heap.size w w' := by
  go_enter Tryz.func23, Tryz.ntmps23
  go_wp2_with fail
  refine (rkind_is hk.out _).mono ?_
  rintro e w1 ⟨rfl, hb⟩
  have T := trio_first hb
  clear hb
  obtain ⟨c0, c1, c2, c3, d0, d1, e0, e1, e2, e3, f0, f1, f2, f3, lt, h1⟩ := id T
  go_wp2
  exact bodyPost_ret (v := .tuple #[nullV, .string sMis]) (by simp [results, Tryz.results23, go_sem, *]) rfl ⟨rfl, (by repeat (first | exact Below.refl _ _ | assumption | refine Below.alloc ?_ (by first | (simp; done) | (simp; omega)) _ | refine Below.setCell ?_ (by first | (simp; done) | (simp; omega)) _ | refine Below.drew ?_ | refine below_drewN ?_ _))⟩
set_option maxHeartbeats 2000000 in
theorem rassign_23 (N : Int) (S : ByteArray) (B : Bool) (b l : Int) (w : World) (hk : Hid (kindT b l = 3)) :
    Calls Tryz.prog 23 #[val 2 0 S false, typ b l] w fun e w' => e = .returned (.tuple #[nullV, .string sMis]) ∧ Below w.heap.size w w' := by
  go_enter Tryz.func23, Tryz.ntmps23
  go_wp2_with fail
  refine (rkind_is hk.out _).mono ?_
  rintro e w1 ⟨rfl, hb⟩
  have T := trio_first hb
  clear hb
  obtain ⟨c0, c1, c2, c3, d0, d1, e0, e1, e2, e3, f0, f1, f2, f3, lt, h1⟩ := id T
  go_wp2
  exact bodyPost_ret (v := .tuple #[nullV, .string sMis]) (by simp [results, Tryz.results23, go_sem, *]) rfl ⟨rfl, (by repeat (first | exact Below.refl _ _ | assumption | refine Below.alloc ?_ (by first | (simp; done) | (simp; omega)) _ | refine Below.setCell ?_ (by first | (simp; done) | (simp; omega)) _ | refine Below.drew ?_ | refine below_drewN ?_ _))⟩
set_option maxHeartbeats 2000000 in
theorem rassign_33 (N : Int) (S : ByteArray) (B : Bool) (b l : Int) (w : World) (hk : Hid (kindT b l = 3)) :
    Calls Tryz.prog 23 #[val 3 0 ⟨#[]⟩ B, typ b l] w fun e w' => e = .returned (.tuple #[val 3 0 ⟨#[]⟩ B, .string sDone]) ∧ Below w.heap.size w w' := by
  go_enter Tryz.func23, Tryz.ntmps23
  go_wp2_with fail
  refine (rkind_is hk.out _).mono ?_
  rintro e w1 ⟨rfl, hb⟩
  have T := trio_first hb
  clear hb
  obtain ⟨c0, c1, c2, c3, d0, d1, e0, e1, e2, e3, f0, f1, f2, f3, lt, h1⟩ := id T
  go_wp2
  exact bodyPost_ret (v := .tuple #[val 3 0 ⟨#[]⟩ B, .string sDone]) (by simp [results, Tryz.results23, go_sem, *]) rfl ⟨rfl, (by repeat (first | exact Below.refl _ _ | assumption | refine Below.alloc ?_ (by first | (simp; done) | (simp; omega)) _ | refine Below.setCell ?_ (by first | (simp; done) | (simp; omega)) _ | refine Below.drew ?_ | refine below_drewN ?_ _))⟩
set_option maxHeartbeats 2000000 in
theorem rassign_11y (N : Int) (S : ByteArray) (B : Bool) (b l : Int) (w : World) (hk : Hid (kindT b l = 1)) (hf : Hid (fitsT N b = true)) :
    Calls Tryz.prog 23 #[val 1 N ⟨#[]⟩ false, typ b l] w fun e w' => e = .returned (.tuple #[val 1 N ⟨#[]⟩ false, .string sDone]) ∧ Below w.heap.size w w' := by
  go_enter Tryz.func23, Tryz.ntmps23
  go_wp2_with fail
  refine (rkind_is hk.out _).mono ?_
  rintro e w1 ⟨rfl, hb⟩
  have T := trio_first hb
  clear hb
  obtain ⟨c0, c1, c2, c3, d0, d1, e0, e1, e2, e3, f0, f1, f2, f3, lt, h1⟩ := id T
  go_wp2_with (go_at_call 54; refine (rfits_any N b l _).mono ?_; rw [hf.out]; rintro e w2 ⟨rfl, hb⟩; replace T := T.keep hb; clear hb c0 c1 c2 c3 d0 d1 e0 e1 e2 e3 f0 f1 f2 f3 lt h1; obtain ⟨c0, c1, c2, c3, d0, d1, e0, e1, e2, e3, f0, f1, f2, f3, lt, h1⟩ := id T)
  exact bodyPost_ret (v := .tuple #[val 1 N ⟨#[]⟩ false, .string sDone]) (by simp [results, Tryz.results23, go_sem, *]) rfl ⟨rfl, (by repeat (first | exact Below.refl _ _ | assumption | refine Below.alloc ?_ (by first | (simp; done) | (simp; omega)) _ | refine Below.setCell ?_ (by first | (simp; done) | (simp; omega)) _ | refine Below.drew ?_ | refine below_drewN ?_ _))⟩
set_option maxHeartbeats 2000000 in
theorem rassign_11n (N : Int) (S : ByteArray) (B : Bool) (b l : Int) (w : World) (hk : Hid (kindT b l = 1)) (hf : Hid (fitsT N b = false)) :
    Calls Tryz.prog 23 #[val 1 N ⟨#[]⟩ false, typ b l] w fun e w' => e = .returned (.tuple #[nullV, .string sOut]) ∧ Below w.heap.size w w' := by
  go_enter Tryz.func23, Tryz.ntmps23
  go_wp2_with fail
  refine (rkind_is hk.out _).mono ?_
  rintro e w1 ⟨rfl, hb⟩
  have T := trio_first hb
  clear hb
  obtain ⟨c0, c1, c2, c3, d0, d1, e0, e1, e2, e3, f0, f1, f2, f3, lt, h1⟩ := id T
  go_wp2_with (go_at_call 54; refine (rfits_any N b l _).mono ?_; rw [hf.out]; rintro e w2 ⟨rfl, hb⟩; replace T := T.keep hb; clear hb c0 c1 c2 c3 d0 d1 e0 e1 e2 e3 f0 f1 f2 f3 lt h1; obtain ⟨c0, c1, c2, c3, d0, d1, e0, e1, e2, e3, f0, f1, f2, f3, lt, h1⟩ := id T)
  exact bodyPost_ret (v := .tuple #[nullV, .string sOut]) (by simp [results, Tryz.results23, go_sem, *]) rfl ⟨rfl, (by repeat (first | exact Below.refl _ _ | assumption | refine Below.alloc ?_ (by first | (simp; done) | (simp; omega)) _ | refine Below.setCell ?_ (by first | (simp; done) | (simp; omega)) _ | refine Below.drew ?_ | refine below_drewN ?_ _))⟩
theorem text_step {u : ByteArray} {b : Int} {m : Nat} (h : m < u.size) (h0 : 0 < u.size) (hc : (u[u.size - 1].toNat : Int) = 32) : textA (u.extract 0 (u.size - 1)).data.toList b m = textA u.data.toList b m := by
  have h1 : u.data.toList = (u.extract 0 (u.size - 1)).data.toList ++ [32] := by
    rw [ext_list, split_last u h0]
    have : u[u.size - 1] = 32 := UInt8.toNat_inj.1 (by simpa using (by omega : u[u.size - 1].toNat = 32))
    rw [this]
    simp
  have hz : (u.extract 0 (u.size - 1)).data.toList.length = u.size - 1 := by rw [ext_list]; simp
  rw [h1]
  generalize (u.extract 0 (u.size - 1)).data.toList = L at hz ⊢
  unfold textA
  rw [List.length_append, hz, List.length_singleton]
  have hd : List.drop (m : Int).toNat (L ++ [32]) = List.drop m L ++ [32] := by
    rw [show (m : Int).toNat = m by omega, List.drop_append_of_le_length (by omega)]
  have ht : List.take (m : Int).toNat (L ++ [32]) = List.take m L := by
    rw [show (m : Int).toNat = m by omega, List.take_append_of_le_length (by omega)]
  rw [if_neg (by omega : ¬ ((u.size - 1 + 1 : Nat) : Int) ≤ m), hd, ht, trimL_blank]
  by_cases h2 : u.size - 1 ≤ m
  · rw [if_pos (by omega), List.drop_eq_nil_of_le (by omega), if_pos (by rfl), List.take_of_length_le (by omega)]
  · rw [if_neg (by omega)]
    rfl
theorem text_long {u : ByteArray} {b : Int} {m : Nat} (h : m < u.size) (h0 : 0 < u.size) (hc : ¬ (u[u.size - 1].toNat : Int) = 32) : textA u.data.toList b m = ansNo sLong := by
  have hz : u.data.toList.length = u.size := by simp
  unfold textA
  rw [hz, if_neg (by omega), if_neg]
  rw [show (m : Int).toNat = m by omega, split_last u h0, List.drop_append_of_le_length (by rw [List.length_take]; omega), trimL_other _ _ (by
    rw [beq_eq_false_iff_ne]
    intro e
    apply hc
    rw [e]; rfl)]
  simp
theorem text_short {u : ByteArray} {b : Int} {m : Nat} (h : ¬ m < u.size) : textA u.data.toList b m = ansText (padL u.data.toList b m) := by
  have hz : u.data.toList.length = u.size := by simp
  unfold textA
  rw [hz, if_pos (by omega)]
set_option maxHeartbeats 2000000 in
theorem rassign_22 (S : ByteArray) (b : Int) (m : Nat) (w : World) (hm : 1 ≤ m ∧ m ≤ 100) (hs : S.size ≤ 9223372036854775000) (hk : Hid (kindT b m = 2)) :
    Calls Tryz.prog 23 #[val 2 0 S false, typ b m] w fun e w' => e = .returned ((textA S.data.toList b m).ret) ∧ Below w.heap.size w w' := by
  generalize hA : textA S.data.toList b m = A
  have HA : Hid _ := hA
  clear hA
  go_enter Tryz.func23, Tryz.ntmps23
  go_wp2_with fail
  refine (rkind_is hk.out _).mono ?_
  rintro e w1 ⟨rfl, hb⟩
  have T := trio_first hb
  clear hb
  obtain ⟨c0, c1, c2, c3, d0, d1, e0, e1, e2, e3, f0, f1, f2, f3, lt, h1⟩ := id T
  go_wp2
  go_loop [8] (fun v => ∃ u : ByteArray, v = .string u ∧ u.size ≤ S.size ∧ textA u.data.toList b m = A) sizeV
  case atStart => exact ⟨S, rfl, Nat.le_refl _, HA.out⟩
  case round =>
    obtain ⟨u, rfl, hz, hT⟩ := hrel
    have HT : Hid _ := hT
    clear hT
    by_cases h0 : m < u.size
    · have h2 : 0 < u.size := by omega
      by_cases hc : (u[u.size - 1].toNat : Int) = 32
      · go_wp2
        refine ⟨⟨_, rfl, by simp; omega, (text_step h0 h2 hc).trans HT.out⟩, by rw [sizeV_str, sizeV_str]; simp; omega⟩
      · have E : Hid (A = ansNo sLong) := by show _ = _; rw [← HT.out, text_long h0 h2 hc]
        go_wp2
        exact bodyPost_ret (v := .tuple #[nullV, .string sLong]) (by simp [results, Tryz.results23, go_sem, *]) rfl ⟨by rw [E.out]; rfl, (by repeat (first | exact Below.refl _ _ | assumption | refine Below.alloc ?_ (by first | (simp; done) | (simp; omega)) _ | refine Below.setCell ?_ (by first | (simp; done) | (simp; omega)) _ | refine Below.drew ?_ | refine below_drewN ?_ _))⟩
    · have E : Hid (A = ansText (padL u.data.toList b m)) := by show _ = _; rw [← HT.out, text_short h0]
      go_wp2_with (go_at_call 24; refine (rpad_any u b m _ ⟨by omega, by omega⟩ (by omega)).mono ?_; rintro e w2 ⟨rfl, hb⟩; replace T := T.keep hb; clear hb c0 c1 c2 c3 d0 d1 e0 e1 e2 e3 f0 f1 f2 f3 lt h1; obtain ⟨c0, c1, c2, c3, d0, d1, e0, e1, e2, e3, f0, f1, f2, f3, lt, h1⟩ := id T)
      exact bodyPost_ret (v := .tuple #[val 2 0 ⟨(padL u.data.toList b m).toArray⟩ false, .string sDone]) (by simp [results, Tryz.results23, go_sem, *]) rfl ⟨by rw [E.out]; rfl, (by repeat (first | exact Below.refl _ _ | assumption | refine Below.alloc ?_ (by first | (simp; done) | (simp; omega)) _ | refine Below.setCell ?_ (by first | (simp; done) | (simp; omega)) _ | refine Below.drew ?_ | refine below_drewN ?_ _))⟩
theorem kind_zero {b l : Int} (h : rightT b l = false) : kindT b l = 0 := by simp [kindT, h]
theorem rassign_any (K N : Int) (S : ByteArray) (B : Bool) (b l : Int) (w : World) (hv : RightV K N S B) (hs : S.size ≤ 9223372036854775000) :
    Calls Tryz.prog 23 #[val K N S B, typ b l] w fun e w' => e = .returned ((assignA K N S.data.toList B b l).ret) ∧ Below w.heap.size w w' := by
  cases hr : rightT b l
  · rw [show assignA K N S.data.toList B b l = ansNo sMis by simp [assignA, kind_right, hr]]
    exact rassign_wrong K N S B b l w (kind_zero hr)
  · rcases kind_of_right hr with ⟨hk, _⟩ | ⟨hk, _, hl⟩ | ⟨hk, _⟩
    · rcases hv with ⟨rfl, rfl, rfl, rfl⟩ | ⟨rfl, rfl, rfl⟩ | ⟨rfl, rfl, rfl⟩ | ⟨rfl, rfl, rfl⟩
      · rw [show assignA 0 0 (⟨#[]⟩ : ByteArray).data.toList false b l = ansNo sDone by simp [assignA, hk]]
        exact rassign_01 0 ⟨#[]⟩ false b l w hk
      · cases hf : fitsT N b
        · rw [show assignA 1 N (⟨#[]⟩ : ByteArray).data.toList false b l = ansNo sOut by simp [assignA, hk, numA, hf]]
          exact rassign_11n N ⟨#[]⟩ false b l w hk hf
        · rw [show assignA 1 N (⟨#[]⟩ : ByteArray).data.toList false b l = ansNum N by simp [assignA, hk, numA, hf]]
          exact rassign_11y N ⟨#[]⟩ false b l w hk hf
      · rw [show assignA 2 0 S.data.toList false b l = ansNo sMis by simp [assignA, hk]]
        exact rassign_21 0 S false b l w hk
      · rw [show assignA 3 0 (⟨#[]⟩ : ByteArray).data.toList B b l = ansNo sMis by simp [assignA, hk]]
        exact rassign_31 0 ⟨#[]⟩ B b l w hk
    · rcases hv with ⟨rfl, rfl, rfl, rfl⟩ | ⟨rfl, rfl, rfl⟩ | ⟨rfl, rfl, rfl⟩ | ⟨rfl, rfl, rfl⟩
      · rw [show assignA 0 0 (⟨#[]⟩ : ByteArray).data.toList false b l = ansNo sDone by simp [assignA, hk]]
        exact rassign_02 0 ⟨#[]⟩ false b l w hk
      · rw [show assignA 1 N (⟨#[]⟩ : ByteArray).data.toList false b l = ansNo sMis by simp [assignA, hk]]
        exact rassign_12 N ⟨#[]⟩ false b l w hk
      · obtain ⟨m, rfl⟩ := Int.eq_ofNat_of_zero_le (a := l) (by omega)
        rw [show assignA 2 0 S.data.toList false b m = textA S.data.toList b m by simp [assignA, hk]]
        exact rassign_22 S b m w (by omega) hs hk
      · rw [show assignA 3 0 (⟨#[]⟩ : ByteArray).data.toList B b l = ansNo sMis by simp [assignA, hk]]
        exact rassign_32 0 ⟨#[]⟩ B b l w hk
    · rcases hv with ⟨rfl, rfl, rfl, rfl⟩ | ⟨rfl, rfl, rfl⟩ | ⟨rfl, rfl, rfl⟩ | ⟨rfl, rfl, rfl⟩
      · rw [show assignA 0 0 (⟨#[]⟩ : ByteArray).data.toList false b l = ansNo sDone by simp [assignA, hk]]
        exact rassign_03 0 ⟨#[]⟩ false b l w hk
      · rw [show assignA 1 N (⟨#[]⟩ : ByteArray).data.toList false b l = ansNo sMis by simp [assignA, hk]]
        exact rassign_13 N ⟨#[]⟩ false b l w hk
      · rw [show assignA 2 0 S.data.toList false b l = ansNo sMis by simp [assignA, hk]]
        exact rassign_23 0 S false b l w hk
      · rw [show assignA 3 0 (⟨#[]⟩ : ByteArray).data.toList B b l = ansBool B by simp [assignA, hk]]
        exact rassign_33 0 ⟨#[]⟩ B b l w hk
end Go.Proofs.YtfmnlgepllgpnaaGreatDoor

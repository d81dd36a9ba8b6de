/- The walks of the document's Digits, Name and Assign. -/
import Derived.Test.YtleenjdkgbhfiaaGreatDoorT2Ref
namespace Go.Proofs.YtleenjdkgbhfiaaGreatDoor
open Go.RowKit Go.Joins
set_option linter.unusedVariables false

set_option maxHeartbeats 1000000 in
theorem rdig_pos (U : Nat) (w : World) (h : U ≤ 9223372036854775807) :
    Calls Tryz.prog 26 #[.int .i64 U] w fun e w' => e = .returned (.string ((⟨#[]⟩ : ByteArray) ++ ⟨(Lib.decDigits U).toArray⟩)) ∧ Below w.heap.size w w' := by
  go_enter Tryz.func26, Tryz.ntmps26
  have e1 : (-(U : Int) - 1 + 1) = -(U : Int) := by omega
  go_wp2_with (go_at_call 49; refine (rfig_any U ⟨#[]⟩ _ (by omega) (by decide)).mono ?_; rintro e w1 ⟨rfl, hb⟩)
  go_ret
  exact ⟨rfl, hb⟩
set_option maxHeartbeats 1000000 in
theorem rdig_neg (U : Nat) (w : World) (h : U ≤ 9223372036854775808) (h1 : 1 ≤ U) :
    Calls Tryz.prog 26 #[.int .i64 (-(U : Int))] w fun e w' => e = .returned (.string ((⟨#[45]⟩ : ByteArray) ++ ⟨(Lib.decDigits U).toArray⟩)) ∧ Below w.heap.size w w' := by
  go_enter Tryz.func26, Tryz.ntmps26
  go_wp2_with (go_at_call 49; refine (rfig_any U ⟨#[45]⟩ _ h (by decide)).mono ?_; rintro e w1 ⟨rfl, hb⟩)
  go_ret
  exact ⟨rfl, hb⟩
theorem rdig_any (n : Int) (w : World) (h : -9223372036854775808 ≤ n ∧ n ≤ 9223372036854775807) :
    Calls Tryz.prog 26 #[.int .i64 n] w fun e w' => e = .returned (.string (itoaB n)) ∧ Below w.heap.size w w' := by
  by_cases h0 : 0 ≤ n
  · obtain ⟨U, rfl⟩ := Int.eq_ofNat_of_zero_le h0
    refine (rdig_pos U w (by omega)).mono fun e w' ⟨he, hb⟩ => ⟨?_, hb⟩
    rw [he]
    refine ret_s ?_
    apply ByteArray.ext
    simp [itoaB, Lib.itoa]
  · obtain ⟨U, hU⟩ := Int.eq_ofNat_of_zero_le (a := -n) (by omega)
    obtain rfl : n = -(U : Int) := by omega
    refine (rdig_neg U w (by omega) (by omega)).mono fun e w' ⟨he, hb⟩ => ⟨?_, hb⟩
    rw [he]
    refine ret_s ?_
    apply ByteArray.ext
    simp [itoaB, Lib.itoa]
    intro h0; omega
theorem rright_is {b l : Int} {r : Bool} (h : rightT b l = r) (w : World) :
    Calls Tryz.prog 11 #[typ b l] w fun e w' => e = .returned (.bool r) ∧ Below w.heap.size w w' := by
  have := rright_any b l w
  rw [h] at this
  exact this
theorem rkind_is {b l kd : Int} (h : kindT b l = kd) (w : World) :
    Calls Tryz.prog 15 #[typ b l] w fun e w' => e = .returned (.int .i64 kd) ∧ Below w.heap.size w w' := by
  have := rkind_any b l w
  rw [h] at this
  exact this
set_option maxHeartbeats 1000000 in
theorem rname_wrong (b l : Int) (w : World) (hr : Hid (rightT b l = false)) :
    Calls Tryz.prog 13 #[typ b l] w fun e w' => e = .returned (.string ⟨#[]⟩) ∧ Below w.heap.size w w' := by
  go_enter Tryz.func13, Tryz.ntmps13
  go_wp2_with (go_at_call 11; refine (rright_is hr.out _).mono ?_; rintro e w1 ⟨rfl, hb⟩)
  go_ret
  exact ⟨rfl, (by repeat (first | exact Below.refl _ _ | assumption | refine Below.alloc ?_ (by first | (simp; done) | (simp; omega)) _ | refine Below.setCell ?_ (by first | (simp; done) | (simp; omega)) _ | refine Below.drew ?_ | refine below_drewN ?_ _ | refine Below.trans ?_ (hb.mono (by first | (simp; done) | (simp; omega)))))⟩
set_option maxHeartbeats 1000000 in
theorem rname_1 (w : World) :
    Calls Tryz.prog 13 #[typ 1 0] w fun e w' => e = .returned (.string ⟨#[115, 109, 97, 108, 108, 105, 110, 116]⟩) ∧ Below w.heap.size w w' := by
  have h2 : Hid (-9223372036854775808 ≤ (0 : Int) ∧ (0 : Int) ≤ 9223372036854775807) := by show _ ∧ _; omega
  have hz := itoaB_size h2.out
  go_enter Tryz.func13, Tryz.ntmps13
  go_wp2_with fail
  refine (rright_is (show rightT 1 0 = true from rfl) _).mono ?_
  rintro e w1 ⟨rfl, hb⟩
  obtain ⟨d0, d1, h1⟩ := mono_keep hb
  clear hb
  go_wp2_with (go_at_call 26; refine (rdig_any 0 _ h2.out).mono ?_; rintro e w2 ⟨rfl, hb⟩; replace d0 := cell_keep hb d0; replace d1 := cell_keep hb d1; replace h1 := keepA h1 hb; clear hb; have lt1 := World.block_lt_of_cell? w2 _ d0)
  go_ret
  exact ⟨rfl, below_alloc h1 _⟩
set_option maxHeartbeats 1000000 in
theorem rname_2 (w : World) :
    Calls Tryz.prog 13 #[typ 2 0] w fun e w' => e = .returned (.string ⟨#[105, 110, 116, 101, 103, 101, 114]⟩) ∧ Below w.heap.size w w' := by
  have h2 : Hid (-9223372036854775808 ≤ (0 : Int) ∧ (0 : Int) ≤ 9223372036854775807) := by show _ ∧ _; omega
  have hz := itoaB_size h2.out
  go_enter Tryz.func13, Tryz.ntmps13
  go_wp2_with fail
  refine (rright_is (show rightT 2 0 = true from rfl) _).mono ?_
  rintro e w1 ⟨rfl, hb⟩
  obtain ⟨d0, d1, h1⟩ := mono_keep hb
  clear hb
  go_wp2_with (go_at_call 26; refine (rdig_any 0 _ h2.out).mono ?_; rintro e w2 ⟨rfl, hb⟩; replace d0 := cell_keep hb d0; replace d1 := cell_keep hb d1; replace h1 := keepA h1 hb; clear hb; have lt1 := World.block_lt_of_cell? w2 _ d0)
  go_ret
  exact ⟨rfl, below_alloc h1 _⟩
set_option maxHeartbeats 1000000 in
theorem rname_3 (w : World) :
    Calls Tryz.prog 13 #[typ 3 0] w fun e w' => e = .returned (.string ⟨#[98, 105, 103, 105, 110, 116]⟩) ∧ Below w.heap.size w w' := by
  have h2 : Hid (-9223372036854775808 ≤ (0 : Int) ∧ (0 : Int) ≤ 9223372036854775807) := by show _ ∧ _; omega
  have hz := itoaB_size h2.out
  go_enter Tryz.func13, Tryz.ntmps13
  go_wp2_with fail
  refine (rright_is (show rightT 3 0 = true from rfl) _).mono ?_
  rintro e w1 ⟨rfl, hb⟩
  obtain ⟨d0, d1, h1⟩ := mono_keep hb
  clear hb
  go_wp2_with (go_at_call 26; refine (rdig_any 0 _ h2.out).mono ?_; rintro e w2 ⟨rfl, hb⟩; replace d0 := cell_keep hb d0; replace d1 := cell_keep hb d1; replace h1 := keepA h1 hb; clear hb; have lt1 := World.block_lt_of_cell? w2 _ d0)
  go_ret
  exact ⟨rfl, below_alloc h1 _⟩
set_option maxHeartbeats 1000000 in
theorem rname_4 (l : Int) (hl : Hid (1 ≤ l ∧ l ≤ 100)) (w : World) :
    Calls Tryz.prog 13 #[typ 4 l] w fun e w' => e = .returned (.string ⟨(([99, 104, 97, 114] : List UInt8) ++ ([40] ++ Lib.itoa l ++ [41])).toArray⟩) ∧ Below w.heap.size w w' := by
  have h2 : Hid (-9223372036854775808 ≤ (l : Int) ∧ (l : Int) ≤ 9223372036854775807) := by have := hl.out; show _ ∧ _; omega
  have hz := itoaB_size h2.out
  go_enter Tryz.func13, Tryz.ntmps13
  go_wp2_with fail
  refine (rright_is (show rightT 4 l = true by simp [rightT]; exact hl.out) _).mono ?_
  rintro e w1 ⟨rfl, hb⟩
  obtain ⟨d0, d1, h1⟩ := mono_keep hb
  clear hb
  go_wp2_with (go_at_call 26; refine (rdig_any l _ h2.out).mono ?_; rintro e w2 ⟨rfl, hb⟩; replace d0 := cell_keep hb d0; replace d1 := cell_keep hb d1; replace h1 := keepA h1 hb; clear hb; have lt1 := World.block_lt_of_cell? w2 _ d0)
  go_ret
  exact ⟨ret_s (name_cat _ l), below_alloc h1 _⟩
set_option maxHeartbeats 1000000 in
theorem rname_5 (l : Int) (hl : Hid (1 ≤ l ∧ l ≤ 100)) (w : World) :
    Calls Tryz.prog 13 #[typ 5 l] w fun e w' => e = .returned (.string ⟨(([118, 97, 114, 99, 104, 97, 114] : List UInt8) ++ ([40] ++ Lib.itoa l ++ [41])).toArray⟩) ∧ Below w.heap.size w w' := by
  have h2 : Hid (-9223372036854775808 ≤ (l : Int) ∧ (l : Int) ≤ 9223372036854775807) := by have := hl.out; show _ ∧ _; omega
  have hz := itoaB_size h2.out
  go_enter Tryz.func13, Tryz.ntmps13
  go_wp2_with fail
  refine (rright_is (show rightT 5 l = true by simp [rightT]; exact hl.out) _).mono ?_
  rintro e w1 ⟨rfl, hb⟩
  obtain ⟨d0, d1, h1⟩ := mono_keep hb
  clear hb
  go_wp2_with (go_at_call 26; refine (rdig_any l _ h2.out).mono ?_; rintro e w2 ⟨rfl, hb⟩; replace d0 := cell_keep hb d0; replace d1 := cell_keep hb d1; replace h1 := keepA h1 hb; clear hb; have lt1 := World.block_lt_of_cell? w2 _ d0)
  go_ret
  exact ⟨ret_s (name_cat _ l), below_alloc h1 _⟩
set_option maxHeartbeats 1000000 in
theorem rname_6 (w : World) :
    Calls Tryz.prog 13 #[typ 6 0] w fun e w' => e = .returned (.string ⟨#[98, 111, 111, 108, 101, 97, 110]⟩) ∧ Below w.heap.size w w' := by
  have h2 : Hid (-9223372036854775808 ≤ (0 : Int) ∧ (0 : Int) ≤ 9223372036854775807) := by show _ ∧ _; omega
  have hz := itoaB_size h2.out
  go_enter Tryz.func13, Tryz.ntmps13
  go_wp2_with fail
  refine (rright_is (show rightT 6 0 = true from rfl) _).mono ?_
  rintro e w1 ⟨rfl, hb⟩
  obtain ⟨d0, d1, h1⟩ := mono_keep hb
  clear hb
  go_wp2_with (go_at_call 26; refine (rdig_any 0 _ h2.out).mono ?_; rintro e w2 ⟨rfl, hb⟩; replace d0 := cell_keep hb d0; replace d1 := cell_keep hb d1; replace h1 := keepA h1 hb; clear hb; have lt1 := World.block_lt_of_cell? w2 _ d0)
  go_ret
  exact ⟨rfl, below_alloc h1 _⟩
theorem rname_any (b l : Int) (w : World) :
    Calls Tryz.prog 13 #[typ b l] w fun e w' => e = .returned (.string ⟨(nameT b l).toArray⟩) ∧ Below w.heap.size w w' := by
  cases hr : rightT b l
  · rw [show nameT b l = [] by simp [nameT, hr]]
    exact rname_wrong b l w hr
  · rcases right_cases hr with ⟨rfl | rfl | rfl | rfl, rfl⟩ | ⟨rfl | rfl, hl⟩
    · exact rname_1 w
    · exact rname_2 w
    · exact rname_3 w
    · exact rname_6 w
    · rw [show nameT 4 l = nameOf 4 ++ ([40] ++ Lib.itoa l ++ [41]) by simp [nameT, hr]]
      exact rname_4 l hl w
    · rw [show nameT 5 l = nameOf 5 ++ ([40] ++ Lib.itoa l ++ [41]) by simp [nameT, hr]]
      exact rname_5 l hl w
end Go.Proofs.YtleenjdkgbhfiaaGreatDoor

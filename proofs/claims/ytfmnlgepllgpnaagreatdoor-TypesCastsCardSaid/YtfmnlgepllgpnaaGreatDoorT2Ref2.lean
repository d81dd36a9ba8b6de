/- The walks of the document's Digits, Name and Assign. -/
import Derived.Test.YtfmnlgepllgpnaaGreatDoorT2Ref
namespace Go.Proofs.YtfmnlgepllgpnaaGreatDoor
open Go.RowKit Go.Joins
set_option linter.unusedVariables false

set_option maxHeartbeats 1000000 in
theorem rdig_pos (U : Nat) (w : World) (h : U ≤ 9223372036854775807) :
    Calls Tryz.prog 25 #[.int .i64 U] w fun e w' => e = .returned (.string ((⟨#[]⟩ : ByteArray) ++ ⟨(Lib.decDigits U).toArray⟩)) ∧ Below w.heap.size w w' := by
  go_enter Tryz.func25, Tryz.ntmps25
  have e1 : (-(U : Int) - 1 + 1) = -(U : Int) := by omega
  go_wp2_with (go_at_call 55; refine (rfig_any U ⟨#[]⟩ _ (by omega) (by decide)).mono ?_; rintro e w1 ⟨rfl, hb⟩)
  go_ret
  exact ⟨rfl, hb⟩
set_option maxHeartbeats 1000000 in
theorem rdig_neg (U : Nat) (w : World) (h : U ≤ 9223372036854775808) (h1 : 1 ≤ U) :
    Calls Tryz.prog 25 #[.int .i64 (-(U : Int))] w fun e w' => e = .returned (.string ((⟨#[45]⟩ : ByteArray) ++ ⟨(Lib.decDigits U).toArray⟩)) ∧ Below w.heap.size w w' := by
  go_enter Tryz.func25, Tryz.ntmps25
  go_wp2_with (go_at_call 55; refine (rfig_any U ⟨#[45]⟩ _ h (by decide)).mono ?_; rintro e w1 ⟨rfl, hb⟩)
  go_ret
  exact ⟨rfl, hb⟩
theorem rdig_any (n : Int) (w : World) (h : -9223372036854775808 ≤ n ∧ n ≤ 9223372036854775807) :
    Calls Tryz.prog 25 #[.int .i64 n] w fun e w' => e = .returned (.string (itoaB n)) ∧ Below w.heap.size w w' := by
  by_cases h0 : 0 ≤ n
  · obtain ⟨U, rfl⟩ := Int.eq_ofNat_of_zero_le h0
    refine (rdig_pos U w (by omega)).mono fun e w' ⟨he, hb⟩ => ⟨?_, hb⟩
    rw [he]
    refine ret_s ?_
    apply ByteArray.ext
    simp [itoaB, Lib.itoa]
  · obtain ⟨U, hU⟩ := Int.eq_ofNat_of_zero_le (a := -n) (by omega)
    obtain rfl : n = -(U : Int) := by omega
    refine (rdig_neg U w (by omega) (by omega)).mono fun e w' ⟨he, hb⟩ => ⟨?_, hb⟩
    rw [he]
    refine ret_s ?_
    apply ByteArray.ext
    simp [itoaB, Lib.itoa]
    intro h0; omega
theorem rright_is {b l : Int} {r : Bool} (h : rightT b l = r) (w : World) :
    Calls Tryz.prog 53 #[typ b l] w fun e w' => e = .returned (.bool r) ∧ Below w.heap.size w w' := by
  have := rright_any b l w
  rw [h] at this
  exact this
theorem rkind_is {b l kd : Int} (h : kindT b l = kd) (w : World) :
    Calls Tryz.prog 22 #[typ b l] w fun e w' => e = .returned (.int .i64 kd) ∧ Below w.heap.size w w' := by
  have := rkind_any b l w
  rw [h] at this
  exact this
end Go.Proofs.YtfmnlgepllgpnaaGreatDoor

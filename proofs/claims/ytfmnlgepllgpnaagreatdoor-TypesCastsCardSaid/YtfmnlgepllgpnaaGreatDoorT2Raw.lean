/- The walk of a raw value's right value, told as a function of the raw value. -/
import Derived.Test.YtfmnlgepllgpnaaGreatDoorB2
namespace Go.Proofs.YtfmnlgepllgpnaaGreatDoor
open Go.RowKit
set_option linter.unusedVariables false

def p4 (c : Int) : Int := if c < 0 then -((c + 1).tmod 4) else c.tmod 4
theorem p4_range (c : Int) : p4 c = 0 ∨ p4 c = 1 ∨ p4 c = 2 ∨ p4 c = 3 := by
  unfold p4
  split
  · have := tmod4 (x := c + 1) (by omega)
    omega
  · have h1 := Int.tmod_eq_emod_of_nonneg (a := c) (by omega) (b := 4)
    omega
set_option maxHeartbeats 400000 in
theorem pick4_is (c : Int) (w : World) (h1 : -9223372036854775808 ≤ c) (h2 : c ≤ 9223372036854775807) :
    Calls Tryz.prog 19 #[.int .i64 c, .int .i64 4] w fun e w' => e = .returned (.int .i64 (p4 c)) ∧ w' = w := by
  by_cases h : c < 0
  · go_enter Tryz.func19, Tryz.ntmps19
    go_wp2
    have h3 := tmod4 (x := c + 1) (by omega)
    go_ret
    exact ⟨ret_int (by unfold p4; rw [if_pos h]), rfl⟩
  · go_enter Tryz.func19, Tryz.ntmps19
    go_wp2
    go_ret
    have h3 := Int.tmod_eq_emod_of_nonneg (a := c) (by omega) (b := 4)
    exact ⟨ret_int (by unfold p4; rw [if_neg (by omega)]; exact h3.symm), rfl⟩
theorem pick4_at {c p : Int} (hp : p4 c = p) (w : World) (h1 : -9223372036854775808 ≤ c ∧ c ≤ 9223372036854775807) :
    Calls Tryz.prog 19 #[.int .i64 c, .int .i64 4] w fun e w' => e = .returned (.int .i64 p) ∧ w' = w := by
  subst hp
  exact pick4_is c w h1.1 h1.2
def rvN (k n : Int) : Int := if p4 k = 1 then n else 0
def rvS (k : Int) (s : ByteArray) : ByteArray := if p4 k = 2 then s else ⟨#[]⟩
def rvB (k : Int) (b : Bool) : Bool := if p4 k = 3 then b else false
theorem raw_right (k n : Int) (s : ByteArray) (b : Bool) : RightV (p4 k) (rvN k n) (rvS k s) (rvB k b) := by
  unfold rvN rvS rvB
  rcases p4_range k with h | h | h | h
  · exact Or.inl ⟨h, by rw [h]; rfl, by rw [h]; rfl, by rw [h]; rfl⟩
  · exact Or.inr (Or.inl ⟨h, by rw [h]; rfl, by rw [h]; rfl⟩)
  · exact Or.inr (Or.inr (Or.inl ⟨h, by rw [h]; rfl, by rw [h]; rfl⟩))
  · exact Or.inr (Or.inr (Or.inr ⟨h, by rw [h]; rfl, by rw [h]; rfl⟩))
theorem rvN_in {k n : Int} (h : -9223372036854775808 ≤ n ∧ n ≤ 9223372036854775807) : -9223372036854775808 ≤ rvN k n ∧ rvN k n ≤ 9223372036854775807 := by
  unfold rvN
  split
  · exact h
  · omega
theorem rvS_le {k : Int} {s : ByteArray} {z : Nat} (h : s.size ≤ z) : (rvS k s).size ≤ z := by
  unfold rvS
  split
  · exact h
  · exact Nat.zero_le _
set_option maxHeartbeats 400000 in
theorem rawValue_is (k n : Int) (s : ByteArray) (b : Bool) (w : World) (h1 : Hid (-9223372036854775808 ≤ k ∧ k ≤ 9223372036854775807)) :
    Calls Tryz.prog 5 #[val k n s b] w fun e w' => e = .returned (val (p4 k) (rvN k n) (rvS k s) (rvB k b)) ∧ Below w.heap.size w w' := by
  rcases p4_range k with h | h | h | h
  all_goals
    have H : Hid _ := h
    rw [rvN, rvS, rvB, h]
    clear h
  · go_enter Tryz.func5, Tryz.ntmps5
    go_wp2_with (go_at_call 19; refine (pick4_at H.out _ h1.out).mono ?_; rintro e w1 ⟨rfl, rfl⟩)
    exact bodyPost_ret (v := val 0 0 ⟨#[]⟩ false) (by simp [results, Tryz.results5, go_sem]) rfl ⟨rfl, (by repeat (first | exact Below.refl _ _ | assumption | refine Below.alloc ?_ (by first | (simp; done) | (simp; omega)) _ | refine Below.setCell ?_ (by first | (simp; done) | (simp; omega)) _ | refine Below.drew ?_ | refine below_drewN ?_ _))⟩
  · go_enter Tryz.func5, Tryz.ntmps5
    go_wp2_with (first
      | (go_at_call 19; refine (pick4_at H.out _ h1.out).mono ?_; rintro e w1 ⟨rfl, rfl⟩)
      | (go_at_call 20; refine (num_any _ _).mono ?_; rintro e w1 ⟨rfl, hb⟩; obtain ⟨hcl, hfr⟩ := bcell hb))
    exact bodyPost_ret (v := val 1 n ⟨#[]⟩ false) (by simp [results, Tryz.results5, go_sem, hcl]) rfl ⟨rfl, (by repeat (first | exact Below.refl _ _ | assumption | refine Below.alloc ?_ (by first | (simp; done) | (simp; omega)) _ | refine Below.setCell ?_ (by first | (simp; done) | (simp; omega)) _ | refine Below.drew ?_ | refine below_drewN ?_ _ | refine Below.trans ?_ (hb.mono (by first | (simp; done) | (simp; omega)))))⟩
  · go_enter Tryz.func5, Tryz.ntmps5
    go_wp2_with (first
      | (go_at_call 19; refine (pick4_at H.out _ h1.out).mono ?_; rintro e w1 ⟨rfl, rfl⟩)
      | (go_at_call 21; refine (text_any _ _).mono ?_; rintro e w1 ⟨rfl, hb⟩; obtain ⟨hcl, hfr⟩ := bcell hb))
    exact bodyPost_ret (v := val 2 0 s false) (by simp [results, Tryz.results5, go_sem, hcl]) rfl ⟨rfl, (by repeat (first | exact Below.refl _ _ | assumption | refine Below.alloc ?_ (by first | (simp; done) | (simp; omega)) _ | refine Below.setCell ?_ (by first | (simp; done) | (simp; omega)) _ | refine Below.drew ?_ | refine below_drewN ?_ _ | refine Below.trans ?_ (hb.mono (by first | (simp; done) | (simp; omega)))))⟩
  · go_enter Tryz.func5, Tryz.ntmps5
    go_wp2_with (go_at_call 19; refine (pick4_at H.out _ h1.out).mono ?_; rintro e w1 ⟨rfl, rfl⟩)
    exact bodyPost_ret (v := val 3 0 ⟨#[]⟩ b) (by simp [results, Tryz.results5, go_sem]) rfl ⟨rfl, (by repeat (first | exact Below.refl _ _ | assumption | refine Below.alloc ?_ (by first | (simp; done) | (simp; omega)) _ | refine Below.setCell ?_ (by first | (simp; done) | (simp; omega)) _ | refine Below.drew ?_ | refine below_drewN ?_ _))⟩
end Go.Proofs.YtfmnlgepllgpnaaGreatDoor

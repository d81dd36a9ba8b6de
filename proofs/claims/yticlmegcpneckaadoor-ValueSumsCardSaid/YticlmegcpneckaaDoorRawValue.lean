/- The walk of a raw value's right value: one of four. -/
import Derived.Test.YticlmegcpneckaaDoorBoth
import Derived.WalkKit
import Derived.WalkSpells
import Derived.WalkLawsBesides
namespace Go.Proofs.YticlmegcpneckaaDoor
open Go.RowKit
set_option linter.unusedVariables false

/-- A right value: its kind, number, text and truth. -/
def RightV (K N : Int) (S : ByteArray) (B : Bool) : Prop :=
  (K = 0 ∧ N = 0 ∧ S = ⟨#[]⟩ ∧ B = false) ∨ (K = 1 ∧ S = ⟨#[]⟩ ∧ B = false) ∨ (K = 2 ∧ N = 0 ∧ B = false) ∨ (K = 3 ∧ N = 0 ∧ S = ⟨#[]⟩)

theorem tmod4 {x : Int} (h : x ≤ 0) : -3 ≤ x.tmod 4 ∧ x.tmod 4 ≤ 0 := by
  obtain ⟨n, hn⟩ := Int.eq_ofNat_of_zero_le (a := -x) (by omega)
  obtain rfl : x = -(n : Int) := by omega
  rw [Int.neg_tmod, Int.tmod_eq_emod_of_nonneg (by omega)]
  omega
set_option maxHeartbeats 400000 in
theorem pick4_any (c : Int) (w : World) (h1 : -9223372036854775808 ≤ c) (h2 : c ≤ 9223372036854775807) :
    Calls Tryd.prog 41 #[.int .i64 c, .int .i64 4] w fun e w' => (∃ p : Int, 0 ≤ p ∧ p ≤ 3 ∧ e = .returned (.int .i64 p)) ∧ w' = w := by
  by_cases h : c < 0
  · go_enter Tryd.func41, Tryd.ntmps41
    go_wp2
    have h3 := tmod4 (x := c + 1) (by omega)
    go_ret
    exact ⟨⟨_, by omega, by omega, rfl⟩, rfl⟩
  · go_enter Tryd.func41, Tryd.ntmps41
    go_wp2
    go_ret
    exact ⟨⟨_, by omega, by omega, rfl⟩, rfl⟩

set_option maxHeartbeats 400000 in
theorem rawValue_any (k n : Int) (s : ByteArray) (b : Bool) (w : World) (h1 : -9223372036854775808 ≤ k ∧ k ≤ 9223372036854775807) :
    Calls Tryd.prog 9 #[val k n s b] w fun e w' => (∃ (K N : Int) (S : ByteArray) (B : Bool), e = .returned (val K N S B) ∧ RightV K N S B ∧ (N = 0 ∨ N = n) ∧ (S = ⟨#[]⟩ ∨ S = s)) ∧ Below w.heap.size w w' := by
  go_enter Tryd.func9, Tryd.ntmps9
  go_wp2_with fail
  refine (pick4_any k _ h1.1 h1.2).mono ?_
  rintro e w1 ⟨⟨p, p0, p3, rfl⟩, rfl⟩
  have hp : p = 0 ∨ p = 1 ∨ p = 2 ∨ p = 3 := by omega
  clear p0 p3 h1
  rcases hp with rfl | rfl | rfl | rfl
  · go_wp2
    exact bodyPost_ret (v := val 0 0 ⟨#[]⟩ false) (by simp [results, Tryd.results9, go_sem]) rfl ⟨⟨0, 0, ⟨#[]⟩, false, rfl, Or.inl ⟨rfl, rfl, rfl, rfl⟩, Or.inl rfl, Or.inl rfl⟩, (by repeat (first | exact Below.refl _ _ | assumption | refine Below.alloc ?_ (by first | (simp; done) | (simp; omega)) _ | refine Below.setCell ?_ (by first | (simp; done) | (simp; omega)) _ | refine Below.drew ?_ | refine below_drewN ?_ _))⟩
  · go_wp2_with (go_at_call 42; refine (num_any _ _).mono ?_; rintro e w1 ⟨rfl, hb⟩; obtain ⟨hcl, hfr⟩ := bcell hb)
    exact bodyPost_ret (v := val 1 n ⟨#[]⟩ false) (by simp [results, Tryd.results9, go_sem, hcl]) rfl ⟨⟨1, n, ⟨#[]⟩, false, rfl, Or.inr (Or.inl ⟨rfl, rfl, rfl⟩), Or.inr rfl, Or.inl rfl⟩, (by repeat (first | exact Below.refl _ _ | assumption | refine Below.alloc ?_ (by first | (simp; done) | (simp; omega)) _ | refine Below.setCell ?_ (by first | (simp; done) | (simp; omega)) _ | refine Below.drew ?_ | refine below_drewN ?_ _ | refine Below.trans ?_ (hb.mono (by first | (simp; done) | (simp; omega)))))⟩
  · go_wp2_with (go_at_call 43; refine (text_any _ _).mono ?_; rintro e w1 ⟨rfl, hb⟩; obtain ⟨hcl, hfr⟩ := bcell hb)
    exact bodyPost_ret (v := val 2 0 s false) (by simp [results, Tryd.results9, go_sem, hcl]) rfl ⟨⟨2, 0, s, false, rfl, Or.inr (Or.inr (Or.inl ⟨rfl, rfl, rfl⟩)), Or.inl rfl, Or.inr rfl⟩, (by repeat (first | exact Below.refl _ _ | assumption | refine Below.alloc ?_ (by first | (simp; done) | (simp; omega)) _ | refine Below.setCell ?_ (by first | (simp; done) | (simp; omega)) _ | refine Below.drew ?_ | refine below_drewN ?_ _ | refine Below.trans ?_ (hb.mono (by first | (simp; done) | (simp; omega)))))⟩
  · go_wp2
    exact bodyPost_ret (v := val 3 0 ⟨#[]⟩ b) (by simp [results, Tryd.results9, go_sem]) rfl ⟨⟨3, 0, ⟨#[]⟩, b, rfl, Or.inr (Or.inr (Or.inr ⟨rfl, rfl, rfl⟩)), Or.inl rfl, Or.inl rfl⟩, (by repeat (first | exact Below.refl _ _ | assumption | refine Below.alloc ?_ (by first | (simp; done) | (simp; omega)) _ | refine Below.setCell ?_ (by first | (simp; done) | (simp; omega)) _ | refine Below.drew ?_ | refine below_drewN ?_ _))⟩
end Go.Proofs.YticlmegcpneckaaDoor

/- The walks of the three truths' functions: pick, truth, Not, And, Or, each for every argument. -/
import Derived.Test.YticlmegcpneckaaDoorRows
import Derived.WalkKit
import Derived.WalkSpells
import Derived.WalkLawsBesides
namespace Go.Proofs.YticlmegcpneckaaDoor
open Go.RowKit
set_option linter.unusedVariables false

def trI (t : Int) : Int := if t = 0 ∨ t = 2 then t else 1
def notI (t : Int) : Int := if t = 0 then 2 else if t = 2 then 0 else 1
def andI (a b : Int) : Int := min (trI a) (trI b)
def orI (a b : Int) : Int := max (trI a) (trI b)
theorem ret_int {k : IntKind} {a b : Int} (h : a = b) : Ending.returned (.int k a) = .returned (.int k b) := by rw [h]
theorem trI_yes0 {t : Int} (h : (t == 0) = true) : trI t = t := by simp at h; simp [trI, h]
theorem trI_yes2 {t : Int} (h : (t == 2) = true) : trI t = t := by simp at h; simp [trI, h]
theorem trI_no {t : Int} (h0 : (t == 0) = false) (h2 : (t == 2) = false) : trI t = 1 := by simp at h0 h2; simp [trI, h0, h2]

set_option maxHeartbeats 400000 in
theorem truth_any (t : Int) (w : World) :
    Calls Tryd.prog 53 #[.int .i64 t] w fun e w' => e = .returned (.int .i64 (trI t)) ∧ w' = w := by
  cases h0 : (t == 0)
  · cases h2 : (t == 2)
    · go_enter Tryd.func53, Tryd.ntmps53
      go_wp2
      go_ret
      exact ⟨ret_int (trI_no h0 h2).symm, rfl⟩
    · go_enter Tryd.func53, Tryd.ntmps53
      go_wp2
      go_ret
      exact ⟨ret_int (trI_yes2 h2).symm, rfl⟩
  · go_enter Tryd.func53, Tryd.ntmps53
    go_wp2
    go_ret
    exact ⟨ret_int (trI_yes0 h0).symm, rfl⟩

set_option maxHeartbeats 400000 in
theorem not_any (t : Int) (w : World) :
    Calls Tryd.prog 21 #[.int .i64 t] w fun e w' => e = .returned (.int .i64 (notI t)) ∧ w' = w := by
  cases h0 : (t == 0)
  · cases h2 : (t == 2)
    · go_enter Tryd.func21, Tryd.ntmps21
      go_wp2
      go_ret
      exact ⟨ret_int (by simp at h0 h2; simp [notI, h0, h2]), rfl⟩
    · go_enter Tryd.func21, Tryd.ntmps21
      go_wp2
      go_ret
      exact ⟨ret_int (by simp at h0 h2; simp [notI, h2]), rfl⟩
  · go_enter Tryd.func21, Tryd.ntmps21
    go_wp2
    go_ret
    exact ⟨ret_int (by simp at h0; simp [notI, h0]), rfl⟩

set_option maxHeartbeats 400000 in
theorem and_any (a b : Int) (w : World) :
    Calls Tryd.prog 23 #[.int .i64 a, .int .i64 b] w fun e w' => e = .returned (.int .i64 (andI a b)) ∧ w' = w := by
  go_enter Tryd.func23, Tryd.ntmps23
  go_wp2_with (go_at_call 53; refine (truth_any _ _).mono ?_; rintro e w' ⟨rfl, rfl⟩)
  all_goals
    go_ret
    exact ⟨ret_int (by unfold andI; omega), rfl⟩

set_option maxHeartbeats 400000 in
theorem or_any (a b : Int) (w : World) :
    Calls Tryd.prog 25 #[.int .i64 a, .int .i64 b] w fun e w' => e = .returned (.int .i64 (orI a b)) ∧ w' = w := by
  go_enter Tryd.func25, Tryd.ntmps25
  go_wp2_with (go_at_call 53; refine (truth_any _ _).mono ?_; rintro e w' ⟨rfl, rfl⟩)
  all_goals
    go_ret
    exact ⟨ret_int (by unfold orI; omega), rfl⟩

theorem tmod3 {x : Int} (h : x ≤ 0) : -2 ≤ x.tmod 3 ∧ x.tmod 3 ≤ 0 := by
  obtain ⟨n, hn⟩ := Int.eq_ofNat_of_zero_le (a := -x) (by omega)
  obtain rfl : x = -(n : Int) := by omega
  rw [Int.neg_tmod, Int.tmod_eq_emod_of_nonneg (by omega)]
  omega
set_option maxHeartbeats 400000 in
theorem pick3_any (c : Int) (w : World) (h1 : -9223372036854775808 ≤ c) (h2 : c ≤ 9223372036854775807) :
    Calls Tryd.prog 41 #[.int .i64 c, .int .i64 3] w fun e w' => (∃ p : Int, 0 ≤ p ∧ p ≤ 2 ∧ e = .returned (.int .i64 p)) ∧ w' = w := by
  by_cases h : c < 0
  · go_enter Tryd.func41, Tryd.ntmps41
    go_wp2
    have h3 := tmod3 (x := c + 1) (by omega)
    go_ret
    exact ⟨⟨_, by omega, by omega, rfl⟩, rfl⟩
  · go_enter Tryd.func41, Tryd.ntmps41
    go_wp2
    go_ret
    exact ⟨⟨_, by omega, by omega, rfl⟩, rfl⟩
end Go.Proofs.YticlmegcpneckaaDoor

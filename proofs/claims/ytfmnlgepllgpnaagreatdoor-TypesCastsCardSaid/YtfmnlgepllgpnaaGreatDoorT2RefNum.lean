/- The document's own product by ten, difference and negative of numbers not above 0. -/
import Derived.Test.YtfmnlgepllgpnaaGreatDoorT2RefSum
import Derived.Test.YtfmnlgepllgpnaaGreatDoorT2Set2
namespace Go.Proofs.YtfmnlgepllgpnaaGreatDoor
open Go.RowKit
set_option linter.unusedVariables false

theorem refMul10 (n : Int) (w : World) (h0 : n ≤ 0) (h1 : -9223372036854775808 ≤ n) :
    Calls Tryz.prog 56 #[val 1 n ⟨#[]⟩ false, val 1 10 ⟨#[]⟩ false] w fun e w' => e = .returned (if -9223372036854775808 ≤ n * 10 then .tuple #[val 1 (n * 10) ⟨#[]⟩ false, .string sDone] else .tuple #[nullV, .string sOut]) ∧ Below w.heap.size w w' := by
  by_cases hn : n = 0
  · subst hn
    have m : MulIs 0 10 0 10 0 0 := ⟨by omega, by omega, by omega, by omega, Or.inr ⟨by omega, rfl⟩, Or.inr ⟨by omega, rfl⟩, by decide, by decide⟩
    have g := refMul_d0 0 10 0 10 0 ⟨#[]⟩ ⟨#[]⟩ false false w m (by omega) (by omega) (by omega) (by omega)
    rw [if_pos (by omega)]
    exact g
  · have hA : (n < 0 ∧ -n = -n) ∨ (0 ≤ n ∧ -n = n) := Or.inl ⟨by omega, rfl⟩
    by_cases hhi : 0 < -n * 10 / 18446744073709551616
    · have m : MulIs n 10 (-n) 10 (-n * 10 / 18446744073709551616) (-n * 10 % 18446744073709551616) := ⟨h1, by omega, by omega, by omega, hA, Or.inr ⟨by omega, rfl⟩, rfl, rfl⟩
      rw [if_neg (by omega)]
      exact refMul_a3 n 10 (-n) 10 _ _ ⟨#[]⟩ ⟨#[]⟩ false false w m (by omega) (by omega) hhi
    · have e0 : -n * 10 / 18446744073709551616 = 0 := by omega
      have el : -n * 10 % 18446744073709551616 = -n * 10 := by omega
      have m : MulIs n 10 (-n) 10 0 (-n * 10) := ⟨h1, by omega, by omega, by omega, hA, Or.inr ⟨by omega, rfl⟩, e0, el⟩
      by_cases hb : 9223372036854775808 < -n * 10
      · rw [if_neg (by omega)]
        exact refMul_b3 n 10 (-n) 10 _ ⟨#[]⟩ ⟨#[]⟩ false false w m (by omega) (by omega) hb
      · rw [if_pos (by omega)]
        have g := refMul_d3 n 10 (-n) 10 (-n * 10) ⟨#[]⟩ ⟨#[]⟩ false false w m (by omega) (by omega) (by omega) (by omega)
        rw [show -(-n * 10) = n * 10 by omega] at g
        exact g
theorem refSubD (n d : Int) (w : World) (h0 : n ≤ 0) (h1 : -9223372036854775808 ≤ n) (hd : 0 ≤ d ∧ d ≤ 9) :
    Calls Tryz.prog 57 #[val 1 n ⟨#[]⟩ false, val 1 d ⟨#[]⟩ false] w fun e w' => e = .returned (if -9223372036854775808 ≤ n - d then .tuple #[val 1 (n - d) ⟨#[]⟩ false, .string sDone] else .tuple #[nullV, .string sOut]) ∧ Below w.heap.size w w' := by
  by_cases hr : -9223372036854775808 ≤ n - d
  · rw [if_pos hr]
    by_cases hn : 0 ≤ n
    · exact refSub_in1 n d ⟨#[]⟩ ⟨#[]⟩ false false w h1 (by omega) (by omega) (by omega) hr (by omega) hn (by omega)
    · exact refSub_in3 n d ⟨#[]⟩ ⟨#[]⟩ false false w h1 (by omega) (by omega) (by omega) hr (by omega) (by omega) (by omega)
  · rw [if_neg hr]
    exact refSub_out2 n d ⟨#[]⟩ ⟨#[]⟩ false false w (by omega) (by omega) (by unfold wrap64; omega)
theorem refSub0 (n : Int) (w : World) (h0 : n ≤ 0) (h1 : -9223372036854775808 ≤ n) :
    Calls Tryz.prog 57 #[val 1 0 ⟨#[]⟩ false, val 1 n ⟨#[]⟩ false] w fun e w' => e = .returned (if -9223372036854775808 < n then .tuple #[val 1 (-n) ⟨#[]⟩ false, .string sDone] else .tuple #[nullV, .string sOut]) ∧ Below w.heap.size w w' := by
  by_cases hr : -9223372036854775808 < n
  · rw [if_pos hr]
    have hz : 0 - n = -n := by omega
    by_cases hn : 0 ≤ n
    · have g := refSub_in1 0 n ⟨#[]⟩ ⟨#[]⟩ false false w (by omega) (by omega) h1 (by omega) (by omega) (by omega) (by omega) hn
      rw [hz] at g; exact g
    · have g := refSub_in2 0 n ⟨#[]⟩ ⟨#[]⟩ false false w (by omega) (by omega) h1 (by omega) (by omega) (by omega) (by omega) (by omega)
      rw [hz] at g; exact g
  · rw [if_neg hr]
    exact refSub_out1 0 n ⟨#[]⟩ ⟨#[]⟩ false false w (by omega) (by omega) (by unfold wrap64; omega)
end Go.Proofs.YtfmnlgepllgpnaaGreatDoor

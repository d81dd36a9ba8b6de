/- The document's own sums, differences, products, quotients and joined texts at every two values; and both sides' Neg. -/
import Derived.Test.YticlmegcpneckaaDoorRefSums2
import Derived.Test.YticlmegcpneckaaDoorRefMul2
import Derived.Deep.RegionHeld3
namespace Go.Proofs.YticlmegcpneckaaDoor
open Go.RowKit
set_option linter.unusedVariables false

theorem rOk_no {kk K1 K2 : Int} {ok : Bool} (hn : ¬ (K1 = kk ∧ K2 = kk)) : rOk kk K1 K2 ok = false := by
  unfold rOk
  cases e1 : (K1 == kk) <;> cases e2 : (K2 == kk) <;> simp
  exact absurd ⟨by simpa using e1, by simpa using e2⟩ hn
theorem refAdd_any (K1 N1 : Int) (S1 : ByteArray) (B1 : Bool) (K2 N2 : Int) (S2 : ByteArray) (B2 : Bool) (w : World) (hx : -9223372036854775808 ≤ N1 ∧ N1 ≤ 9223372036854775807) (hy : -9223372036854775808 ≤ N2 ∧ N2 ≤ 9223372036854775807) :
    Calls Tryd.prog 28 #[val K1 N1 S1 B1, val K2 N2 S2 B2] w fun e w' => e = .returned (.tuple #[val (rK 1 K1 K2 (inR (N1 + N2))) (rN 1 K1 K2 (inR (N1 + N2)) (N1 + N2)) ⟨#[]⟩ false, .string (rS 1 K1 K2 (inR (N1 + N2)) sOut)]) ∧ Below w.heap.size w w' := by
  by_cases hn : K1 = 1 ∧ K2 = 1
  · obtain ⟨rfl, rfl⟩ := hn
    cases hc : inR (N1 + N2)
    · rw [inR_false] at hc
      by_cases c1 : 0 ≤ N1
      · exact refAdd_out1 N1 N2 S1 S2 B1 B2 w c1 (by omega) (by unfold wrap64; omega)
      · exact refAdd_out2 N1 N2 S1 S2 B1 B2 w (by omega) (by omega) (by unfold wrap64; omega)
    · rw [inR_true] at hc
      by_cases c1 : 0 ≤ N1 <;> by_cases c2 : 0 ≤ N2
      · exact refAdd_in1 N1 N2 S1 S2 B1 B2 w hx.1 hx.2 hy.1 hy.2 hc.1 hc.2 c1 c2
      · exact refAdd_in2 N1 N2 S1 S2 B1 B2 w hx.1 hx.2 hy.1 hy.2 hc.1 hc.2 c1 (by omega)
      · exact refAdd_in3 N1 N2 S1 S2 B1 B2 w hx.1 hx.2 hy.1 hy.2 hc.1 hc.2 (by omega) c2
      · exact refAdd_in4 N1 N2 S1 S2 B1 B2 w hx.1 hx.2 hy.1 hy.2 hc.1 hc.2 (by omega) (by omega)
  · have h := refAdd_out K1 N1 S1 B1 K2 N2 S2 B2 (inR (N1 + N2)) sOut hn w
    have e1 : rK 1 K1 K2 (inR (N1 + N2)) = 0 := by simp [rK, rOk_no hn]
    have e2 : rN 1 K1 K2 (inR (N1 + N2)) (N1 + N2) = 0 := by simp [rN, rOk_no hn]
    rw [e1, e2]
    exact h
theorem refSub_any (K1 N1 : Int) (S1 : ByteArray) (B1 : Bool) (K2 N2 : Int) (S2 : ByteArray) (B2 : Bool) (w : World) (hx : -9223372036854775808 ≤ N1 ∧ N1 ≤ 9223372036854775807) (hy : -9223372036854775808 ≤ N2 ∧ N2 ≤ 9223372036854775807) :
    Calls Tryd.prog 30 #[val K1 N1 S1 B1, val K2 N2 S2 B2] w fun e w' => e = .returned (.tuple #[val (rK 1 K1 K2 (inR (N1 - N2))) (rN 1 K1 K2 (inR (N1 - N2)) (N1 - N2)) ⟨#[]⟩ false, .string (rS 1 K1 K2 (inR (N1 - N2)) sOut)]) ∧ Below w.heap.size w w' := by
  by_cases hn : K1 = 1 ∧ K2 = 1
  · obtain ⟨rfl, rfl⟩ := hn
    cases hc : inR (N1 - N2)
    · rw [inR_false] at hc
      by_cases c1 : 0 ≤ N1
      · exact refSub_out1 N1 N2 S1 S2 B1 B2 w c1 (by omega) (by unfold wrap64; omega)
      · exact refSub_out2 N1 N2 S1 S2 B1 B2 w (by omega) (by omega) (by unfold wrap64; omega)
    · rw [inR_true] at hc
      by_cases c1 : 0 ≤ N1 <;> by_cases c2 : 0 ≤ N2
      · exact refSub_in1 N1 N2 S1 S2 B1 B2 w hx.1 hx.2 hy.1 hy.2 hc.1 hc.2 c1 c2
      · exact refSub_in2 N1 N2 S1 S2 B1 B2 w hx.1 hx.2 hy.1 hy.2 hc.1 hc.2 c1 (by omega)
      · exact refSub_in3 N1 N2 S1 S2 B1 B2 w hx.1 hx.2 hy.1 hy.2 hc.1 hc.2 (by omega) c2
      · exact refSub_in4 N1 N2 S1 S2 B1 B2 w hx.1 hx.2 hy.1 hy.2 hc.1 hc.2 (by omega) (by omega)
  · have h := refSub_out K1 N1 S1 B1 K2 N2 S2 B2 (inR (N1 - N2)) sOut hn w
    have e1 : rK 1 K1 K2 (inR (N1 - N2)) = 0 := by simp [rK, rOk_no hn]
    have e2 : rN 1 K1 K2 (inR (N1 - N2)) (N1 - N2) = 0 := by simp [rN, rOk_no hn]
    rw [e1, e2]
    exact h
theorem refConcat_any (K1 N1 : Int) (S1 : ByteArray) (B1 : Bool) (K2 N2 : Int) (S2 : ByteArray) (B2 : Bool) (w : World) (hs : S1.size + S2.size ≤ 9223372036854775807) :
    Calls Tryd.prog 38 #[val K1 N1 S1 B1, val K2 N2 S2 B2] w fun e w' => e = .returned (.tuple #[val (rK 2 K1 K2 (catOk S1 S2)) 0 (rT K1 K2 (catOk S1 S2) (S1 ++ S2)) false, .string (rS 2 K1 K2 (catOk S1 S2) sLong)]) ∧ Below w.heap.size w w' := by
  by_cases hn : K1 = 2 ∧ K2 = 2
  · obtain ⟨rfl, rfl⟩ := hn
    cases hc : catOk S1 S2
    · exact refConcat_long N1 N2 S1 S2 B1 B2 w (by simp [catOk] at hc; omega) hs
    · exact refConcat_in N1 N2 S1 S2 B1 B2 w (by simpa [catOk] using hc)
  · have h := refConcat_out K1 N1 S1 B1 K2 N2 S2 B2 (catOk S1 S2) sLong hn w
    have e1 : rK 2 K1 K2 (catOk S1 S2) = 0 := by simp [rK, rOk_no hn]
    have e2 : rT K1 K2 (catOk S1 S2) (S1 ++ S2) = ⟨#[]⟩ := by simp [rT, rOk_no hn]
    rw [e1, e2]
    exact h
theorem prod_sign (x y A B : Int) (hA : (x < 0 ∧ A = -x) ∨ (0 ≤ x ∧ A = x)) (hB : (y < 0 ∧ B = -y) ∨ (0 ≤ y ∧ B = y)) :
    ((0 ≤ x ∧ 0 ≤ y) ∨ (x < 0 ∧ y < 0) → x * y = A * B) ∧ ((0 ≤ x ∧ y < 0) ∨ (x < 0 ∧ 0 ≤ y) → x * y = -(A * B)) ∧ 0 ≤ A * B := by
  have hn : 0 ≤ A * B := Int.mul_nonneg (by omega) (by omega)
  refine ⟨?_, ?_, hn⟩
  · rintro (⟨a, b⟩ | ⟨a, b⟩)
    · obtain rfl : A = x := by omega
      obtain rfl : B = y := by omega
      rfl
    · obtain rfl : A = -x := by omega
      obtain rfl : B = -y := by omega
      rw [Int.neg_mul_neg]
  · rintro (⟨a, b⟩ | ⟨a, b⟩)
    · obtain rfl : A = x := by omega
      obtain rfl : B = -y := by omega
      rw [Int.mul_neg, Int.neg_neg]
    · obtain rfl : A = -x := by omega
      obtain rfl : B = y := by omega
      rw [Int.neg_mul, Int.neg_neg]
theorem refMul_go (x y : Int) (S1 S2 : ByteArray) (B1 B2 : Bool) (w : World) (hx : -9223372036854775808 ≤ x ∧ x ≤ 9223372036854775807) (hy : -9223372036854775808 ≤ y ∧ y ≤ 9223372036854775807) :
    Calls Tryd.prog 32 #[val 1 x S1 B1, val 1 y S2 B2] w fun e w' => e = .returned (.tuple #[val (rK 1 1 1 (inR (x * y))) (rN 1 1 1 (inR (x * y)) (x * y)) ⟨#[]⟩ false, .string (rS 1 1 1 (inR (x * y)) sOut)]) ∧ Below w.heap.size w w' := by
  obtain ⟨A, hA⟩ : ∃ A, (x < 0 ∧ A = -x) ∨ (0 ≤ x ∧ A = x) := by
    by_cases h : x < 0
    · exact ⟨-x, Or.inl ⟨h, rfl⟩⟩
    · exact ⟨x, Or.inr ⟨by omega, rfl⟩⟩
  obtain ⟨B, hB⟩ : ∃ B, (y < 0 ∧ B = -y) ∨ (0 ≤ y ∧ B = y) := by
    by_cases h : y < 0
    · exact ⟨-y, Or.inl ⟨h, rfl⟩⟩
    · exact ⟨y, Or.inr ⟨by omega, rfl⟩⟩
  obtain ⟨p1, p2, p3⟩ := prod_sign x y A B hA hB
  have m : MulIs x y A B (A * B / 18446744073709551616) (A * B % 18446744073709551616) := ⟨hx.1, hx.2, hy.1, hy.2, hA, hB, rfl, rfl⟩
  have yes : ∀ r, x * y = r → -9223372036854775808 ≤ r → r ≤ 9223372036854775807 → (Calls Tryd.prog 32 #[val 1 x S1 B1, val 1 y S2 B2] w fun e w' => e = .returned (.tuple #[val 1 r ⟨#[]⟩ false, .string sDone]) ∧ Below w.heap.size w w') → Calls Tryd.prog 32 #[val 1 x S1 B1, val 1 y S2 B2] w fun e w' => e = .returned (.tuple #[val (rK 1 1 1 (inR (x * y))) (rN 1 1 1 (inR (x * y)) (x * y)) ⟨#[]⟩ false, .string (rS 1 1 1 (inR (x * y)) sOut)]) ∧ Below w.heap.size w w' := by
    intro r hr h1 h2 h
    rw [hr, inR_true.2 ⟨h1, h2⟩]
    exact h
  have no : (x * y < -9223372036854775808 ∨ 9223372036854775807 < x * y) → (Calls Tryd.prog 32 #[val 1 x S1 B1, val 1 y S2 B2] w fun e w' => e = .returned (.tuple #[nullV, .string sOut]) ∧ Below w.heap.size w w') → Calls Tryd.prog 32 #[val 1 x S1 B1, val 1 y S2 B2] w fun e w' => e = .returned (.tuple #[val (rK 1 1 1 (inR (x * y))) (rN 1 1 1 (inR (x * y)) (x * y)) ⟨#[]⟩ false, .string (rS 1 1 1 (inR (x * y)) sOut)]) ∧ Below w.heap.size w w' := by
    intro hr h
    rw [inR_false.2 hr]
    exact h
  generalize hT : A * B = T at *
  generalize hhi : T / 18446744073709551616 = hi at *
  generalize hlo : T % 18446744073709551616 = lo at *
  have hi0 : 0 ≤ hi := by omega
  by_cases c0 : 0 < hi
  · by_cases sx : 0 ≤ x <;> by_cases sy : 0 ≤ y
    · exact no (by have := p1 (Or.inl ⟨sx, sy⟩); omega) (refMul_a0 x y A B hi lo S1 S2 B1 B2 w m sx sy c0)
    · exact no (by have := p2 (Or.inl ⟨sx, by omega⟩); omega) (refMul_a2 x y A B hi lo S1 S2 B1 B2 w m sx (by omega) c0)
    · exact no (by have := p2 (Or.inr ⟨by omega, sy⟩); omega) (refMul_a3 x y A B hi lo S1 S2 B1 B2 w m (by omega) sy c0)
    · exact no (by have := p1 (Or.inr ⟨by omega, by omega⟩); omega) (refMul_a1 x y A B hi lo S1 S2 B1 B2 w m (by omega) (by omega) c0)
  · obtain rfl : hi = 0 := by omega
    obtain rfl : lo = T := by omega
    by_cases c1 : 9223372036854775808 < lo
    · by_cases sx : 0 ≤ x <;> by_cases sy : 0 ≤ y
      · exact no (by have := p1 (Or.inl ⟨sx, sy⟩); omega) (refMul_b0 x y A B lo S1 S2 B1 B2 w m sx sy c1)
      · exact no (by have := p2 (Or.inl ⟨sx, by omega⟩); omega) (refMul_b2 x y A B lo S1 S2 B1 B2 w m sx (by omega) c1)
      · exact no (by have := p2 (Or.inr ⟨by omega, sy⟩); omega) (refMul_b3 x y A B lo S1 S2 B1 B2 w m (by omega) sy c1)
      · exact no (by have := p1 (Or.inr ⟨by omega, by omega⟩); omega) (refMul_b1 x y A B lo S1 S2 B1 B2 w m (by omega) (by omega) c1)
    · by_cases c2 : lo = 9223372036854775808
      · rw [c2] at m
        by_cases sx : 0 ≤ x <;> by_cases sy : 0 ≤ y
        · exact no (by have := p1 (Or.inl ⟨sx, sy⟩); omega) (refMul_c0 x y A B S1 S2 B1 B2 w m sx sy)
        · exact yes _ (by have := p2 (Or.inl ⟨sx, by omega⟩); omega) (by omega) (by omega) (refMul_c2 x y A B S1 S2 B1 B2 w m sx (by omega))
        · exact yes _ (by have := p2 (Or.inr ⟨by omega, sy⟩); omega) (by omega) (by omega) (refMul_c3 x y A B S1 S2 B1 B2 w m (by omega) sy)
        · exact no (by have := p1 (Or.inr ⟨by omega, by omega⟩); omega) (refMul_c1 x y A B S1 S2 B1 B2 w m (by omega) (by omega))
      · by_cases sx : 0 ≤ x <;> by_cases sy : 0 ≤ y
        · exact yes lo (by have := p1 (Or.inl ⟨sx, sy⟩); omega) (by omega) (by omega) (refMul_d0 x y A B lo S1 S2 B1 B2 w m sx sy (by omega) (by omega))
        · exact yes (-lo) (by have := p2 (Or.inl ⟨sx, by omega⟩); omega) (by omega) (by omega) (refMul_d2 x y A B lo S1 S2 B1 B2 w m sx (by omega) (by omega) (by omega))
        · exact yes (-lo) (by have := p2 (Or.inr ⟨by omega, sy⟩); omega) (by omega) (by omega) (refMul_d3 x y A B lo S1 S2 B1 B2 w m (by omega) sy (by omega) (by omega))
        · exact yes lo (by have := p1 (Or.inr ⟨by omega, by omega⟩); omega) (by omega) (by omega) (refMul_d1 x y A B lo S1 S2 B1 B2 w m (by omega) (by omega) (by omega) (by omega))
theorem refMul_any (K1 N1 : Int) (S1 : ByteArray) (B1 : Bool) (K2 N2 : Int) (S2 : ByteArray) (B2 : Bool) (w : World) (hx : -9223372036854775808 ≤ N1 ∧ N1 ≤ 9223372036854775807) (hy : -9223372036854775808 ≤ N2 ∧ N2 ≤ 9223372036854775807) :
    Calls Tryd.prog 32 #[val K1 N1 S1 B1, val K2 N2 S2 B2] w fun e w' => e = .returned (.tuple #[val (rK 1 K1 K2 (inR (N1 * N2))) (rN 1 K1 K2 (inR (N1 * N2)) (N1 * N2)) ⟨#[]⟩ false, .string (rS 1 K1 K2 (inR (N1 * N2)) sOut)]) ∧ Below w.heap.size w w' := by
  by_cases hn : K1 = 1 ∧ K2 = 1
  · obtain ⟨rfl, rfl⟩ := hn
    exact refMul_go N1 N2 S1 S2 B1 B2 w hx hy
  · have h := refMul_out K1 N1 S1 B1 K2 N2 S2 B2 (inR (N1 * N2)) sOut hn w
    have e1 : rK 1 K1 K2 (inR (N1 * N2)) = 0 := by simp [rK, rOk_no hn]
    have e2 : rN 1 K1 K2 (inR (N1 * N2)) (N1 * N2) = 0 := by simp [rN, rOk_no hn]
    rw [e1, e2]
    exact h
end Go.Proofs.YticlmegcpneckaaDoor

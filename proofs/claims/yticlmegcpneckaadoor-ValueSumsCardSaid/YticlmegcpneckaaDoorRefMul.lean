/- The walks of the document's own product, by parts of 32 bits. -/
import Derived.Test.YticlmegcpneckaaDoorRefSums
namespace Go.Proofs.YticlmegcpneckaaDoor
open Go.RowKit
set_option linter.unusedVariables false

theorem wrapU {z : Int} (h1 : 0 ≤ z) (h2 : z ≤ 18446744073709551615) : IntKind.u64.wrap z = z := by
  simp [IntKind.wrap, IntKind.signed, IntKind.bits]
  omega
theorem wrapN {z : Int} (h1 : -18446744073709551616 ≤ z) (h2 : z < 0) : IntKind.u64.wrap z = z + 18446744073709551616 := by
  simp [IntKind.wrap, IntKind.signed, IntKind.bits]
  omega
theorem ret_u {a b : Int} (h : a = b) : Ending.returned (.int .u64 a) = .returned (.int .u64 b) := by rw [h]
theorem ret_uu {a b c d : Int} (h : a = b) (h2 : c = d) : Ending.returned (.tuple #[.int .u64 a, .int .u64 c]) = .returned (.tuple #[.int .u64 b, .int .u64 d]) := by rw [h, h2]
theorem wide_math (p m1 m2 m3 t : Int) (p1 : 0 ≤ p) (p2 : p ≤ 18446744065119617025) (a1 : 0 ≤ m1) (a2 : m1 ≤ 9223372034707292160) (b1 : 0 ≤ m2) (b2 : m2 ≤ 9223372034707292160) (c1 : 0 ≤ m3) (c2 : m3 ≤ 4611686018427387904) (ht : t = m3 * 18446744073709551616 + (m1 + m2) * 4294967296 + p) :
    IntKind.u64.wrap (IntKind.u64.wrap (IntKind.u64.wrap m3 + IntKind.u64.wrap ((IntKind.u64.wrap (IntKind.u64.wrap m1 + IntKind.u64.wrap ((IntKind.u64.wrap p).tdiv 4294967296))).tdiv 4294967296)) + IntKind.u64.wrap ((IntKind.u64.wrap (IntKind.u64.wrap m2 + (IntKind.u64.wrap (IntKind.u64.wrap m1 + IntKind.u64.wrap ((IntKind.u64.wrap p).tdiv 4294967296))).tmod 4294967296)).tdiv 4294967296)) = t / 18446744073709551616 ∧
    IntKind.u64.wrap (IntKind.u64.wrap ((IntKind.u64.wrap (IntKind.u64.wrap m2 + (IntKind.u64.wrap (IntKind.u64.wrap m1 + IntKind.u64.wrap ((IntKind.u64.wrap p).tdiv 4294967296))).tmod 4294967296)).tmod 4294967296 * 4294967296) + (IntKind.u64.wrap p).tmod 4294967296) = t % 18446744073709551616 := by
  rw [wrapU p1 (by omega), wrapU a1 (by omega), wrapU b1 (by omega), wrapU c1 (by omega), Int.tdiv_eq_ediv_of_nonneg p1, Int.tmod_eq_emod_of_nonneg p1]
  have d1 : 0 ≤ p / 4294967296 ∧ p / 4294967296 ≤ 4294967294 := by omega
  rw [wrapU d1.1 (by omega)]
  obtain ⟨q, hq⟩ : ∃ q, q = m1 + p / 4294967296 := ⟨_, rfl⟩
  rw [← hq]
  have q1 : 0 ≤ q := by omega
  rw [wrapU q1 (by omega), Int.tdiv_eq_ediv_of_nonneg q1, Int.tmod_eq_emod_of_nonneg q1]
  obtain ⟨r, hr⟩ : ∃ r, r = m2 + q % 4294967296 := ⟨_, rfl⟩
  rw [← hr]
  have r1 : 0 ≤ r := by omega
  rw [wrapU r1 (by omega), Int.tdiv_eq_ediv_of_nonneg r1, Int.tmod_eq_emod_of_nonneg r1]
  rw [wrapU (z := q / 4294967296) (by omega) (by omega), wrapU (z := r / 4294967296) (by omega) (by omega), wrapU (z := r % 4294967296 * 4294967296) (by omega) (by omega), wrapU (z := m3 + q / 4294967296) (by omega) (by omega), wrapU (z := m3 + q / 4294967296 + r / 4294967296) (by omega) (by omega), wrapU (z := r % 4294967296 * 4294967296 + p % 4294967296) (by omega) (by omega)]
  omega
theorem mul_bd {x y X Y : Int} (x0 : 0 ≤ x) (x1 : x ≤ X) (y0 : 0 ≤ y) (y1 : y ≤ Y) : 0 ≤ x * y ∧ x * y ≤ X * Y :=
  ⟨Int.mul_nonneg x0 y0, Int.mul_le_mul x1 y1 y0 (by omega)⟩
theorem split_mul (a b : Int) : a * b = (a / 4294967296 * (b / 4294967296)) * 18446744073709551616 + (a / 4294967296 * (b % 4294967296) + a % 4294967296 * (b / 4294967296)) * 4294967296 + a % 4294967296 * (b % 4294967296) := by
  have ha := Int.mul_ediv_add_emod a 4294967296
  have hb := Int.mul_ediv_add_emod b 4294967296
  generalize a / 4294967296 = x at *
  generalize a % 4294967296 = y at *
  generalize b / 4294967296 = u at *
  generalize b % 4294967296 = v at *
  subst ha hb
  rw [Int.add_mul, Int.mul_add, Int.mul_add]
  have e1 : 4294967296 * x * (4294967296 * u) = x * u * 18446744073709551616 := by
    rw [Int.mul_assoc, ← Int.mul_assoc x, Int.mul_comm x 4294967296, Int.mul_assoc 4294967296 x u]; omega
  have e2 : 4294967296 * x * v = x * v * 4294967296 := by rw [Int.mul_assoc]; omega
  have e3 : y * (4294967296 * u) = y * u * 4294967296 := by rw [Int.mul_comm 4294967296 u, Int.mul_assoc]
  rw [e1, e2, e3]
  omega

set_option maxHeartbeats 400000 in
theorem size_neg (n : Int) (w : World) (h1 : -9223372036854775808 ≤ n) (h2 : n < 0) :
    Calls Tryd.prog 60 #[.int .i64 n] w fun e w' => e = .returned (.int .u64 (-n)) ∧ w' = w := by
  go_enter Tryd.func60, Tryd.ntmps60
  go_wp2
  go_ret
  refine ⟨ret_u ?_, rfl⟩
  rw [wrapN (z := n) (by omega) h2, wrapN (by omega) (by omega)]
  omega
set_option maxHeartbeats 400000 in
theorem size_pos (n : Int) (w : World) (h1 : n ≤ 9223372036854775807) (h2 : 0 ≤ n) :
    Calls Tryd.prog 60 #[.int .i64 n] w fun e w' => e = .returned (.int .u64 n) ∧ w' = w := by
  go_enter Tryd.func60, Tryd.ntmps60
  go_wp2
  go_ret
  exact ⟨rfl, rfl⟩
set_option maxHeartbeats 400000 in
theorem wide_any (a b : Int) (w : World) (a1 : 0 ≤ a) (a2 : a ≤ 9223372036854775808) (b1 : 0 ≤ b) (b2 : b ≤ 9223372036854775808) :
    Calls Tryd.prog 59 #[.int .u64 a, .int .u64 b] w fun e w' => e = .returned (.tuple #[.int .u64 (a * b / 18446744073709551616), .int .u64 (a * b % 18446744073709551616)]) ∧ w' = w := by
  go_enter Tryd.func59, Tryd.ntmps59
  go_wp2
  go_ret2
  have hh := mul_bd (x := a / 4294967296) (X := 2147483648) (y := b / 4294967296) (Y := 2147483648) (by omega) (by omega) (by omega) (by omega)
  have hl := mul_bd (x := a / 4294967296) (X := 2147483648) (y := b % 4294967296) (Y := 4294967295) (by omega) (by omega) (by omega) (by omega)
  have lh := mul_bd (x := a % 4294967296) (X := 4294967295) (y := b / 4294967296) (Y := 2147483648) (by omega) (by omega) (by omega) (by omega)
  have ll := mul_bd (x := a % 4294967296) (X := 4294967295) (y := b % 4294967296) (Y := 4294967295) (by omega) (by omega) (by omega) (by omega)
  have m := wide_math _ _ _ _ _ ll.1 (by omega) hl.1 (by omega) lh.1 (by omega) hh.1 (by omega) (split_mul a b)
  exact ⟨ret_uu m.1 m.2, rfl⟩
end Go.Proofs.YticlmegcpneckaaDoor

/- The walks of the document's own product, difference and negative, as the document's Cast asks for them. -/
import Derived.Test.YtfmnlgepllgpnaaGreatDoorT2RefAssign
import Derived.Deep.QuietTactic
import Derived.BigQuiet
import Derived.Deep.RegionWith
namespace Go.Proofs.YtfmnlgepllgpnaaGreatDoor
open Go.RowKit
set_option linter.unusedVariables false

set_option maxHeartbeats 1000000 in
theorem refBoth_go (kk N1 : Int) (S1 : ByteArray) (B1 : Bool) (N2 : Int) (S2 : ByteArray) (B2 : Bool) (h0 : (kk == 0) = false) (w : World) :
    Calls Tryz.prog 83 #[val kk N1 S1 B1, val kk N2 S2 B2, .int .i64 kk] w fun e w' => e = .returned (.tuple #[.string sDone, .bool false]) ∧ Below w.heap.size w w' := by
  have b1 : (kk != 0) = true := by simpa using h0
  go_enter Tryz.func83, Tryz.ntmps83
  go_wp2
  go_quiet (fail)
  go_wp2
  go_ret2
  exact ⟨rfl, (by repeat (first | exact Below.refl _ _ | assumption | refine Below.alloc ?_ (by first | (simp; done) | (simp; omega)) _ | refine Below.setCell ?_ (by first | (simp; done) | (simp; omega)) _ | refine Below.drew ?_ | refine below_drewN ?_ _))⟩

theorem wrapU {z : Int} (h1 : 0 ≤ z) (h2 : z ≤ 18446744073709551615) : IntKind.u64.wrap z = z := by
  simp [IntKind.wrap, IntKind.signed, IntKind.bits]
  omega
theorem wrapN {z : Int} (h1 : -18446744073709551616 ≤ z) (h2 : z < 0) : IntKind.u64.wrap z = z + 18446744073709551616 := by
  simp [IntKind.wrap, IntKind.signed, IntKind.bits]
  omega
theorem ret_u {a b : Int} (h : a = b) : Ending.returned (.int .u64 a) = .returned (.int .u64 b) := by rw [h]
theorem ret_uu {a b c d : Int} (h : a = b) (h2 : c = d) : Ending.returned (.tuple #[.int .u64 a, .int .u64 c]) = .returned (.tuple #[.int .u64 b, .int .u64 d]) := by rw [h, h2]
theorem wide_math (p m1 m2 m3 t : Int) (p1 : 0 ≤ p) (p2 : p ≤ 18446744065119617025) (a1 : 0 ≤ m1) (a2 : m1 ≤ 9223372034707292160) (b1 : 0 ≤ m2) (b2 : m2 ≤ 9223372034707292160) (c1 : 0 ≤ m3) (c2 : m3 ≤ 4611686018427387904) (ht : t = m3 * 18446744073709551616 + (m1 + m2) * 4294967296 + p) :
    IntKind.u64.wrap (IntKind.u64.wrap (IntKind.u64.wrap m3 + IntKind.u64.wrap ((IntKind.u64.wrap (IntKind.u64.wrap m1 + IntKind.u64.wrap ((IntKind.u64.wrap p).tdiv 4294967296))).tdiv 4294967296)) + IntKind.u64.wrap ((IntKind.u64.wrap (IntKind.u64.wrap m2 + (IntKind.u64.wrap (IntKind.u64.wrap m1 + IntKind.u64.wrap ((IntKind.u64.wrap p).tdiv 4294967296))).tmod 4294967296)).tdiv 4294967296)) = t / 18446744073709551616 ∧
    IntKind.u64.wrap (IntKind.u64.wrap ((IntKind.u64.wrap (IntKind.u64.wrap m2 + (IntKind.u64.wrap (IntKind.u64.wrap m1 + IntKind.u64.wrap ((IntKind.u64.wrap p).tdiv 4294967296))).tmod 4294967296)).tmod 4294967296 * 4294967296) + (IntKind.u64.wrap p).tmod 4294967296) = t % 18446744073709551616 := by
  rw [wrapU p1 (by omega), wrapU a1 (by omega), wrapU b1 (by omega), wrapU c1 (by omega), Int.tdiv_eq_ediv_of_nonneg p1, Int.tmod_eq_emod_of_nonneg p1]
  have d1 : 0 ≤ p / 4294967296 ∧ p / 4294967296 ≤ 4294967294 := by omega
  rw [wrapU d1.1 (by omega)]
  obtain ⟨q, hq⟩ : ∃ q, q = m1 + p / 4294967296 := ⟨_, rfl⟩
  rw [← hq]
  have q1 : 0 ≤ q := by omega
  rw [wrapU q1 (by omega), Int.tdiv_eq_ediv_of_nonneg q1, Int.tmod_eq_emod_of_nonneg q1]
  obtain ⟨r, hr⟩ : ∃ r, r = m2 + q % 4294967296 := ⟨_, rfl⟩
  rw [← hr]
  have r1 : 0 ≤ r := by omega
  rw [wrapU r1 (by omega), Int.tdiv_eq_ediv_of_nonneg r1, Int.tmod_eq_emod_of_nonneg r1]
  rw [wrapU (z := q / 4294967296) (by omega) (by omega), wrapU (z := r / 4294967296) (by omega) (by omega), wrapU (z := r % 4294967296 * 4294967296) (by omega) (by omega), wrapU (z := m3 + q / 4294967296) (by omega) (by omega), wrapU (z := m3 + q / 4294967296 + r / 4294967296) (by omega) (by omega), wrapU (z := r % 4294967296 * 4294967296 + p % 4294967296) (by omega) (by omega)]
  omega
theorem mul_bd {x y X Y : Int} (x0 : 0 ≤ x) (x1 : x ≤ X) (y0 : 0 ≤ y) (y1 : y ≤ Y) : 0 ≤ x * y ∧ x * y ≤ X * Y :=
  ⟨Int.mul_nonneg x0 y0, Int.mul_le_mul x1 y1 y0 (by omega)⟩
theorem split_mul (a b : Int) : a * b = (a / 4294967296 * (b / 4294967296)) * 18446744073709551616 + (a / 4294967296 * (b % 4294967296) + a % 4294967296 * (b / 4294967296)) * 4294967296 + a % 4294967296 * (b % 4294967296) := by
  have ha := Int.mul_ediv_add_emod a 4294967296
  have hb := Int.mul_ediv_add_emod b 4294967296
  generalize a / 4294967296 = x at *
  generalize a % 4294967296 = y at *
  generalize b / 4294967296 = u at *
  generalize b % 4294967296 = v at *
  subst ha hb
  rw [Int.add_mul, Int.mul_add, Int.mul_add]
  have e1 : 4294967296 * x * (4294967296 * u) = x * u * 18446744073709551616 := by
    rw [Int.mul_assoc, ← Int.mul_assoc x, Int.mul_comm x 4294967296, Int.mul_assoc 4294967296 x u]; omega
  have e2 : 4294967296 * x * v = x * v * 4294967296 := by rw [Int.mul_assoc]; omega
  have e3 : y * (4294967296 * u) = y * u * 4294967296 := by rw [Int.mul_comm 4294967296 u, Int.mul_assoc]
  rw [e1, e2, e3]
  omega

set_option maxHeartbeats 400000 in
theorem size_neg (n : Int) (w : World) (h1 : -9223372036854775808 ≤ n) (h2 : n < 0) :
    Calls Tryz.prog 85 #[.int .i64 n] w fun e w' => e = .returned (.int .u64 (-n)) ∧ w' = w := by
  go_enter Tryz.func85, Tryz.ntmps85
  go_wp2
  go_ret
  refine ⟨ret_u ?_, rfl⟩
  rw [wrapN (z := n) (by omega) h2, wrapN (by omega) (by omega)]
  omega
set_option maxHeartbeats 400000 in
theorem size_pos (n : Int) (w : World) (h1 : n ≤ 9223372036854775807) (h2 : 0 ≤ n) :
    Calls Tryz.prog 85 #[.int .i64 n] w fun e w' => e = .returned (.int .u64 n) ∧ w' = w := by
  go_enter Tryz.func85, Tryz.ntmps85
  go_wp2
  go_ret
  exact ⟨rfl, rfl⟩
set_option maxHeartbeats 400000 in
theorem wide_any (a b : Int) (w : World) (a1 : 0 ≤ a) (a2 : a ≤ 9223372036854775808) (b1 : 0 ≤ b) (b2 : b ≤ 9223372036854775808) :
    Calls Tryz.prog 84 #[.int .u64 a, .int .u64 b] w fun e w' => e = .returned (.tuple #[.int .u64 (a * b / 18446744073709551616), .int .u64 (a * b % 18446744073709551616)]) ∧ w' = w := by
  go_enter Tryz.func84, Tryz.ntmps84
  go_wp2
  go_ret2
  have hh := mul_bd (x := a / 4294967296) (X := 2147483648) (y := b / 4294967296) (Y := 2147483648) (by omega) (by omega) (by omega) (by omega)
  have hl := mul_bd (x := a / 4294967296) (X := 2147483648) (y := b % 4294967296) (Y := 4294967295) (by omega) (by omega) (by omega) (by omega)
  have lh := mul_bd (x := a % 4294967296) (X := 4294967295) (y := b / 4294967296) (Y := 2147483648) (by omega) (by omega) (by omega) (by omega)
  have ll := mul_bd (x := a % 4294967296) (X := 4294967295) (y := b % 4294967296) (Y := 4294967295) (by omega) (by omega) (by omega) (by omega)
  have m := wide_math _ _ _ _ _ ll.1 (by omega) hl.1 (by omega) lh.1 (by omega) hh.1 (by omega) (split_mul a b)
  exact ⟨ret_uu m.1 m.2, rfl⟩
theorem size_is (n A : Int) (w : World) (h1 : -9223372036854775808 ≤ n) (h2 : n ≤ 9223372036854775807) (hA : (n < 0 ∧ A = -n) ∨ (0 ≤ n ∧ A = n)) :
    Calls Tryz.prog 85 #[.int .i64 n] w fun e w' => e = .returned (.int .u64 A) ∧ w' = w := by
  rcases hA with ⟨h, rfl⟩ | ⟨h, rfl⟩
  · exact size_neg n w h1 h
  · exact size_pos A w h2 h
theorem wide_is (A B hi lo : Int) (w : World) (a1 : 0 ≤ A) (a2 : A ≤ 9223372036854775808) (b1 : 0 ≤ B) (b2 : B ≤ 9223372036854775808) (hh : A * B / 18446744073709551616 = hi) (hl : A * B % 18446744073709551616 = lo) :
    Calls Tryz.prog 84 #[.int .u64 A, .int .u64 B] w fun e w' => e = .returned (.tuple #[.int .u64 hi, .int .u64 lo]) ∧ w' = w := by
  subst hh hl
  exact wide_any A B w a1 a2 b1 b2
theorem neg_lo {lo : Int} (h0 : 0 ≤ lo) (h : lo ≤ 9223372036854775808) : wrap64 (IntKind.u64.wrap (-lo)) = -lo := by
  by_cases e : lo = 0
  · subst e; decide +kernel
  · rw [wrapN (by omega) (by omega)]; unfold wrap64; omega
theorem bcellD {W w1 : World} {n : Nat} (hb : Below (W.drewN n).heap.size (W.drewN n) w1) : (∀ b o, b < W.heap.size → w1.cell? ⟨b, o, none⟩ = W.cell? ⟨b, o, none⟩) ∧ (∀ b o, b < W.heap.size → w1.frozen? ⟨b, o, none⟩ = W.frozen? ⟨b, o, none⟩) :=
  ⟨fun b o h => (hb.cell (p := ⟨b, o, none⟩) h).trans rfl, fun b o h => (hb.frozen (p := ⟨b, o, none⟩) h).trans rfl⟩
theorem num_is (n r : Int) (w : World) (h : n = r) :
    Calls Tryz.prog 20 #[.int .i64 n] w fun e w' => e = .returned (val 1 r ⟨#[]⟩ false) ∧ Below w.heap.size w w' := by
  subst h; exact num_any n w
/-- What is known of two numbers, of their sizes and of these sizes' product. -/
structure MulIs (x y A B hi lo : Int) : Prop where
  x1 : -9223372036854775808 ≤ x
  x2 : x ≤ 9223372036854775807
  y1 : -9223372036854775808 ≤ y
  y2 : y ≤ 9223372036854775807
  hA : (x < 0 ∧ A = -x) ∨ (0 ≤ x ∧ A = x)
  hB : (y < 0 ∧ B = -y) ∨ (0 ≤ y ∧ B = y)
  hh : A * B / 18446744073709551616 = hi
  hl : A * B % 18446744073709551616 = lo
theorem MulIs.a1 {x y A B hi lo : Int} (m : MulIs x y A B hi lo) : 0 ≤ A := by have := m.hA; omega
theorem MulIs.a2 {x y A B hi lo : Int} (m : MulIs x y A B hi lo) : A ≤ 9223372036854775808 := by have := m.hA; have := m.x1; have := m.x2; omega
theorem MulIs.b1 {x y A B hi lo : Int} (m : MulIs x y A B hi lo) : 0 ≤ B := by have := m.hB; omega
theorem MulIs.b2 {x y A B hi lo : Int} (m : MulIs x y A B hi lo) : B ≤ 9223372036854775808 := by have := m.hB; have := m.y1; have := m.y2; omega

set_option maxHeartbeats 1000000 in
theorem refMul_d0 (x y A B lo : Int) (S1 S2 : ByteArray) (B1 B2 : Bool) (w : World) (m : MulIs x y A B 0 lo) (sx : 0 ≤ x) (sy : 0 ≤ y) (h0 : 0 ≤ lo) (h : lo ≤ 9223372036854775807) :
    Calls Tryz.prog 56 #[val 1 x S1 B1, val 1 y S2 B2] w fun e w' => e = .returned (.tuple #[val 1 lo ⟨#[]⟩ false, .string sDone]) ∧ Below w.heap.size w w' := by
  have dx : decide (x < 0) = false := by simp; omega
  have dy : decide (y < 0) = false := by simp; omega
  go_enter Tryz.func56, Tryz.ntmps56
  go_wp2_with fail
  refine (refBoth_go 1 x S1 B1 y S2 B2 rfl _).mono ?_
  rintro e w1 ⟨rfl, hb⟩
  obtain ⟨hcl, hfr⟩ := bcell hb
  have hB1 : Below w.heap.size w w1 := (by repeat (first | exact Below.refl _ _ | assumption | refine Below.alloc ?_ (by first | (simp; done) | (simp; omega)) _ | refine Below.setCell ?_ (by first | (simp; done) | (simp; omega)) _ | refine Below.drew ?_ | refine below_drewN ?_ _ | refine Below.trans ?_ (hb.mono (by first | (simp; done) | (simp; omega)))))
  have hz := hb.size
  simp at hz
  have hz2 : w.heap.size + 1 + 1 < w1.heap.size := by omega
  go_wp2_with fail
  go_quiet (first | (go_at_call_of 85 (Value.int IntKind.i64 x); exact Calls.quiet_of_same (size_is x A _ m.x1 m.x2 m.hA)) | (go_at_call 85; exact Calls.quiet_of_same (size_is y B _ m.y1 m.y2 m.hB)) | (go_at_call 84; exact Calls.quiet_of_same (wide_is A B 0 lo _ m.a1 m.a2 m.b1 m.b2 m.hh m.hl)))
  go_wp2_with fail
  refine (num_is _ lo _ rfl).mono ?_
  rintro e w2 ⟨rfl, hb2⟩
  obtain ⟨hcl2, hfr2⟩ := bcellD hb2
  have hB : Below w.heap.size w w2 := keepA (below_drewN hB1 _) hb2
  clear hb2
  go_wp2
  exact bodyPost_ret (v := .tuple #[val 1 lo ⟨#[]⟩ false, .string sDone]) (by simp [results, Tryz.results56, go_sem, hcl, hcl2, hz2]) rfl ⟨rfl, (by repeat (first | exact hB | refine Below.setCell ?_ (by first | (simp; done) | (simp; omega)) _))⟩
set_option maxHeartbeats 1000000 in
theorem refMul_a3 (x y A B hi lo : Int) (S1 S2 : ByteArray) (B1 B2 : Bool) (w : World) (m : MulIs x y A B hi lo) (sx : x < 0) (sy : 0 ≤ y) (h : 0 < hi) :
    Calls Tryz.prog 56 #[val 1 x S1 B1, val 1 y S2 B2] w fun e w' => e = .returned (.tuple #[nullV, .string sOut]) ∧ Below w.heap.size w w' := by
  have dx : decide (x < 0) = true := by simp; omega
  have dy : decide (y < 0) = false := by simp; omega
  go_enter Tryz.func56, Tryz.ntmps56
  go_wp2_with fail
  refine (refBoth_go 1 x S1 B1 y S2 B2 rfl _).mono ?_
  rintro e w1 ⟨rfl, hb⟩
  obtain ⟨hcl, hfr⟩ := bcell hb
  have hB1 : Below w.heap.size w w1 := (by repeat (first | exact Below.refl _ _ | assumption | refine Below.alloc ?_ (by first | (simp; done) | (simp; omega)) _ | refine Below.setCell ?_ (by first | (simp; done) | (simp; omega)) _ | refine Below.drew ?_ | refine below_drewN ?_ _ | refine Below.trans ?_ (hb.mono (by first | (simp; done) | (simp; omega)))))
  have hz := hb.size
  simp at hz
  have hz2 : w.heap.size + 1 + 1 < w1.heap.size := by omega
  go_wp2_with fail
  go_quiet (first | (go_at_call_of 85 (Value.int IntKind.i64 x); exact Calls.quiet_of_same (size_is x A _ m.x1 m.x2 m.hA)) | (go_at_call 85; exact Calls.quiet_of_same (size_is y B _ m.y1 m.y2 m.hB)) | (go_at_call 84; exact Calls.quiet_of_same (wide_is A B hi lo _ m.a1 m.a2 m.b1 m.b2 m.hh m.hl)))
  go_wp2
  exact bodyPost_ret (v := .tuple #[nullV, .string sOut]) (by simp [results, Tryz.results56, go_sem, hcl]) rfl ⟨rfl, (by repeat (first | exact hB1 | exact below_drewN hB1 _ | refine Below.setCell ?_ (by first | (simp; done) | (simp; omega)) _))⟩
set_option maxHeartbeats 1000000 in
theorem refMul_b3 (x y A B lo : Int) (S1 S2 : ByteArray) (B1 B2 : Bool) (w : World) (m : MulIs x y A B 0 lo) (sx : x < 0) (sy : 0 ≤ y) (h : 9223372036854775808 < lo) :
    Calls Tryz.prog 56 #[val 1 x S1 B1, val 1 y S2 B2] w fun e w' => e = .returned (.tuple #[nullV, .string sOut]) ∧ Below w.heap.size w w' := by
  have dx : decide (x < 0) = true := by simp; omega
  have dy : decide (y < 0) = false := by simp; omega
  go_enter Tryz.func56, Tryz.ntmps56
  go_wp2_with fail
  refine (refBoth_go 1 x S1 B1 y S2 B2 rfl _).mono ?_
  rintro e w1 ⟨rfl, hb⟩
  obtain ⟨hcl, hfr⟩ := bcell hb
  have hB1 : Below w.heap.size w w1 := (by repeat (first | exact Below.refl _ _ | assumption | refine Below.alloc ?_ (by first | (simp; done) | (simp; omega)) _ | refine Below.setCell ?_ (by first | (simp; done) | (simp; omega)) _ | refine Below.drew ?_ | refine below_drewN ?_ _ | refine Below.trans ?_ (hb.mono (by first | (simp; done) | (simp; omega)))))
  have hz := hb.size
  simp at hz
  have hz2 : w.heap.size + 1 + 1 < w1.heap.size := by omega
  go_wp2_with fail
  go_quiet (first | (go_at_call_of 85 (Value.int IntKind.i64 x); exact Calls.quiet_of_same (size_is x A _ m.x1 m.x2 m.hA)) | (go_at_call 85; exact Calls.quiet_of_same (size_is y B _ m.y1 m.y2 m.hB)) | (go_at_call 84; exact Calls.quiet_of_same (wide_is A B 0 lo _ m.a1 m.a2 m.b1 m.b2 m.hh m.hl)))
  go_wp2
  exact bodyPost_ret (v := .tuple #[nullV, .string sOut]) (by simp [results, Tryz.results56, go_sem, hcl]) rfl ⟨rfl, (by repeat (first | exact hB1 | exact below_drewN hB1 _ | refine Below.setCell ?_ (by first | (simp; done) | (simp; omega)) _))⟩
set_option maxHeartbeats 1000000 in
theorem refMul_c3 (x y A B : Int) (S1 S2 : ByteArray) (B1 B2 : Bool) (w : World) (m : MulIs x y A B 0 9223372036854775808) (sx : x < 0) (sy : 0 ≤ y)  :
    Calls Tryz.prog 56 #[val 1 x S1 B1, val 1 y S2 B2] w fun e w' => e = .returned (.tuple #[val 1 (-9223372036854775808) ⟨#[]⟩ false, .string sDone]) ∧ Below w.heap.size w w' := by
  have dx : decide (x < 0) = true := by simp; omega
  have dy : decide (y < 0) = false := by simp; omega
  go_enter Tryz.func56, Tryz.ntmps56
  go_wp2_with fail
  refine (refBoth_go 1 x S1 B1 y S2 B2 rfl _).mono ?_
  rintro e w1 ⟨rfl, hb⟩
  obtain ⟨hcl, hfr⟩ := bcell hb
  have hB1 : Below w.heap.size w w1 := (by repeat (first | exact Below.refl _ _ | assumption | refine Below.alloc ?_ (by first | (simp; done) | (simp; omega)) _ | refine Below.setCell ?_ (by first | (simp; done) | (simp; omega)) _ | refine Below.drew ?_ | refine below_drewN ?_ _ | refine Below.trans ?_ (hb.mono (by first | (simp; done) | (simp; omega)))))
  have hz := hb.size
  simp at hz
  have hz2 : w.heap.size + 1 + 1 < w1.heap.size := by omega
  go_wp2_with fail
  go_quiet (first | (go_at_call_of 85 (Value.int IntKind.i64 x); exact Calls.quiet_of_same (size_is x A _ m.x1 m.x2 m.hA)) | (go_at_call 85; exact Calls.quiet_of_same (size_is y B _ m.y1 m.y2 m.hB)) | (go_at_call 84; exact Calls.quiet_of_same (wide_is A B 0 9223372036854775808 _ m.a1 m.a2 m.b1 m.b2 m.hh m.hl)))
  go_wp2_with fail
  refine (num_is _ (-9223372036854775808) _ (neg_lo (by omega) (by omega))).mono ?_
  rintro e w2 ⟨rfl, hb2⟩
  obtain ⟨hcl2, hfr2⟩ := bcellD hb2
  have hB : Below w.heap.size w w2 := keepA (below_drewN hB1 _) hb2
  clear hb2
  go_wp2
  exact bodyPost_ret (v := .tuple #[val 1 (-9223372036854775808) ⟨#[]⟩ false, .string sDone]) (by simp [results, Tryz.results56, go_sem, hcl, hcl2, hz2]) rfl ⟨rfl, (by repeat (first | exact hB | refine Below.setCell ?_ (by first | (simp; done) | (simp; omega)) _))⟩
set_option maxHeartbeats 1000000 in
theorem refMul_d3 (x y A B lo : Int) (S1 S2 : ByteArray) (B1 B2 : Bool) (w : World) (m : MulIs x y A B 0 lo) (sx : x < 0) (sy : 0 ≤ y) (h0 : 0 ≤ lo) (h : lo ≤ 9223372036854775807) :
    Calls Tryz.prog 56 #[val 1 x S1 B1, val 1 y S2 B2] w fun e w' => e = .returned (.tuple #[val 1 (-lo) ⟨#[]⟩ false, .string sDone]) ∧ Below w.heap.size w w' := by
  have dx : decide (x < 0) = true := by simp; omega
  have dy : decide (y < 0) = false := by simp; omega
  go_enter Tryz.func56, Tryz.ntmps56
  go_wp2_with fail
  refine (refBoth_go 1 x S1 B1 y S2 B2 rfl _).mono ?_
  rintro e w1 ⟨rfl, hb⟩
  obtain ⟨hcl, hfr⟩ := bcell hb
  have hB1 : Below w.heap.size w w1 := (by repeat (first | exact Below.refl _ _ | assumption | refine Below.alloc ?_ (by first | (simp; done) | (simp; omega)) _ | refine Below.setCell ?_ (by first | (simp; done) | (simp; omega)) _ | refine Below.drew ?_ | refine below_drewN ?_ _ | refine Below.trans ?_ (hb.mono (by first | (simp; done) | (simp; omega)))))
  have hz := hb.size
  simp at hz
  have hz2 : w.heap.size + 1 + 1 < w1.heap.size := by omega
  go_wp2_with fail
  go_quiet (first | (go_at_call_of 85 (Value.int IntKind.i64 x); exact Calls.quiet_of_same (size_is x A _ m.x1 m.x2 m.hA)) | (go_at_call 85; exact Calls.quiet_of_same (size_is y B _ m.y1 m.y2 m.hB)) | (go_at_call 84; exact Calls.quiet_of_same (wide_is A B 0 lo _ m.a1 m.a2 m.b1 m.b2 m.hh m.hl)))
  go_wp2_with fail
  refine (num_is _ (-lo) _ (neg_lo (by omega) (by omega))).mono ?_
  rintro e w2 ⟨rfl, hb2⟩
  obtain ⟨hcl2, hfr2⟩ := bcellD hb2
  have hB : Below w.heap.size w w2 := keepA (below_drewN hB1 _) hb2
  clear hb2
  go_wp2
  exact bodyPost_ret (v := .tuple #[val 1 (-lo) ⟨#[]⟩ false, .string sDone]) (by simp [results, Tryz.results56, go_sem, hcl, hcl2, hz2]) rfl ⟨rfl, (by repeat (first | exact hB | refine Below.setCell ?_ (by first | (simp; done) | (simp; omega)) _))⟩
set_option maxHeartbeats 1000000 in
theorem refSub_in1 (x y : Int) (S1 S2 : ByteArray) (B1 B2 : Bool) (w : World) (x1 : -9223372036854775808 ≤ x) (x2 : x ≤ 9223372036854775807) (y1 : -9223372036854775808 ≤ y) (y2 : y ≤ 9223372036854775807) (h1 : -9223372036854775808 ≤ x - y) (h2 : x - y ≤ 9223372036854775807) (c1 : 0 ≤ x) (c2 : 0 ≤ y) :
    Calls Tryz.prog 57 #[val 1 x S1 B1, val 1 y S2 B2] w fun e w' => e = .returned (.tuple #[val 1 (x - y) ⟨#[]⟩ false, .string sDone]) ∧ Below w.heap.size w w' := by
  go_enter Tryz.func57, Tryz.ntmps57
  go_wp2_with fail
  refine (refBoth_go 1 x S1 B1 y S2 B2 rfl _).mono ?_
  rintro e w1 ⟨rfl, hb⟩
  obtain ⟨hcl, hfr⟩ := bcell hb
  have hB1 : Below w.heap.size w w1 := (by repeat (first | exact Below.refl _ _ | assumption | refine Below.alloc ?_ (by first | (simp; done) | (simp; omega)) _ | refine Below.setCell ?_ (by first | (simp; done) | (simp; omega)) _ | refine Below.drew ?_ | refine below_drewN ?_ _ | refine Below.trans ?_ (hb.mono (by first | (simp; done) | (simp; omega)))))
  have hz := hb.size
  simp at hz
  go_wp2_with fail
  refine (num_any _ _).mono ?_
  rintro e w2 ⟨rfl, hb2⟩
  obtain ⟨hcl2, hfr2⟩ := bcell hb2
  have hB : Below w.heap.size w w2 := keepA hB1 hb2
  have hz2 : w.heap.size + 1 + 1 < w1.heap.size := by omega
  go_wp2
  exact bodyPost_ret (v := .tuple #[val 1 (x - y) ⟨#[]⟩ false, .string sDone]) (by simp [results, Tryz.results57, go_sem, hcl, hcl2, hz2]) rfl ⟨rfl, (by repeat (first | exact hB | refine Below.setCell ?_ (by first | (simp; done) | (simp; omega)) _))⟩
set_option maxHeartbeats 1000000 in
theorem refSub_in2 (x y : Int) (S1 S2 : ByteArray) (B1 B2 : Bool) (w : World) (x1 : -9223372036854775808 ≤ x) (x2 : x ≤ 9223372036854775807) (y1 : -9223372036854775808 ≤ y) (y2 : y ≤ 9223372036854775807) (h1 : -9223372036854775808 ≤ x - y) (h2 : x - y ≤ 9223372036854775807) (c1 : 0 ≤ x) (c2 : y < 0) :
    Calls Tryz.prog 57 #[val 1 x S1 B1, val 1 y S2 B2] w fun e w' => e = .returned (.tuple #[val 1 (x - y) ⟨#[]⟩ false, .string sDone]) ∧ Below w.heap.size w w' := by
  go_enter Tryz.func57, Tryz.ntmps57
  go_wp2_with fail
  refine (refBoth_go 1 x S1 B1 y S2 B2 rfl _).mono ?_
  rintro e w1 ⟨rfl, hb⟩
  obtain ⟨hcl, hfr⟩ := bcell hb
  have hB1 : Below w.heap.size w w1 := (by repeat (first | exact Below.refl _ _ | assumption | refine Below.alloc ?_ (by first | (simp; done) | (simp; omega)) _ | refine Below.setCell ?_ (by first | (simp; done) | (simp; omega)) _ | refine Below.drew ?_ | refine below_drewN ?_ _ | refine Below.trans ?_ (hb.mono (by first | (simp; done) | (simp; omega)))))
  have hz := hb.size
  simp at hz
  go_wp2_with fail
  refine (num_any _ _).mono ?_
  rintro e w2 ⟨rfl, hb2⟩
  obtain ⟨hcl2, hfr2⟩ := bcell hb2
  have hB : Below w.heap.size w w2 := keepA hB1 hb2
  have hz2 : w.heap.size + 1 + 1 < w1.heap.size := by omega
  go_wp2
  exact bodyPost_ret (v := .tuple #[val 1 (x - y) ⟨#[]⟩ false, .string sDone]) (by simp [results, Tryz.results57, go_sem, hcl, hcl2, hz2]) rfl ⟨rfl, (by repeat (first | exact hB | refine Below.setCell ?_ (by first | (simp; done) | (simp; omega)) _))⟩
set_option maxHeartbeats 1000000 in
theorem refSub_in3 (x y : Int) (S1 S2 : ByteArray) (B1 B2 : Bool) (w : World) (x1 : -9223372036854775808 ≤ x) (x2 : x ≤ 9223372036854775807) (y1 : -9223372036854775808 ≤ y) (y2 : y ≤ 9223372036854775807) (h1 : -9223372036854775808 ≤ x - y) (h2 : x - y ≤ 9223372036854775807) (c1 : x < 0) (c2 : 0 ≤ y) :
    Calls Tryz.prog 57 #[val 1 x S1 B1, val 1 y S2 B2] w fun e w' => e = .returned (.tuple #[val 1 (x - y) ⟨#[]⟩ false, .string sDone]) ∧ Below w.heap.size w w' := by
  go_enter Tryz.func57, Tryz.ntmps57
  go_wp2_with fail
  refine (refBoth_go 1 x S1 B1 y S2 B2 rfl _).mono ?_
  rintro e w1 ⟨rfl, hb⟩
  obtain ⟨hcl, hfr⟩ := bcell hb
  have hB1 : Below w.heap.size w w1 := (by repeat (first | exact Below.refl _ _ | assumption | refine Below.alloc ?_ (by first | (simp; done) | (simp; omega)) _ | refine Below.setCell ?_ (by first | (simp; done) | (simp; omega)) _ | refine Below.drew ?_ | refine below_drewN ?_ _ | refine Below.trans ?_ (hb.mono (by first | (simp; done) | (simp; omega)))))
  have hz := hb.size
  simp at hz
  go_wp2_with fail
  refine (num_any _ _).mono ?_
  rintro e w2 ⟨rfl, hb2⟩
  obtain ⟨hcl2, hfr2⟩ := bcell hb2
  have hB : Below w.heap.size w w2 := keepA hB1 hb2
  have hz2 : w.heap.size + 1 + 1 < w1.heap.size := by omega
  go_wp2
  exact bodyPost_ret (v := .tuple #[val 1 (x - y) ⟨#[]⟩ false, .string sDone]) (by simp [results, Tryz.results57, go_sem, hcl, hcl2, hz2]) rfl ⟨rfl, (by repeat (first | exact hB | refine Below.setCell ?_ (by first | (simp; done) | (simp; omega)) _))⟩
set_option maxHeartbeats 1000000 in
theorem refSub_in4 (x y : Int) (S1 S2 : ByteArray) (B1 B2 : Bool) (w : World) (x1 : -9223372036854775808 ≤ x) (x2 : x ≤ 9223372036854775807) (y1 : -9223372036854775808 ≤ y) (y2 : y ≤ 9223372036854775807) (h1 : -9223372036854775808 ≤ x - y) (h2 : x - y ≤ 9223372036854775807) (c1 : x < 0) (c2 : y < 0) :
    Calls Tryz.prog 57 #[val 1 x S1 B1, val 1 y S2 B2] w fun e w' => e = .returned (.tuple #[val 1 (x - y) ⟨#[]⟩ false, .string sDone]) ∧ Below w.heap.size w w' := by
  go_enter Tryz.func57, Tryz.ntmps57
  go_wp2_with fail
  refine (refBoth_go 1 x S1 B1 y S2 B2 rfl _).mono ?_
  rintro e w1 ⟨rfl, hb⟩
  obtain ⟨hcl, hfr⟩ := bcell hb
  have hB1 : Below w.heap.size w w1 := (by repeat (first | exact Below.refl _ _ | assumption | refine Below.alloc ?_ (by first | (simp; done) | (simp; omega)) _ | refine Below.setCell ?_ (by first | (simp; done) | (simp; omega)) _ | refine Below.drew ?_ | refine below_drewN ?_ _ | refine Below.trans ?_ (hb.mono (by first | (simp; done) | (simp; omega)))))
  have hz := hb.size
  simp at hz
  go_wp2_with fail
  refine (num_any _ _).mono ?_
  rintro e w2 ⟨rfl, hb2⟩
  obtain ⟨hcl2, hfr2⟩ := bcell hb2
  have hB : Below w.heap.size w w2 := keepA hB1 hb2
  have hz2 : w.heap.size + 1 + 1 < w1.heap.size := by omega
  go_wp2
  exact bodyPost_ret (v := .tuple #[val 1 (x - y) ⟨#[]⟩ false, .string sDone]) (by simp [results, Tryz.results57, go_sem, hcl, hcl2, hz2]) rfl ⟨rfl, (by repeat (first | exact hB | refine Below.setCell ?_ (by first | (simp; done) | (simp; omega)) _))⟩
set_option maxHeartbeats 1000000 in
theorem refSub_out1 (x y : Int) (S1 S2 : ByteArray) (B1 B2 : Bool) (w : World) (c1 : 0 ≤ x) (c2 : y < 0) (hw : wrap64 (x - y) < 0) :
    Calls Tryz.prog 57 #[val 1 x S1 B1, val 1 y S2 B2] w fun e w' => e = .returned (.tuple #[nullV, .string sOut]) ∧ Below w.heap.size w w' := by
  go_enter Tryz.func57, Tryz.ntmps57
  go_wp2_with fail
  refine (refBoth_go 1 x S1 B1 y S2 B2 rfl _).mono ?_
  rintro e w1 ⟨rfl, hb⟩
  obtain ⟨hcl, hfr⟩ := bcell hb
  go_wp2
  exact bodyPost_ret (v := .tuple #[nullV, .string sOut]) (by simp [results, Tryz.results57, go_sem, hcl]) rfl ⟨rfl, (by repeat (first | exact Below.refl _ _ | assumption | refine Below.alloc ?_ (by first | (simp; done) | (simp; omega)) _ | refine Below.setCell ?_ (by first | (simp; done) | (simp; omega)) _ | refine Below.drew ?_ | refine below_drewN ?_ _ | refine Below.trans ?_ (hb.mono (by first | (simp; done) | (simp; omega)))))⟩
set_option maxHeartbeats 1000000 in
theorem refSub_out2 (x y : Int) (S1 S2 : ByteArray) (B1 B2 : Bool) (w : World) (c1 : x < 0) (c2 : 0 ≤ y) (hw : 0 ≤ wrap64 (x - y)) :
    Calls Tryz.prog 57 #[val 1 x S1 B1, val 1 y S2 B2] w fun e w' => e = .returned (.tuple #[nullV, .string sOut]) ∧ Below w.heap.size w w' := by
  go_enter Tryz.func57, Tryz.ntmps57
  go_wp2_with fail
  refine (refBoth_go 1 x S1 B1 y S2 B2 rfl _).mono ?_
  rintro e w1 ⟨rfl, hb⟩
  obtain ⟨hcl, hfr⟩ := bcell hb
  go_wp2
  exact bodyPost_ret (v := .tuple #[nullV, .string sOut]) (by simp [results, Tryz.results57, go_sem, hcl]) rfl ⟨rfl, (by repeat (first | exact Below.refl _ _ | assumption | refine Below.alloc ?_ (by first | (simp; done) | (simp; omega)) _ | refine Below.setCell ?_ (by first | (simp; done) | (simp; omega)) _ | refine Below.drew ?_ | refine below_drewN ?_ _ | refine Below.trans ?_ (hb.mono (by first | (simp; done) | (simp; omega)))))⟩
end Go.Proofs.YtfmnlgepllgpnaaGreatDoor

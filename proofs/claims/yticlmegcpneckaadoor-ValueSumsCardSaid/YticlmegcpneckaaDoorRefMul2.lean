/- The walk of the document's own product, a theorem a sign and an outcome. -/
import Derived.Test.YticlmegcpneckaaDoorRefMul
namespace Go.Proofs.YticlmegcpneckaaDoor
open Go.RowKit
set_option linter.unusedVariables false

theorem size_is (n A : Int) (w : World) (h1 : -9223372036854775808 ≤ n) (h2 : n ≤ 9223372036854775807) (hA : (n < 0 ∧ A = -n) ∨ (0 ≤ n ∧ A = n)) :
    Calls Tryd.prog 60 #[.int .i64 n] w fun e w' => e = .returned (.int .u64 A) ∧ w' = w := by
  rcases hA with ⟨h, rfl⟩ | ⟨h, rfl⟩
  · exact size_neg n w h1 h
  · exact size_pos A w h2 h
theorem wide_is (A B hi lo : Int) (w : World) (a1 : 0 ≤ A) (a2 : A ≤ 9223372036854775808) (b1 : 0 ≤ B) (b2 : B ≤ 9223372036854775808) (hh : A * B / 18446744073709551616 = hi) (hl : A * B % 18446744073709551616 = lo) :
    Calls Tryd.prog 59 #[.int .u64 A, .int .u64 B] w fun e w' => e = .returned (.tuple #[.int .u64 hi, .int .u64 lo]) ∧ w' = w := by
  subst hh hl
  exact wide_any A B w a1 a2 b1 b2
theorem neg_lo {lo : Int} (h0 : 0 ≤ lo) (h : lo ≤ 9223372036854775808) : wrap64 (IntKind.u64.wrap (-lo)) = -lo := by
  by_cases e : lo = 0
  · subst e; decide +kernel
  · rw [wrapN (by omega) (by omega)]; unfold wrap64; omega
theorem bcellD {W w1 : World} {n : Nat} (hb : Below (W.drewN n).heap.size (W.drewN n) w1) : (∀ b o, b < W.heap.size → w1.cell? ⟨b, o, none⟩ = W.cell? ⟨b, o, none⟩) ∧ (∀ b o, b < W.heap.size → w1.frozen? ⟨b, o, none⟩ = W.frozen? ⟨b, o, none⟩) :=
  ⟨fun b o h => (hb.cell (p := ⟨b, o, none⟩) h).trans rfl, fun b o h => (hb.frozen (p := ⟨b, o, none⟩) h).trans rfl⟩
theorem num_is (n r : Int) (w : World) (h : n = r) :
    Calls Tryd.prog 42 #[.int .i64 n] w fun e w' => e = .returned (val 1 r ⟨#[]⟩ false) ∧ Below w.heap.size w w' := by
  subst h; exact num_any n w
/-- What is known of two numbers, of their sizes and of these sizes' product. -/
structure MulIs (x y A B hi lo : Int) : Prop where
  x1 : -9223372036854775808 ≤ x
  x2 : x ≤ 9223372036854775807
  y1 : -9223372036854775808 ≤ y
  y2 : y ≤ 9223372036854775807
  hA : (x < 0 ∧ A = -x) ∨ (0 ≤ x ∧ A = x)
  hB : (y < 0 ∧ B = -y) ∨ (0 ≤ y ∧ B = y)
  hh : A * B / 18446744073709551616 = hi
  hl : A * B % 18446744073709551616 = lo
theorem MulIs.a1 {x y A B hi lo : Int} (m : MulIs x y A B hi lo) : 0 ≤ A := by have := m.hA; omega
theorem MulIs.a2 {x y A B hi lo : Int} (m : MulIs x y A B hi lo) : A ≤ 9223372036854775808 := by have := m.hA; have := m.x1; have := m.x2; omega
theorem MulIs.b1 {x y A B hi lo : Int} (m : MulIs x y A B hi lo) : 0 ≤ B := by have := m.hB; omega
theorem MulIs.b2 {x y A B hi lo : Int} (m : MulIs x y A B hi lo) : B ≤ 9223372036854775808 := by have := m.hB; have := m.y1; have := m.y2; omega

set_option maxHeartbeats 1000000 in
theorem refMul_a0 (x y A B hi lo : Int) (S1 S2 : ByteArray) (B1 B2 : Bool) (w : World) (m : MulIs x y A B hi lo) (sx : 0 ≤ x) (sy : 0 ≤ y) (h : 0 < hi) :
    Calls Tryd.prog 32 #[val 1 x S1 B1, val 1 y S2 B2] w fun e w' => e = .returned (.tuple #[nullV, .string sOut]) ∧ Below w.heap.size w w' := by
  have dx : decide (x < 0) = false := by simp; omega
  have dy : decide (y < 0) = false := by simp; omega
  go_enter Tryd.func32, Tryd.ntmps32
  go_wp2_with fail
  refine (refBoth_go 1 x S1 B1 y S2 B2 rfl _).mono ?_
  rintro e w1 ⟨rfl, hb⟩
  obtain ⟨hcl, hfr⟩ := bcell hb
  have hB1 : Below w.heap.size w w1 := (by repeat (first | exact Below.refl _ _ | assumption | refine Below.alloc ?_ (by first | (simp; done) | (simp; omega)) _ | refine Below.setCell ?_ (by first | (simp; done) | (simp; omega)) _ | refine Below.drew ?_ | refine below_drewN ?_ _ | refine Below.trans ?_ (hb.mono (by first | (simp; done) | (simp; omega)))))
  have hz := hb.size
  simp at hz
  have hz2 : w.heap.size + 1 + 1 < w1.heap.size := by omega
  go_wp2_with fail
  go_quiet (first | (go_at_call_of 60 (Value.int IntKind.i64 x); exact Calls.quiet_of_same (size_is x A _ m.x1 m.x2 m.hA)) | (go_at_call 60; exact Calls.quiet_of_same (size_is y B _ m.y1 m.y2 m.hB)) | (go_at_call 59; exact Calls.quiet_of_same (wide_is A B hi lo _ m.a1 m.a2 m.b1 m.b2 m.hh m.hl)))
  go_wp2
  exact bodyPost_ret (v := .tuple #[nullV, .string sOut]) (by simp [results, Tryd.results32, go_sem, hcl]) rfl ⟨rfl, (by repeat (first | exact hB1 | exact below_drewN hB1 _ | refine Below.setCell ?_ (by first | (simp; done) | (simp; omega)) _))⟩
set_option maxHeartbeats 1000000 in
theorem refMul_b0 (x y A B lo : Int) (S1 S2 : ByteArray) (B1 B2 : Bool) (w : World) (m : MulIs x y A B 0 lo) (sx : 0 ≤ x) (sy : 0 ≤ y) (h : 9223372036854775808 < lo) :
    Calls Tryd.prog 32 #[val 1 x S1 B1, val 1 y S2 B2] w fun e w' => e = .returned (.tuple #[nullV, .string sOut]) ∧ Below w.heap.size w w' := by
  have dx : decide (x < 0) = false := by simp; omega
  have dy : decide (y < 0) = false := by simp; omega
  go_enter Tryd.func32, Tryd.ntmps32
  go_wp2_with fail
  refine (refBoth_go 1 x S1 B1 y S2 B2 rfl _).mono ?_
  rintro e w1 ⟨rfl, hb⟩
  obtain ⟨hcl, hfr⟩ := bcell hb
  have hB1 : Below w.heap.size w w1 := (by repeat (first | exact Below.refl _ _ | assumption | refine Below.alloc ?_ (by first | (simp; done) | (simp; omega)) _ | refine Below.setCell ?_ (by first | (simp; done) | (simp; omega)) _ | refine Below.drew ?_ | refine below_drewN ?_ _ | refine Below.trans ?_ (hb.mono (by first | (simp; done) | (simp; omega)))))
  have hz := hb.size
  simp at hz
  have hz2 : w.heap.size + 1 + 1 < w1.heap.size := by omega
  go_wp2_with fail
  go_quiet (first | (go_at_call_of 60 (Value.int IntKind.i64 x); exact Calls.quiet_of_same (size_is x A _ m.x1 m.x2 m.hA)) | (go_at_call 60; exact Calls.quiet_of_same (size_is y B _ m.y1 m.y2 m.hB)) | (go_at_call 59; exact Calls.quiet_of_same (wide_is A B 0 lo _ m.a1 m.a2 m.b1 m.b2 m.hh m.hl)))
  go_wp2
  exact bodyPost_ret (v := .tuple #[nullV, .string sOut]) (by simp [results, Tryd.results32, go_sem, hcl]) rfl ⟨rfl, (by repeat (first | exact hB1 | exact below_drewN hB1 _ | refine Below.setCell ?_ (by first | (simp; done) | (simp; omega)) _))⟩
set_option maxHeartbeats 1000000 in
theorem refMul_c0 (x y A B : Int) (S1 S2 : ByteArray) (B1 B2 : Bool) (w : World) (m : MulIs x y A B 0 9223372036854775808) (sx : 0 ≤ x) (sy : 0 ≤ y)  :
    Calls Tryd.prog 32 #[val 1 x S1 B1, val 1 y S2 B2] w fun e w' => e = .returned (.tuple #[nullV, .string sOut]) ∧ Below w.heap.size w w' := by
  have dx : decide (x < 0) = false := by simp; omega
  have dy : decide (y < 0) = false := by simp; omega
  go_enter Tryd.func32, Tryd.ntmps32
  go_wp2_with fail
  refine (refBoth_go 1 x S1 B1 y S2 B2 rfl _).mono ?_
  rintro e w1 ⟨rfl, hb⟩
  obtain ⟨hcl, hfr⟩ := bcell hb
  have hB1 : Below w.heap.size w w1 := (by repeat (first | exact Below.refl _ _ | assumption | refine Below.alloc ?_ (by first | (simp; done) | (simp; omega)) _ | refine Below.setCell ?_ (by first | (simp; done) | (simp; omega)) _ | refine Below.drew ?_ | refine below_drewN ?_ _ | refine Below.trans ?_ (hb.mono (by first | (simp; done) | (simp; omega)))))
  have hz := hb.size
  simp at hz
  have hz2 : w.heap.size + 1 + 1 < w1.heap.size := by omega
  go_wp2_with fail
  go_quiet (first | (go_at_call_of 60 (Value.int IntKind.i64 x); exact Calls.quiet_of_same (size_is x A _ m.x1 m.x2 m.hA)) | (go_at_call 60; exact Calls.quiet_of_same (size_is y B _ m.y1 m.y2 m.hB)) | (go_at_call 59; exact Calls.quiet_of_same (wide_is A B 0 9223372036854775808 _ m.a1 m.a2 m.b1 m.b2 m.hh m.hl)))
  go_wp2
  exact bodyPost_ret (v := .tuple #[nullV, .string sOut]) (by simp [results, Tryd.results32, go_sem, hcl]) rfl ⟨rfl, (by repeat (first | exact hB1 | exact below_drewN hB1 _ | refine Below.setCell ?_ (by first | (simp; done) | (simp; omega)) _))⟩
set_option maxHeartbeats 1000000 in
theorem refMul_d0 (x y A B lo : Int) (S1 S2 : ByteArray) (B1 B2 : Bool) (w : World) (m : MulIs x y A B 0 lo) (sx : 0 ≤ x) (sy : 0 ≤ y) (h0 : 0 ≤ lo) (h : lo ≤ 9223372036854775807) :
    Calls Tryd.prog 32 #[val 1 x S1 B1, val 1 y S2 B2] w fun e w' => e = .returned (.tuple #[val 1 lo ⟨#[]⟩ false, .string sDone]) ∧ Below w.heap.size w w' := by
  have dx : decide (x < 0) = false := by simp; omega
  have dy : decide (y < 0) = false := by simp; omega
  go_enter Tryd.func32, Tryd.ntmps32
  go_wp2_with fail
  refine (refBoth_go 1 x S1 B1 y S2 B2 rfl _).mono ?_
  rintro e w1 ⟨rfl, hb⟩
  obtain ⟨hcl, hfr⟩ := bcell hb
  have hB1 : Below w.heap.size w w1 := (by repeat (first | exact Below.refl _ _ | assumption | refine Below.alloc ?_ (by first | (simp; done) | (simp; omega)) _ | refine Below.setCell ?_ (by first | (simp; done) | (simp; omega)) _ | refine Below.drew ?_ | refine below_drewN ?_ _ | refine Below.trans ?_ (hb.mono (by first | (simp; done) | (simp; omega)))))
  have hz := hb.size
  simp at hz
  have hz2 : w.heap.size + 1 + 1 < w1.heap.size := by omega
  go_wp2_with fail
  go_quiet (first | (go_at_call_of 60 (Value.int IntKind.i64 x); exact Calls.quiet_of_same (size_is x A _ m.x1 m.x2 m.hA)) | (go_at_call 60; exact Calls.quiet_of_same (size_is y B _ m.y1 m.y2 m.hB)) | (go_at_call 59; exact Calls.quiet_of_same (wide_is A B 0 lo _ m.a1 m.a2 m.b1 m.b2 m.hh m.hl)))
  go_wp2_with fail
  refine (num_is _ lo _ rfl).mono ?_
  rintro e w2 ⟨rfl, hb2⟩
  obtain ⟨hcl2, hfr2⟩ := bcellD hb2
  have hB : Below w.heap.size w w2 := keepA (below_drewN hB1 _) hb2
  clear hb2
  go_wp2
  exact bodyPost_ret (v := .tuple #[val 1 lo ⟨#[]⟩ false, .string sDone]) (by simp [results, Tryd.results32, go_sem, hcl, hcl2, hz2]) rfl ⟨rfl, (by repeat (first | exact hB | refine Below.setCell ?_ (by first | (simp; done) | (simp; omega)) _))⟩
set_option maxHeartbeats 1000000 in
theorem refMul_a1 (x y A B hi lo : Int) (S1 S2 : ByteArray) (B1 B2 : Bool) (w : World) (m : MulIs x y A B hi lo) (sx : x < 0) (sy : y < 0) (h : 0 < hi) :
    Calls Tryd.prog 32 #[val 1 x S1 B1, val 1 y S2 B2] w fun e w' => e = .returned (.tuple #[nullV, .string sOut]) ∧ Below w.heap.size w w' := by
  have dx : decide (x < 0) = true := by simp; omega
  have dy : decide (y < 0) = true := by simp; omega
  go_enter Tryd.func32, Tryd.ntmps32
  go_wp2_with fail
  refine (refBoth_go 1 x S1 B1 y S2 B2 rfl _).mono ?_
  rintro e w1 ⟨rfl, hb⟩
  obtain ⟨hcl, hfr⟩ := bcell hb
  have hB1 : Below w.heap.size w w1 := (by repeat (first | exact Below.refl _ _ | assumption | refine Below.alloc ?_ (by first | (simp; done) | (simp; omega)) _ | refine Below.setCell ?_ (by first | (simp; done) | (simp; omega)) _ | refine Below.drew ?_ | refine below_drewN ?_ _ | refine Below.trans ?_ (hb.mono (by first | (simp; done) | (simp; omega)))))
  have hz := hb.size
  simp at hz
  have hz2 : w.heap.size + 1 + 1 < w1.heap.size := by omega
  go_wp2_with fail
  go_quiet (first | (go_at_call_of 60 (Value.int IntKind.i64 x); exact Calls.quiet_of_same (size_is x A _ m.x1 m.x2 m.hA)) | (go_at_call 60; exact Calls.quiet_of_same (size_is y B _ m.y1 m.y2 m.hB)) | (go_at_call 59; exact Calls.quiet_of_same (wide_is A B hi lo _ m.a1 m.a2 m.b1 m.b2 m.hh m.hl)))
  go_wp2
  exact bodyPost_ret (v := .tuple #[nullV, .string sOut]) (by simp [results, Tryd.results32, go_sem, hcl]) rfl ⟨rfl, (by repeat (first | exact hB1 | exact below_drewN hB1 _ | refine Below.setCell ?_ (by first | (simp; done) | (simp; omega)) _))⟩
set_option maxHeartbeats 1000000 in
theorem refMul_b1 (x y A B lo : Int) (S1 S2 : ByteArray) (B1 B2 : Bool) (w : World) (m : MulIs x y A B 0 lo) (sx : x < 0) (sy : y < 0) (h : 9223372036854775808 < lo) :
    Calls Tryd.prog 32 #[val 1 x S1 B1, val 1 y S2 B2] w fun e w' => e = .returned (.tuple #[nullV, .string sOut]) ∧ Below w.heap.size w w' := by
  have dx : decide (x < 0) = true := by simp; omega
  have dy : decide (y < 0) = true := by simp; omega
  go_enter Tryd.func32, Tryd.ntmps32
  go_wp2_with fail
  refine (refBoth_go 1 x S1 B1 y S2 B2 rfl _).mono ?_
  rintro e w1 ⟨rfl, hb⟩
  obtain ⟨hcl, hfr⟩ := bcell hb
  have hB1 : Below w.heap.size w w1 := (by repeat (first | exact Below.refl _ _ | assumption | refine Below.alloc ?_ (by first | (simp; done) | (simp; omega)) _ | refine Below.setCell ?_ (by first | (simp; done) | (simp; omega)) _ | refine Below.drew ?_ | refine below_drewN ?_ _ | refine Below.trans ?_ (hb.mono (by first | (simp; done) | (simp; omega)))))
  have hz := hb.size
  simp at hz
  have hz2 : w.heap.size + 1 + 1 < w1.heap.size := by omega
  go_wp2_with fail
  go_quiet (first | (go_at_call_of 60 (Value.int IntKind.i64 x); exact Calls.quiet_of_same (size_is x A _ m.x1 m.x2 m.hA)) | (go_at_call 60; exact Calls.quiet_of_same (size_is y B _ m.y1 m.y2 m.hB)) | (go_at_call 59; exact Calls.quiet_of_same (wide_is A B 0 lo _ m.a1 m.a2 m.b1 m.b2 m.hh m.hl)))
  go_wp2
  exact bodyPost_ret (v := .tuple #[nullV, .string sOut]) (by simp [results, Tryd.results32, go_sem, hcl]) rfl ⟨rfl, (by repeat (first | exact hB1 | exact below_drewN hB1 _ | refine Below.setCell ?_ (by first | (simp; done) | (simp; omega)) _))⟩
set_option maxHeartbeats 1000000 in
theorem refMul_c1 (x y A B : Int) (S1 S2 : ByteArray) (B1 B2 : Bool) (w : World) (m : MulIs x y A B 0 9223372036854775808) (sx : x < 0) (sy : y < 0)  :
    Calls Tryd.prog 32 #[val 1 x S1 B1, val 1 y S2 B2] w fun e w' => e = .returned (.tuple #[nullV, .string sOut]) ∧ Below w.heap.size w w' := by
  have dx : decide (x < 0) = true := by simp; omega
  have dy : decide (y < 0) = true := by simp; omega
  go_enter Tryd.func32, Tryd.ntmps32
  go_wp2_with fail
  refine (refBoth_go 1 x S1 B1 y S2 B2 rfl _).mono ?_
  rintro e w1 ⟨rfl, hb⟩
  obtain ⟨hcl, hfr⟩ := bcell hb
  have hB1 : Below w.heap.size w w1 := (by repeat (first | exact Below.refl _ _ | assumption | refine Below.alloc ?_ (by first | (simp; done) | (simp; omega)) _ | refine Below.setCell ?_ (by first | (simp; done) | (simp; omega)) _ | refine Below.drew ?_ | refine below_drewN ?_ _ | refine Below.trans ?_ (hb.mono (by first | (simp; done) | (simp; omega)))))
  have hz := hb.size
  simp at hz
  have hz2 : w.heap.size + 1 + 1 < w1.heap.size := by omega
  go_wp2_with fail
  go_quiet (first | (go_at_call_of 60 (Value.int IntKind.i64 x); exact Calls.quiet_of_same (size_is x A _ m.x1 m.x2 m.hA)) | (go_at_call 60; exact Calls.quiet_of_same (size_is y B _ m.y1 m.y2 m.hB)) | (go_at_call 59; exact Calls.quiet_of_same (wide_is A B 0 9223372036854775808 _ m.a1 m.a2 m.b1 m.b2 m.hh m.hl)))
  go_wp2
  exact bodyPost_ret (v := .tuple #[nullV, .string sOut]) (by simp [results, Tryd.results32, go_sem, hcl]) rfl ⟨rfl, (by repeat (first | exact hB1 | exact below_drewN hB1 _ | refine Below.setCell ?_ (by first | (simp; done) | (simp; omega)) _))⟩
set_option maxHeartbeats 1000000 in
theorem refMul_d1 (x y A B lo : Int) (S1 S2 : ByteArray) (B1 B2 : Bool) (w : World) (m : MulIs x y A B 0 lo) (sx : x < 0) (sy : y < 0) (h0 : 0 ≤ lo) (h : lo ≤ 9223372036854775807) :
    Calls Tryd.prog 32 #[val 1 x S1 B1, val 1 y S2 B2] w fun e w' => e = .returned (.tuple #[val 1 lo ⟨#[]⟩ false, .string sDone]) ∧ Below w.heap.size w w' := by
  have dx : decide (x < 0) = true := by simp; omega
  have dy : decide (y < 0) = true := by simp; omega
  go_enter Tryd.func32, Tryd.ntmps32
  go_wp2_with fail
  refine (refBoth_go 1 x S1 B1 y S2 B2 rfl _).mono ?_
  rintro e w1 ⟨rfl, hb⟩
  obtain ⟨hcl, hfr⟩ := bcell hb
  have hB1 : Below w.heap.size w w1 := (by repeat (first | exact Below.refl _ _ | assumption | refine Below.alloc ?_ (by first | (simp; done) | (simp; omega)) _ | refine Below.setCell ?_ (by first | (simp; done) | (simp; omega)) _ | refine Below.drew ?_ | refine below_drewN ?_ _ | refine Below.trans ?_ (hb.mono (by first | (simp; done) | (simp; omega)))))
  have hz := hb.size
  simp at hz
  have hz2 : w.heap.size + 1 + 1 < w1.heap.size := by omega
  go_wp2_with fail
  go_quiet (first | (go_at_call_of 60 (Value.int IntKind.i64 x); exact Calls.quiet_of_same (size_is x A _ m.x1 m.x2 m.hA)) | (go_at_call 60; exact Calls.quiet_of_same (size_is y B _ m.y1 m.y2 m.hB)) | (go_at_call 59; exact Calls.quiet_of_same (wide_is A B 0 lo _ m.a1 m.a2 m.b1 m.b2 m.hh m.hl)))
  go_wp2_with fail
  refine (num_is _ lo _ rfl).mono ?_
  rintro e w2 ⟨rfl, hb2⟩
  obtain ⟨hcl2, hfr2⟩ := bcellD hb2
  have hB : Below w.heap.size w w2 := keepA (below_drewN hB1 _) hb2
  clear hb2
  go_wp2
  exact bodyPost_ret (v := .tuple #[val 1 lo ⟨#[]⟩ false, .string sDone]) (by simp [results, Tryd.results32, go_sem, hcl, hcl2, hz2]) rfl ⟨rfl, (by repeat (first | exact hB | refine Below.setCell ?_ (by first | (simp; done) | (simp; omega)) _))⟩
set_option maxHeartbeats 1000000 in
theorem refMul_a2 (x y A B hi lo : Int) (S1 S2 : ByteArray) (B1 B2 : Bool) (w : World) (m : MulIs x y A B hi lo) (sx : 0 ≤ x) (sy : y < 0) (h : 0 < hi) :
    Calls Tryd.prog 32 #[val 1 x S1 B1, val 1 y S2 B2] w fun e w' => e = .returned (.tuple #[nullV, .string sOut]) ∧ Below w.heap.size w w' := by
  have dx : decide (x < 0) = false := by simp; omega
  have dy : decide (y < 0) = true := by simp; omega
  go_enter Tryd.func32, Tryd.ntmps32
  go_wp2_with fail
  refine (refBoth_go 1 x S1 B1 y S2 B2 rfl _).mono ?_
  rintro e w1 ⟨rfl, hb⟩
  obtain ⟨hcl, hfr⟩ := bcell hb
  have hB1 : Below w.heap.size w w1 := (by repeat (first | exact Below.refl _ _ | assumption | refine Below.alloc ?_ (by first | (simp; done) | (simp; omega)) _ | refine Below.setCell ?_ (by first | (simp; done) | (simp; omega)) _ | refine Below.drew ?_ | refine below_drewN ?_ _ | refine Below.trans ?_ (hb.mono (by first | (simp; done) | (simp; omega)))))
  have hz := hb.size
  simp at hz
  have hz2 : w.heap.size + 1 + 1 < w1.heap.size := by omega
  go_wp2_with fail
  go_quiet (first | (go_at_call_of 60 (Value.int IntKind.i64 x); exact Calls.quiet_of_same (size_is x A _ m.x1 m.x2 m.hA)) | (go_at_call 60; exact Calls.quiet_of_same (size_is y B _ m.y1 m.y2 m.hB)) | (go_at_call 59; exact Calls.quiet_of_same (wide_is A B hi lo _ m.a1 m.a2 m.b1 m.b2 m.hh m.hl)))
  go_wp2
  exact bodyPost_ret (v := .tuple #[nullV, .string sOut]) (by simp [results, Tryd.results32, go_sem, hcl]) rfl ⟨rfl, (by repeat (first | exact hB1 | exact below_drewN hB1 _ | refine Below.setCell ?_ (by first | (simp; done) | (simp; omega)) _))⟩
set_option maxHeartbeats 1000000 in
theorem refMul_b2 (x y A B lo : Int) (S1 S2 : ByteArray) (B1 B2 : Bool) (w : World) (m : MulIs x y A B 0 lo) (sx : 0 ≤ x) (sy : y < 0) (h : 9223372036854775808 < lo) :
    Calls Tryd.prog 32 #[val 1 x S1 B1, val 1 y S2 B2] w fun e w' => e = .returned (.tuple #[nullV, .string sOut]) ∧ Below w.heap.size w w' := by
  have dx : decide (x < 0) = false := by simp; omega
  have dy : decide (y < 0) = true := by simp; omega
  go_enter Tryd.func32, Tryd.ntmps32
  go_wp2_with fail
  refine (refBoth_go 1 x S1 B1 y S2 B2 rfl _).mono ?_
  rintro e w1 ⟨rfl, hb⟩
  obtain ⟨hcl, hfr⟩ := bcell hb
  have hB1 : Below w.heap.size w w1 := (by repeat (first | exact Below.refl _ _ | assumption | refine Below.alloc ?_ (by first | (simp; done) | (simp; omega)) _ | refine Below.setCell ?_ (by first | (simp; done) | (simp; omega)) _ | refine Below.drew ?_ | refine below_drewN ?_ _ | refine Below.trans ?_ (hb.mono (by first | (simp; done) | (simp; omega)))))
  have hz := hb.size
  simp at hz
  have hz2 : w.heap.size + 1 + 1 < w1.heap.size := by omega
  go_wp2_with fail
  go_quiet (first | (go_at_call_of 60 (Value.int IntKind.i64 x); exact Calls.quiet_of_same (size_is x A _ m.x1 m.x2 m.hA)) | (go_at_call 60; exact Calls.quiet_of_same (size_is y B _ m.y1 m.y2 m.hB)) | (go_at_call 59; exact Calls.quiet_of_same (wide_is A B 0 lo _ m.a1 m.a2 m.b1 m.b2 m.hh m.hl)))
  go_wp2
  exact bodyPost_ret (v := .tuple #[nullV, .string sOut]) (by simp [results, Tryd.results32, go_sem, hcl]) rfl ⟨rfl, (by repeat (first | exact hB1 | exact below_drewN hB1 _ | refine Below.setCell ?_ (by first | (simp; done) | (simp; omega)) _))⟩
set_option maxHeartbeats 1000000 in
theorem refMul_c2 (x y A B : Int) (S1 S2 : ByteArray) (B1 B2 : Bool) (w : World) (m : MulIs x y A B 0 9223372036854775808) (sx : 0 ≤ x) (sy : y < 0)  :
    Calls Tryd.prog 32 #[val 1 x S1 B1, val 1 y S2 B2] w fun e w' => e = .returned (.tuple #[val 1 (-9223372036854775808) ⟨#[]⟩ false, .string sDone]) ∧ Below w.heap.size w w' := by
  have dx : decide (x < 0) = false := by simp; omega
  have dy : decide (y < 0) = true := by simp; omega
  go_enter Tryd.func32, Tryd.ntmps32
  go_wp2_with fail
  refine (refBoth_go 1 x S1 B1 y S2 B2 rfl _).mono ?_
  rintro e w1 ⟨rfl, hb⟩
  obtain ⟨hcl, hfr⟩ := bcell hb
  have hB1 : Below w.heap.size w w1 := (by repeat (first | exact Below.refl _ _ | assumption | refine Below.alloc ?_ (by first | (simp; done) | (simp; omega)) _ | refine Below.setCell ?_ (by first | (simp; done) | (simp; omega)) _ | refine Below.drew ?_ | refine below_drewN ?_ _ | refine Below.trans ?_ (hb.mono (by first | (simp; done) | (simp; omega)))))
  have hz := hb.size
  simp at hz
  have hz2 : w.heap.size + 1 + 1 < w1.heap.size := by omega
  go_wp2_with fail
  go_quiet (first | (go_at_call_of 60 (Value.int IntKind.i64 x); exact Calls.quiet_of_same (size_is x A _ m.x1 m.x2 m.hA)) | (go_at_call 60; exact Calls.quiet_of_same (size_is y B _ m.y1 m.y2 m.hB)) | (go_at_call 59; exact Calls.quiet_of_same (wide_is A B 0 9223372036854775808 _ m.a1 m.a2 m.b1 m.b2 m.hh m.hl)))
  go_wp2_with fail
  refine (num_is _ (-9223372036854775808) _ (neg_lo (by omega) (by omega))).mono ?_
  rintro e w2 ⟨rfl, hb2⟩
  obtain ⟨hcl2, hfr2⟩ := bcellD hb2
  have hB : Below w.heap.size w w2 := keepA (below_drewN hB1 _) hb2
  clear hb2
  go_wp2
  exact bodyPost_ret (v := .tuple #[val 1 (-9223372036854775808) ⟨#[]⟩ false, .string sDone]) (by simp [results, Tryd.results32, go_sem, hcl, hcl2, hz2]) rfl ⟨rfl, (by repeat (first | exact hB | refine Below.setCell ?_ (by first | (simp; done) | (simp; omega)) _))⟩
set_option maxHeartbeats 1000000 in
theorem refMul_d2 (x y A B lo : Int) (S1 S2 : ByteArray) (B1 B2 : Bool) (w : World) (m : MulIs x y A B 0 lo) (sx : 0 ≤ x) (sy : y < 0) (h0 : 0 ≤ lo) (h : lo ≤ 9223372036854775807) :
    Calls Tryd.prog 32 #[val 1 x S1 B1, val 1 y S2 B2] w fun e w' => e = .returned (.tuple #[val 1 (-lo) ⟨#[]⟩ false, .string sDone]) ∧ Below w.heap.size w w' := by
  have dx : decide (x < 0) = false := by simp; omega
  have dy : decide (y < 0) = true := by simp; omega
  go_enter Tryd.func32, Tryd.ntmps32
  go_wp2_with fail
  refine (refBoth_go 1 x S1 B1 y S2 B2 rfl _).mono ?_
  rintro e w1 ⟨rfl, hb⟩
  obtain ⟨hcl, hfr⟩ := bcell hb
  have hB1 : Below w.heap.size w w1 := (by repeat (first | exact Below.refl _ _ | assumption | refine Below.alloc ?_ (by first | (simp; done) | (simp; omega)) _ | refine Below.setCell ?_ (by first | (simp; done) | (simp; omega)) _ | refine Below.drew ?_ | refine below_drewN ?_ _ | refine Below.trans ?_ (hb.mono (by first | (simp; done) | (simp; omega)))))
  have hz := hb.size
  simp at hz
  have hz2 : w.heap.size + 1 + 1 < w1.heap.size := by omega
  go_wp2_with fail
  go_quiet (first | (go_at_call_of 60 (Value.int IntKind.i64 x); exact Calls.quiet_of_same (size_is x A _ m.x1 m.x2 m.hA)) | (go_at_call 60; exact Calls.quiet_of_same (size_is y B _ m.y1 m.y2 m.hB)) | (go_at_call 59; exact Calls.quiet_of_same (wide_is A B 0 lo _ m.a1 m.a2 m.b1 m.b2 m.hh m.hl)))
  go_wp2_with fail
  refine (num_is _ (-lo) _ (neg_lo (by omega) (by omega))).mono ?_
  rintro e w2 ⟨rfl, hb2⟩
  obtain ⟨hcl2, hfr2⟩ := bcellD hb2
  have hB : Below w.heap.size w w2 := keepA (below_drewN hB1 _) hb2
  clear hb2
  go_wp2
  exact bodyPost_ret (v := .tuple #[val 1 (-lo) ⟨#[]⟩ false, .string sDone]) (by simp [results, Tryd.results32, go_sem, hcl, hcl2, hz2]) rfl ⟨rfl, (by repeat (first | exact hB | refine Below.setCell ?_ (by first | (simp; done) | (simp; omega)) _))⟩
set_option maxHeartbeats 1000000 in
theorem refMul_a3 (x y A B hi lo : Int) (S1 S2 : ByteArray) (B1 B2 : Bool) (w : World) (m : MulIs x y A B hi lo) (sx : x < 0) (sy : 0 ≤ y) (h : 0 < hi) :
    Calls Tryd.prog 32 #[val 1 x S1 B1, val 1 y S2 B2] w fun e w' => e = .returned (.tuple #[nullV, .string sOut]) ∧ Below w.heap.size w w' := by
  have dx : decide (x < 0) = true := by simp; omega
  have dy : decide (y < 0) = false := by simp; omega
  go_enter Tryd.func32, Tryd.ntmps32
  go_wp2_with fail
  refine (refBoth_go 1 x S1 B1 y S2 B2 rfl _).mono ?_
  rintro e w1 ⟨rfl, hb⟩
  obtain ⟨hcl, hfr⟩ := bcell hb
  have hB1 : Below w.heap.size w w1 := (by repeat (first | exact Below.refl _ _ | assumption | refine Below.alloc ?_ (by first | (simp; done) | (simp; omega)) _ | refine Below.setCell ?_ (by first | (simp; done) | (simp; omega)) _ | refine Below.drew ?_ | refine below_drewN ?_ _ | refine Below.trans ?_ (hb.mono (by first | (simp; done) | (simp; omega)))))
  have hz := hb.size
  simp at hz
  have hz2 : w.heap.size + 1 + 1 < w1.heap.size := by omega
  go_wp2_with fail
  go_quiet (first | (go_at_call_of 60 (Value.int IntKind.i64 x); exact Calls.quiet_of_same (size_is x A _ m.x1 m.x2 m.hA)) | (go_at_call 60; exact Calls.quiet_of_same (size_is y B _ m.y1 m.y2 m.hB)) | (go_at_call 59; exact Calls.quiet_of_same (wide_is A B hi lo _ m.a1 m.a2 m.b1 m.b2 m.hh m.hl)))
  go_wp2
  exact bodyPost_ret (v := .tuple #[nullV, .string sOut]) (by simp [results, Tryd.results32, go_sem, hcl]) rfl ⟨rfl, (by repeat (first | exact hB1 | exact below_drewN hB1 _ | refine Below.setCell ?_ (by first | (simp; done) | (simp; omega)) _))⟩
set_option maxHeartbeats 1000000 in
theorem refMul_b3 (x y A B lo : Int) (S1 S2 : ByteArray) (B1 B2 : Bool) (w : World) (m : MulIs x y A B 0 lo) (sx : x < 0) (sy : 0 ≤ y) (h : 9223372036854775808 < lo) :
    Calls Tryd.prog 32 #[val 1 x S1 B1, val 1 y S2 B2] w fun e w' => e = .returned (.tuple #[nullV, .string sOut]) ∧ Below w.heap.size w w' := by
  have dx : decide (x < 0) = true := by simp; omega
  have dy : decide (y < 0) = false := by simp; omega
  go_enter Tryd.func32, Tryd.ntmps32
  go_wp2_with fail
  refine (refBoth_go 1 x S1 B1 y S2 B2 rfl _).mono ?_
  rintro e w1 ⟨rfl, hb⟩
  obtain ⟨hcl, hfr⟩ := bcell hb
  have hB1 : Below w.heap.size w w1 := (by repeat (first | exact Below.refl _ _ | assumption | refine Below.alloc ?_ (by first | (simp; done) | (simp; omega)) _ | refine Below.setCell ?_ (by first | (simp; done) | (simp; omega)) _ | refine Below.drew ?_ | refine below_drewN ?_ _ | refine Below.trans ?_ (hb.mono (by first | (simp; done) | (simp; omega)))))
  have hz := hb.size
  simp at hz
  have hz2 : w.heap.size + 1 + 1 < w1.heap.size := by omega
  go_wp2_with fail
  go_quiet (first | (go_at_call_of 60 (Value.int IntKind.i64 x); exact Calls.quiet_of_same (size_is x A _ m.x1 m.x2 m.hA)) | (go_at_call 60; exact Calls.quiet_of_same (size_is y B _ m.y1 m.y2 m.hB)) | (go_at_call 59; exact Calls.quiet_of_same (wide_is A B 0 lo _ m.a1 m.a2 m.b1 m.b2 m.hh m.hl)))
  go_wp2
  exact bodyPost_ret (v := .tuple #[nullV, .string sOut]) (by simp [results, Tryd.results32, go_sem, hcl]) rfl ⟨rfl, (by repeat (first | exact hB1 | exact below_drewN hB1 _ | refine Below.setCell ?_ (by first | (simp; done) | (simp; omega)) _))⟩
set_option maxHeartbeats 1000000 in
theorem refMul_c3 (x y A B : Int) (S1 S2 : ByteArray) (B1 B2 : Bool) (w : World) (m : MulIs x y A B 0 9223372036854775808) (sx : x < 0) (sy : 0 ≤ y)  :
    Calls Tryd.prog 32 #[val 1 x S1 B1, val 1 y S2 B2] w fun e w' => e = .returned (.tuple #[val 1 (-9223372036854775808) ⟨#[]⟩ false, .string sDone]) ∧ Below w.heap.size w w' := by
  have dx : decide (x < 0) = true := by simp; omega
  have dy : decide (y < 0) = false := by simp; omega
  go_enter Tryd.func32, Tryd.ntmps32
  go_wp2_with fail
  refine (refBoth_go 1 x S1 B1 y S2 B2 rfl _).mono ?_
  rintro e w1 ⟨rfl, hb⟩
  obtain ⟨hcl, hfr⟩ := bcell hb
  have hB1 : Below w.heap.size w w1 := (by repeat (first | exact Below.refl _ _ | assumption | refine Below.alloc ?_ (by first | (simp; done) | (simp; omega)) _ | refine Below.setCell ?_ (by first | (simp; done) | (simp; omega)) _ | refine Below.drew ?_ | refine below_drewN ?_ _ | refine Below.trans ?_ (hb.mono (by first | (simp; done) | (simp; omega)))))
  have hz := hb.size
  simp at hz
  have hz2 : w.heap.size + 1 + 1 < w1.heap.size := by omega
  go_wp2_with fail
  go_quiet (first | (go_at_call_of 60 (Value.int IntKind.i64 x); exact Calls.quiet_of_same (size_is x A _ m.x1 m.x2 m.hA)) | (go_at_call 60; exact Calls.quiet_of_same (size_is y B _ m.y1 m.y2 m.hB)) | (go_at_call 59; exact Calls.quiet_of_same (wide_is A B 0 9223372036854775808 _ m.a1 m.a2 m.b1 m.b2 m.hh m.hl)))
  go_wp2_with fail
  refine (num_is _ (-9223372036854775808) _ (neg_lo (by omega) (by omega))).mono ?_
  rintro e w2 ⟨rfl, hb2⟩
  obtain ⟨hcl2, hfr2⟩ := bcellD hb2
  have hB : Below w.heap.size w w2 := keepA (below_drewN hB1 _) hb2
  clear hb2
  go_wp2
  exact bodyPost_ret (v := .tuple #[val 1 (-9223372036854775808) ⟨#[]⟩ false, .string sDone]) (by simp [results, Tryd.results32, go_sem, hcl, hcl2, hz2]) rfl ⟨rfl, (by repeat (first | exact hB | refine Below.setCell ?_ (by first | (simp; done) | (simp; omega)) _))⟩
set_option maxHeartbeats 1000000 in
theorem refMul_d3 (x y A B lo : Int) (S1 S2 : ByteArray) (B1 B2 : Bool) (w : World) (m : MulIs x y A B 0 lo) (sx : x < 0) (sy : 0 ≤ y) (h0 : 0 ≤ lo) (h : lo ≤ 9223372036854775807) :
    Calls Tryd.prog 32 #[val 1 x S1 B1, val 1 y S2 B2] w fun e w' => e = .returned (.tuple #[val 1 (-lo) ⟨#[]⟩ false, .string sDone]) ∧ Below w.heap.size w w' := by
  have dx : decide (x < 0) = true := by simp; omega
  have dy : decide (y < 0) = false := by simp; omega
  go_enter Tryd.func32, Tryd.ntmps32
  go_wp2_with fail
  refine (refBoth_go 1 x S1 B1 y S2 B2 rfl _).mono ?_
  rintro e w1 ⟨rfl, hb⟩
  obtain ⟨hcl, hfr⟩ := bcell hb
  have hB1 : Below w.heap.size w w1 := (by repeat (first | exact Below.refl _ _ | assumption | refine Below.alloc ?_ (by first | (simp; done) | (simp; omega)) _ | refine Below.setCell ?_ (by first | (simp; done) | (simp; omega)) _ | refine Below.drew ?_ | refine below_drewN ?_ _ | refine Below.trans ?_ (hb.mono (by first | (simp; done) | (simp; omega)))))
  have hz := hb.size
  simp at hz
  have hz2 : w.heap.size + 1 + 1 < w1.heap.size := by omega
  go_wp2_with fail
  go_quiet (first | (go_at_call_of 60 (Value.int IntKind.i64 x); exact Calls.quiet_of_same (size_is x A _ m.x1 m.x2 m.hA)) | (go_at_call 60; exact Calls.quiet_of_same (size_is y B _ m.y1 m.y2 m.hB)) | (go_at_call 59; exact Calls.quiet_of_same (wide_is A B 0 lo _ m.a1 m.a2 m.b1 m.b2 m.hh m.hl)))
  go_wp2_with fail
  refine (num_is _ (-lo) _ (neg_lo (by omega) (by omega))).mono ?_
  rintro e w2 ⟨rfl, hb2⟩
  obtain ⟨hcl2, hfr2⟩ := bcellD hb2
  have hB : Below w.heap.size w w2 := keepA (below_drewN hB1 _) hb2
  clear hb2
  go_wp2
  exact bodyPost_ret (v := .tuple #[val 1 (-lo) ⟨#[]⟩ false, .string sDone]) (by simp [results, Tryd.results32, go_sem, hcl, hcl2, hz2]) rfl ⟨rfl, (by repeat (first | exact hB | refine Below.setCell ?_ (by first | (simp; done) | (simp; omega)) _))⟩
end Go.Proofs.YticlmegcpneckaaDoor

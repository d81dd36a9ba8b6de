/- The walks of the four operations on whole numbers within value.numbers, at every two numbers. -/
import Derived.Test.YticlmegcpneckaaDoorOps
namespace Go.Proofs.YticlmegcpneckaaDoor
open Go.RowKit
set_option linter.unusedVariables false

abbrev sOut : ByteArray := ⟨#[50, 50, 48, 48, 51]⟩
abbrev sZero : ByteArray := ⟨#[50, 50, 48, 49, 50]⟩
/-- Has a whole number room in 64 bits? -/
def inR (z : Int) : Bool := decide (-9223372036854775808 ≤ z ∧ z ≤ 9223372036854775807)
theorem inR_true {z : Int} : inR z = true ↔ -9223372036854775808 ≤ z ∧ z ≤ 9223372036854775807 := by simp [inR]
theorem inR_false {z : Int} : inR z = false ↔ z < -9223372036854775808 ∨ 9223372036854775807 < z := by
  simp [inR]; omega
theorem ret_iS {a b : Int} {s : ByteArray} (h : a = b) : Ending.returned (.tuple #[.int .i64 a, .string s]) = .returned (.tuple #[.int .i64 b, .string s]) := by rw [h]
/-- What an operation comes to: a number, or a state. -/
structure OpIs (g : Nat) (x y : Int) (ok : Bool) (r : Int) (st : ByteArray) : Prop where
  done : ok = true → ∀ w, Calls Tryd.prog g #[.int .i64 x, .int .i64 y] w fun e w' => e = .returned (.tuple #[.int .i64 r, .string sDone]) ∧ w' = w
  fail : ok = false → ∀ w, Calls Tryd.prog g #[.int .i64 x, .int .i64 y] w fun e w' => e = .returned (.tuple #[.int .i64 0, .string st]) ∧ w' = w
  is : st = sZero ∨ st = sOut

set_option maxHeartbeats 400000 in
theorem add1_ok (x y : Int) (w : World) (hx : -9223372036854775808 ≤ x ∧ x ≤ 9223372036854775807) (hy : -9223372036854775808 ≤ y ∧ y ≤ 9223372036854775807) (h1 : -9223372036854775808 ≤ x + y) (h2 : x + y ≤ 9223372036854775807) :
    Calls Tryd.prog 55 #[.int .i64 x, .int .i64 y] w fun e w' => e = .returned (.tuple #[.int .i64 (x + y), .string sDone]) ∧ w' = w := by
  obtain ⟨x1, x2⟩ := hx
  obtain ⟨y1, y2⟩ := hy
  by_cases c : 0 < y
  · go_enter Tryd.func55, Tryd.ntmps55
    go_wp2
    all_goals
      go_ret2
      exact ⟨rfl, rfl⟩
  · by_cases d : y < 0
    · go_enter Tryd.func55, Tryd.ntmps55
      go_wp2
      all_goals
        go_ret2
        exact ⟨rfl, rfl⟩
    · go_enter Tryd.func55, Tryd.ntmps55
      go_wp2
      all_goals
        go_ret2
        exact ⟨rfl, rfl⟩
set_option maxHeartbeats 400000 in
theorem add1_out (x y : Int) (w : World) (hx : -9223372036854775808 ≤ x ∧ x ≤ 9223372036854775807) (hy : -9223372036854775808 ≤ y ∧ y ≤ 9223372036854775807) (h : x + y < -9223372036854775808 ∨ 9223372036854775807 < x + y) :
    Calls Tryd.prog 55 #[.int .i64 x, .int .i64 y] w fun e w' => e = .returned (.tuple #[.int .i64 0, .string sOut]) ∧ w' = w := by
  obtain ⟨x1, x2⟩ := hx
  obtain ⟨y1, y2⟩ := hy
  rcases h with h | h
  · have d : y < 0 := by omega
    have c : ¬ 0 < y := by omega
    go_enter Tryd.func55, Tryd.ntmps55
    go_wp2
    all_goals
      go_ret2
      exact ⟨rfl, rfl⟩
  · have c : 0 < y := by omega
    go_enter Tryd.func55, Tryd.ntmps55
    go_wp2
    all_goals
      go_ret2
      exact ⟨rfl, rfl⟩
set_option maxHeartbeats 400000 in
theorem sub1_ok (x y : Int) (w : World) (hx : -9223372036854775808 ≤ x ∧ x ≤ 9223372036854775807) (hy : -9223372036854775808 ≤ y ∧ y ≤ 9223372036854775807) (h1 : -9223372036854775808 ≤ x - y) (h2 : x - y ≤ 9223372036854775807) :
    Calls Tryd.prog 57 #[.int .i64 x, .int .i64 y] w fun e w' => e = .returned (.tuple #[.int .i64 (x - y), .string sDone]) ∧ w' = w := by
  obtain ⟨x1, x2⟩ := hx
  obtain ⟨y1, y2⟩ := hy
  by_cases c : 0 < y
  · go_enter Tryd.func57, Tryd.ntmps57
    go_wp2
    all_goals
      go_ret2
      exact ⟨rfl, rfl⟩
  · by_cases d : y < 0
    · go_enter Tryd.func57, Tryd.ntmps57
      go_wp2
      all_goals
        go_ret2
        exact ⟨rfl, rfl⟩
    · go_enter Tryd.func57, Tryd.ntmps57
      go_wp2
      all_goals
        go_ret2
        exact ⟨rfl, rfl⟩
set_option maxHeartbeats 400000 in
theorem sub1_out (x y : Int) (w : World) (hx : -9223372036854775808 ≤ x ∧ x ≤ 9223372036854775807) (hy : -9223372036854775808 ≤ y ∧ y ≤ 9223372036854775807) (h : x - y < -9223372036854775808 ∨ 9223372036854775807 < x - y) :
    Calls Tryd.prog 57 #[.int .i64 x, .int .i64 y] w fun e w' => e = .returned (.tuple #[.int .i64 0, .string sOut]) ∧ w' = w := by
  obtain ⟨x1, x2⟩ := hx
  obtain ⟨y1, y2⟩ := hy
  rcases h with h | h
  · have c : 0 < y := by omega
    go_enter Tryd.func57, Tryd.ntmps57
    go_wp2
    all_goals
      go_ret2
      exact ⟨rfl, rfl⟩
  · have d : y < 0 := by omega
    have c : ¬ 0 < y := by omega
    go_enter Tryd.func57, Tryd.ntmps57
    go_wp2
    all_goals
      go_ret2
      exact ⟨rfl, rfl⟩

set_option maxHeartbeats 400000 in
theorem mul1_zero (x : Int) (w : World) :
    Calls Tryd.prog 58 #[.int .i64 x, .int .i64 0] w fun e w' => e = .returned (.tuple #[.int .i64 0, .string sDone]) ∧ w' = w := by
  go_enter Tryd.func58, Tryd.ntmps58
  go_wp2
  go_ret2
  exact ⟨rfl, rfl⟩
set_option maxHeartbeats 400000 in
theorem mul1_ok (x y : Int) (w : World) (hx : -9223372036854775808 ≤ x ∧ x ≤ 9223372036854775807) (hy : -9223372036854775808 ≤ y ∧ y ≤ 9223372036854775807) (h0 : (y == 0) = false) (h1 : -9223372036854775808 ≤ x * y) (h2 : x * y ≤ 9223372036854775807) :
    Calls Tryd.prog 58 #[.int .i64 x, .int .i64 y] w fun e w' => e = .returned (.tuple #[.int .i64 (x * y), .string sDone]) ∧ w' = w := by
  obtain ⟨x1, x2⟩ := hx
  obtain ⟨y1, y2⟩ := hy
  have h3 : y ≠ 0 := by simpa using h0
  cases m : (y == -1)
  · go_enter Tryd.func58, Tryd.ntmps58
    go_wp2
    go_ret2
    exact ⟨rfl, rfl⟩
  · obtain rfl : y = -1 := by simpa using m
    have hm : (x == -9223372036854775808) = false := by rw [beq_eq_false_iff_ne]; omega
    go_enter Tryd.func58, Tryd.ntmps58
    go_wp2
    go_ret2
    exact ⟨ret_iS (by omega), rfl⟩
set_option maxHeartbeats 400000 in
theorem mul1_least (w : World) :
    Calls Tryd.prog 58 #[.int .i64 (-9223372036854775808), .int .i64 (-1)] w fun e w' => e = .returned (.tuple #[.int .i64 0, .string sOut]) ∧ w' = w := by
  go_enter Tryd.func58, Tryd.ntmps58
  go_wp2
  all_goals
    go_ret2
    exact ⟨rfl, rfl⟩
set_option maxHeartbeats 400000 in
theorem mul1_out (x y : Int) (w : World) (h0 : (y == 0) = false) (hm : (y == -1) = false) (hne : (wrap64 ((wrap64 (x * y)).tdiv y) != x) = true) :
    Calls Tryd.prog 58 #[.int .i64 x, .int .i64 y] w fun e w' => e = .returned (.tuple #[.int .i64 0, .string sOut]) ∧ w' = w := by
  have h3 : y ≠ 0 := by simpa using h0
  go_enter Tryd.func58, Tryd.ntmps58
  go_wp2
  go_ret2
  exact ⟨rfl, rfl⟩
theorem wrap64_in {z : Int} (h1 : -9223372036854775808 ≤ z) (h2 : z ≤ 9223372036854775807) : wrap64 z = z := by unfold wrap64; omega
theorem mul_wrap_ne (x y : Int) (hx : -9223372036854775808 ≤ x ∧ x ≤ 9223372036854775807) (hy : -9223372036854775808 ≤ y ∧ y ≤ 9223372036854775807) (h0 : y ≠ 0) (hm : y ≠ -1) (h : x * y < -9223372036854775808 ∨ 9223372036854775807 < x * y) :
    (wrap64 ((wrap64 (x * y)).tdiv y) != x) = true := by
  rw [bne_iff_ne]
  have hP : ∃ k : Int, wrap64 (x * y) = x * y - k * 18446744073709551616 ∧ -9223372036854775808 ≤ wrap64 (x * y) ∧ wrap64 (x * y) ≤ 9223372036854775807 :=
    ⟨(x * y + 9223372036854775808) / 18446744073709551616, by unfold wrap64; omega, by unfold wrap64; omega, by unfold wrap64; omega⟩
  obtain ⟨k, hk, p1, p2⟩ := hP
  generalize wrap64 (x * y) = P at *
  have e := Int.tmod_add_mul_tdiv P y
  have q : (P.tdiv y).natAbs = P.natAbs / y.natAbs := Int.natAbs_tdiv P y
  have r : (P.tmod y).natAbs = P.natAbs % y.natAbs := Int.natAbs_tmod P y
  have rl : P.natAbs % y.natAbs < y.natAbs := Nat.mod_lt _ (by omega)
  have ql : P.natAbs / y.natAbs ≤ P.natAbs := Nat.div_le_self _ _
  generalize P.tdiv y = Q at *
  generalize P.tmod y = R at *
  have hQ : -9223372036854775808 ≤ Q ∧ Q ≤ 9223372036854775807 := by
    by_cases c : P = -9223372036854775808
    · by_cases d : y = 1
      · subst d; omega
      · have : P.natAbs / y.natAbs ≤ P.natAbs / 2 := Nat.div_le_div_left (by omega) (by omega)
        omega
    · omega
  rw [wrap64_in hQ.1 hQ.2]
  rintro rfl
  rw [Int.mul_comm y Q] at e
  generalize Q * y = Z at *
  omega
theorem mul_is (x y : Int) (hx : -9223372036854775808 ≤ x ∧ x ≤ 9223372036854775807) (hy : -9223372036854775808 ≤ y ∧ y ≤ 9223372036854775807) : OpIs 58 x y (inR (x * y)) (x * y) sOut := by
  refine ⟨fun h w => ?_, fun h w => ?_, Or.inr rfl⟩
  · rw [inR_true] at h
    by_cases h0 : y = 0
    · subst h0
      rw [Int.mul_zero]
      exact mul1_zero x w
    · exact mul1_ok x y w hx hy (by simpa using h0) h.1 h.2
  · rw [inR_false] at h
    have h0 : y ≠ 0 := by rintro rfl; rw [Int.mul_zero] at h; omega
    by_cases m : y = -1
    · subst m
      obtain rfl : x = -9223372036854775808 := by omega
      exact mul1_least w
    · exact mul1_out x y w (by simpa using h0) (by simpa using m) (mul_wrap_ne x y hx hy h0 m h)
theorem add_is (x y : Int) (hx : -9223372036854775808 ≤ x ∧ x ≤ 9223372036854775807) (hy : -9223372036854775808 ≤ y ∧ y ≤ 9223372036854775807) : OpIs 55 x y (inR (x + y)) (x + y) sOut :=
  ⟨fun h w => add1_ok x y w hx hy (inR_true.1 h).1 (inR_true.1 h).2, fun h w => add1_out x y w hx hy (inR_false.1 h), Or.inr rfl⟩
theorem sub_is (x y : Int) (hx : -9223372036854775808 ≤ x ∧ x ≤ 9223372036854775807) (hy : -9223372036854775808 ≤ y ∧ y ≤ 9223372036854775807) : OpIs 57 x y (inR (x - y)) (x - y) sOut :=
  ⟨fun h w => sub1_ok x y w hx hy (inR_true.1 h).1 (inR_true.1 h).2, fun h w => sub1_out x y w hx hy (inR_false.1 h), Or.inr rfl⟩
/-- Is there a quotient? -/
def divOk (x y : Int) : Bool := !(y == 0) && inR (x.tdiv y)
def divSt (y : Int) : ByteArray := if y = 0 then sZero else sOut
theorem tdiv_in (x y : Int) (hx : -9223372036854775808 ≤ x ∧ x ≤ 9223372036854775807) (h0 : y ≠ 0) (h : ¬ (x = -9223372036854775808 ∧ y = -1)) : -9223372036854775808 ≤ x.tdiv y ∧ x.tdiv y ≤ 9223372036854775807 := by
  have q : (x.tdiv y).natAbs = x.natAbs / y.natAbs := Int.natAbs_tdiv x y
  have ql : x.natAbs / y.natAbs ≤ x.natAbs := Nat.div_le_self _ _
  generalize hQ : x.tdiv y = Q at *
  by_cases c : x = -9223372036854775808
  · by_cases d : y = 1
    · subst d; rw [Int.tdiv_one] at hQ; omega
    · have : x.natAbs / y.natAbs ≤ x.natAbs / 2 := Nat.div_le_div_left (by omega) (by omega)
      omega
  · omega
theorem div_is (x y : Int) (hx : -9223372036854775808 ≤ x ∧ x ≤ 9223372036854775807) (hy : -9223372036854775808 ≤ y ∧ y ≤ 9223372036854775807) : OpIs 61 x y (divOk x y) (x.tdiv y) (divSt y) := by
  by_cases h0 : y = 0
  · subst h0
    refine ⟨fun h => by simp [divOk] at h, fun _ w => div1_zero x w, Or.inl rfl⟩
  · have hs : divSt y = sOut := by simp [divSt, h0]
    rw [hs]
    by_cases hm : x = -9223372036854775808 ∧ y = -1
    · obtain ⟨rfl, rfl⟩ := hm
      refine ⟨fun h => by exact absurd h (by decide), fun _ w => div1_out w, Or.inr rfl⟩
    · have hin := tdiv_in x y hx h0 hm
      refine ⟨fun _ w => ?_, fun h => ?_, Or.inr rfl⟩
      · by_cases m : y = -1
        · subst m
          have h := div1_one x w (by rw [beq_eq_false_iff_ne]; omega)
          rw [wrap64_in (by omega) (by omega)] at h
          rw [Int.tdiv_neg, Int.tdiv_one]
          exact h
        · have h := div1_ok x y w (by simpa using h0) (by simpa using m)
          rw [wrap64_in hin.1 hin.2] at h
          exact h
      · exfalso
        have : divOk x y = true := by simp [divOk, h0, inR_true.2 hin]
        rw [this] at h; cases h
end Go.Proofs.YticlmegcpneckaaDoor

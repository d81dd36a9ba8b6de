/- The walk of the law TypesRanges: a number has room by its bits. -/
import Derived.Test.YtleenjdkgbhfiaaGreatDoorT2Alive
namespace Go.Proofs.YtleenjdkgbhfiaaGreatDoor
open Go.RowKit Go.Joins
set_option linter.unusedVariables false

theorem as_yes (n b l : Int) (w : World) (hn : -9223372036854775808 ≤ n ∧ n ≤ 9223372036854775807) (hk : kindT b l = 1) (h : fitsT n b = true) :
    Calls Tryz.prog 16 #[val 1 n ⟨#[]⟩ false, typ b l] w fun e w' => e = .returned (.tuple #[val 1 n ⟨#[]⟩ false, .string sDone]) ∧ Below w.heap.size w w' := by
  have g := tassign_any 1 n ⟨#[]⟩ false b l w (Or.inr (Or.inl ⟨rfl, rfl, rfl⟩)) hn (by decide)
  rw [show assignA 1 n (⟨#[]⟩ : ByteArray).data.toList false b l = ansNum n by simp [assignA, hk, numA, h]] at g
  exact g
theorem as_no (n b l : Int) (w : World) (hn : -9223372036854775808 ≤ n ∧ n ≤ 9223372036854775807) (hk : kindT b l = 1) (h : fitsT n b = false) :
    Calls Tryz.prog 16 #[val 1 n ⟨#[]⟩ false, typ b l] w fun e w' => e = .returned (.tuple #[nullV, .string sOut]) ∧ Below w.heap.size w w' := by
  have g := tassign_any 1 n ⟨#[]⟩ false b l w (Or.inr (Or.inl ⟨rfl, rfl, rfl⟩)) hn (by decide)
  rw [show assignA 1 n (⟨#[]⟩ : ByteArray).data.toList false b l = ansNo sOut by simp [assignA, hk, numA, h]] at g
  exact g
set_option maxHeartbeats 4000000 in
theorem ranges_law (n : Int) (a : Addr) (w : World) (hn : -9223372036854775808 ≤ n ∧ n ≤ 9223372036854775807) (hL : LibW a w) :
    Calls Tryz.prog 8 #[.int .i64 n] w fun e w' => e = .returned (.bool true) ∧ Below w.heap.size w w' := by
  have HN : Hid (-9223372036854775808 ≤ n ∧ n ≤ 9223372036854775807) := hn
  clear hn
  have h0 : Below w.heap.size w w := Below.refl _ _
  have cases3 : (-32768 ≤ n ∧ n ≤ 32767) ∨ ((-2147483648 ≤ n ∧ n < -32768) ∨ (32767 < n ∧ n ≤ 2147483647)) ∨ (n < -2147483648 ∨ 2147483647 < n) := by omega
  rcases cases3 with ⟨g1, g2⟩ | (⟨g1, g2⟩ | ⟨g1, g2⟩) | (g1 | g1)
  · go_enter Tryz.func8, Tryz.ntmps8
    go_wp2_with (first
      | (go_at_call 23; refine (num_any _ _).mono ?_; rintro e w' ⟨rfl, hb⟩; have hk : Below w.heap.size w w' := (by first | exact keepA h0 hb | exact keepA (below_alloc h0 _) hb | exact keepA (below_alloc (below_alloc h0 _) _) hb); clear hb h0; have h0 := hk; clear hk)
      | (go_at_call_of 16 (Value.agg #[.int .i64 1, .int .i64 0]); refine (as_yes n 1 0 _ HN.out rfl (by simp [fitsT] <;> omega)).mono ?_; rintro e w' ⟨rfl, hb⟩; have hk : Below w.heap.size w w' := (by first | exact keepA h0 hb | exact keepA (below_alloc h0 _) hb | exact keepA (below_alloc (below_alloc h0 _) _) hb); clear hb h0; have h0 := hk; clear hk)
      | (go_at_call_of 16 (Value.agg #[.int .i64 2, .int .i64 0]); refine (as_yes n 2 0 _ HN.out rfl (by simp [fitsT] <;> omega)).mono ?_; rintro e w' ⟨rfl, hb⟩; have hk : Below w.heap.size w w' := (by first | exact keepA h0 hb | exact keepA (below_alloc h0 _) hb | exact keepA (below_alloc (below_alloc h0 _) _) hb); clear hb h0; have h0 := hk; clear hk)
      | (go_at_call_of 16 (Value.agg #[.int .i64 3, .int .i64 0]); refine (as_yes n 3 0 _ HN.out rfl (by simp [fitsT] <;> omega)).mono ?_; rintro e w' ⟨rfl, hb⟩; have hk : Below w.heap.size w w' := (by first | exact keepA h0 hb | exact keepA (below_alloc h0 _) hb | exact keepA (below_alloc (below_alloc h0 _) _) hb); clear hb h0; have h0 := hk; clear hk)
      | (go_at_call 9; refine (alive_any a _ (by first | exact hL.keep h0 | exact hL.keep (below_alloc h0 _))).mono ?_; rintro e w' ⟨rfl, hb⟩; have hk : Below w.heap.size w w' := (by first | exact keepA h0 hb | exact keepA (below_alloc h0 _) hb | exact keepA (below_alloc (below_alloc h0 _) _) hb); clear hb h0; have h0 := hk; clear hk))
    all_goals
      go_ret
      exact ⟨ret_bool (by first | rfl | (simp; done) | (simp; omega)), by first | exact h0 | exact below_alloc h0 _⟩
  · go_enter Tryz.func8, Tryz.ntmps8
    go_wp2_with (first
      | (go_at_call 23; refine (num_any _ _).mono ?_; rintro e w' ⟨rfl, hb⟩; have hk : Below w.heap.size w w' := (by first | exact keepA h0 hb | exact keepA (below_alloc h0 _) hb | exact keepA (below_alloc (below_alloc h0 _) _) hb); clear hb h0; have h0 := hk; clear hk)
      | (go_at_call_of 16 (Value.agg #[.int .i64 1, .int .i64 0]); refine (as_no n 1 0 _ HN.out rfl (by simp [fitsT] <;> omega)).mono ?_; rintro e w' ⟨rfl, hb⟩; have hk : Below w.heap.size w w' := (by first | exact keepA h0 hb | exact keepA (below_alloc h0 _) hb | exact keepA (below_alloc (below_alloc h0 _) _) hb); clear hb h0; have h0 := hk; clear hk)
      | (go_at_call_of 16 (Value.agg #[.int .i64 2, .int .i64 0]); refine (as_yes n 2 0 _ HN.out rfl (by simp [fitsT] <;> omega)).mono ?_; rintro e w' ⟨rfl, hb⟩; have hk : Below w.heap.size w w' := (by first | exact keepA h0 hb | exact keepA (below_alloc h0 _) hb | exact keepA (below_alloc (below_alloc h0 _) _) hb); clear hb h0; have h0 := hk; clear hk)
      | (go_at_call_of 16 (Value.agg #[.int .i64 3, .int .i64 0]); refine (as_yes n 3 0 _ HN.out rfl (by simp [fitsT] <;> omega)).mono ?_; rintro e w' ⟨rfl, hb⟩; have hk : Below w.heap.size w w' := (by first | exact keepA h0 hb | exact keepA (below_alloc h0 _) hb | exact keepA (below_alloc (below_alloc h0 _) _) hb); clear hb h0; have h0 := hk; clear hk)
      | (go_at_call 9; refine (alive_any a _ (by first | exact hL.keep h0 | exact hL.keep (below_alloc h0 _))).mono ?_; rintro e w' ⟨rfl, hb⟩; have hk : Below w.heap.size w w' := (by first | exact keepA h0 hb | exact keepA (below_alloc h0 _) hb | exact keepA (below_alloc (below_alloc h0 _) _) hb); clear hb h0; have h0 := hk; clear hk))
    all_goals
      go_ret
      exact ⟨ret_bool (by first | rfl | (simp; done) | (simp; omega)), by first | exact h0 | exact below_alloc h0 _⟩
  · go_enter Tryz.func8, Tryz.ntmps8
    go_wp2_with (first
      | (go_at_call 23; refine (num_any _ _).mono ?_; rintro e w' ⟨rfl, hb⟩; have hk : Below w.heap.size w w' := (by first | exact keepA h0 hb | exact keepA (below_alloc h0 _) hb | exact keepA (below_alloc (below_alloc h0 _) _) hb); clear hb h0; have h0 := hk; clear hk)
      | (go_at_call_of 16 (Value.agg #[.int .i64 1, .int .i64 0]); refine (as_no n 1 0 _ HN.out rfl (by simp [fitsT] <;> omega)).mono ?_; rintro e w' ⟨rfl, hb⟩; have hk : Below w.heap.size w w' := (by first | exact keepA h0 hb | exact keepA (below_alloc h0 _) hb | exact keepA (below_alloc (below_alloc h0 _) _) hb); clear hb h0; have h0 := hk; clear hk)
      | (go_at_call_of 16 (Value.agg #[.int .i64 2, .int .i64 0]); refine (as_yes n 2 0 _ HN.out rfl (by simp [fitsT] <;> omega)).mono ?_; rintro e w' ⟨rfl, hb⟩; have hk : Below w.heap.size w w' := (by first | exact keepA h0 hb | exact keepA (below_alloc h0 _) hb | exact keepA (below_alloc (below_alloc h0 _) _) hb); clear hb h0; have h0 := hk; clear hk)
      | (go_at_call_of 16 (Value.agg #[.int .i64 3, .int .i64 0]); refine (as_yes n 3 0 _ HN.out rfl (by simp [fitsT] <;> omega)).mono ?_; rintro e w' ⟨rfl, hb⟩; have hk : Below w.heap.size w w' := (by first | exact keepA h0 hb | exact keepA (below_alloc h0 _) hb | exact keepA (below_alloc (below_alloc h0 _) _) hb); clear hb h0; have h0 := hk; clear hk)
      | (go_at_call 9; refine (alive_any a _ (by first | exact hL.keep h0 | exact hL.keep (below_alloc h0 _))).mono ?_; rintro e w' ⟨rfl, hb⟩; have hk : Below w.heap.size w w' := (by first | exact keepA h0 hb | exact keepA (below_alloc h0 _) hb | exact keepA (below_alloc (below_alloc h0 _) _) hb); clear hb h0; have h0 := hk; clear hk))
    all_goals
      go_ret
      exact ⟨ret_bool (by first | rfl | (simp; done) | (simp; omega)), by first | exact h0 | exact below_alloc h0 _⟩
  · go_enter Tryz.func8, Tryz.ntmps8
    go_wp2_with (first
      | (go_at_call 23; refine (num_any _ _).mono ?_; rintro e w' ⟨rfl, hb⟩; have hk : Below w.heap.size w w' := (by first | exact keepA h0 hb | exact keepA (below_alloc h0 _) hb | exact keepA (below_alloc (below_alloc h0 _) _) hb); clear hb h0; have h0 := hk; clear hk)
      | (go_at_call_of 16 (Value.agg #[.int .i64 1, .int .i64 0]); refine (as_no n 1 0 _ HN.out rfl (by simp [fitsT] <;> omega)).mono ?_; rintro e w' ⟨rfl, hb⟩; have hk : Below w.heap.size w w' := (by first | exact keepA h0 hb | exact keepA (below_alloc h0 _) hb | exact keepA (below_alloc (below_alloc h0 _) _) hb); clear hb h0; have h0 := hk; clear hk)
      | (go_at_call_of 16 (Value.agg #[.int .i64 2, .int .i64 0]); refine (as_no n 2 0 _ HN.out rfl (by simp [fitsT] <;> omega)).mono ?_; rintro e w' ⟨rfl, hb⟩; have hk : Below w.heap.size w w' := (by first | exact keepA h0 hb | exact keepA (below_alloc h0 _) hb | exact keepA (below_alloc (below_alloc h0 _) _) hb); clear hb h0; have h0 := hk; clear hk)
      | (go_at_call_of 16 (Value.agg #[.int .i64 3, .int .i64 0]); refine (as_yes n 3 0 _ HN.out rfl (by simp [fitsT] <;> omega)).mono ?_; rintro e w' ⟨rfl, hb⟩; have hk : Below w.heap.size w w' := (by first | exact keepA h0 hb | exact keepA (below_alloc h0 _) hb | exact keepA (below_alloc (below_alloc h0 _) _) hb); clear hb h0; have h0 := hk; clear hk)
      | (go_at_call 9; refine (alive_any a _ (by first | exact hL.keep h0 | exact hL.keep (below_alloc h0 _))).mono ?_; rintro e w' ⟨rfl, hb⟩; have hk : Below w.heap.size w w' := (by first | exact keepA h0 hb | exact keepA (below_alloc h0 _) hb | exact keepA (below_alloc (below_alloc h0 _) _) hb); clear hb h0; have h0 := hk; clear hk))
    all_goals
      go_ret
      exact ⟨ret_bool (by first | rfl | (simp; done) | (simp; omega)), by first | exact h0 | exact below_alloc h0 _⟩
  · go_enter Tryz.func8, Tryz.ntmps8
    go_wp2_with (first
      | (go_at_call 23; refine (num_any _ _).mono ?_; rintro e w' ⟨rfl, hb⟩; have hk : Below w.heap.size w w' := (by first | exact keepA h0 hb | exact keepA (below_alloc h0 _) hb | exact keepA (below_alloc (below_alloc h0 _) _) hb); clear hb h0; have h0 := hk; clear hk)
      | (go_at_call_of 16 (Value.agg #[.int .i64 1, .int .i64 0]); refine (as_no n 1 0 _ HN.out rfl (by simp [fitsT] <;> omega)).mono ?_; rintro e w' ⟨rfl, hb⟩; have hk : Below w.heap.size w w' := (by first | exact keepA h0 hb | exact keepA (below_alloc h0 _) hb | exact keepA (below_alloc (below_alloc h0 _) _) hb); clear hb h0; have h0 := hk; clear hk)
      | (go_at_call_of 16 (Value.agg #[.int .i64 2, .int .i64 0]); refine (as_no n 2 0 _ HN.out rfl (by simp [fitsT] <;> omega)).mono ?_; rintro e w' ⟨rfl, hb⟩; have hk : Below w.heap.size w w' := (by first | exact keepA h0 hb | exact keepA (below_alloc h0 _) hb | exact keepA (below_alloc (below_alloc h0 _) _) hb); clear hb h0; have h0 := hk; clear hk)
      | (go_at_call_of 16 (Value.agg #[.int .i64 3, .int .i64 0]); refine (as_yes n 3 0 _ HN.out rfl (by simp [fitsT] <;> omega)).mono ?_; rintro e w' ⟨rfl, hb⟩; have hk : Below w.heap.size w w' := (by first | exact keepA h0 hb | exact keepA (below_alloc h0 _) hb | exact keepA (below_alloc (below_alloc h0 _) _) hb); clear hb h0; have h0 := hk; clear hk)
      | (go_at_call 9; refine (alive_any a _ (by first | exact hL.keep h0 | exact hL.keep (below_alloc h0 _))).mono ?_; rintro e w' ⟨rfl, hb⟩; have hk : Below w.heap.size w w' := (by first | exact keepA h0 hb | exact keepA (below_alloc h0 _) hb | exact keepA (below_alloc (below_alloc h0 _) _) hb); clear hb h0; have h0 := hk; clear hk))
    all_goals
      go_ret
      exact ⟨ret_bool (by first | rfl | (simp; done) | (simp; omega)), by first | exact h0 | exact below_alloc h0 _⟩
end Go.Proofs.YtleenjdkgbhfiaaGreatDoor

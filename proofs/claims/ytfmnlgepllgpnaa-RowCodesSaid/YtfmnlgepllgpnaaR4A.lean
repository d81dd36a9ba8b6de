/- The walks of what rowcode appends: a whole number's bytes, a value's bytes. -/
import Derived.Test.YtfmnlgepllgpnaaR4Math
namespace Go.Proofs.Ytfmnlgepllgpnaa
open Go.RowKit
set_option linter.unusedVariables false

theorem byte_low (U k : Nat) : (U : Int) / 2 ^ (8 * k) % 256 = ((UInt8.ofNat (U / 256 ^ k)).toNat : Int) := by
  have e2 : (2 : Int) ^ (8 * k) = ((256 ^ k : Nat) : Int) := by
    rw [Int.pow_mul]; simp
  rw [e2, UInt8.toNat_ofNat']
  simp
set_option maxHeartbeats 400000 in
theorem appendWhole_any (base U n : Nat) (v : Value) (xs : List UInt8) (w : World) (hown : OwnB base w v xs) (hb : base ≤ w.heap.size) (hl : xs.length ≤ 1099511627776) (hn : n ≤ 8) (hU : U < 18446744073709551616) :
    Calls Try.prog 28 #[v, .int .u64 U, .int .i64 n] w fun e w' => ∃ v', e = .returned v' ∧ OwnB base w' v' (xs ++ leN n U) ∧ GrowB w v w' v' := by
  go_enter Try.func28, Try.ntmps28
  go_wp2
  go_loopw [0, 9] (fun u i wr => ∃ k : Nat, k ≤ n ∧ i = .int .i64 k ∧ OwnB base wr u (xs ++ (leN n U).take k) ∧ GrowB w v wr u) (fun _ i _ => n - (intOf i).toNat)
  case atStart => exact ⟨0, Nat.zero_le _, rfl, by rw [List.take_zero, List.append_nil]; exact hown, GrowB.refl _ _⟩
  case round =>
    obtain ⟨k, hk, rfl, hown, hnx⟩ := hrel
    by_cases hkn : k < n
    · have hlen : (xs ++ (leN n U).take k).length ≤ 1099511627776 + 8 := by
        rw [List.length_append, List.length_take]; omega
      go_wp2_with (at_builtin; refine wp_appB _ rfl _ _ rfl base _ (xs ++ (leN n U).take k) rfl (hown.alloc _) wr.heap.size 1 #[.int .u8 ((U : Int) / 2 ^ (8 * k) % 256)] [UInt8.ofNat (U / 256 ^ k)] rfl (heap_alloc_new wr _) (by rw [byte_low U k]; rfl) rfl (by decide) (by omega) (by have := hnx.grown.size; simp; omega) ?_)
      intro v' w1 hown1 hgrow
      have h1 := (hnx.alloc _).trans hgrow
      have hown2 : OwnB base w1 v' (xs ++ (leN n U).take (k + 1)) := by rw [leN_take n U k hkn]; simpa using hown1
      clear hgrow hown hnx hlen hown1
      go_wp2
      go_roundw
      case rel => exact ⟨k + 1, by omega, by go_num, hown2, h1⟩
      case measure => simp [intOf]; omega
    · go_wp2
      go_ret
      obtain rfl : k = n := by omega
      rw [List.take_of_length_le (by rw [leN_len]; omega)] at hown
      exact ⟨_, rfl, hown, hnx⟩

theorem truthMark_any (b : Bool) (w : World) : Calls Try.prog 29 #[.bool b] w fun e w' => e = .returned (bv (if b then 4 else 3)) ∧ w' = w := by
  cases b
  all_goals
    go_enter Try.func29, Try.ntmps29
    go_wp2
    go_ret
    exact ⟨rfl, rfl⟩

theorem wrap_bits (n : Int) : IntKind.u64.wrap n = ((bits64 n : Nat) : Int) := by
  rw [IntKind.wrap_u64]
  unfold bits64
  have h1 := Int.emod_nonneg n (b := 18446744073709551616) (by decide)
  omega
theorem bits64_small (n : Int) : bits64 n < 18446744073709551616 := bits64_lt n

set_option maxHeartbeats 1000000 in
theorem appendValue_num (base : Nat) (v : Value) (xs : List UInt8) (N : Int) (S : ByteArray) (B : Bool) (w : World) (hown : OwnB base w v xs) (hb : base ≤ w.heap.size) (hl : xs.length ≤ 1099511627000) :
    Calls Try.prog 19 #[v, val 1 N S B] w fun e w' => ∃ v', e = .returned v' ∧ OwnB base w' v' (xs ++ [1] ++ leN 8 (bits64 N)) ∧ Below base w w' := by
  have HO := hown.alloc (.cells #[.int .i64 1, .int .i64 N, .string S, .bool B] 40)
  have c1 : (w.alloc (.cells #[.int .i64 1, .int .i64 N, .string S, .bool B] 40)).cell? ⟨w.heap.size, 1, none⟩ = some (.int .i64 N) := by go_simp
  have HW := wrap_bits N
  go_enter Try.func19, Try.ntmps19
  go_wp2_with fail
  go_region_held_law (fun w' => w'.cell? ⟨w.heap.size, 1, none⟩ = some (.int .i64 N)) (first | exact keep_cell hgrow2 hown (Nat.le_refl _) (by simp; omega) (by go_simp) | exact keep_cell hgrow hown (Nat.le_refl _) (by simp; omega) (by go_simp) | go_keep)
    ((first
      | (refine step_appB _ (by rfl) _ _ (by rfl) base v xs (by rfl) (by first | exact (HO.alloc _).drew | exact HO.alloc _) (w.heap.size + 1) 1 #[.int .u8 1] [1] (by rfl) (by first | exact new_drew _ _ (by simp) | exact new_at _ _ (by simp)) (by rfl) (by rfl) (by decide) (by omega) (by simp; omega) ?_; intro v1 w1 hown1 hgrow)
      | (go_at_call 28; refine (appendWhole_any base (bits64 N) 8 _ (xs ++ [1]) _ hown1 (by have := hgrow.grown.size; simp at this; omega) (by simp; omega) (by decide) (bits64_small N)).mono ?_; rintro e w2 ⟨v2, rfl, hown2, hg2⟩; have hgrow2 := hgrow.trans hg2)))
  go_wp2
  go_ret
  have G : GrowB w v w2 v2 := (((GrowB.refl w v).alloc _).alloc _).drew.trans hgrow2
  exact ⟨_, rfl, hown2, G.below hown hb⟩
end Go.Proofs.Ytfmnlgepllgpnaa

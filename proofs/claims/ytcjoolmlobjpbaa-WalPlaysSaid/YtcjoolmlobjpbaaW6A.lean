/- Package wal and the document's log: sizes, the CRC, whole numbers. -/
import Derived.Test.YtcjoolmlobjpbaaW6Cut
import Derived.Laws.BitsAllLaws
namespace Go.Proofs.Ytcjoolmlobjpbaa
open Go.RowKit Go.Maps
set_option linter.unusedVariables false
set_option linter.unusedSimpArgs false

theorem ret_int {k : IntKind} {a b : Int} (h : a = b) : Ending.returned (.int k a) = .returned (.int k b) := by rw [h]
theorem and1 (c : Nat) (h : c < 4294967296) : bits .and .u32 (c : Int) 1 = ((c % 2 : Nat) : Int) := by
  have := u32_and_nat c 1 h (by decide)
  rw [show ((1 : Nat) : Int) = 1 from rfl] at this
  rw [this, Nat.and_one_is_mod]
set_option maxHeartbeats 1000000 in
theorem crc_any (v : Value) (xs : List UInt8) (w : World) (h : Bytes w v xs) (hl : xs.length ≤ 1000000000) :
    Calls Try.prog 47 #[v] w fun e w' => e = .returned (.int .u32 (crcL xs)) ∧ w' = w := by
  obtain ⟨ao, cap, rfl, hc, hx⟩ := h.form
  clear h
  go_enter Try.func47, Try.ntmps47
  go_wp2
  go_loop [3, 8] (fun s i => ∃ k : Nat, k ≤ xs.length ∧ i = .int .i64 k ∧ s = .int .u32 (crcN (xs.take k))) (fun _ i => xs.length - (intOf i).toNat)
  case atStart => exact ⟨0, Nat.zero_le _, rfl, rfl⟩
  case round =>
    obtain ⟨k, hk, rfl, rfl⟩ := hrel
    have hc1 := crcN_lt (xs.take k)
    by_cases hlt : k < xs.length
    · obtain ⟨a, rfl, hx2⟩ := hx (by omega)
      have hcell := hx2 k (bv xs[k]) (by simp [hlt])
      have HS : Hid (crcN (xs.take (k + 1)) = byteS (crcN (xs.take k)) xs[k]) := crcN_snoc xs k hlt
      clear hx hx2
      have hbl := xs[k].toNat_lt
      generalize xs[k] = b at *
      generalize crcN (xs.take k) = c at *
      unfold bv at hcell
      have hxor := u32_xor_nat c b.toNat hc1 (by omega)
      have hxl := xor32 hc1 (b := b.toNat) (by omega)
      go_wp2
      clear hxor
      go_loop [3, 16] (fun s i => ∃ j : Nat, j ≤ 8 ∧ i = .int .i64 j ∧ s = .int .u32 (bitN j (c ^^^ b.toNat))) (fun _ i => 8 - (intOf i).toNat)
      case atStart => exact ⟨0, Nat.zero_le _, rfl, rfl⟩
      case round =>
        obtain ⟨j, hj, rfl, rfl⟩ := hrel
        by_cases hj8 : j < 8
        · have hdl := bitN_lt j hxl
          have HN : Hid (bitN (j + 1) (c ^^^ b.toNat) = bitS (bitN j (c ^^^ b.toNat))) := rfl
          generalize bitN j (c ^^^ b.toNat) = d at *
          have hand := and1 d hdl
          by_cases hd : d % 2 = 1
          · rw [hd] at hand
            have hx2 := u32_xor_nat (d / 2) 3988292384 (by omega) (by decide)
            have hand' : bits .and .u32 (d : Int) 1 = 1 := hand
            have hx2' : bits .xor .u32 ((d : Int) / 2) 3988292384 = ((d / 2 ^^^ 3988292384 : Nat) : Int) := hx2
            clear hand hx2
            go_wp2
            go_round
            case rel => exact ⟨j + 1, by omega, by go_num, by rw [HN.out]; unfold bitS; rw [if_pos hd]⟩
            case measure => simp [intOf]; omega
          · rw [show d % 2 = 0 by omega] at hand
            have hand' : bits .and .u32 (d : Int) 1 = 0 := hand
            clear hand
            go_wp2
            go_round
            case rel => exact ⟨j + 1, by omega, by go_num, by rw [HN.out]; unfold bitS; rw [if_neg hd]; go_num⟩
            case measure => simp [intOf]; omega
        · obtain rfl : j = 8 := by omega
          go_wp2
          go_round
          case rel => exact ⟨k + 1, by omega, by go_num, by rw [HS.out]; rfl⟩
          case measure => simp [intOf]; omega
    · obtain rfl : k = xs.length := by omega
      rw [List.take_length] at *
      have hx3 := u32_xor_nat 4294967295 (crcN xs) (by decide) hc1
      have hx3' : bits .xor .u32 IntKind.u32.max (crcN xs : Int) = ((crcL xs : Nat) : Int) := hx3
      clear hx3
      go_wp2
      go_ret
      exact ⟨ret_int (by first | rfl | exact hx3'), rfl⟩
set_option maxHeartbeats 1000000 in
theorem refCrc_any (v : Value) (xs : List UInt8) (w : World) (h : Bytes w v xs) (hl : xs.length ≤ 1000000000) :
    Calls Try.prog 40 #[v] w fun e w' => e = .returned (.int .u32 (crcL xs)) ∧ w' = w := by
  obtain ⟨ao, cap, rfl, hc, hx⟩ := h.form
  clear h
  go_enter Try.func40, Try.ntmps40
  go_wp2
  go_loop [3, 4] (fun s i => ∃ k : Nat, k ≤ xs.length ∧ i = .int .i64 k ∧ s = .int .u32 (crcN (xs.take k))) (fun _ i => xs.length - (intOf i).toNat)
  case atStart => exact ⟨0, Nat.zero_le _, rfl, rfl⟩
  case round =>
    obtain ⟨k, hk, rfl, rfl⟩ := hrel
    have hc1 := crcN_lt (xs.take k)
    by_cases hlt : k < xs.length
    · obtain ⟨a, rfl, hx2⟩ := hx (by omega)
      have hcell := hx2 k (bv xs[k]) (by simp [hlt])
      have HS : Hid (crcN (xs.take (k + 1)) = byteS (crcN (xs.take k)) xs[k]) := crcN_snoc xs k hlt
      clear hx hx2
      have hbl := xs[k].toNat_lt
      generalize xs[k] = b at *
      generalize crcN (xs.take k) = c at *
      unfold bv at hcell
      have hxor := u32_xor_nat c b.toNat hc1 (by omega)
      have hxl := xor32 hc1 (b := b.toNat) (by omega)
      go_wp2
      clear hxor
      go_loop [3, 5] (fun s i => ∃ j : Nat, j ≤ 8 ∧ i = .int .i64 j ∧ s = .int .u32 (bitN j (c ^^^ b.toNat))) (fun _ i => 8 - (intOf i).toNat)
      case atStart => exact ⟨0, Nat.zero_le _, rfl, rfl⟩
      case round =>
        obtain ⟨j, hj, rfl, rfl⟩ := hrel
        by_cases hj8 : j < 8
        · have hdl := bitN_lt j hxl
          have HN : Hid (bitN (j + 1) (c ^^^ b.toNat) = bitS (bitN j (c ^^^ b.toNat))) := rfl
          generalize bitN j (c ^^^ b.toNat) = d at *
          have hand := and1 d hdl
          by_cases hd : d % 2 = 1
          · rw [hd] at hand
            have hx2 := u32_xor_nat (d / 2) 3988292384 (by omega) (by decide)
            have hand' : bits .and .u32 (d : Int) 1 = 1 := hand
            have hx2' : bits .xor .u32 ((d : Int) / 2) 3988292384 = ((d / 2 ^^^ 3988292384 : Nat) : Int) := hx2
            clear hand hx2
            go_wp2
            go_round
            case rel => exact ⟨j + 1, by omega, by go_num, by rw [HN.out]; unfold bitS; rw [if_pos hd]⟩
            case measure => simp [intOf]; omega
          · rw [show d % 2 = 0 by omega] at hand
            have hand' : bits .and .u32 (d : Int) 1 = 0 := hand
            clear hand
            go_wp2
            go_round
            case rel => exact ⟨j + 1, by omega, by go_num, by rw [HN.out]; unfold bitS; rw [if_neg hd]; go_num⟩
            case measure => simp [intOf]; omega
        · obtain rfl : j = 8 := by omega
          go_wp2
          go_round
          case rel => exact ⟨k + 1, by omega, by go_num, by rw [HS.out]; rfl⟩
          case measure => simp [intOf]; omega
    · obtain rfl : k = xs.length := by omega
      rw [List.take_length] at *
      have hx3 := u32_xor_nat 4294967295 (crcN xs) (by decide) hc1
      have hx3' : bits .xor .u32 IntKind.u32.max (crcN xs : Int) = ((crcL xs : Nat) : Int) := hx3
      clear hx3
      go_wp2
      go_ret
      exact ⟨ret_int (by first | rfl | exact hx3'), rfl⟩

theorem frameBytes_any (n : Nat) (w : World) (h : n ≤ 1099511627776000) : Calls Try.prog 35 #[.int .i64 n] w fun e w' => e = .returned (.int .i64 (8 + rnd n : Nat)) ∧ w' = w := by
  go_enter Try.func35, Try.ntmps35
  go_wp2
  go_ret
  exact ⟨ret_int (by unfold rnd; omega), rfl⟩
theorem round_any (n : Nat) (w : World) (h : n ≤ 1099511627776000) : Calls Try.prog 34 #[.int .i64 n] w fun e w' => e = .returned (.int .i64 (rnd n : Nat)) ∧ w' = w := by
  go_enter Try.func34, Try.ntmps34
  go_wp2
  go_ret
  exact ⟨ret_int (by unfold rnd; omega), rfl⟩
theorem sectorsFor_any (n : Nat) (w : World) (h : n ≤ 1099511627776000) : Calls Try.prog 38 #[.int .i64 n] w fun e w' => e = .returned (.int .i64 (cnt128 n : Nat)) ∧ w' = w := by
  go_enter Try.func38, Try.ntmps38
  go_wp2
  go_ret
  exact ⟨ret_int (by unfold cnt128; omega), rfl⟩
/-- Are they all noughts? -/
def zerosB (xs : List UInt8) : Bool := xs.all fun c => c == 0
theorem zerosB_rep {xs : List UInt8} : zerosB xs = true ↔ xs = List.replicate xs.length 0 := by
  unfold zerosB
  rw [List.all_eq_true]
  constructor
  · intro h
    exact List.eq_replicate_of_mem fun c hc => by simpa using h c hc
  · intro h c hc
    rw [h] at hc
    simpa using List.eq_of_mem_replicate hc
set_option maxHeartbeats 400000 in
theorem isBlank_any (v : Value) (xs : List UInt8) (w : World) (h : Bytes w v xs) (hl : xs.length ≤ 1000000000) :
    Calls Try.prog 48 #[v] w fun e w' => e = .returned (.bool (zerosB xs)) ∧ w' = w := by
  obtain ⟨ao, cap, rfl, hc, hx⟩ := h.form
  clear h
  go_enter Try.func48, Try.ntmps48
  go_wp2
  go_loop [7] (fun i => ∃ k : Nat, k ≤ xs.length ∧ i = .int .i64 k ∧ zerosB (xs.take k) = true) (fun i => xs.length - (intOf i).toNat)
  case atStart => exact ⟨0, Nat.zero_le _, rfl, rfl⟩
  case round =>
    obtain ⟨k, hk, rfl, hz⟩ := hrel
    by_cases hlt : k < xs.length
    · obtain ⟨a, rfl, hx2⟩ := hx (by omega)
      have hcell := hx2 k (bv xs[k]) (by simp [hlt])
      have HS0 : zerosB (xs.take (k + 1)) = (xs[k] == 0) := by
        unfold zerosB at *
        rw [List.take_succ_eq_append_getElem hlt, List.all_append, hz]; simp
      have HS : Hid (zerosB (xs.take (k + 1)) = (xs[k] == 0)) := HS0
      clear HS0
      have HF : Hid (xs[k] ≠ 0 → zerosB xs = false) := by
        intro hne
        unfold zerosB
        rw [List.all_eq_false]
        exact ⟨xs[k], List.getElem_mem _, by simpa using hne⟩
      have HZ : Hid (zerosB (xs.take k) = true) := hz
      clear hx hx2 hz
      generalize xs[k] = b at *
      unfold bv at hcell
      by_cases hb : b = 0
      · subst hb
        go_wp2
        go_round
        case rel => exact ⟨k + 1, by omega, by go_num, by rw [HS.out]; rfl⟩
        case measure => simp [intOf]; omega
      · have hb2 : b.toNat ≠ 0 := fun e => hb (UInt8.toNat_inj.1 e)
        have hb3 : ¬ ((b.toNat : Int) = 0) := by omega
        have hF := HF.out hb
        go_wp2
        go_ret
        exact ⟨rfl, rfl⟩
    · obtain rfl : k = xs.length := by omega
      rw [List.take_length] at hz
      go_wp2
      go_ret
      exact ⟨rfl, rfl⟩
end Go.Proofs.Ytcjoolmlobjpbaa

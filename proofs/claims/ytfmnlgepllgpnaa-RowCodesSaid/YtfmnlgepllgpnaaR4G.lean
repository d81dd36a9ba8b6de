/- The walks of rowcode's reading of a whole number and of a length. -/
import Derived.Test.YtfmnlgepllgpnaaR4F
namespace Go.Proofs.Ytfmnlgepllgpnaa
open Go.RowKit
set_option linter.unusedVariables false

theorem leV_take (xs : List UInt8) (k : Nat) (h : k < xs.length) : leV (xs.take (k + 1)) = leV (xs.take k) + 256 ^ k * xs[k].toNat := by
  rw [List.take_succ_eq_append_getElem h, leV_snoc, List.length_take, Nat.min_eq_left (by omega)]
theorem leV_take_lt (xs : List UInt8) (k : Nat) (h : k ≤ xs.length) : leV (xs.take k) < 256 ^ k := by
  have := leV_lt (xs.take k)
  rwa [List.length_take, Nat.min_eq_left h] at this

/-- n bytes have been read. -/
structure Rd (w : World) (p B : Nat) (r : List UInt8) (n : Nat) (w' : World) : Prop where
  le : n ≤ r.length
  cur : ∃ sv', Cur w' p B sv' (r.drop n)
  grown : w.grownBy w' (some p)
set_option maxHeartbeats 400000 in
theorem takeWhole_any (p B n : Nat) (sv : Value) (r : List UInt8) (w : World) (h : Cur w p B sv r) (hr : r.length ≤ 200000000000000) (hn : n ≤ 8) (hn0 : 0 < n) :
    Calls Try.prog 30 #[.pointer (some ⟨p, 0, none⟩), .int .i64 n] w fun e w' =>
      (e = .returned (.int .u64 (leV (r.take n) : Nat)) ∧ Rd w p B r n w') ∨ (r.length < n ∧ e = .panicked noRowP ∧ w' = w) := by
  go_enter Try.func30, Try.ntmps30
  go_wp2_with fail
  refine (take_any p B n sv r _ h hr).mono ?_
  rintro e w1 (⟨tv, sv', hle, rfl, hB, hO, hC, hg⟩ | ⟨hlt, rfl, rfl⟩)
  · have hlen : (r.take n).length = n := by rw [List.length_take]; omega
    rcases hB with ⟨hv, hx⟩ | ⟨a, cap, hv, hc, hB⟩
    · rw [hx] at hlen; simp at hlen; omega
    · subst hv
      generalize hxs : r.take n = xs at *
      rw [hlen]
      have HX : Hid (r.take n = xs) := hxs
      clear hxs
      go_wp2
      go_loop [5, 12] (fun u i => ∃ k : Nat, k ≤ n ∧ i = .int .i64 k ∧ u = .int .u64 (leV (xs.take k) : Nat)) (fun _ i => n - (intOf i).toNat)
      case atStart => exact ⟨0, Nat.zero_le _, rfl, rfl⟩
      case round =>
        obtain ⟨k, hk, rfl, rfl⟩ := hrel
        by_cases hkn : k < n
        · have hb := hB k (by omega)
          unfold bv at hb
          have hs := shl_low (leV (xs.take k)) k (xs[k]'(by omega)) (leV_take_lt xs k (by omega)) (by omega)
          have HT : Hid (leV (xs.take (k + 1)) = leV (xs.take k) + 256 ^ k * (xs[k]'(by omega)).toNat) := leV_take xs k (by omega)
          clear hB
          generalize (xs[k]'(by omega)) = c at *
          go_wp2
          refine ⟨⟨k + 1, by omega, by go_num, ?_⟩, by simp [intOf]; omega⟩
          rw [HT.out]
          simp
        · go_wp2
          go_ret
          obtain rfl : k = n := by omega
          exact Or.inl ⟨ret_int (by rw [List.take_of_length_le (by omega), HX.out]), hle, ⟨sv', hC⟩, hg⟩
  · go_wp2
    exact ⟨rfl, Or.inr ⟨hlt, rfl, rfl⟩⟩
theorem wrap_i64_small (n : Nat) (h : n < 9223372036854775808) : IntKind.i64.wrap (n : Int) = (n : Int) := by
  rw [IntKind.wrap_i64]; omega
/-- A length has been read, or there is none. -/
structure NoLen (w : World) (p : Nat) (r : List UInt8) (n most : Nat) (w' : World) : Prop where
  why : r.length < n ∨ (n ≤ r.length ∧ most < leV (r.take n))
  grown : w.grownBy w' (some p)
set_option maxHeartbeats 400000 in
theorem takeLength_any (p B n most : Nat) (sv : Value) (r : List UInt8) (w : World) (h : Cur w p B sv r) (hr : r.length ≤ 200000000000000) (hn : n ≤ 2) (hn0 : 0 < n) (hm : most ≤ 400) :
    Calls Try.prog 22 #[.pointer (some ⟨p, 0, none⟩), .int .i64 n, .int .i64 most] w fun e w' =>
      (e = .returned (.int .i64 (leV (r.take n) : Nat)) ∧ Rd w p B r n w' ∧ Hid (leV (r.take n) ≤ most)) ∨ (e = .panicked noRowP ∧ NoLen w p r n most w') := by
  have hmw : IntKind.u64.wrap (most : Int) = (most : Int) := by rw [IntKind.wrap_u64]; omega
  go_enter Try.func22, Try.ntmps22
  go_wp2_with fail
  refine (takeWhole_any p B n sv r _ h hr (by omega) hn0).mono ?_
  rintro e w1 (⟨rfl, hR⟩ | ⟨hlt, rfl, rfl⟩)
  · have hlt : leV (r.take n) < 65536 := by
      have h1 := leV_take_lt r n hR.le
      have h2 : (256 : Nat) ^ n ≤ 256 ^ 2 := Nat.pow_le_pow_right (by decide) hn
      have h3 : (256 : Nat) ^ 2 = 65536 := by decide
      omega
    obtain ⟨L, hL⟩ : ∃ L, leV (r.take n) = L := ⟨_, rfl⟩
    have HL : Hid (leV (r.take n) = L) := hL
    by_cases hbig : most < leV (r.take n)
    · have HN : Hid (NoLen w p r n most w1) := ⟨Or.inr ⟨hR.le, hbig⟩, hR.grown⟩
      rw [hL] at hbig hlt ⊢
      clear hL
      go_wp2
      exact ⟨rfl, Or.inr ⟨rfl, HN⟩⟩
    · have HB : Hid (leV (r.take n) ≤ most) := by
        show _ ≤ _
        omega
      rw [hL] at hbig hlt ⊢
      clear hL
      have hw := wrap_i64_small L (by omega)
      go_wp2
      go_ret
      exact Or.inl ⟨ret_int (by rw [HL.out]), hR, HB⟩
  · go_wp2
    exact ⟨rfl, Or.inr ⟨rfl, Or.inl hlt, World.grownBy.refl _ _⟩⟩
end Go.Proofs.Ytfmnlgepllgpnaa

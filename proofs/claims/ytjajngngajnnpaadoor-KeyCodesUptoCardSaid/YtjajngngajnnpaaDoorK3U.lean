/- The walk of the document's own reading of the first value of a code. -/
import Derived.Test.YtjajngngajnnpaaDoorK3T
namespace Go.Proofs.YtjajngngajnnpaaDoor
open Go.RowKit
set_option linter.unusedVariables false

theorem sign_sub (u : Nat) (h : u < 18446744073709551616) : IntKind.i64.wrap (IntKind.u64.wrap ((u : Int) - 9223372036854775808)) = (u : Int) - 9223372036854775808 := by
  rw [IntKind.wrap_u64, IntKind.wrap_i64]; omega
/-- What the first value of a code is. -/
abbrev First (s : ByteArray) (w : World) (e : Ending) (w' : World) : Prop :=
      ((∃ (x : V4) (n : Nat), e = .returned (.tuple #[valV x, .int .i64 n]) ∧ 0 < n ∧ n ≤ s.size ∧ NF x ∧ s.data.toList = code1 x ++ rest s n) ∨
       (e = .returned (.tuple #[val 0 0 ⟨#[]⟩ false, .int .i64 0]) ∧ NoVal s.data.toList)) ∧ Below w.heap.size w w'
theorem all_cons (s : ByteArray) (h : 0 < s.size) : s.data.toList = s[0] :: rest s 1 := by
  rw [← rest_zero]; exact rest_cons s 0 h

set_option maxHeartbeats 1000000 in
theorem first_num (s : ByteArray) (w : World) (h0 : 0 < s.size) (hs : s.size ≤ 1099511627776) (hm : s[0] = 2) : Calls Tryd.prog 21 #[.string s] w (First s w) := by
  have R0 := Res.new w
  have B0 : Below w.heap.size w (w.alloc (.cells #[.int .i64 0, .int .i64 0, .string ⟨#[]⟩, .bool false] 39)) := below_alloc (Below.refl _ _) _
  have HA : Hid (s.data.toList = 2 :: rest s 1) := by rw [← hm]; exact all_cons s h0
  have hm2 : ((s[0].toNat : Int) == 2) = true := by rw [hm]; rfl
  have hm1 : ((s[0].toNat : Int) == 1) = false := by rw [hm]; rfl
  clear hm
  by_cases h9 : s.size < 9
  · have HN : Hid (NoVal s.data.toList) := by
      show NoVal _
      rw [HA.out]
      exact no_val_num (by rw [rest_len]; omega)
    clear HA
    obtain ⟨⟨c0, c1, c2, c3⟩, ⟨f0, f1, f2, f3⟩⟩ := R0
    go_enter Tryd.func21, Tryd.ntmps21
    go_wp2
    exact bodyPost_ret (v := .tuple #[val 0 0 ⟨#[]⟩ false, .int .i64 0]) (by simp [results, Tryd.results21, go_sem]) rfl ⟨Or.inr ⟨rfl, HN⟩, B0⟩
  · go_enter Tryd.func21, Tryd.ntmps21
    go_wp2
    clear hm1 hm2
    go_loopw [4, 5] (fun u k wr => ∃ (n : Nat) (l : List UInt8), n ≤ 8 ∧ k = .int .i64 ((n + 1 : Nat) : Int) ∧ u = .int .u64 (beV l : Nat) ∧ Hid (l.length = n) ∧ Hid (rest s 1 = l ++ rest s (n + 1)) ∧ Res w.heap.size wr ∧ Below w.heap.size w wr) (fun _ k _ => 9 - (intOf k).toNat)
    case atStart => exact ⟨0, [], Nat.zero_le _, rfl, rfl, rfl, rfl, R0, B0⟩
    case round =>
      obtain ⟨n, l, hn, rfl, rfl, HL, HR, R, hnx⟩ := hrel
      clear R0 B0
      by_cases h8 : n < 8
      · have hb : beV l < 72057594037927936 := by
          have := beV_lt l
          rw [HL.out] at this
          exact Nat.lt_of_lt_of_le this (pow_256 (by omega))
        have hi : n + 1 < s.size := by omega
        have hr : Hid (rest s (n + 1) = s[n + 1] :: rest s (n + 1 + 1)) := rest_cons s (n + 1) hi
        have hcl := s[n + 1].toNat_lt
        go_wp2
        refine ⟨⟨n + 1, l ++ [s[n + 1]], by omega, by go_num, ?_, ?_, ?_, R, hnx⟩, by simp [intOf]; omega⟩
        · rw [beV_snoc]; simp
        · show (l ++ [s[n + 1]]).length = n + 1
          rw [List.length_append, HL.out]; rfl
        · show rest s 1 = (l ++ [s[n + 1]]) ++ rest s (n + 1 + 1)
          rw [HR.out, hr.out, List.append_assoc]; rfl
      · obtain rfl : n = 8 := by omega
        have hb : beV l < 18446744073709551616 := by
          have := beV_lt l
          rw [HL.out] at this
          exact this
        have hsg := sign_sub (beV l) hb
        obtain ⟨N, hN⟩ : ∃ N : Int, N = (beV l : Int) - 9223372036854775808 := ⟨_, rfl⟩
        have HN : Hid (N = (beV l : Int) - 9223372036854775808) := hN
        have HB : Hid (beV l < 18446744073709551616) := hb
        have hsg2 : IntKind.i64.wrap (IntKind.u64.wrap ((beV l : Int) - 9223372036854775808)) = N := hsg.trans hN.symm
        clear hN hb hsg
        go_wp2_with fail
        refine (num_any _ _).mono ?_
        rintro e w2 ⟨rfl, h2⟩
        obtain ⟨⟨c0, c1, c2, c3⟩, ⟨f0, f1, f2, f3⟩⟩ := R.keep h2
        have hn2 := keepA hnx h2
        clear h2 hnx hsg2
        go_wp2
        have hN := HN.out
        have hb := HB.out
        refine bodyPost_ret (v := .tuple #[val 1 N ⟨#[]⟩ false, .int .i64 ((9 : Nat) : Int)]) (by simp [results, Tryd.results21, go_sem, c0, c1, c2, c3]) rfl ⟨Or.inl ⟨(1, N, [], false), 9, rfl, by omega, by omega, nf_num ⟨by omega, by omega⟩, ?_⟩, set4_below hn2 (Nat.le_refl _)⟩
        rw [HA.out, code_num (v := (1, N, [], false)) rfl, HR.out]
        have hB := beN_beV l
        rw [HL.out] at hB
        show 2 :: (l ++ rest s 9) = 2 :: beN 8 (N + 9223372036854775808).toNat ++ rest s 9
        rw [show (N + 9223372036854775808).toNat = beV l by omega, hB]; rfl

set_option maxHeartbeats 1000000 in
theorem first_null (s : ByteArray) (w : World) (h0 : 0 < s.size) (hm : s[0] = 1) : Calls Tryd.prog 21 #[.string s] w (First s w) := by
  have B0 : Below w.heap.size w (w.alloc (.cells #[.int .i64 0, .int .i64 0, .string ⟨#[]⟩, .bool false] 39)) := below_alloc (Below.refl _ _) _
  have HA : Hid (s.data.toList = 1 :: rest s 1) := by rw [← hm]; exact all_cons s h0
  have hm1 : ((s[0].toNat : Int) == 1) = true := by rw [hm]; rfl
  clear hm
  go_enter Tryd.func21, Tryd.ntmps21
  go_wp2
  exact bodyPost_ret (v := .tuple #[val 0 0 ⟨#[]⟩ false, .int .i64 ((1 : Nat) : Int)]) (by simp [results, Tryd.results21, go_sem]) rfl ⟨Or.inl ⟨(0, 0, [], false), 1, rfl, by omega, by omega, nf_null, HA⟩, B0⟩

set_option maxHeartbeats 1000000 in
theorem first_text (s : ByteArray) (w : World) (h0 : 0 < s.size) (hs : s.size ≤ 1099511627776) (hm : s[0] = 3) : Calls Tryd.prog 21 #[.string s] w (First s w) := by
  have R0 := Res.new w
  have B0 : Below w.heap.size w (w.alloc (.cells #[.int .i64 0, .int .i64 0, .string ⟨#[]⟩, .bool false] 39)) := below_alloc (Below.refl _ _) _
  have HA : Hid (s.data.toList = 3 :: rest s 1) := by rw [← hm]; exact all_cons s h0
  have hm1 : ((s[0].toNat : Int) == 1) = false := by rw [hm]; rfl
  have hm2 : ((s[0].toNat : Int) == 2) = false := by rw [hm]; rfl
  have hm3 : ((s[0].toNat : Int) == 3) = true := by rw [hm]; rfl
  clear hm
  go_enter Tryd.func21, Tryd.ntmps21
  go_wp2_with fail
  refine (refText_any s _ h0 hs).mono ?_
  rintro e w1 ⟨⟨T, n, rfl, hn0, hns, hT, hr⟩ | ⟨rfl, hn⟩, hb⟩
  · obtain ⟨⟨c0, c1, c2, c3⟩, ⟨f0, f1, f2, f3⟩⟩ := R0.keep hb
    have hn1 := keepA B0 hb
    have HX : Hid (s.data.toList = code1 (2, 0, T, false) ++ rest s n) := by
      show _ = _
      rw [HA.out, hr, code_text (v := (2, 0, T, false)) rfl, hT]; simp
    have HT : Hid (trimL T = T) := hT
    clear hb hr hT R0 B0 HA
    go_wp2
    exact bodyPost_ret (v := .tuple #[val 2 0 ⟨T.toArray⟩ false, .int .i64 (n : Int)]) (by simp [results, Tryd.results21, go_sem, c0, c1, c2, c3]) rfl ⟨Or.inl ⟨(2, 0, T, false), n, rfl, hn0, hns, nf_text HT.out, HX⟩, set4_below hn1 (Nat.le_refl _)⟩
  · obtain ⟨⟨c0, c1, c2, c3⟩, ⟨f0, f1, f2, f3⟩⟩ := R0.keep hb
    have hn1 := keepA B0 hb
    have HN : Hid (NoVal s.data.toList) := by
      show NoVal _
      rw [HA.out]
      exact no_val_text hn
    clear hb hn R0 B0 HA
    go_wp2
    exact bodyPost_ret (v := .tuple #[val 0 0 ⟨#[]⟩ false, .int .i64 0]) (by simp [results, Tryd.results21, go_sem, c0, c1, c2, c3]) rfl ⟨Or.inr ⟨rfl, HN⟩, set4_below hn1 (Nat.le_refl _)⟩

set_option maxHeartbeats 1000000 in
theorem first_bool (s : ByteArray) (w : World) (h0 : 0 < s.size) (hm : s[0] = 4) : Calls Tryd.prog 21 #[.string s] w (First s w) := by
  have B0 : Below w.heap.size w (w.alloc (.cells #[.int .i64 0, .int .i64 0, .string ⟨#[]⟩, .bool false] 39)) := below_alloc (Below.refl _ _) _
  have HA : Hid (s.data.toList = 4 :: rest s 1) := by rw [← hm]; exact all_cons s h0
  have hm1 : ((s[0].toNat : Int) == 1) = false := by rw [hm]; rfl
  have hm2 : ((s[0].toNat : Int) == 2) = false := by rw [hm]; rfl
  have hm3 : ((s[0].toNat : Int) == 3) = false := by rw [hm]; rfl
  have hm4 : ((s[0].toNat : Int) == 4) = true := by rw [hm]; rfl
  clear hm
  by_cases h2 : 1 < s.size
  · have hr : Hid (rest s 1 = s[1] :: rest s (1 + 1)) := rest_cons s 1 h2
    by_cases hc : (1 : Int) < (s[1].toNat : Int)
    · have HN : Hid (NoVal s.data.toList) := by
        show NoVal _
        rw [HA.out, hr.out]
        exact no_val_bool (Or.inr ⟨_, _, rfl, by omega⟩)
      clear HA hr
      go_enter Tryd.func21, Tryd.ntmps21
      go_wp2
      exact bodyPost_ret (v := .tuple #[val 0 0 ⟨#[]⟩ false, .int .i64 0]) (by simp [results, Tryd.results21, go_sem]) rfl ⟨Or.inr ⟨rfl, HN⟩, B0⟩
    · cases h1 : ((s[1].toNat : Int) == 1)
      · have HX : Hid (s.data.toList = code1 (3, 0, [], false) ++ rest s 2) := by
          have : s[1] = 0 := by
            apply UInt8.toNat_inj.1
            have := not_byte (n := 1) h1
            show _ = 0
            omega
          show _ = _
          rw [HA.out, hr.out, this]; rfl
        clear HA hr
        go_enter Tryd.func21, Tryd.ntmps21
        go_wp2
        exact bodyPost_ret (v := .tuple #[val 3 0 ⟨#[]⟩ false, .int .i64 ((2 : Nat) : Int)]) (by simp [results, Tryd.results21, go_sem]) rfl ⟨Or.inl ⟨(3, 0, [], false), 2, rfl, by omega, by omega, nf_bool false, HX⟩, (by repeat (first | exact Below.refl _ _ | assumption | refine Below.alloc ?_ (by first | (simp; done) | (simp; omega)) _ | refine Below.setCell ?_ (by first | (simp; done) | (simp; omega)) _ | refine Below.drew ?_ | refine below_drewN ?_ _))⟩
      · have HX : Hid (s.data.toList = code1 (3, 0, [], true) ++ rest s 2) := by
          have : s[1] = 1 := one_byte (n := 1) (by decide) h1
          show _ = _
          rw [HA.out, hr.out, this]; rfl
        clear HA hr
        go_enter Tryd.func21, Tryd.ntmps21
        go_wp2
        exact bodyPost_ret (v := .tuple #[val 3 0 ⟨#[]⟩ true, .int .i64 ((2 : Nat) : Int)]) (by simp [results, Tryd.results21, go_sem]) rfl ⟨Or.inl ⟨(3, 0, [], true), 2, rfl, by omega, by omega, nf_bool true, HX⟩, (by repeat (first | exact Below.refl _ _ | assumption | refine Below.alloc ?_ (by first | (simp; done) | (simp; omega)) _ | refine Below.setCell ?_ (by first | (simp; done) | (simp; omega)) _ | refine Below.drew ?_ | refine below_drewN ?_ _))⟩
  · have HN : Hid (NoVal s.data.toList) := by
      show NoVal _
      rw [HA.out]
      refine no_val_bool (Or.inl ?_)
      have := rest_len s 1
      exact List.eq_nil_of_length_eq_zero (by omega)
    clear HA
    go_enter Tryd.func21, Tryd.ntmps21
    go_wp2
    exact bodyPost_ret (v := .tuple #[val 0 0 ⟨#[]⟩ false, .int .i64 0]) (by simp [results, Tryd.results21, go_sem]) rfl ⟨Or.inr ⟨rfl, HN⟩, B0⟩

set_option maxHeartbeats 1000000 in
theorem first_bad (s : ByteArray) (w : World) (h0 : 0 < s.size) (hm1 : ((s[0].toNat : Int) == 1) = false) (hm2 : ((s[0].toNat : Int) == 2) = false) (hm3 : ((s[0].toNat : Int) == 3) = false) (hm4 : ((s[0].toNat : Int) == 4) = false) : Calls Tryd.prog 21 #[.string s] w (First s w) := by
  have B0 : Below w.heap.size w (w.alloc (.cells #[.int .i64 0, .int .i64 0, .string ⟨#[]⟩, .bool false] 39)) := below_alloc (Below.refl _ _) _
  have HN : Hid (NoVal s.data.toList) := by
    show NoVal _
    rw [all_cons s h0]
    have n1 := not_byte (n := 1) hm1
    have n2 := not_byte (n := 2) hm2
    have n3 := not_byte (n := 3) hm3
    have n4 := not_byte (n := 4) hm4
    exact no_val_mark _ _ (by omega)
  go_enter Tryd.func21, Tryd.ntmps21
  go_wp2
  exact bodyPost_ret (v := .tuple #[val 0 0 ⟨#[]⟩ false, .int .i64 0]) (by simp [results, Tryd.results21, go_sem]) rfl ⟨Or.inr ⟨rfl, HN⟩, B0⟩
theorem first_any (s : ByteArray) (w : World) (h0 : 0 < s.size) (hs : s.size ≤ 1099511627776) : Calls Tryd.prog 21 #[.string s] w (First s w) := by
  cases h1 : ((s[0].toNat : Int) == 1)
  · cases h2 : ((s[0].toNat : Int) == 2)
    · cases h3 : ((s[0].toNat : Int) == 3)
      · cases h4 : ((s[0].toNat : Int) == 4)
        · exact first_bad s w h0 h1 h2 h3 h4
        · exact first_bool s w h0 (one_byte (n := 4) (by decide) h4)
      · exact first_text s w h0 hs (one_byte (n := 3) (by decide) h3)
    · exact first_num s w h0 hs (one_byte (n := 2) (by decide) h2)
  · exact first_null s w h0 (one_byte (n := 1) (by decide) h1)
end Go.Proofs.YtjajngngajnnpaaDoor

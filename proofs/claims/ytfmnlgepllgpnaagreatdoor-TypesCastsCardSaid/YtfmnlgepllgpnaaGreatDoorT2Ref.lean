/- The walks of the document's own functions: padded, figures, Digits. -/
import Derived.Test.YtfmnlgepllgpnaaGreatDoorT2Name
namespace Go.Proofs.YtfmnlgepllgpnaaGreatDoor
open Go.RowKit Go.Joins
set_option linter.unusedVariables false

theorem pad_step (u : ByteArray) (m : Nat) (h : u.size < m) : padL (u ++ (⟨#[32]⟩ : ByteArray)).data.toList 4 m = padL u.data.toList 4 m := by
  rw [padL_char, padL_char]
  have e : (u ++ (⟨#[32]⟩ : ByteArray)).data.toList = u.data.toList ++ [32] := by simp
  have hz : u.data.toList.length = u.size := by simp
  rw [e, List.append_assoc, List.length_append, hz, List.length_singleton]
  rw [show (m : Int).toNat - u.size = ((m : Int).toNat - (u.size + 1)) + 1 by omega, List.replicate_succ]
  rfl
theorem pad_end (u : ByteArray) (m : Nat) (h : ¬ u.size < m) : padL u.data.toList 4 m = u.data.toList := by
  rw [padL_char]
  have hz : u.data.toList.length = u.size := by simp
  rw [hz, show (m : Int).toNat - u.size = 0 by omega]
  simp
set_option maxHeartbeats 1000000 in
theorem rpad_other (s : ByteArray) (b l : Int) (w : World) (h : (b == 4) = false) :
    Calls Tryz.prog 24 #[.string s, typ b l] w fun e w' => e = .returned (val 2 0 s false) ∧ Below w.heap.size w w' := by
  go_enter Tryz.func24, Tryz.ntmps24
  go_wp2
  refine wp_loop_rounds 1 ?_
  rw [rounds_succ]
  go_wp2_with (go_at_call 21; refine (text_any _ _).mono ?_; rintro e w1 ⟨rfl, hb⟩; obtain ⟨hcl, hfr⟩ := bcell hb)
  exact bodyPost_ret (v := val 2 0 s false) (by simp [results, Tryz.results24, go_sem, hcl]) rfl ⟨rfl, (by repeat (first | exact Below.refl _ _ | assumption | refine Below.alloc ?_ (by first | (simp; done) | (simp; omega)) _ | refine Below.setCell ?_ (by first | (simp; done) | (simp; omega)) _ | refine Below.drew ?_ | refine below_drewN ?_ _ | refine Below.trans ?_ (hb.mono (by first | (simp; done) | (simp; omega)))))⟩
set_option maxHeartbeats 1000000 in
theorem rpad_char (s : ByteArray) (m : Nat) (w : World) (hm : m ≤ 100) (hs : s.size ≤ 9223372036854775000) :
    Calls Tryz.prog 24 #[.string s, typ 4 m] w fun e w' => e = .returned (val 2 0 ⟨(padL s.data.toList 4 m).toArray⟩ false) ∧ Below w.heap.size w w' := by
  go_enter Tryz.func24, Tryz.ntmps24
  go_wp2
  go_loop [0] (fun v => ∃ u : ByteArray, v = .string u ∧ u.size ≤ 9223372036854775100 ∧ padL u.data.toList 4 m = padL s.data.toList 4 m) (fun v => m - sizeV v)
  case atStart => exact ⟨s, rfl, by omega, rfl⟩
  case round =>
    obtain ⟨u, rfl, hz, hP⟩ := hrel
    have HP : Hid _ := hP
    clear hP
    by_cases h0 : u.size < m
    · go_wp2
      have hsz : (u ++ (⟨#[32]⟩ : ByteArray)).size = u.size + 1 := by rw [ByteArray.size_append]; rfl
      refine ⟨⟨_, rfl, by rw [hsz]; omega, (pad_step u m h0).trans HP.out⟩, ?_⟩
      show m - sizeV (.string (u ++ ⟨#[32]⟩)) < m - sizeV (.string u)
      rw [sizeV_str, sizeV_str, hsz]
      omega
    · have E : Hid ((⟨(padL s.data.toList 4 m).toArray⟩ : ByteArray) = u) := by show _ = _; rw [← HP.out, pad_end u m h0]
      go_wp2_with (go_at_call 21; refine (text_any _ _).mono ?_; rintro e w1 ⟨rfl, hb⟩; obtain ⟨hcl, hfr⟩ := bcell hb)
      exact bodyPost_ret (v := val 2 0 u false) (by simp [results, Tryz.results24, go_sem, hcl]) rfl ⟨by rw [E.out], (by repeat (first | exact Below.refl _ _ | assumption | refine Below.alloc ?_ (by first | (simp; done) | (simp; omega)) _ | refine Below.setCell ?_ (by first | (simp; done) | (simp; omega)) _ | refine Below.drew ?_ | refine below_drewN ?_ _ | refine Below.trans ?_ (hb.mono (by first | (simp; done) | (simp; omega)))))⟩
theorem rpad_any (s : ByteArray) (b l : Int) (w : World) (hl : 0 ≤ l ∧ l ≤ 100) (hs : s.size ≤ 9223372036854775000) :
    Calls Tryz.prog 24 #[.string s, typ b l] w fun e w' => e = .returned (val 2 0 ⟨(padL s.data.toList b l).toArray⟩ false) ∧ Below w.heap.size w w' := by
  obtain ⟨m, rfl⟩ := Int.eq_ofNat_of_zero_le hl.1
  cases h : (b == 4)
  · rw [padL_other h]
    exact rpad_other s b m w h
  · obtain rfl : b = 4 := by simpa using h
    exact rpad_char s m w (by omega) hs

theorem dig_ext (d : Nat) (h : d < 10) : (⟨#[48, 49, 50, 51, 52, 53, 54, 55, 56, 57]⟩ : ByteArray).extract d (d + 1) = ⟨#[UInt8.ofNat (48 + d)]⟩ := by
  have : ∀ d : Fin 10, (⟨#[48, 49, 50, 51, 52, 53, 54, 55, 56, 57]⟩ : ByteArray).extract d.val (d.val + 1) = ⟨#[UInt8.ofNat (48 + d.val)]⟩ := by decide +kernel
  exact this ⟨d, h⟩
theorem dec_small {m : Nat} (h : m < 10) : Lib.decDigits m = [UInt8.ofNat (48 + m)] := Lib.decDigits_one h
theorem dec_big {m : Nat} (h : ¬ m < 10) : Lib.decDigits m = Lib.decDigits (m / 10) ++ [UInt8.ofNat (48 + m % 10)] := by rw [Lib.decDigits, dif_neg h]
theorem fig_end {U m : Nat} {sign u : ByteArray} (hD : Lib.decDigits U = Lib.decDigits m ++ u.data.toList) (h : m < 10) : sign ++ ((⟨#[48 + UInt8.ofNat (m % 10)]⟩ : ByteArray) ++ u) = sign ++ (⟨(Lib.decDigits U).toArray⟩ : ByteArray) := by
  rw [hD, dec_small h]
  congr 1
  apply ByteArray.ext
  simp [Nat.mod_eq_of_lt h]
set_option maxHeartbeats 1000000 in
theorem rfig_any (U : Nat) (sign : ByteArray) (w : World) (h : U ≤ 9223372036854775808) (hs : sign.size ≤ 1) :
    Calls Tryz.prog 55 #[.int .i64 (-(U : Int)), .string sign] w fun e w' => e = .returned (.string (sign ++ ⟨(Lib.decDigits U).toArray⟩)) ∧ Below w.heap.size w w' := by
  go_enter Tryz.func55, Tryz.ntmps55
  go_wp2
  go_loop [0, 5] (fun v s => ∃ (m : Nat) (u : ByteArray), v = .int .i64 (-(m : Int)) ∧ s = .string u ∧ m ≤ 9223372036854775808 ∧ u.size ≤ 100 - Lib.nDigits m ∧ Lib.decDigits U = Lib.decDigits m ++ u.data.toList) (fun v s => match v with | .int _ z => z.natAbs | _ => 0)
  case atStart => exact ⟨U, ⟨#[]⟩, rfl, rfl, h, Nat.zero_le _, by simp⟩
  case round =>
    obtain ⟨m, u, rfl, rfl, hm, hu, hD⟩ := hrel
    have HD : Hid _ := hD
    clear hD
    have hdx := dig_ext (m % 10) (by omega)
    have hr : (-(m : Int)).tmod 10 = -((m % 10 : Nat) : Int) := by rw [Int.neg_tmod, Int.tmod_eq_emod_of_nonneg (by omega)]; omega
    have hq : (-(m : Int)).tdiv 10 = -((m / 10 : Nat) : Int) := by rw [Int.neg_tdiv, Int.tdiv_eq_ediv_of_nonneg (by omega)]; omega
    have hnd := nDigits_le 18 m (by omega)
    have huz : u.size ≤ 100 := by omega
    have HU : Hid _ := hu
    have HND : Hid _ := hnd
    clear hu hnd
    by_cases h0 : m < 10
    · go_wp2
      go_ret
      exact ⟨ret_s (fig_end HD.out h0), Below.refl _ _⟩
    · go_wp2
      refine ⟨⟨m / 10, _, by rw [Int.natCast_ediv]; rfl, rfl, by omega, ?_, ?_⟩, ?_⟩
      · have := HU.out
        have := HND.out
        rw [Lib.nDigits_big h0] at this
        rw [ByteArray.size_append]
        show 1 + u.size ≤ _
        have h3 := HU.out
        rw [Lib.nDigits_big h0] at h3
        omega
      · rw [HD.out, dec_big h0]
        simp
      · show (-((m : Int) / 10)).natAbs < (-(m : Int)).natAbs
        omega
end Go.Proofs.YtfmnlgepllgpnaaGreatDoor

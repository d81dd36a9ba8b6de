/- No reserved word is a name. -/
import Derived.Test.YtbkeaajnhalekaaGreatDoorP14NN
import Derived.Test.YtbkeaajnhalekaaGreatDoorL13RE
import Derived.Test.YtbkeaajnhalekaaGreatDoorM14G
namespace Go.Proofs.YtbkeaajnhalekaaGreatDoor
open Go.RowKit
set_option linter.unusedVariables false
set_option linter.unusedSimpArgs false

theorem nt1 (a : List UInt8) (s : ByteArray) : ((⟨a.toArray⟩ : ByteArray) ++ s).data.toList = a ++ s.data.toList := by simp
theorem nt2 (a b : List UInt8) (s : ByteArray) : ((⟨a.toArray⟩ : ByteArray) ++ s ++ (⟨b.toArray⟩ : ByteArray)).data.toList = a ++ (s.data.toList ++ b) := by simp
/-- A reserved word: no text is one. -/
theorem res_no {w : List UInt8} (h : Wo w) (hr : resL.contains w = true) : prF ([99, 114, 101, 97, 116, 101, 32, 116, 97, 98, 108, 101, 32, 116, 32, 40] ++ (w ++ [32, 105, 110, 116, 41])) = .error 1 := by
  by_cases h1 : (w == [112, 114, 105, 109, 97, 114, 121]) = true
  · rw [eq_of_beq h1]; rfl
  by_cases h2 : (w == [117, 110, 105, 113, 117, 101]) = true
  · rw [eq_of_beq h2]; rfl
  by_cases h3 : (w == [99, 104, 101, 99, 107]) = true
  · rw [eq_of_beq h3]; rfl
  by_cases h4 : (w == [102, 111, 114, 101, 105, 103, 110]) = true
  · rw [eq_of_beq h4]; rfl
  rw [pr_crt h (by simpa using h1) (by simpa using h2) (by simpa using h3) (by simpa using h4), hr]
  rfl
theorem nres_ok {w : List UInt8} (h : Wo w) (hr : resL.contains w = false) : ∃ t, prF ([99, 114, 101, 97, 116, 101, 32, 116, 97, 98, 108, 101, 32, 116, 32, 40] ++ (w ++ [32, 105, 110, 116, 41])) = .ok t := by
  have k : ∀ x, resL.contains x = true → (w == x) = false := fun x hx => by
    rw [beq_eq_false_iff_ne]
    rintro rfl
    rw [hx] at hr; cases hr
  rw [pr_crt h (k _ (by decide)) (k _ (by decide)) (k _ (by decide)) (k _ (by decide)), hr]
  exact ⟨_, rfl⟩
theorem wo_of {s : ByteArray} (h0 : s.size ≠ 0) (h20 : s.size ≤ 20) (h : ∀ i (hi : i < s.size), 97 ≤ s[i].toNat ∧ s[i].toNat ≤ 122) : Wo s.data.toList := by
  refine ⟨fun c hc => ?_, ?_, ?_⟩
  · obtain ⟨i, hi, rfl⟩ := List.getElem_of_mem hc
    have hi' : i < s.size := by simpa using hi
    have h1 := h i hi'
    have e : s.data.toList[i] = s[i] := by rfl
    rw [e]
    constructor
    · rw [UInt8.le_iff_toNat_le]; exact h1.1
    · rw [UInt8.le_iff_toNat_le]; exact h1.2
  · have : s.data.toList.length = s.size := by simp
    omega
  · have : s.data.toList.length = s.size := by simp
    omega
set_option maxHeartbeats 4000000 in
set_option maxRecDepth 100000 in
theorem names_law (s : ByteArray) (ad : Addr) (w : World) (hL : LibW ad w) : Calls Tryz.prog 7 #[.string s] w fun e w' => e = .returned (.bool true) ∧ Below w.heap.size w w' := by
  have HP : Hid (∀ W, Below w.heap.size w W → ∀ x, Calls Tryz.prog 8 #[.string x] W fun e w' => PrTo W x e w') := fun W hW x => parse_any x W (hL.keep hW)
  have HAL : Hid (∀ W, Below w.heap.size w W → Calls Tryz.prog 11 #[] W fun e w' => e = .returned (.bool true) ∧ Below W.heap.size W w') := fun W hW => alive_any W (hL.keep hW)
  have HW : Hid (Below w.heap.size w w) := Below.refl _ _
  clear hL
  by_cases hz : (s.size : Int) = 0
  · have hal := HAL.out w HW.out
    go_enter Tryz.func7, Tryz.ntmps7
    go_wp2_with fail
    refine hal.mono ?_
    rintro e w1 ⟨rfl, hb⟩
    go_wp2_with fail
    go_ret
    exact ⟨rfl, hb⟩
  have hzb : ((s.size : Int) == 0) = false := by simpa using hz
  by_cases h20 : (s.size : Int) > 20
  · have hal := HAL.out w HW.out
    go_enter Tryz.func7, Tryz.ntmps7
    go_wp2_with fail
    refine hal.mono ?_
    rintro e w1 ⟨rfl, hb⟩
    go_wp2_with fail
    go_ret
    exact ⟨rfl, hb⟩
  go_enter Tryz.func7, Tryz.ntmps7
  go_wp2_with fail
  go_loopw [3] (fun x wr => ∃ i : Nat, x = .int .i64 i ∧ i ≤ s.size ∧ Hid (∀ j (hj : j < s.size), j < i → 97 ≤ s[j].toNat ∧ s[j].toNat ≤ 122) ∧ wr = w) (fun x _ => s.size - (intOf x).toNat)
  case atStart => exact ⟨0, rfl, Nat.zero_le _, fun j _ h => absurd h (by omega), rfl⟩
  case round =>
    rename World => wr
    obtain ⟨i, rfl, hi, HJ, hwr⟩ := hrel
    obtain rfl := hwr.symm
    by_cases hlt : i < s.size
    · have tl : (i : Int) < (s.size : Int) := by omega
      by_cases h97 : (s[i].toNat : Int) < 97
      · have hal := HAL.out w HW.out
        go_wp2_with fail
        refine hal.mono ?_
        rintro e w1 ⟨rfl, hb⟩
        go_wp2_with fail
        go_ret
        exact ⟨rfl, hb⟩
      by_cases h122 : (s[i].toNat : Int) > 122
      · have hal := HAL.out w HW.out
        go_wp2_with fail
        refine hal.mono ?_
        rintro e w1 ⟨rfl, hb⟩
        go_wp2_with fail
        go_ret
        exact ⟨rfl, hb⟩
      have HN : Hid (∀ j (hj : j < s.size), j < i + 1 → 97 ≤ s[j].toNat ∧ s[j].toNat ≤ 122) := fun j hj h => by
        by_cases e : j = i
        · subst e; omega
        · exact HJ.out j hj (by omega)
      go_wp2_with fail
      exact ⟨⟨i + 1, by go_num, by omega, HN, by first | rfl | trivial⟩, by simp [intOf]; omega⟩
    · have tl : ¬ (i : Int) < (s.size : Int) := by omega
      obtain rfl : i = s.size := by omega
      have HWo : Hid (Wo s.data.toList) := wo_of (by omega) (by omega) (fun j hj => HJ.out j hj hj)
      have hres := reserved_ref s (by omega) w
      clear HJ
      have HT1 : Hid (∀ a : List UInt8, ((⟨a.toArray⟩ : ByteArray) ++ s).data.toList = a ++ s.data.toList) := fun a => nt1 a s
      have HT2 : Hid (∀ a b : List UInt8, ((⟨a.toArray⟩ : ByteArray) ++ s ++ (⟨b.toArray⟩ : ByteArray)).data.toList = a ++ (s.data.toList ++ b)) := fun a b => nt2 a b s
      have z1 : ¬ 9223372036854775807 < 10 + s.size := by omega
      have z2 : ¬ 9223372036854775807 < 6 + s.size := by omega
      have z3 : ¬ 9223372036854775807 < 16 + s.size := by omega
      have z4 : ¬ 9223372036854775807 < 16 + s.size + 5 := by omega
      have z5 : ¬ 9223372036854775807 < 9 + s.size := by omega
      have z6 : ¬ 9223372036854775807 < 9 + s.size + 9 := by omega
      have z7 : ¬ 9223372036854775807 < 12 + s.size := by omega
      have z8 : ¬ 9223372036854775807 < 12 + s.size + 7 := by omega
      have z9 : ¬ 9223372036854775807 < 11 + s.size := by omega
      obtain ⟨R, hR⟩ : ∃ R, resL.contains s.data.toList = R := ⟨_, rfl⟩
      rw [hR] at hres
      have HR := Go.Proofs.YtbkeaajnhalekaaGreatDoor.Hid.mk' hR
      clear hR
      cases R with
      | true =>
        go_wp2_with fail
        refine hres.mono ?_
        rintro e wx ⟨rfl, hwx⟩
        obtain rfl := hwx.symm
        clear hres
        go_wp2_with fail
        refine (HP.out _ HW.out _).mono ?_
        intro e w1 h1
        obtain ⟨rfl, hb1⟩ := h1.noE (er := 1) (by rw [HT1.out, pr_save HWo.out, HR.out]; rfl)
        have HB1 := Go.Proofs.YtbkeaajnhalekaaGreatDoor.Hid.mk' (HW.out.trans (hb1.mono HW.out.size))
        clear h1 hb1
        go_wp2_with fail
        refine (HP.out _ (HB1.out.alloc HB1.out.size _) _).mono ?_
        intro e w2 h2
        obtain ⟨rfl, hb2⟩ := h2.noE (er := 1) (by rw [HT1.out, pr_close HWo.out, HR.out]; rfl)
        have HB2 := Go.Proofs.YtbkeaajnhalekaaGreatDoor.Hid.mk' ((HB1.out.alloc HB1.out.size _).trans (hb2.mono (HB1.out.alloc HB1.out.size _).size))
        clear h2 hb2
        go_wp2_with fail
        refine (HP.out _ (HB2.out.alloc HB2.out.size _) _).mono ?_
        intro e w3 h3
        obtain ⟨rfl, hb3⟩ := h3.noE (er := 1) (by rw [HT2.out]; exact res_no HWo.out HR.out)
        have HB3 := Go.Proofs.YtbkeaajnhalekaaGreatDoor.Hid.mk' ((HB2.out.alloc HB2.out.size _).trans (hb3.mono (HB2.out.alloc HB2.out.size _).size))
        clear h3 hb3
        go_wp2_with fail
        refine (HP.out _ (HB3.out.alloc HB3.out.size _) _).mono ?_
        intro e w4 h4
        obtain ⟨rfl, hb4⟩ := h4.noE (er := 1) (by rw [HT2.out]; exact (pr_dot HWo.out).1 HR.out)
        have HB4 := Go.Proofs.YtbkeaajnhalekaaGreatDoor.Hid.mk' ((HB3.out.alloc HB3.out.size _).trans (hb4.mono (HB3.out.alloc HB3.out.size _).size))
        clear h4 hb4
        go_wp2_with fail
        refine (HP.out _ (HB4.out.alloc HB4.out.size _) _).mono ?_
        intro e w5 h5
        obtain ⟨rfl, hb5⟩ := h5.noE (er := 1) (by rw [HT2.out]; exact (pr_as HWo.out).1 HR.out)
        have HB5 := Go.Proofs.YtbkeaajnhalekaaGreatDoor.Hid.mk' ((HB4.out.alloc HB4.out.size _).trans (hb5.mono (HB4.out.alloc HB4.out.size _).size))
        clear h5 hb5
        go_wp2_with fail
        refine (HP.out _ (HB5.out.alloc HB5.out.size _) _).mono ?_
        intro e w6 h6
        obtain ⟨rfl, hb6⟩ := h6.noE (er := 1) (by rw [HT1.out, pr_drop HWo.out, HR.out]; rfl)
        have HB6 := Go.Proofs.YtbkeaajnhalekaaGreatDoor.Hid.mk' ((HB5.out.alloc HB5.out.size _).trans (hb6.mono (HB5.out.alloc HB5.out.size _).size))
        clear h6 hb6
        rw [show prB 1 = (⟨#[52, 50, 54, 48, 49]⟩ : ByteArray) from rfl]
        clear HT1 HT2
        go_wp2_with (first
          | (go_at_call 11; refine (HAL.out _ (HB6.out.alloc HB6.out.size _)).mono ?_; rintro e w7 ⟨rfl, hb7⟩))
        all_goals
          go_ret
          exact ⟨rfl, (HB6.out.alloc HB6.out.size _).trans (hb7.mono (HB6.out.alloc HB6.out.size _).size)⟩
      | false =>
        go_wp2_with fail
        refine hres.mono ?_
        rintro e wx ⟨rfl, hwx⟩
        obtain rfl := hwx.symm
        clear hres
        go_wp2_with fail
        refine (HP.out _ HW.out _).mono ?_
        intro e w1 h1
        obtain ⟨ao1, cap1, rfl, _, hb1⟩ := h1.okE (t := nd [115, 97, 118, 101, 112, 111, 105, 110, 116] s.data.toList []) (by rw [HT1.out, pr_save HWo.out, HR.out]; rfl)
        have HB1 := Go.Proofs.YtbkeaajnhalekaaGreatDoor.Hid.mk' (HW.out.trans (hb1.mono HW.out.size))
        clear h1 hb1
        go_wp2_with fail
        refine (HP.out _ (HB1.out.alloc HB1.out.size _) _).mono ?_
        intro e w2 h2
        obtain ⟨ao2, cap2, rfl, _, hb2⟩ := h2.okE (t := nd [99, 108, 111, 115, 101] s.data.toList []) (by rw [HT1.out, pr_close HWo.out, HR.out]; rfl)
        have HB2 := Go.Proofs.YtbkeaajnhalekaaGreatDoor.Hid.mk' ((HB1.out.alloc HB1.out.size _).trans (hb2.mono (HB1.out.alloc HB1.out.size _).size))
        clear h2 hb2
        go_wp2_with fail
        refine (HP.out _ (HB2.out.alloc HB2.out.size _) _).mono ?_
        intro e w3 h3
        obtain ⟨t3, ht3⟩ := nres_ok HWo.out HR.out
        obtain ⟨ao3, cap3, rfl, _, hb3⟩ := h3.okE (t := t3) (by rw [HT2.out]; exact ht3)
        have HB3 := Go.Proofs.YtbkeaajnhalekaaGreatDoor.Hid.mk' ((HB2.out.alloc HB2.out.size _).trans (hb3.mono (HB2.out.alloc HB2.out.size _).size))
        clear h3 hb3
        go_wp2_with fail
        refine (HP.out _ (HB3.out.alloc HB3.out.size _) _).mono ?_
        intro e w4 h4
        obtain ⟨t4, ht4⟩ := (pr_dot HWo.out).2 HR.out
        obtain ⟨ao4, cap4, rfl, _, hb4⟩ := h4.okE (t := t4) (by rw [HT2.out]; exact ht4)
        have HB4 := Go.Proofs.YtbkeaajnhalekaaGreatDoor.Hid.mk' ((HB3.out.alloc HB3.out.size _).trans (hb4.mono (HB3.out.alloc HB3.out.size _).size))
        clear h4 hb4
        go_wp2_with fail
        refine (HP.out _ (HB4.out.alloc HB4.out.size _) _).mono ?_
        intro e w5 h5
        obtain ⟨t5, ht5⟩ := (pr_as HWo.out).2 HR.out
        obtain ⟨ao5, cap5, rfl, _, hb5⟩ := h5.okE (t := t5) (by rw [HT2.out]; exact ht5)
        have HB5 := Go.Proofs.YtbkeaajnhalekaaGreatDoor.Hid.mk' ((HB4.out.alloc HB4.out.size _).trans (hb5.mono (HB4.out.alloc HB4.out.size _).size))
        clear h5 hb5
        go_wp2_with fail
        refine (HP.out _ (HB5.out.alloc HB5.out.size _) _).mono ?_
        intro e w6 h6
        obtain ⟨ao6, cap6, he6, _, hb6⟩ := h6.okE (t := nd [100, 114, 111, 112, 32, 116, 97, 98, 108, 101] s.data.toList []) (by rw [HT1.out, pr_drop HWo.out, HR.out]; rfl)
        replace he6 : e = .returned (.tuple #[.agg #[.string ⟨#[100, 114, 111, 112, 32, 116, 97, 98, 108, 101]⟩, .string s, .int .i64 0, .slice ao6 0 cap6], .string ⟨#[48, 48, 48, 48, 48]⟩]) := he6
        subst he6
        have HB6 := Go.Proofs.YtbkeaajnhalekaaGreatDoor.Hid.mk' ((HB5.out.alloc HB5.out.size _).trans (hb6.mono (HB5.out.alloc HB5.out.size _).size))
        clear h6 hb6
        clear HT1 HT2
        go_wp2_with (first
          | (go_at_call 11; refine (HAL.out _ (HB6.out.alloc HB6.out.size _)).mono ?_; rintro e w7 ⟨rfl, hb7⟩))
        all_goals
          go_ret
          exact ⟨rfl, (HB6.out.alloc HB6.out.size _).trans (hb7.mono (HB6.out.alloc HB6.out.size _).size)⟩
end Go.Proofs.YtbkeaajnhalekaaGreatDoor

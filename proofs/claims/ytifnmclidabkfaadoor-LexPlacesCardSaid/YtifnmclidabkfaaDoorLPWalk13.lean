/- Tokens stand where they say. -/
import Derived.Test.YtifnmclidabkfaaDoorL13N
import Derived.Lib.QuietBelow
namespace Go.Proofs.YtifnmclidabkfaaDoor
open Go.RowKit
set_option linter.unusedVariables false
set_option linter.unusedSimpArgs false

theorem dbl_ge : ∀ s : List UInt8, s.length ≤ (dbl s).length
  | [] => by simp [dbl]
  | c :: s => by
    have := dbl_ge s
    rw [dbl]
    split <;> simp <;> omega
set_option maxHeartbeats 4000000 in
set_option maxRecDepth 100000 in
theorem places_law (s : ByteArray) (ad : Addr) (w : World) (hL : LibW ad w) : Calls Tryd.prog 4 #[.string s] w fun e w' => e = .returned (.bool true) ∧ Below w.heap.size w w' := by
  have HAL : Hid (∀ W, Below w.heap.size w W → Calls Tryd.prog 6 #[] W fun e w' => e = .returned (.bool true) ∧ Below W.heap.size W w') := fun W hW => alive_any W (hL.keep hW)
  have HSC : Hid (∀ W, Below w.heap.size w W → ∀ x : ByteArray, Calls Tryd.prog 5 #[.string x] W fun e w' => ScTo W x e w') := fun W hW x => scan_any x W (hL.keep hW)
  have h0 := HSC.out w (Below.refl _ _) s
  clear hL
  go_enter Tryd.func4, Tryd.ntmps4
  go_wp2_with fail
  refine h0.mono ?_
  intro e w1 h1
  clear h0
  rcases h1 with ⟨l, v, ho, rfl, row, hb⟩ | ⟨er, ho, rfl, hb⟩
  · obtain ⟨hs2, _, hl6⟩ := scF_ok.1 ho
    have HP := Go.Proofs.YtifnmclidabkfaaDoor.Hid.mk' (Plc.start ho)
    have hs : s.size ≤ 2000 := by simpa using hs2
    obtain ⟨ao, cp, rfl, hc, _⟩ := row.form
    have HR := Go.Proofs.YtifnmclidabkfaaDoor.Hid.mk' row
    have HB1 := Go.Proofs.YtifnmclidabkfaaDoor.Hid.mk' hb
    clear ho hs2 row hb
    go_wp2_with fail
    go_loopw [5, 6] (fun x5 x6 wr => ∃ (i en : Nat), x5 = .int .i64 en ∧ x6 = .int .i64 i ∧ i ≤ l.length ∧ Hid (Plc s en (l.drop i)) ∧ Hid (Below w1.heap.size w1 wr)) (fun _ x6 _ => l.length - (intOf x6).toNat)
    case atStart => exact ⟨0, 0, rfl, rfl, Nat.zero_le _, HP, Below.refl _ _⟩
    case round =>
      rename World => wr
      obtain ⟨i, en, rfl, rfl, hi, HPL, HB⟩ := hrel
      clear HP
      by_cases hlt : i < l.length
      · have tl : (i : Int) < (l.length : Int) := by omega
        have hdr : l.drop i = l[i] :: l.drop (i + 1) := List.drop_eq_getElem_cons hlt
        have hpn := HPL.out
        rw [hdr] at hpn
        obtain ⟨p1, p2, ⟨n, hst, hpl⟩, p4⟩ := hpn.next hs
        have hR := HR.out.keepB HB.out
        obtain ⟨g, c', e1, _⟩ := Row.at_ hR (by omega)
        have e1' : ao = some ⟨g, 0, none⟩ := by injection e1
        subst e1'
        obtain ⟨l0, l1, l2, l3⟩ := hR.cells i hlt
        have HPN := Go.Proofs.YtifnmclidabkfaaDoor.Hid.mk' hpl
        have HEN := Go.Proofs.YtifnmclidabkfaaDoor.Hid.mk' (stp_ends hst)
        have HP4 := Go.Proofs.YtifnmclidabkfaaDoor.Hid.mk' p4
        clear hpn hdr HPL hst hpl p4 hR e1
        generalize l[i] = t at *
        obtain ⟨K, S, V, P⟩ := t
        simp only at l0 l1 l2 l3 p1 p2 HPN HEN HP4
        have HSL : Hid ((⟨S.toArray⟩ : ByteArray).data.toList = S) := rfl
        generalize (⟨S.toArray⟩ : ByteArray) = sb at *
        have q1 : ¬ (P : Int) < (en : Int) := by omega
        have q2 : ¬ (P : Int) ≥ (s.size : Int) := by omega
        have q1d : decide ((P : Int) < (en : Int)) = false := decide_eq_false q1
        have q3 : (en : Int) ≤ (P : Int) := by omega
        have q4 : (P : Int) ≤ (s.size : Int) := by omega
        have hxl : (s.extract en P).size = P - en := by rw [size_list, show P = en + (P - en) by omega, ext_take, List.length_take, rest_len]; omega
        have c1 : ¬ 9223372036854775807 < (s.extract en P).size + 1 := by omega
        have HXL : Hid ((s.extract en P ++ ⟨#[10]⟩ : ByteArray).data.toList = (rest s en).take (P - en) ++ [10]) := by
          show _ = _
          have := ext_take s en (P - en)
          rw [show en + (P - en) = P by omega] at this
          simp [this, rest]
        have HBA : Hid (∀ o, Below w1.heap.size w1 (wr.alloc o)) := fun o => HB.out.alloc HB.out.size o
        have HBX := Go.Proofs.YtifnmclidabkfaaDoor.Hid.mk' (box4 wr (.int .i64 K) (.string sb) (.int .i64 V) (.int .i64 P) 30)
        clear HB
        go_wp2_with fail
        refine (HSC.out _ (HB1.out.trans ((HBA.out _).mono HB1.out.size)) _).mono ?_
        intro e w2 h2
        have hsc : scF (s.extract en P ++ ⟨#[10]⟩ : ByteArray).data.toList = .ok [] := by rw [HXL.out]; exact HP4.out
        rcases h2 with ⟨l2, v2, ho2, rfl, row2, hb2⟩ | ⟨er2, ho2, rfl, hb2⟩
        · rw [hsc] at ho2
          cases ho2
          obtain ⟨ao2, cp2, rfl, _, _⟩ := row2.form
          have HB2 : Hid (∀ W, Below w2.heap.size w2 W → Below w1.heap.size w1 W) := fun W hW => ((HBA.out _).trans (hb2.mono (HBA.out _).size)).trans (hW.mono ((HBA.out _).trans (hb2.mono (HBA.out _).size)).size)
          have HBY : Hid (∀ W, Below w2.heap.size w2 W → _) := fun W hW => HBX.out W (hb2.trans (hW.mono hb2.size))
          obtain ⟨z0, z1, z2, z3⟩ := HBY.out w2 (Below.refl _ _)
          clear HBX HBA hb2 row2 hsc HXL HP4 l0 l1 l2 l3
          have hPn := HPN.out.1
          cases HEN.out with
          | ws hk hn hb =>
            have hsb : sb.size = n := by rw [hn, size_list, HSL.out]
            have HLO : Hid (∀ k (h : k < sb.size) (h2 : P + k < s.size), lowI (s[P + k].toNat : Int) = (sb[k].toNat : Int)) := fun k h h2 => by
              rw [lowI_of]
              have h3 : (((rest s P).take n).map lowc)[k]? = S[k]? := by rw [hb]
              rw [List.getElem?_map, List.getElem?_take, if_pos (by omega), rest_gt s h2, ← HSL.out, List.getElem?_eq_getElem (by simpa using h)] at h3
              have h4 : lowc s[P + k] = sb[k] := by
                simp at h3
                exact h3
              rw [h4]
            have HSB := Go.Proofs.YtifnmclidabkfaaDoor.Hid.mk' hsb
            have hsn : sb.size ≤ 2000 := by omega
            clear hb HSL HEN hn hsb
            rcases hk with rfl | rfl
            all_goals
              go_wp2_with fail
              go_loopw [10] (fun x wq => ∃ k : Nat, x = .int .i64 k ∧ k ≤ sb.size ∧ Hid (Below w2.heap.size w2 wq)) (fun x _ => sb.size - (intOf x).toNat)
              case atStart => exact ⟨0, rfl, Nat.zero_le _, Below.refl _ _⟩
              case round =>
                rename World => wq
                obtain ⟨k, rfl, hk, HBq⟩ := hrel
                obtain ⟨y0, y1, y2, y3⟩ := HBY.out wq HBq.out
                by_cases hkl : k < sb.size
                · have tk : (k : Int) < (sb.size : Int) := by omega
                  have hpk : P + k < s.size := by have := HSB.out; omega
                  have hlo := HLO.out k hkl hpk
                  obtain ⟨q, hq, hqs, hqe⟩ : ∃ q : Nat, (P : Int) + (k : Int) = (q : Int) ∧ q < s.size ∧ q = P + k := ⟨P + k, by omega, hpk, rfl⟩
                  simp only [← hqe] at hlo
                  have hsm := fun W => small_any (s[q].toNat : Int) (by have := s[q].toNat_lt; omega) W
                  rw [hlo] at hsm
                  have tp : ¬ (q : Int) ≥ (s.size : Int) := by omega
                  clear hlo hqe hpk
                  go_wp2_with fail
                  have hwr : IntKind.i64.wrap ((P : Int) + (k : Int)) = (q : Int) := by rw [IntKind.wrap_i64]; omega
                  have hwq : IntKind.i64.wrap (q : Int) = (q : Int) := by rw [IntKind.wrap_i64]; omega
                  have tpd : decide ((q : Int) ≥ (s.size : Int)) = false := decide_eq_false (by omega)
                  go_quiet ((go_at_call 8; exact Calls.quiet_of_same (hsm _)))
                  rename Nat => nq
                  go_wp2_with fail
                  exact ⟨⟨k + 1, by go_num, by omega, HBq.out.trans ⟨rfl, rfl, rfl, Nat.le_refl _, fun _ _ => rfl⟩⟩, by simp [intOf]; omega⟩
                · have tk : ¬ (k : Int) < (sb.size : Int) := by omega
                  obtain rfl : k = sb.size := by omega
                  go_wp2_with fail
                  exact ⟨⟨i + 1, P + n, by rw [← HSB.out]; go_num, by go_num, by omega, HPN, HB2.out _ HBq.out⟩, by simp [intOf]; omega⟩
          | nm hk hn h0 =>
            subst hk
            go_wp2_with fail
            go_loopw [5] (fun x wq => ∃ q : Nat, x = .int .i64 q ∧ Hid (∃ m, q = P + m ∧ 1 ≤ m ∧ m ≤ n) ∧ q ≤ s.size ∧ wq = w2) (fun x _ => P + n - (intOf x).toNat)
            case atStart => exact ⟨P + 1, by go_num, ⟨1, rfl, Nat.le_refl _, h0⟩, by omega, rfl⟩
            case round =>
              rename World => wq
              obtain ⟨q, rfl, HQ, hqs, rfl⟩ := hrel
              by_cases hqn : q < P + n
              · have hx : ∃ h : q < s.size, isDg s[q] = true := by
                  obtain ⟨m, rfl, h1, h2⟩ := HQ.out
                  exact dg_bytes s P m (by omega)
                obtain ⟨hlt3, hdg⟩ := hx
                have hdi := dgI_of s[q]
                rw [hdg] at hdi
                simp only [dgI, Bool.and_eq_true, decide_eq_true_eq] at hdi
                obtain ⟨d1, d2⟩ := hdi
                have tq : (q : Int) < (s.size : Int) := by omega
                have HN : Hid (∃ m, q + 1 = P + m ∧ 1 ≤ m ∧ m ≤ n) := by
                  obtain ⟨m, rfl, h1, h2⟩ := HQ.out
                  exact ⟨m + 1, by omega, by omega, by omega⟩
                have HQN := Go.Proofs.YtifnmclidabkfaaDoor.Hid.mk' hqn
                clear HQ hqn hn
                go_wp2_with fail
                exact ⟨⟨q + 1, by go_num, HN, by omega, by first | rfl | trivial⟩, by have := HQN.out; simp [intOf]; omega⟩
              · have HQN : Hid (q = P + n) := by
                  obtain ⟨m, h0, h1, h2⟩ := HQ.out
                  show q = P + n
                  omega
                by_cases hqe : q < s.size
                · have hdg : isDg s[q] = false := by
                    have h1 := HQN.out
                    subst h1
                    exact dg_stop s P hn hqe
                  have hdi := dgI_of s[q]
                  rw [hdg] at hdi
                  simp only [dgI, Bool.and_eq_false_iff, decide_eq_false_iff_not] at hdi
                  have tq : (q : Int) < (s.size : Int) := by omega
                  clear HQ hqn hn h0
                  by_cases hd : (48 : Int) ≤ (s[q].toNat : Int)
                  · have hd2 : ¬ (s[q].toNat : Int) ≤ 57 := by
                      rcases hdi with h | h
                      · exact absurd hd h
                      · exact h
                    clear hdi
                    go_wp2_with fail
                    exact ⟨⟨i + 1, P + n, by rw [HQN.out], by go_num, by omega, HPN, HB2.out _ (Below.refl _ _)⟩, by simp [intOf]; omega⟩
                  · clear hdi
                    go_wp2_with fail
                    exact ⟨⟨i + 1, P + n, by rw [HQN.out], by go_num, by omega, HPN, HB2.out _ (Below.refl _ _)⟩, by simp [intOf]; omega⟩
                · have tq : ¬ (q : Int) < (s.size : Int) := by omega
                  clear HQ hqn hn h0
                  go_wp2_with fail
                  exact ⟨⟨i + 1, P + n, by rw [HQN.out], by go_num, by omega, HPN, HB2.out _ (Below.refl _ _)⟩, by simp [intOf]; omega⟩
          | tx hk hn =>
            subst hk
            have hge := dbl_ge S
            have hsz : sb.size = S.length := by rw [size_list, HSL.out]
            have hsp := fun W => spelled_tx sb V P (by omega) W
            have hln : (⟨(39 :: (dbl sb.data.toList ++ [39])).toArray⟩ : ByteArray).size = n := by rw [HSL.out, hn]; simp [ByteArray.size]
            have hnn : n ≤ 2000 := by omega
            have y0 := fun (d : Nat) (os : Array Obj) => cell_regrown z0 d os
            have y1 := fun (d : Nat) (os : Array Obj) => cell_regrown z1 d os
            have y2 := fun (d : Nat) (os : Array Obj) => cell_regrown z2 d os
            have y3 := fun (d : Nat) (os : Array Obj) => cell_regrown z3 d os
            clear hge hsz hn HEN HSL
            generalize (⟨(39 :: (dbl sb.data.toList ++ [39])).toArray⟩ : ByteArray) = sx at *
            have hsx : sx.size ≤ 2000 := by omega
            have HLN := Go.Proofs.YtifnmclidabkfaaDoor.Hid.mk' hln
            clear hln hnn
            go_wp2_with fail
            refine wp_region_quiet_below (by kernel_rfl) (by kernel_rfl) ?_
            repeat (go_big_quiet_step (with_reducible exact Calls.regrown_of (hsp _)))
            refine wpQuiet_nil ?_
            intro _ hw'
            obtain ⟨⟨dq, osq⟩, hw''⟩ := hw'
            subst hw''
            have HN := Go.Proofs.YtifnmclidabkfaaDoor.Hid.mk' (HB2.out _ (below_regrown w2 dq osq))
            clear y0 y1 y2 y3 hsp
            generalize Go.Sort.grow (redrawn w2 dq) osq = wz at *
            go_wp2_with fail
            exact ⟨⟨i + 1, P + n, by rw [← HLN.out]; go_num, by go_num, by omega, HPN, HN⟩, by simp [intOf]; omega⟩
        · rw [hsc] at ho2
          cases ho2
      · have tl : ¬ (i : Int) < (l.length : Int) := by omega
        have HWr := Go.Proofs.YtifnmclidabkfaaDoor.Hid.mk' (HB1.out.trans (HB.out.mono HB1.out.size))
        have hal := HAL.out wr HWr.out
        clear HPL HR
        go_wp2_with fail
        refine hal.mono ?_
        rintro e w4 ⟨rfl, hb4⟩
        have HW4 := Go.Proofs.YtifnmclidabkfaaDoor.Hid.mk' (HWr.out.trans (hb4.mono HWr.out.size))
        have hl6' : (l.length : Int) ≤ 600 := by omega
        clear hal hb4
        go_wp2_with fail
        go_ret
        exact ⟨rfl, HW4.out⟩
  · have hq := st_ne er
    have hal := HAL.out w1 hb
    have HB1 := Go.Proofs.YtifnmclidabkfaaDoor.Hid.mk' hb
    generalize stB er = sb at *
    clear ho HAL HSC hb
    rcases hq with rfl | rfl | rfl | rfl
    all_goals
      go_wp2_with fail
      refine hal.mono ?_
      rintro e w4 ⟨rfl, hb4⟩
      have HW4 := Go.Proofs.YtifnmclidabkfaaDoor.Hid.mk' (HB1.out.trans (hb4.mono HB1.out.size))
      clear hal hb4
      go_wp2_with fail
      go_ret
      exact ⟨rfl, HW4.out⟩
end Go.Proofs.YtifnmclidabkfaaDoor

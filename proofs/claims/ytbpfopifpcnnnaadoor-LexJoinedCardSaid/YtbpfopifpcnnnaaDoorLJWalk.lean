/- Two texts one behind the other have the tokens of both. -/
import Derived.Test.YtbpfopifpcnnnaaDoorL13V
import Derived.Test.YtbpfopifpcnnnaaDoorL13Q
namespace Go.Proofs.YtbpfopifpcnnnaaDoor
open Go.RowKit
set_option linter.unusedVariables false
set_option linter.unusedSimpArgs false

/-- What Scan comes to, in one form. -/
theorem ScTo.form {w w' : World} {s : ByteArray} {e : Ending} (h : ScTo w s e w') : ∃ v st, e = .returned (.tuple #[v, .string st]) ∧ Below w.heap.size w w' ∧ Hid ((∃ l, scF s.data.toList = .ok l ∧ st = ⟨#[48, 48, 48, 48, 48]⟩ ∧ TRow w.heap.size w' v l) ∨ (∃ er, scF s.data.toList = .error er ∧ st = stB er ∧ v = .slice none 0 0)) := by
  rcases h with ⟨l, v, ho, he, row, hb⟩ | ⟨er, ho, he, hb⟩
  · exact ⟨v, _, he, hb, Or.inl ⟨l, ho, rfl, row⟩⟩
  · exact ⟨_, _, he, hb, Or.inr ⟨er, ho, rfl, rfl⟩⟩
theorem st_neq (er : Nat) : ((stB er).toList == (⟨#[48, 48, 48, 48, 48]⟩ : ByteArray).toList) = false ∧ ((stB er).toList == [48, 48, 48, 48, 48]) = false := by
  rcases st_ne er with e | e | e | e <;> rw [e, Lib.toList_data, Lib.toList_data] <;> decide
theorem cat3 (a b : ByteArray) : (a ++ ⟨#[10]⟩ ++ b).data.toList = a.data.toList ++ 10 :: b.data.toList := by simp
theorem cat_list (a b : ByteArray) : (a ++ b).data.toList = a.data.toList ++ b.data.toList := by simp
set_option maxHeartbeats 400000 in
set_option maxRecDepth 100000 in
theorem joined_law (a b : ByteArray) (ad : Addr) (w : World) (ha : a.size ≤ 140737488355328) (hb : b.size ≤ 140737488355328) (hL : LibW ad w) : Calls Tryd.prog 7 #[.string a, .string b] w fun e w' => e = .returned (.bool true) ∧ Below w.heap.size w w' := by
  have HL := Go.Proofs.YtbpfopifpcnnnaaDoor.Hid.mk' hL
  have hb1 : ¬ 9223372036854775807 < a.size + 1 := by omega
  have hb2 : ¬ 9223372036854775807 < a.size + 1 + b.size := by omega
  clear hL
  go_enter Tryd.func7, Tryd.ntmps7
  go_wp2_with fail
  refine (scan_any a w HL.out).mono ?_
  intro e w1 h1
  obtain ⟨v1, st1, rfl, hw1, H1⟩ := h1.form
  clear h1
  have HW1 := Go.Proofs.YtbpfopifpcnnnaaDoor.Hid.mk' hw1
  go_wp2_with fail
  refine (scan_any b w1 (HL.out.keep hw1)).mono ?_
  intro e w2 h2
  obtain ⟨v2, st2, rfl, hw2, H2⟩ := h2.form
  clear h2
  have HW2 := Go.Proofs.YtbpfopifpcnnnaaDoor.Hid.mk' (hw1.trans (hw2.mono hw1.size))
  have HB2 := Go.Proofs.YtbpfopifpcnnnaaDoor.Hid.mk' hw2
  clear hw1 hw2
  go_wp2_with fail
  have hlist := cat3 a b
  generalize a ++ ⟨#[10]⟩ ++ b = j at *
  refine (scan_any j w2 (HL.out.keep HW2.out)).mono ?_
  intro e w3 h3
  obtain ⟨v3, st3, rfl, hw3, H3⟩ := h3.form
  clear h3
  rw [hlist] at H3
  have HW3 := Go.Proofs.YtbpfopifpcnnnaaDoor.Hid.mk' (HW2.out.trans (hw3.mono HW2.out.size))
  have HB3 := Go.Proofs.YtbpfopifpcnnnaaDoor.Hid.mk' hw3
  have hal := alive_any w3 (HL.out.keep HW3.out)
  have HAL : Hid (∀ W, Below w3.heap.size w3 W → Calls Tryd.prog 11 #[] W fun e w' => e = .returned (.bool true) ∧ Below W.heap.size W w') := fun W hW => alive_any W ((HL.out.keep HW3.out).keep hW)
  clear hw3 hlist
  rcases H1.out with ⟨l, hl, rfl, r1⟩ | ⟨er, hl, rfl, rfl⟩
  · rcases H2.out with ⟨m, hm, rfl, r2⟩ | ⟨er, hm, rfl, rfl⟩
    · obtain ⟨ao1, cp1, rfl, hc1, _⟩ := r1.form
      obtain ⟨ao2, cp2, rfl, hc2, _⟩ := r2.form
      have hl6 := (scF_ok.1 hl).2.2
      have hm6 := (scF_ok.1 hm).2.2
      by_cases h600 : l.length + m.length ≤ 600 ∧ a.size + b.size + 1 ≤ 2000
      · obtain ⟨h6, h2k⟩ := h600
        have hjo := joined_ok hl hm h6 (by simpa using h2k)
        rcases H3.out with ⟨n, hn, rfl, r3⟩ | ⟨er3, hn, rfl, rfl⟩
        · rw [hjo] at hn
          cases hn
          have hnl : (l ++ m.map (Tok.sh (a.data.toList.length + 1))).length = l.length + m.length := by simp
          have HX : Hid (∀ k, k < l.length + m.length → (∀ h : k < l.length, (l ++ m.map (Tok.sh (a.data.toList.length + 1)))[k]? = some l[k]) ∧ (∀ h : k - l.length < m.length, ¬ k < l.length → (l ++ m.map (Tok.sh (a.data.toList.length + 1)))[k]? = some ((m[k - l.length]).sh (a.size + 1)))) := fun k hk => by
            refine ⟨fun h => ?_, fun h hn => ?_⟩
            · rw [List.getElem?_append_left h, List.getElem?_eq_getElem h]
            · rw [List.getElem?_append_right (by omega), List.getElem?_map, List.getElem?_eq_getElem h]
              simp
          generalize l ++ m.map (Tok.sh (a.data.toList.length + 1)) = n at *
          obtain ⟨ao3, cp3, rfl, hc3, _⟩ := r3.form
          have R1 := Go.Proofs.YtbpfopifpcnnnaaDoor.Hid.mk' ((r1.keepB HB2.out).keepB HB3.out)
          have R2 := Go.Proofs.YtbpfopifpcnnnaaDoor.Hid.mk' (r2.keepB HB3.out)
          have R3 := Go.Proofs.YtbpfopifpcnnnaaDoor.Hid.mk' r3
          rw [hnl] at hc3 r3
          have t6 : ¬ (l.length : Int) + (m.length : Int) > 600 := by omega
          have t2 : ¬ (a.size : Int) + (b.size : Int) + 1 > 2000 := by omega
          have HNL := Go.Proofs.YtbpfopifpcnnnaaDoor.Hid.mk' hnl
          have HMA : Hid (∀ t ∈ m, t.at_ < 10000) := fun t ht => by
            have h1 := scF_at hm t ht
            have h2 := (scF_ok.1 hm).1
            omega
          clear H1 H2 H3 hl hm hjo r1 r2 r3 HB2 HB3 HW1 HW2 HL
          rw [hnl]
          clear hnl
          go_wp2_with fail
          go_loopw [11] (fun x wr => ∃ i : Nat, x = .int .i64 i ∧ i ≤ l.length + m.length ∧ Hid (Below w3.heap.size w3 wr)) (fun x _ => l.length + m.length - (intOf x).toNat)
          case atStart => exact ⟨0, rfl, Nat.zero_le _, Below.refl _ _⟩
          case round =>
            rename World => wr
            obtain ⟨i, rfl, hi, HB⟩ := hrel
            by_cases hlt : i < l.length + m.length
            · have tl : (i : Int) < (l.length : Int) + (m.length : Int) := by omega
              have tld : decide ((i : Int) < (l.length : Int) + (m.length : Int)) = true := decide_eq_true tl
              have hR3 := R3.out.keepB HB.out
              obtain ⟨hx1, hx2⟩ := HX.out i hlt
              obtain ⟨g3, c3', e3, _⟩ := Row.at_ hR3 (by rw [HNL.out]; omega)
              have e3' : ao3 = some ⟨g3, 0, none⟩ := by injection e3
              subst e3'
              obtain ⟨n0, n1, n2, n3⟩ := hR3.cells i (by rw [HNL.out]; omega)
              by_cases hil : i < l.length
              · have til : (i : Int) < (l.length : Int) := by omega
                have hni : n[i]'(by rw [HNL.out]; omega) = l[i] := by
                  have := hx1 hil
                  rw [List.getElem?_eq_getElem (by rw [HNL.out]; omega)] at this
                  exact Option.some.inj this
                rw [hni] at n0 n1 n2 n3
                have hR1 := R1.out.keepB HB.out
                obtain ⟨g1, c1', e1, _⟩ := Row.at_ hR1 (by omega)
                have e1' : ao1 = some ⟨g1, 0, none⟩ := by injection e1
                subst e1'
                obtain ⟨l0, l1, l2, l3⟩ := hR1.cells i hil
                have HB4 : Hid (∀ o, Below w3.heap.size w3 (wr.alloc o)) := fun o => HB.out.alloc (by have := HB.out.size; omega) o
                have HKB : Hid (∀ (W : World) o (p : Addr) (v : Value), W.cell? p = some v → (W.alloc o).cell? p = some v) := fun W o p v hp => (((Below.refl _ _).alloc (Nat.le_refl _) o).cell (World.block_lt_of_cell? W _ hp)).trans hp
                generalize l[i] = t at *
                obtain ⟨K, S, V, P⟩ := t
                simp only at n0 n1 n2 n3 l0 l1 l2 l3
                generalize (⟨S.toArray⟩ : ByteArray) = sb at *
                have N0 := fun o => HKB.out wr o _ _ n0
                have N1 := fun o => HKB.out wr o _ _ n1
                have N2 := fun o => HKB.out wr o _ _ n2
                have N3 := fun o => HKB.out wr o _ _ n3
                have L0 := fun o => HKB.out wr o _ _ l0
                have L1 := fun o => HKB.out wr o _ _ l1
                have L2 := fun o => HKB.out wr o _ _ l2
                have L3 := fun o => HKB.out wr o _ _ l3
                clear hR1 hR3 e1 e3 hx1 hx2 hni HX HNL HMA n0 n1 n2 n3 l0 l1 l2 l3
                go_wp2_with fail
                go_quiet (fail)
                rename Nat => nq
                have HB5 : Hid (Below w3.heap.size w3 ((wr.alloc (.cells #[.int .i64 K, .string sb, .int .i64 V, .int .i64 P] 32)).drewN nq)) := (HB4.out _).trans ⟨rfl, rfl, rfl, Nat.le_refl _, fun _ _ => rfl⟩
                clear N0 N1 N2 N3 L0 L1 L2 L3
                go_wp2_with fail
                exact ⟨⟨i + 1, by go_num, by omega, HB5⟩, by simp [intOf]; omega⟩
              · have til : ¬ (i : Int) < (l.length : Int) := by omega
                obtain ⟨k, hk⟩ : ∃ k, k = i - l.length := ⟨_, rfl⟩
                have hkm : k < m.length := by omega
                have hni : n[i]'(by rw [HNL.out]; omega) = (m[k]).sh (a.size + 1) := by
                  have := hx2 (by omega) hil
                  simp only [← hk] at this
                  rw [List.getElem?_eq_getElem (by rw [HNL.out]; omega)] at this
                  exact Option.some.inj this
                rw [hni] at n0 n1 n2 n3
                have hR2 := R2.out.keepB HB.out
                obtain ⟨g2, c2', e2, _⟩ := Row.at_ hR2 (by omega)
                have e2' : ao2 = some ⟨g2, 0, none⟩ := by injection e2
                subst e2'
                obtain ⟨l0, l1, l2, l3⟩ := hR2.cells k hkm
                have hat := HMA.out (m[k]) (List.getElem_mem _)
                have HB4 : Hid (∀ o, Below w3.heap.size w3 (wr.alloc o)) := fun o => HB.out.alloc (by have := HB.out.size; omega) o
                have HKB : Hid (∀ (W : World) o (p : Addr) (v : Value), W.cell? p = some v → (W.alloc o).cell? p = some v) := fun W o p v hp => (((Below.refl _ _).alloc (Nat.le_refl _) o).cell (World.block_lt_of_cell? W _ hp)).trans hp
                generalize m[k] = t at *
                obtain ⟨K, S, V, P⟩ := t
                simp only [Tok.sh] at n0 n1 n2 n3 l0 l1 l2 l3 hat
                have ePa : ((P + (a.size + 1) : Nat) : Int) = (P : Int) + (a.size : Int) + 1 := by omega
                rw [ePa] at n3
                generalize (⟨S.toArray⟩ : ByteArray) = sb at *
                have N0 := fun o => HKB.out wr o _ _ n0
                have N1 := fun o => HKB.out wr o _ _ n1
                have N2 := fun o => HKB.out wr o _ _ n2
                have N3 := fun o => HKB.out wr o _ _ n3
                have L0 := fun o => HKB.out wr o _ _ l0
                have L1 := fun o => HKB.out wr o _ _ l1
                have L2 := fun o => HKB.out wr o _ _ l2
                have L3 := fun o => HKB.out wr o _ _ l3
                subst hk
                clear hR2 hR3 e2 e3 hx1 hx2 hni HX HNL HMA n0 n1 n2 n3 l0 l1 l2 l3
                go_wp2_with fail
                go_quiet (fail)
                rename Nat => nq
                have HB5 : Hid (Below w3.heap.size w3 ((wr.alloc (.cells #[.int .i64 K, .string sb, .int .i64 V, .int .i64 ((P : Int) + (a.size : Int) + 1)] 32)).drewN nq)) := (HB4.out _).trans ⟨rfl, rfl, rfl, Nat.le_refl _, fun _ _ => rfl⟩
                clear N0 N1 N2 N3 L0 L1 L2 L3
                go_wp2_with fail
                exact ⟨⟨i + 1, by go_num, by omega, HB5⟩, by simp [intOf]; omega⟩
            · have tl : ¬ (i : Int) < (l.length : Int) + (m.length : Int) := by omega
              have hal2 := HAL.out wr HB.out
              have HWr := Go.Proofs.YtbpfopifpcnnnaaDoor.Hid.mk' (HW3.out.trans (HB.out.mono HW3.out.size))
              clear hal R1 R2 R3 HX HNL HMA
              go_wp2_with fail
              refine hal2.mono ?_
              rintro e w4 ⟨rfl, hb4⟩
              have HW4 := Go.Proofs.YtbpfopifpcnnnaaDoor.Hid.mk' (HWr.out.trans (hb4.mono HWr.out.size))
              clear hal2 hb4
              go_wp2_with fail
              go_ret
              exact ⟨rfl, HW4.out⟩
        · rw [hjo] at hn; cases hn
      · have HW := HW3
        clear H1 H2 H3 hl hm r1 r2 HB2 HB3 HW1 HW2 HL
        by_cases h6 : l.length + m.length ≤ 600
        · have h2k : ¬ a.size + b.size + 1 ≤ 2000 := fun h => h600 ⟨h6, h⟩
          have t6 : ¬ (l.length : Int) + (m.length : Int) > 600 := by omega
          have t2 : (a.size : Int) + (b.size : Int) + 1 > 2000 := by omega
          clear h600 h6 h2k
          go_wp2_with fail
          refine hal.mono ?_
          rintro e w4 ⟨rfl, hb4⟩
          have HW4 := Go.Proofs.YtbpfopifpcnnnaaDoor.Hid.mk' (HW3.out.trans (hb4.mono HW3.out.size))
          clear hal hb4
          go_wp2_with fail
          go_ret
          exact ⟨rfl, HW4.out⟩
        · have t6 : (l.length : Int) + (m.length : Int) > 600 := by omega
          clear h600 h6
          go_wp2_with fail
          refine hal.mono ?_
          rintro e w4 ⟨rfl, hb4⟩
          have HW4 := Go.Proofs.YtbpfopifpcnnnaaDoor.Hid.mk' (HW3.out.trans (hb4.mono HW3.out.size))
          clear hal hb4
          go_wp2_with fail
          go_ret
          exact ⟨rfl, HW4.out⟩
    · obtain ⟨e', hj⟩ := joined_fail hl hm
      rcases H3.out with ⟨n, hn, rfl, r3⟩ | ⟨er3, hn, rfl, rfl⟩
      · rw [hj] at hn; cases hn
      · obtain ⟨q1, q2⟩ := st_neq er
        obtain ⟨q3, q4⟩ := st_neq er3
        generalize stB er = sb at *
        generalize stB er3 = sc at *
        clear H1 H2 H3 hl hm hn hj r1 HB2 HB3 HW1 HW2 HL
        go_wp2_with fail
        refine hal.mono ?_
        rintro e w4 ⟨rfl, hb4⟩
        have HW4 := Go.Proofs.YtbpfopifpcnnnaaDoor.Hid.mk' (HW3.out.trans (hb4.mono HW3.out.size))
        clear hal hb4
        go_wp2_with fail
        go_ret
        exact ⟨rfl, HW4.out⟩
  · obtain ⟨q1, q2⟩ := st_neq er
    generalize stB er = sb at *
    clear H1 H2 H3 hl HB2 HB3 HW1 HW2 HL
    go_wp2_with fail
    refine hal.mono ?_
    rintro e w4 ⟨rfl, hb4⟩
    have HW4 := Go.Proofs.YtbpfopifpcnnnaaDoor.Hid.mk' (HW3.out.trans (hb4.mono HW3.out.size))
    clear hal hb4
    go_wp2_with fail
    go_ret
    exact ⟨rfl, HW4.out⟩
end Go.Proofs.YtbpfopifpcnnnaaDoor

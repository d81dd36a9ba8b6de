/- What is read is read again. -/
import Derived.Test.YtifnmclidabkfaaDoorL13DG
import Derived.Lib.QuietBelow
namespace Go.Proofs.YtifnmclidabkfaaDoor
open Go.RowKit
set_option linter.unusedVariables false
set_option linter.unusedSimpArgs false

theorem spAll_snoc (dg : Int → List UInt8) : ∀ (l : List Tok) (t : Tok), spAll dg (l ++ [t]) = spAll dg l ++ (spl dg t.k t.s t.n ++ [32])
  | [], t => by simp [spAll]
  | x :: l, t => by
    rw [List.cons_append, spAll, spAll, spAll_snoc dg l t]
    simp
theorem spAll_step {l : List Tok} {i : Nat} (h : i < l.length) {b x : ByteArray} (hb : b.data.toList = spAll dgF (l.take i)) (hx : x.data.toList = spl dgF l[i].k l[i].s l[i].n) : (b ++ x ++ ⟨#[32]⟩).data.toList = spAll dgF (l.take (i + 1)) := by
  rw [List.take_add_one, List.getElem?_eq_getElem h]
  simp only [Option.toList_some, spAll_snoc, ByteArray.data_append, Array.toList_append, hb, hx]
  simp
set_option maxHeartbeats 4000000 in
set_option maxRecDepth 100000 in
theorem again_law (s : ByteArray) (ad : Addr) (w : World) (hL : LibW ad w) : Calls Tryd.prog 3 #[.string s] w fun e w' => e = .returned (.bool true) ∧ Below w.heap.size w w' := by
  have HAL : Hid (∀ W, Below w.heap.size w W → Calls Tryd.prog 6 #[] W fun e w' => e = .returned (.bool true) ∧ Below W.heap.size W w') := fun W hW => alive_any W (hL.keep hW)
  have HSC : Hid (∀ W, Below w.heap.size w W → ∀ x : ByteArray, Calls Tryd.prog 5 #[.string x] W fun e w' => ScTo W x e w') := fun W hW x => scan_any x W (hL.keep hW)
  have h0 := HSC.out w (Below.refl _ _) s
  clear hL
  go_enter Tryd.func3, Tryd.ntmps3
  go_wp2_with fail
  refine h0.mono ?_
  intro e w1 h1
  clear h0
  rcases h1 with ⟨l, v, ho, rfl, row, hb⟩ | ⟨er, ho, rfl, hb⟩
  · obtain ⟨hs2, htk, hl6⟩ := scF_ok.1 ho
    have HG : Hid (∀ t ∈ l, Good t.k t.s t.n) := tkN_good _ _ _ _ htk
    obtain ⟨ao, cp, rfl, hc, _⟩ := row.form
    have HR := Go.Proofs.YtifnmclidabkfaaDoor.Hid.mk' row
    have HB1 := Go.Proofs.YtifnmclidabkfaaDoor.Hid.mk' hb
    clear ho hs2 row hb htk
    go_wp2_with fail
    go_loopw [5, 6] (fun x5 x6 wr => ∃ (i : Nat) (b : ByteArray), x5 = .string b ∧ x6 = .int .i64 i ∧ i ≤ l.length ∧ b.size ≤ 1000 * i ∧ Hid (b.data.toList = spAll dgF (l.take i)) ∧ Hid (Below w1.heap.size w1 wr)) (fun _ x6 _ => l.length - (intOf x6).toNat)
    case atStart => exact ⟨0, ⟨#[]⟩, rfl, rfl, Nat.zero_le _, Nat.le_refl _, rfl, Below.refl _ _⟩
    case round =>
      rename World => wr
      obtain ⟨i, b, rfl, rfl, hi, hbs, HBL, HB⟩ := hrel
      by_cases hlt : i < l.length
      · have tl : (i : Int) < (l.length : Int) := by omega
        have hR := HR.out.keepB HB.out
        obtain ⟨g, c', e1, _⟩ := Row.at_ hR (by omega)
        have e1' : ao = some ⟨g, 0, none⟩ := by injection e1
        subst e1'
        obtain ⟨l0, l1, l2, l3⟩ := hR.cells i hlt
        have hgd := HG.out l[i] (List.getElem_mem _)
        have hln := spl_len hgd
        have hsp := spelled_any hgd (l[i].at_ : Int) wr
        have HST : Hid (∀ x : ByteArray, x.data.toList = spl dgF l[i].k l[i].s l[i].n → (b ++ x ++ ⟨#[32]⟩).data.toList = spAll dgF (l.take (i + 1))) := fun x hx => spAll_step hlt HBL.out hx
        have HXX : Hid ((⟨(spl dgF l[i].k l[i].s l[i].n).toArray⟩ : ByteArray).data.toList = spl dgF l[i].k l[i].s l[i].n) := rfl
        have hxl : (⟨(spl dgF l[i].k l[i].s l[i].n).toArray⟩ : ByteArray).size ≤ 900 := by simpa [ByteArray.size] using hln
        generalize (⟨(spl dgF l[i].k l[i].s l[i].n).toArray⟩ : ByteArray) = X at *
        generalize spl dgF l[i].k l[i].s l[i].n = xl at *
        generalize l[i] = t at *
        obtain ⟨K, S, V, P⟩ := t
        simp only at l0 l1 l2 l3 hsp
        generalize (⟨S.toArray⟩ : ByteArray) = sb at *
        clear hR e1 hgd hln HBL
        have cA : ¬ 9223372036854775807 < b.size + X.size := by omega
        have cB : ¬ 9223372036854775807 < b.size + X.size + 1 := by omega
        go_wp2_with fail
        refine hsp.mono ?_
        rintro e w2 ⟨rfl, hb2⟩
        have HN := Go.Proofs.YtifnmclidabkfaaDoor.Hid.mk' (HB.out.trans (hb2.mono HB.out.size))
        clear hsp hb2
        go_wp2_with fail
        exact ⟨⟨i + 1, _, rfl, by go_num, by omega, by rw [ByteArray.size_append, ByteArray.size_append]; show b.size + X.size + 1 ≤ _; omega, HST.out X HXX.out, HN⟩, by simp [intOf]; omega⟩
      · have tl : ¬ (i : Int) < (l.length : Int) := by omega
        obtain rfl : i = l.length := by omega
        have HBL2 : Hid (b.data.toList = spAll dgF l) := by
          have := HBL.out
          rw [List.take_of_length_le (Nat.le_refl _)] at this
          exact this
        have HWr := Go.Proofs.YtifnmclidabkfaaDoor.Hid.mk' (HB1.out.trans (HB.out.mono HB1.out.size))
        have HRr := Go.Proofs.YtifnmclidabkfaaDoor.Hid.mk' (HR.out.keepB HB.out)
        clear HBL HR HB
        by_cases hbz : b.size ≤ 2000
        · have tb : ¬ (b.size : Int) > 2000 := by omega
          have hsc2 : scF b.data.toList = .ok (places dgF 0 l) := by
            rw [HBL2.out]
            have hlen : (spAll dgF l).length ≤ 2000 := by rw [← HBL2.out]; simpa using hbz
            exact scF_ok.2 ⟨hlen, again_all digsF l _ 0 (Nat.le_refl _) HG.out, by rw [places_len]; exact hl6⟩
          have hsc := HSC.out wr HWr.out b
          go_wp2_with fail
          refine hsc.mono ?_
          intro e w2 h2
          rcases h2 with ⟨m, v2, ho2, rfl, row2, hb2⟩ | ⟨er2, ho2, rfl, hb2⟩
          · rw [hsc2] at ho2
            cases ho2
            obtain ⟨ao2, cp2, rfl, hc2, _⟩ := row2.form
            rw [places_len] at hc2 ⊢
            have HPL : Hid ((places dgF 0 l).length = l.length) := places_len l 0
            have HPA : Hid (∀ i (h : i < l.length), ∃ a, (places dgF 0 l)[i]? = some { l[i] with at_ := a }) := fun i hi => places_at l 0 i _ (List.getElem?_eq_getElem hi)
            have R1 := Go.Proofs.YtifnmclidabkfaaDoor.Hid.mk' (HRr.out.keepB hb2)
            have R2 := Go.Proofs.YtifnmclidabkfaaDoor.Hid.mk' row2
            have HW2 := Go.Proofs.YtifnmclidabkfaaDoor.Hid.mk' (HWr.out.trans (hb2.mono HWr.out.size))
            generalize places dgF 0 l = m at *
            clear hsc hsc2 hb2 row2 HRr HBL2 HWr
            go_wp2_with fail
            go_loopw [9] (fun x wq => ∃ i : Nat, x = .int .i64 i ∧ i ≤ l.length ∧ Hid (Below w2.heap.size w2 wq)) (fun x _ => l.length - (intOf x).toNat)
            case atStart => exact ⟨0, rfl, Nat.zero_le _, Below.refl _ _⟩
            case round =>
              rename World => wq
              obtain ⟨i, rfl, hi, HB⟩ := hrel
              by_cases hlt : i < l.length
              · have tl : (i : Int) < (l.length : Int) := by omega
                have hR1 := R1.out.keepB HB.out
                have hR2 := R2.out.keepB HB.out
                obtain ⟨g1, c1', e1, _⟩ := Row.at_ hR1 (by omega)
                have e1' : ao = some ⟨g1, 0, none⟩ := by injection e1
                subst e1'
                obtain ⟨g2, c2', e2, _⟩ := Row.at_ hR2 (by rw [HPL.out]; omega)
                have e2' : ao2 = some ⟨g2, 0, none⟩ := by injection e2
                subst e2'
                obtain ⟨l0, l1, l2, l3⟩ := hR1.cells i hlt
                have him : i < m.length := by rw [HPL.out]; exact hlt
                obtain ⟨n0, n1, n2, n3⟩ := hR2.cells i him
                obtain ⟨a, hpa⟩ := HPA.out i hlt
                have hmi : m[i] = { l[i] with at_ := a } := by
                  rw [List.getElem?_eq_getElem him] at hpa
                  exact Option.some.inj hpa
                rw [hmi] at n0 n1 n2 n3
                have HB4 : Hid (∀ o, Below w2.heap.size w2 (wq.alloc o)) := fun o => HB.out.alloc (by have := HB.out.size; omega) o
                have HKB : Hid (∀ (W : World) o (p : Addr) (v : Value), W.cell? p = some v → (W.alloc o).cell? p = some v) := fun W o p v hp => (((Below.refl _ _).alloc (Nat.le_refl _) o).cell (World.block_lt_of_cell? W _ hp)).trans hp
                clear hmi hpa hR1 hR2 e1 e2
                generalize l[i] = t at *
                obtain ⟨K, S, V, P⟩ := t
                simp only at n0 n1 n2 n3 l0 l1 l2 l3
                generalize (⟨S.toArray⟩ : ByteArray) = sb at *
                have N0 := fun o => HKB.out wq o _ _ n0
                have N1 := fun o => HKB.out wq o _ _ n1
                have N2 := fun o => HKB.out wq o _ _ n2
                have N3 := fun o => HKB.out wq o _ _ n3
                go_wp2_with fail
                go_quiet (fail)
                rename Nat => nq
                have HB5 : Hid (Below w2.heap.size w2 ((wq.alloc (.cells #[.int .i64 K, .string sb, .int .i64 V, .int .i64 a] 30)).drewN nq)) := (HB4.out _).trans ⟨rfl, rfl, rfl, Nat.le_refl _, fun _ _ => rfl⟩
                clear N0 N1 N2 N3
                go_wp2_with fail
                exact ⟨⟨i + 1, by go_num, by omega, HB5⟩, by simp [intOf]; omega⟩
              · have tl : ¬ (i : Int) < (l.length : Int) := by omega
                have HWq := Go.Proofs.YtifnmclidabkfaaDoor.Hid.mk' (HW2.out.trans (HB.out.mono HW2.out.size))
                have hal := HAL.out wq HWq.out
                clear R1 R2 HPA HPL
                go_wp2_with fail
                refine hal.mono ?_
                rintro e w4 ⟨rfl, hb4⟩
                have HW4 := Go.Proofs.YtifnmclidabkfaaDoor.Hid.mk' (HWq.out.trans (hb4.mono HWq.out.size))
                clear hal hb4
                go_wp2_with fail
                go_ret
                exact ⟨rfl, HW4.out⟩
          · rw [hsc2] at ho2
            cases ho2
        · have tb : (b.size : Int) > 2000 := by omega
          have hal := HAL.out wr HWr.out
          clear HBL2 HRr
          go_wp2_with fail
          refine hal.mono ?_
          rintro e w4 ⟨rfl, hb4⟩
          have HW4 := Go.Proofs.YtifnmclidabkfaaDoor.Hid.mk' (HWr.out.trans (hb4.mono HWr.out.size))
          clear hal hb4
          go_wp2_with fail
          go_ret
          exact ⟨rfl, HW4.out⟩
  · have hq := st_ne er
    have hal := HAL.out w1 hb
    have HB1 := Go.Proofs.YtifnmclidabkfaaDoor.Hid.mk' hb
    generalize stB er = sb at *
    clear ho HAL HSC hb
    rcases hq with rfl | rfl | rfl | rfl
    all_goals
      go_wp2_with fail
      refine hal.mono ?_
      rintro e w4 ⟨rfl, hb4⟩
      have HW4 := Go.Proofs.YtifnmclidabkfaaDoor.Hid.mk' (HB1.out.trans (hb4.mono HB1.out.size))
      clear hal hb4
      go_wp2_with fail
      go_ret
      exact ⟨rfl, HW4.out⟩
end Go.Proofs.YtifnmclidabkfaaDoor

/- Blanks, remarks, great letters, noughts and a sign ; behind do not matter. -/
import Derived.Test.YtbkeaajnhalekaaGreatDoorP14LA
import Derived.Test.YtbkeaajnhalekaaGreatDoorP14LI
import Derived.Test.YtbkeaajnhalekaaGreatDoorP14SA
import Derived.Test.YtbkeaajnhalekaaGreatDoorL13Z
namespace Go.Proofs.YtbkeaajnhalekaaGreatDoor
open Go.RowKit
set_option linter.unusedVariables false
set_option linter.unusedSimpArgs false

/-- What Parse answers of a text. -/
def paF (o : Except Nat Tr) : Tr × ByteArray := match o with
  | .ok t => (t, ⟨#[48, 48, 48, 48, 48]⟩)
  | .error er => (.mk [] [] 0 [], prB er)
theorem PrTo.pa {w w' : World} {s : ByteArray} {e : Ending} (h : PrTo w s e w') : ∃ (ao : Option Addr) (cap : Nat), e = .returned (.tuple #[nv (paF (prF s.data.toList)).1.op (paF (prF s.data.toList)).1.s (paF (prF s.data.toList)).1.n ao (paF (prF s.data.toList)).1.L.length cap, .string (paF (prF s.data.toList)).2]) ∧ TV (fun _ => True) w' ao cap (paF (prF s.data.toList)).1 ∧ Below w.heap.size w w' := by
  rcases h with ⟨t, ao, cap, ho, he, tv, hb⟩ | ⟨er, ho, he, hb⟩
  · rw [ho]; exact ⟨ao, cap, he, tv.keep fun _ _ _ => ⟨trivial, rfl⟩, hb⟩
  · rw [ho]; exact ⟨none, 0, he, .leaf _ _ _, hb⟩
/-- Which blanks stand behind a token. -/
def blN14 (bs : List Int) (i : Nat) : Nat := if h : i < bs.length then pickN bs[i] 5 else 0
theorem loL_snoc (dg : Int → List UInt8) (odd : Bool) (bl : Nat → Nat) : ∀ (l : List Tok) (k : Nat) (t : Tok), loL dg odd bl k (l ++ [t]) = loL dg odd bl k l ++ (spL dg odd t.k t.s t.n ++ blF (bl (k + l.length)))
  | [], k, t => by simp [loL]
  | x :: l, k, t => by
    rw [List.cons_append, loL, loL, loL_snoc dg odd bl l (k + 1) t]
    simp only [List.append_assoc, List.length_cons]
    rw [show k + 1 + l.length = k + (l.length + 1) by omega]
theorem loL_step {odd : Bool} {bl : Nat → Nat} {l : List Tok} {i : Nat} (h : i < l.length) {b x y : ByteArray} (hb : b.data.toList = loL dgF odd bl 0 (l.take i)) (hx : x.data.toList = spL dgF odd l[i].k l[i].s l[i].n) (hy : y.data.toList = blF (bl i)) : (b ++ x ++ y).data.toList = loL dgF odd bl 0 (l.take (i + 1)) := by
  have hl : (l.take i).length = i := by simp; omega
  rw [List.take_add_one, List.getElem?_eq_getElem h]
  simp only [Option.toList_some, loL_snoc, hl, Nat.zero_add, ByteArray.data_append, Array.toList_append, hb, hx, hy, List.append_assoc]
set_option maxHeartbeats 8000000 in
set_option maxRecDepth 100000 in
theorem loose_law (s : ByteArray) (odd : Bool) (vb : Value) (bs : List Int) (ad : Addr) (w : World) (hB : RowI w vb bs) (hL : LibW ad w) : Calls Tryz.prog 4 #[.string s, .bool odd, vb] w fun e w' => e = .returned (.bool true) ∧ Below w.heap.size w w' := by
  have HP : Hid (∀ W, Below w.heap.size w W → ∀ x, Calls Tryz.prog 8 #[.string x] W fun e w' => PrTo W x e w') := fun W hW x => parse_any x W (hL.keep hW)
  have HAL : Hid (∀ W, Below w.heap.size w W → Calls Tryz.prog 11 #[] W fun e w' => e = .returned (.bool true) ∧ Below W.heap.size W w') := fun W hW => alive_any W (hL.keep hW)
  have V0 : Hid (Below w.heap.size w w) := Below.refl _ _
  have HBB : Hid (RowI w vb bs) := hB
  obtain ⟨hz, aob, capb, rfl, hcb, _⟩ := hB
  have HZ := Go.Proofs.YtbkeaajnhalekaaGreatDoor.Hid.mk' hz
  have HBC : Hid (∀ W, Below w.heap.size w W → ∀ i (h : i < bs.length), ∃ g o, aob = some ⟨g, o, none⟩ ∧ W.cell? ⟨g, o + i, none⟩ = some (.int .i64 bs[i])) := fun W hW i h => by
    obtain ⟨_, ao, cap, hv, hc, h9⟩ := HBB.out.keep hW
    cases hv
    rcases h9 with h9 | ⟨g, o, e, hk⟩
    · rw [h9] at h; simp at h
    · exact ⟨g, o, e, hk i h⟩
  clear hL hz HBB
  go_enter Tryz.func4, Tryz.ntmps4
  go_wp2_with fail
  refine (HP.out _ V0.out _).mono ?_
  intro e w1 h1
  obtain ⟨ao1, cap1, rfl, tv1, hb1⟩ := h1.pa
  clear h1
  obtain ⟨q, hq⟩ : ∃ q, paF (prF s.data.toList) = q := ⟨_, rfl⟩
  rw [hq] at tv1 ⊢
  obtain ⟨t, st⟩ := q
  simp only at tv1 ⊢
  have HQ := Go.Proofs.YtbkeaajnhalekaaGreatDoor.Hid.mk' hq
  clear hq
  obtain ⟨v1, hv1⟩ : ∃ v, w1.alloc (.cells #[.string ⟨t.op.toArray⟩, .string ⟨t.s.toArray⟩, .int .i64 t.n, .slice ao1 t.L.length cap1] 24) = v := ⟨_, rfl⟩
  have A1 : Hid (Below w1.heap.size w1 v1) := by rw [← hv1]; exact (Below.refl _ _).alloc (Nat.le_refl _) _
  have V1 : Hid (Below w.heap.size w v1) := hb1.trans (A1.out.mono hb1.size)
  have X1 : Hid (∀ W, Below v1.heap.size v1 W → _) := fun W hW => box4 w1 (.string ⟨t.op.toArray⟩) (.string ⟨t.s.toArray⟩) (.int .i64 t.n) (.slice ao1 t.L.length cap1) 24 W (by rw [hv1]; exact hW)
  have T1 : Hid (TV (fun _ => True) v1 ao1 cap1 t) := tv1.keepB A1.out
  clear tv1 hb1
  have hsc := scan_ref s v1
  go_wp2_with fail
  refine hsc.mono ?_
  intro e w2 h2
  clear hsc
  rcases h2 with ⟨l, v, ho, rfl, row, hb⟩ | ⟨er, ho, rfl, hb⟩
  · obtain ⟨hs2, htk, hl6⟩ := scF_ok.1 ho
    have HG : Hid (∀ t ∈ l, Good t.k t.s t.n) := tkN_good _ _ _ _ htk
    have HO := Go.Proofs.YtbkeaajnhalekaaGreatDoor.Hid.mk' ho
    obtain ⟨aol, cpl, rfl, hcl, _⟩ := row.form
    have HR := Go.Proofs.YtbkeaajnhalekaaGreatDoor.Hid.mk' row
    have D2 := Go.Proofs.YtbkeaajnhalekaaGreatDoor.Hid.mk' hb
    have V2 : Hid (Below w.heap.size w w2) := V1.out.trans (hb.mono V1.out.size)
    clear ho hs2 row hb htk
    go_wp2_with fail
    go_loopw [11, 12] (fun x5 x6 wr => ∃ (i : Nat) (b : ByteArray), x5 = .string b ∧ x6 = .int .i64 i ∧ i ≤ l.length ∧ b.size ≤ 1000 * i ∧ Hid (b.data.toList = loL dgF odd (blN14 bs) 0 (l.take i)) ∧ Hid (Below w2.heap.size w2 wr)) (fun _ x6 _ => l.length - (intOf x6).toNat)
    case atStart => exact ⟨0, ⟨#[]⟩, rfl, rfl, Nat.zero_le _, Nat.le_refl _, rfl, Below.refl _ _⟩
    case round =>
      rename World => wr
      obtain ⟨i, b, rfl, rfl, hi, hbs, HBL, HB⟩ := hrel
      by_cases hlt : i < l.length
      · have tl : (i : Int) < (l.length : Int) := by omega
        have hR := HR.out.keepB HB.out
        obtain ⟨g, c', e1, _⟩ := Row.at_ hR (by omega)
        have e1' : aol = some ⟨g, 0, none⟩ := by injection e1
        subst e1'
        obtain ⟨l0, l1, l2, l3⟩ := hR.cells i hlt
        have hgd := HG.out l[i] (List.getElem_mem _)
        have hln := spL_len odd hgd
        have HSP : Hid (∀ W, Calls Tryz.prog 16 _ W _) := fun W => spelled14_any hgd (l[i].at_ : Int) odd W
        have HST : Hid (∀ x y : ByteArray, x.data.toList = spL dgF odd l[i].k l[i].s l[i].n → y.data.toList = blF (blN14 bs i) → (b ++ x ++ y).data.toList = loL dgF odd (blN14 bs) 0 (l.take (i + 1))) := fun x y hx hy => loL_step hlt HBL.out hx hy
        have HXX : Hid ((⟨(spL dgF odd l[i].k l[i].s l[i].n).toArray⟩ : ByteArray).data.toList = spL dgF odd l[i].k l[i].s l[i].n) := rfl
        have hxl : (⟨(spL dgF odd l[i].k l[i].s l[i].n).toArray⟩ : ByteArray).size ≤ 900 := by simpa [ByteArray.size] using hln
        generalize (⟨(spL dgF odd l[i].k l[i].s l[i].n).toArray⟩ : ByteArray) = X at *
        generalize spL dgF odd l[i].k l[i].s l[i].n = xl at *
        generalize l[i] = tk at *
        obtain ⟨K, S, V, P⟩ := tk
        simp only at l0 l1 l2 l3 HSP
        generalize (⟨S.toArray⟩ : ByteArray) = sb at *
        have HKB : Hid (∀ (W : World) o (p : Addr) (v : Value), W.cell? p = some v → (W.alloc o).cell? p = some v) := fun W o p v hp => (((Below.refl _ _).alloc (Nat.le_refl _) o).cell (World.block_lt_of_cell? W _ hp)).trans hp
        clear hR e1 hgd hln HBL
        have cA : ¬ 9223372036854775807 < b.size + X.size := by omega
        by_cases hbl : i < bs.length
        · have tb : (i : Int) < (bs.length : Int) := by omega
          obtain ⟨gb, ob, rfl, cb⟩ := HBC.out wr (V2.out.trans (HB.out.mono V2.out.size)) i hbl
          have hpk := fun W => pick14 bs[i] 5 W (HZ.out _ (List.getElem_mem _)) (by decide) (by decide)
          have hp5 := pickN_lt bs[i] 5 (by decide)
          have HBE : Hid (blN14 bs i = pickN bs[i] 5) := by show _ = _; unfold blN14; rw [dif_pos hbl]
          generalize pickN bs[i] 5 = pk at *
          generalize bs[i] = bz at *
          have N0 := fun o => HKB.out wr o _ _ l0
          have N1 := fun o => HKB.out wr o _ _ l1
          have N2 := fun o => HKB.out wr o _ _ l2
          have N3 := fun o => HKB.out wr o _ _ l3
          have NB := fun o => HKB.out wr o _ _ cb
          have HBo : Hid (∀ o, Below w2.heap.size w2 (wr.alloc o)) := fun o => HB.out.alloc HB.out.size o
          have hpkk : pk = 0 ∨ pk = 1 ∨ pk = 2 ∨ pk = 3 ∨ pk = 4 := by omega
          rcases hpkk with rfl | rfl | rfl | rfl | rfl
          · have c1 : ¬ 9223372036854775807 < b.size + X.size + 1 := by omega
            have HY : Hid ((⟨#[32]⟩ : ByteArray).data.toList = blF (blN14 bs i)) := by show _ = _; rw [HBE.out]; rfl
            go_wp2_with (first
              | (go_at_call 15; refine (hpk _).mono ?_; rintro e wp ⟨rfl, hwp⟩; obtain rfl := hwp.symm))
            refine (HSP.out _).mono ?_
            rintro e w3 ⟨rfl, hb3⟩
            have HN := Go.Proofs.YtbkeaajnhalekaaGreatDoor.Hid.mk' ((HBo.out _).trans (hb3.mono (HBo.out _).size))
            clear hb3
            go_wp2_with fail
            exact ⟨⟨i + 1, _, rfl, by go_num, by omega, by rw [ByteArray.size_append, ByteArray.size_append]; show b.size + X.size + 1 ≤ _; omega, HST.out X _ HXX.out HY.out, HN⟩, by simp [intOf]; omega⟩
          · have c1 : ¬ 9223372036854775807 < b.size + X.size + 1 := by omega
            have HY : Hid ((⟨#[10]⟩ : ByteArray).data.toList = blF (blN14 bs i)) := by show _ = _; rw [HBE.out]; rfl
            go_wp2_with (first
              | (go_at_call 15; refine (hpk _).mono ?_; rintro e wp ⟨rfl, hwp⟩; obtain rfl := hwp.symm))
            refine (HSP.out _).mono ?_
            rintro e w3 ⟨rfl, hb3⟩
            have HN := Go.Proofs.YtbkeaajnhalekaaGreatDoor.Hid.mk' ((HBo.out _).trans (hb3.mono (HBo.out _).size))
            clear hb3
            go_wp2_with fail
            exact ⟨⟨i + 1, _, rfl, by go_num, by omega, by rw [ByteArray.size_append, ByteArray.size_append]; show b.size + X.size + 1 ≤ _; omega, HST.out X _ HXX.out HY.out, HN⟩, by simp [intOf]; omega⟩
          · have c1 : ¬ 9223372036854775807 < b.size + X.size + 2 := by omega
            have HY : Hid ((⟨#[9, 32]⟩ : ByteArray).data.toList = blF (blN14 bs i)) := by show _ = _; rw [HBE.out]; rfl
            go_wp2_with (first
              | (go_at_call 15; refine (hpk _).mono ?_; rintro e wp ⟨rfl, hwp⟩; obtain rfl := hwp.symm))
            refine (HSP.out _).mono ?_
            rintro e w3 ⟨rfl, hb3⟩
            have HN := Go.Proofs.YtbkeaajnhalekaaGreatDoor.Hid.mk' ((HBo.out _).trans (hb3.mono (HBo.out _).size))
            clear hb3
            go_wp2_with fail
            exact ⟨⟨i + 1, _, rfl, by go_num, by omega, by rw [ByteArray.size_append, ByteArray.size_append]; show b.size + X.size + 2 ≤ _; omega, HST.out X _ HXX.out HY.out, HN⟩, by simp [intOf]; omega⟩
          · have c1 : ¬ 9223372036854775807 < b.size + X.size + 7 := by omega
            have HY : Hid ((⟨#[32, 45, 45, 120, 32, 121, 10]⟩ : ByteArray).data.toList = blF (blN14 bs i)) := by show _ = _; rw [HBE.out]; rfl
            go_wp2_with (first
              | (go_at_call 15; refine (hpk _).mono ?_; rintro e wp ⟨rfl, hwp⟩; obtain rfl := hwp.symm))
            refine (HSP.out _).mono ?_
            rintro e w3 ⟨rfl, hb3⟩
            have HN := Go.Proofs.YtbkeaajnhalekaaGreatDoor.Hid.mk' ((HBo.out _).trans (hb3.mono (HBo.out _).size))
            clear hb3
            go_wp2_with fail
            exact ⟨⟨i + 1, _, rfl, by go_num, by omega, by rw [ByteArray.size_append, ByteArray.size_append]; show b.size + X.size + 7 ≤ _; omega, HST.out X _ HXX.out HY.out, HN⟩, by simp [intOf]; omega⟩
          · have c1 : ¬ 9223372036854775807 < b.size + X.size + 4 := by omega
            have HY : Hid ((⟨#[32, 13, 10, 32]⟩ : ByteArray).data.toList = blF (blN14 bs i)) := by show _ = _; rw [HBE.out]; rfl
            go_wp2_with (first
              | (go_at_call 15; refine (hpk _).mono ?_; rintro e wp ⟨rfl, hwp⟩; obtain rfl := hwp.symm))
            refine (HSP.out _).mono ?_
            rintro e w3 ⟨rfl, hb3⟩
            have HN := Go.Proofs.YtbkeaajnhalekaaGreatDoor.Hid.mk' ((HBo.out _).trans (hb3.mono (HBo.out _).size))
            clear hb3
            go_wp2_with fail
            exact ⟨⟨i + 1, _, rfl, by go_num, by omega, by rw [ByteArray.size_append, ByteArray.size_append]; show b.size + X.size + 4 ≤ _; omega, HST.out X _ HXX.out HY.out, HN⟩, by simp [intOf]; omega⟩
        · have tb : ¬ (i : Int) < (bs.length : Int) := by omega
          have HBE : Hid (blN14 bs i = 0) := by show _ = _; unfold blN14; rw [dif_neg hbl]
          have c1 : ¬ 9223372036854775807 < b.size + X.size + 1 := by omega
          have HY : Hid ((⟨#[32]⟩ : ByteArray).data.toList = blF (blN14 bs i)) := by show _ = _; rw [HBE.out]; rfl
          go_wp2_with fail
          refine (HSP.out _).mono ?_
          rintro e w3 ⟨rfl, hb3⟩
          have HN := Go.Proofs.YtbkeaajnhalekaaGreatDoor.Hid.mk' ((HB.out).trans (hb3.mono (HB.out).size))
          clear hb3
          go_wp2_with fail
          exact ⟨⟨i + 1, _, rfl, by go_num, by omega, by rw [ByteArray.size_append, ByteArray.size_append]; show b.size + X.size + 1 ≤ _; omega, HST.out X _ HXX.out HY.out, HN⟩, by simp [intOf]; omega⟩
      · have tl : ¬ (i : Int) < (l.length : Int) := by omega
        obtain rfl : i = l.length := by omega
        have HBL2 : Hid (b.data.toList = loL dgF odd (blN14 bs) 0 l) := by
          have := HBL.out
          rw [List.take_of_length_le (Nat.le_refl _)] at this
          exact this
        have HWr := Go.Proofs.YtbkeaajnhalekaaGreatDoor.Hid.mk' (V2.out.trans (HB.out.mono V2.out.size))
        have HRr := Go.Proofs.YtbkeaajnhalekaaGreatDoor.Hid.mk' (HR.out.keepB HB.out)
        have HX : Hid (Below v1.heap.size v1 wr) := D2.out.trans (HB.out.mono D2.out.size)
        have HLP : Hid (∀ (T : List UInt8) (semi : Bool), (semi = true → l ≠ [] ∧ NoEnd l ∧ l.length < 600) → T = (if semi then [59, 32] else []) → (b.data.toList ++ T).length ≤ 2000 → paF (prF (b.data.toList ++ T)) = (t, st)) := fun T semi h1 h2 h3 => by
          rw [HBL2.out] at h3 ⊢
          rw [loose_pr digsF odd (blN14 bs) HO.out semi h1 T h2 h3]
          exact HQ.out
        clear HBL HR HB HBL2 HBC HZ HG D2 HQ
        by_cases h0 : l.length = 0
        · have t0 : ¬ ((l.length : Int) > 0) := by omega
          by_cases hbz : b.size + 0 ≤ 2000
          · have tb : ¬ ((b.size : Int) > 2000) := by omega
            have hpa : paF (prF b.data.toList) = (t, st) := by
              have := HLP.out [] false (fun h => by cases h) rfl (by simp; omega)
              simpa using this
            have HPA := Go.Proofs.YtbkeaajnhalekaaGreatDoor.Hid.mk' hpa
            clear hpa HLP
            go_wp2_with fail
            refine (HP.out _ HWr.out _).mono ?_
            intro e w4 h4
            obtain ⟨ao2, cap2, rfl, tv2, hb4⟩ := h4.pa
            rw [HPA.out] at tv2 ⊢
            simp only at tv2 ⊢
            clear h4 HPA
            obtain ⟨v4, hv4⟩ : ∃ v, w4.alloc (.cells #[.string ⟨t.op.toArray⟩, .string ⟨t.s.toArray⟩, .int .i64 t.n, .slice ao2 t.L.length cap2] 24) = v := ⟨_, rfl⟩
            have A4 : Hid (Below w4.heap.size w4 v4) := by rw [← hv4]; exact (Below.refl _ _).alloc (Nat.le_refl _) _
            have V4 : Hid (Below w.heap.size w v4) := (HWr.out.trans (hb4.mono HWr.out.size)).trans (A4.out.mono (HWr.out.trans (hb4.mono HWr.out.size)).size)
            have D4 : Hid (Below v1.heap.size v1 v4) := (HX.out.trans (hb4.mono HX.out.size)).trans (A4.out.mono (HX.out.trans (hb4.mono HX.out.size)).size)
            obtain ⟨x0, x1, x2, x3⟩ := X1.out v4 D4.out
            obtain ⟨y0, y1, y2, y3⟩ := box4 w4 (.string ⟨t.op.toArray⟩) (.string ⟨t.s.toArray⟩) (.int .i64 t.n) (.slice ao2 t.L.length cap2) 24 v4 (by rw [hv4]; exact Below.refl _ _)
            have hs := q_same _ (Nat.lt_succ_self _) (T1.out.keepB D4.out) (tv2.keepB A4.out)
            clear tv2 hb4 X1 T1 HRr HX HWr
            go_wp2_with fail
            refine hs.mono ?_
            rintro e w5 ⟨rfl, hb5⟩
            have V5 := Go.Proofs.YtbkeaajnhalekaaGreatDoor.Hid.mk' (V4.out.trans (hb5.mono V4.out.size))
            clear hs hb5 x0 x1 x2 x3 y0 y1 y2 y3
            go_wp2_with (first
              | (go_at_call 11; refine (HAL.out _ V5.out).mono ?_; rintro e w6 ⟨rfl, hb6⟩))
            go_ret
            exact ⟨rfl, V5.out.trans (hb6.mono V5.out.size)⟩
          · have tb : (b.size : Int) > 2000 := by omega
            clear HLP HRr
            go_wp2_with (first
              | (go_at_call 11; refine (HAL.out _ HWr.out).mono ?_; rintro e w6 ⟨rfl, hb6⟩))
            go_ret
            exact ⟨rfl, HWr.out.trans (hb6.mono HWr.out.size)⟩
        · have t0 : (l.length : Int) > 0 := by omega
          have hR := HRr.out
          obtain ⟨g, c', e1, _⟩ := Row.at_ hR (by omega)
          have e1' : aol = some ⟨g, 0, none⟩ := by injection e1
          subst e1'
          obtain ⟨m, hm⟩ : ∃ m, l.length = m + 1 := ⟨l.length - 1, by omega⟩
          have hml : m < l.length := by omega
          obtain ⟨l0, l1, l2, l3⟩ := hR.cells m hml
          have hlast : l.getLast? = some l[m] := by rw [List.getLast?_eq_getElem?, hm]; exact List.getElem?_eq_getElem hml
          have HNE : Hid (¬ (l[m].k = 3 ∧ l[m].s = [59]) → NoEnd l) := fun h x hx => by rw [hlast] at hx; cases hx; exact h
          have HMM := Go.Proofs.YtbkeaajnhalekaaGreatDoor.Hid.mk' hm
          have hmi : (l.length : Int) - 1 = (m : Int) := by omega
          generalize l[m] = tk at *
          obtain ⟨K, S, V, P⟩ := tk
          simp only at l0 l1 l2 l3 HNE
          clear hR e1 hlast hm l2 l3
          by_cases hK : K = 3
          · by_cases hS : S = [59]
            · subst hS
              subst hK
              by_cases hbz : b.size + 0 ≤ 2000
              · have tb : ¬ ((b.size : Int) > 2000) := by omega
                have hpa : paF (prF b.data.toList) = (t, st) := by
                  have := HLP.out [] false (fun h => by cases h) rfl (by simp; omega)
                  simpa using this
                have HPA := Go.Proofs.YtbkeaajnhalekaaGreatDoor.Hid.mk' hpa
                clear hpa HLP
                go_wp2_with fail
                refine (HP.out _ HWr.out _).mono ?_
                intro e w4 h4
                obtain ⟨ao2, cap2, rfl, tv2, hb4⟩ := h4.pa
                rw [HPA.out] at tv2 ⊢
                simp only at tv2 ⊢
                clear h4 HPA
                obtain ⟨v4, hv4⟩ : ∃ v, w4.alloc (.cells #[.string ⟨t.op.toArray⟩, .string ⟨t.s.toArray⟩, .int .i64 t.n, .slice ao2 t.L.length cap2] 24) = v := ⟨_, rfl⟩
                have A4 : Hid (Below w4.heap.size w4 v4) := by rw [← hv4]; exact (Below.refl _ _).alloc (Nat.le_refl _) _
                have V4 : Hid (Below w.heap.size w v4) := (HWr.out.trans (hb4.mono HWr.out.size)).trans (A4.out.mono (HWr.out.trans (hb4.mono HWr.out.size)).size)
                have D4 : Hid (Below v1.heap.size v1 v4) := (HX.out.trans (hb4.mono HX.out.size)).trans (A4.out.mono (HX.out.trans (hb4.mono HX.out.size)).size)
                obtain ⟨x0, x1, x2, x3⟩ := X1.out v4 D4.out
                obtain ⟨y0, y1, y2, y3⟩ := box4 w4 (.string ⟨t.op.toArray⟩) (.string ⟨t.s.toArray⟩) (.int .i64 t.n) (.slice ao2 t.L.length cap2) 24 v4 (by rw [hv4]; exact Below.refl _ _)
                have hs := q_same _ (Nat.lt_succ_self _) (T1.out.keepB D4.out) (tv2.keepB A4.out)
                clear tv2 hb4 X1 T1 HRr HX HWr
                go_wp2_with fail
                refine hs.mono ?_
                rintro e w5 ⟨rfl, hb5⟩
                have V5 := Go.Proofs.YtbkeaajnhalekaaGreatDoor.Hid.mk' (V4.out.trans (hb5.mono V4.out.size))
                clear hs hb5 x0 x1 x2 x3 y0 y1 y2 y3
                go_wp2_with (first
                  | (go_at_call 11; refine (HAL.out _ V5.out).mono ?_; rintro e w6 ⟨rfl, hb6⟩))
                go_ret
                exact ⟨rfl, V5.out.trans (hb6.mono V5.out.size)⟩
              · have tb : (b.size : Int) > 2000 := by omega
                clear HLP HRr
                go_wp2_with (first
                  | (go_at_call 11; refine (HAL.out _ HWr.out).mono ?_; rintro e w6 ⟨rfl, hb6⟩))
                go_ret
                exact ⟨rfl, HWr.out.trans (hb6.mono HWr.out.size)⟩
            · have hSb : (S == [59]) = false := by simpa using hS
              subst hK
              have hne := HNE.out (fun h => hS h.2)
              by_cases h600 : (l.length : Int) < 600
              · have hse : l ≠ [] ∧ NoEnd l ∧ l.length < 600 := ⟨fun e => by rw [e] at h0; simp at h0, hne, by omega⟩
                have HSE := Go.Proofs.YtbkeaajnhalekaaGreatDoor.Hid.mk' hse
                clear hse hne
                have c1 : ¬ 9223372036854775807 < b.size + 2 := by omega
                by_cases hbz : b.size + 2 ≤ 2000
                · have tb : ¬ ((b.size : Int) + 2 > 2000) := by omega
                  have hsz : (b ++ (⟨#[59, 32]⟩ : ByteArray)).size = b.size + 2 := by rw [ByteArray.size_append]; rfl
                  have hpa : paF (prF (b ++ (⟨#[59, 32]⟩ : ByteArray)).data.toList) = (t, st) := by
                    have := HLP.out [59, 32] true (fun _ => HSE.out) rfl (by simp; omega)
                    simpa using this
                  have HPA := Go.Proofs.YtbkeaajnhalekaaGreatDoor.Hid.mk' hpa
                  clear hpa HLP
                  go_wp2_with fail
                  refine (HP.out _ HWr.out _).mono ?_
                  intro e w4 h4
                  obtain ⟨ao2, cap2, rfl, tv2, hb4⟩ := h4.pa
                  rw [HPA.out] at tv2 ⊢
                  simp only at tv2 ⊢
                  clear h4 HPA
                  obtain ⟨v4, hv4⟩ : ∃ v, w4.alloc (.cells #[.string ⟨t.op.toArray⟩, .string ⟨t.s.toArray⟩, .int .i64 t.n, .slice ao2 t.L.length cap2] 24) = v := ⟨_, rfl⟩
                  have A4 : Hid (Below w4.heap.size w4 v4) := by rw [← hv4]; exact (Below.refl _ _).alloc (Nat.le_refl _) _
                  have V4 : Hid (Below w.heap.size w v4) := (HWr.out.trans (hb4.mono HWr.out.size)).trans (A4.out.mono (HWr.out.trans (hb4.mono HWr.out.size)).size)
                  have D4 : Hid (Below v1.heap.size v1 v4) := (HX.out.trans (hb4.mono HX.out.size)).trans (A4.out.mono (HX.out.trans (hb4.mono HX.out.size)).size)
                  obtain ⟨x0, x1, x2, x3⟩ := X1.out v4 D4.out
                  obtain ⟨y0, y1, y2, y3⟩ := box4 w4 (.string ⟨t.op.toArray⟩) (.string ⟨t.s.toArray⟩) (.int .i64 t.n) (.slice ao2 t.L.length cap2) 24 v4 (by rw [hv4]; exact Below.refl _ _)
                  have hs := q_same _ (Nat.lt_succ_self _) (T1.out.keepB D4.out) (tv2.keepB A4.out)
                  clear tv2 hb4 X1 T1 HRr HX HWr
                  go_wp2_with fail
                  refine hs.mono ?_
                  rintro e w5 ⟨rfl, hb5⟩
                  have V5 := Go.Proofs.YtbkeaajnhalekaaGreatDoor.Hid.mk' (V4.out.trans (hb5.mono V4.out.size))
                  clear hs hb5 x0 x1 x2 x3 y0 y1 y2 y3
                  go_wp2_with (first
                    | (go_at_call 11; refine (HAL.out _ V5.out).mono ?_; rintro e w6 ⟨rfl, hb6⟩))
                  go_ret
                  exact ⟨rfl, V5.out.trans (hb6.mono V5.out.size)⟩
                · have tb : (b.size : Int) + 2 > 2000 := by omega
                  clear HLP HRr
                  go_wp2_with (first
                    | (go_at_call 11; refine (HAL.out _ HWr.out).mono ?_; rintro e w6 ⟨rfl, hb6⟩))
                  go_ret
                  exact ⟨rfl, HWr.out.trans (hb6.mono HWr.out.size)⟩
              · clear hne
                by_cases hbz : b.size + 0 ≤ 2000
                · have tb : ¬ ((b.size : Int) > 2000) := by omega
                  have hpa : paF (prF b.data.toList) = (t, st) := by
                    have := HLP.out [] false (fun h => by cases h) rfl (by simp; omega)
                    simpa using this
                  have HPA := Go.Proofs.YtbkeaajnhalekaaGreatDoor.Hid.mk' hpa
                  clear hpa HLP
                  go_wp2_with fail
                  refine (HP.out _ HWr.out _).mono ?_
                  intro e w4 h4
                  obtain ⟨ao2, cap2, rfl, tv2, hb4⟩ := h4.pa
                  rw [HPA.out] at tv2 ⊢
                  simp only at tv2 ⊢
                  clear h4 HPA
                  obtain ⟨v4, hv4⟩ : ∃ v, w4.alloc (.cells #[.string ⟨t.op.toArray⟩, .string ⟨t.s.toArray⟩, .int .i64 t.n, .slice ao2 t.L.length cap2] 24) = v := ⟨_, rfl⟩
                  have A4 : Hid (Below w4.heap.size w4 v4) := by rw [← hv4]; exact (Below.refl _ _).alloc (Nat.le_refl _) _
                  have V4 : Hid (Below w.heap.size w v4) := (HWr.out.trans (hb4.mono HWr.out.size)).trans (A4.out.mono (HWr.out.trans (hb4.mono HWr.out.size)).size)
                  have D4 : Hid (Below v1.heap.size v1 v4) := (HX.out.trans (hb4.mono HX.out.size)).trans (A4.out.mono (HX.out.trans (hb4.mono HX.out.size)).size)
                  obtain ⟨x0, x1, x2, x3⟩ := X1.out v4 D4.out
                  obtain ⟨y0, y1, y2, y3⟩ := box4 w4 (.string ⟨t.op.toArray⟩) (.string ⟨t.s.toArray⟩) (.int .i64 t.n) (.slice ao2 t.L.length cap2) 24 v4 (by rw [hv4]; exact Below.refl _ _)
                  have hs := q_same _ (Nat.lt_succ_self _) (T1.out.keepB D4.out) (tv2.keepB A4.out)
                  clear tv2 hb4 X1 T1 HRr HX HWr
                  go_wp2_with fail
                  refine hs.mono ?_
                  rintro e w5 ⟨rfl, hb5⟩
                  have V5 := Go.Proofs.YtbkeaajnhalekaaGreatDoor.Hid.mk' (V4.out.trans (hb5.mono V4.out.size))
                  clear hs hb5 x0 x1 x2 x3 y0 y1 y2 y3
                  go_wp2_with (first
                    | (go_at_call 11; refine (HAL.out _ V5.out).mono ?_; rintro e w6 ⟨rfl, hb6⟩))
                  go_ret
                  exact ⟨rfl, V5.out.trans (hb6.mono V5.out.size)⟩
                · have tb : (b.size : Int) > 2000 := by omega
                  clear HLP HRr
                  go_wp2_with (first
                    | (go_at_call 11; refine (HAL.out _ HWr.out).mono ?_; rintro e w6 ⟨rfl, hb6⟩))
                  go_ret
                  exact ⟨rfl, HWr.out.trans (hb6.mono HWr.out.size)⟩
          · have hKb : (K == 3) = false := by simpa using hK
            have hne := HNE.out (fun h => hK h.1)
            by_cases h600 : (l.length : Int) < 600
            · have hse : l ≠ [] ∧ NoEnd l ∧ l.length < 600 := ⟨fun e => by rw [e] at h0; simp at h0, hne, by omega⟩
              have HSE := Go.Proofs.YtbkeaajnhalekaaGreatDoor.Hid.mk' hse
              clear hse hne
              have c1 : ¬ 9223372036854775807 < b.size + 2 := by omega
              by_cases hbz : b.size + 2 ≤ 2000
              · have tb : ¬ ((b.size : Int) + 2 > 2000) := by omega
                have hsz : (b ++ (⟨#[59, 32]⟩ : ByteArray)).size = b.size + 2 := by rw [ByteArray.size_append]; rfl
                have hpa : paF (prF (b ++ (⟨#[59, 32]⟩ : ByteArray)).data.toList) = (t, st) := by
                  have := HLP.out [59, 32] true (fun _ => HSE.out) rfl (by simp; omega)
                  simpa using this
                have HPA := Go.Proofs.YtbkeaajnhalekaaGreatDoor.Hid.mk' hpa
                clear hpa HLP
                go_wp2_with fail
                refine (HP.out _ HWr.out _).mono ?_
                intro e w4 h4
                obtain ⟨ao2, cap2, rfl, tv2, hb4⟩ := h4.pa
                rw [HPA.out] at tv2 ⊢
                simp only at tv2 ⊢
                clear h4 HPA
                obtain ⟨v4, hv4⟩ : ∃ v, w4.alloc (.cells #[.string ⟨t.op.toArray⟩, .string ⟨t.s.toArray⟩, .int .i64 t.n, .slice ao2 t.L.length cap2] 24) = v := ⟨_, rfl⟩
                have A4 : Hid (Below w4.heap.size w4 v4) := by rw [← hv4]; exact (Below.refl _ _).alloc (Nat.le_refl _) _
                have V4 : Hid (Below w.heap.size w v4) := (HWr.out.trans (hb4.mono HWr.out.size)).trans (A4.out.mono (HWr.out.trans (hb4.mono HWr.out.size)).size)
                have D4 : Hid (Below v1.heap.size v1 v4) := (HX.out.trans (hb4.mono HX.out.size)).trans (A4.out.mono (HX.out.trans (hb4.mono HX.out.size)).size)
                obtain ⟨x0, x1, x2, x3⟩ := X1.out v4 D4.out
                obtain ⟨y0, y1, y2, y3⟩ := box4 w4 (.string ⟨t.op.toArray⟩) (.string ⟨t.s.toArray⟩) (.int .i64 t.n) (.slice ao2 t.L.length cap2) 24 v4 (by rw [hv4]; exact Below.refl _ _)
                have hs := q_same _ (Nat.lt_succ_self _) (T1.out.keepB D4.out) (tv2.keepB A4.out)
                clear tv2 hb4 X1 T1 HRr HX HWr
                go_wp2_with fail
                refine hs.mono ?_
                rintro e w5 ⟨rfl, hb5⟩
                have V5 := Go.Proofs.YtbkeaajnhalekaaGreatDoor.Hid.mk' (V4.out.trans (hb5.mono V4.out.size))
                clear hs hb5 x0 x1 x2 x3 y0 y1 y2 y3
                go_wp2_with (first
                  | (go_at_call 11; refine (HAL.out _ V5.out).mono ?_; rintro e w6 ⟨rfl, hb6⟩))
                go_ret
                exact ⟨rfl, V5.out.trans (hb6.mono V5.out.size)⟩
              · have tb : (b.size : Int) + 2 > 2000 := by omega
                clear HLP HRr
                go_wp2_with (first
                  | (go_at_call 11; refine (HAL.out _ HWr.out).mono ?_; rintro e w6 ⟨rfl, hb6⟩))
                go_ret
                exact ⟨rfl, HWr.out.trans (hb6.mono HWr.out.size)⟩
            · clear hne
              by_cases hbz : b.size + 0 ≤ 2000
              · have tb : ¬ ((b.size : Int) > 2000) := by omega
                have hpa : paF (prF b.data.toList) = (t, st) := by
                  have := HLP.out [] false (fun h => by cases h) rfl (by simp; omega)
                  simpa using this
                have HPA := Go.Proofs.YtbkeaajnhalekaaGreatDoor.Hid.mk' hpa
                clear hpa HLP
                go_wp2_with fail
                refine (HP.out _ HWr.out _).mono ?_
                intro e w4 h4
                obtain ⟨ao2, cap2, rfl, tv2, hb4⟩ := h4.pa
                rw [HPA.out] at tv2 ⊢
                simp only at tv2 ⊢
                clear h4 HPA
                obtain ⟨v4, hv4⟩ : ∃ v, w4.alloc (.cells #[.string ⟨t.op.toArray⟩, .string ⟨t.s.toArray⟩, .int .i64 t.n, .slice ao2 t.L.length cap2] 24) = v := ⟨_, rfl⟩
                have A4 : Hid (Below w4.heap.size w4 v4) := by rw [← hv4]; exact (Below.refl _ _).alloc (Nat.le_refl _) _
                have V4 : Hid (Below w.heap.size w v4) := (HWr.out.trans (hb4.mono HWr.out.size)).trans (A4.out.mono (HWr.out.trans (hb4.mono HWr.out.size)).size)
                have D4 : Hid (Below v1.heap.size v1 v4) := (HX.out.trans (hb4.mono HX.out.size)).trans (A4.out.mono (HX.out.trans (hb4.mono HX.out.size)).size)
                obtain ⟨x0, x1, x2, x3⟩ := X1.out v4 D4.out
                obtain ⟨y0, y1, y2, y3⟩ := box4 w4 (.string ⟨t.op.toArray⟩) (.string ⟨t.s.toArray⟩) (.int .i64 t.n) (.slice ao2 t.L.length cap2) 24 v4 (by rw [hv4]; exact Below.refl _ _)
                have hs := q_same _ (Nat.lt_succ_self _) (T1.out.keepB D4.out) (tv2.keepB A4.out)
                clear tv2 hb4 X1 T1 HRr HX HWr
                go_wp2_with fail
                refine hs.mono ?_
                rintro e w5 ⟨rfl, hb5⟩
                have V5 := Go.Proofs.YtbkeaajnhalekaaGreatDoor.Hid.mk' (V4.out.trans (hb5.mono V4.out.size))
                clear hs hb5 x0 x1 x2 x3 y0 y1 y2 y3
                go_wp2_with (first
                  | (go_at_call 11; refine (HAL.out _ V5.out).mono ?_; rintro e w6 ⟨rfl, hb6⟩))
                go_ret
                exact ⟨rfl, V5.out.trans (hb6.mono V5.out.size)⟩
              · have tb : (b.size : Int) > 2000 := by omega
                clear HLP HRr
                go_wp2_with (first
                  | (go_at_call 11; refine (HAL.out _ HWr.out).mono ?_; rintro e w6 ⟨rfl, hb6⟩))
                go_ret
                exact ⟨rfl, HWr.out.trans (hb6.mono HWr.out.size)⟩
  · obtain ⟨hp, hpb⟩ := prF_er ho
    have hst : st = stB er := by
      have h9 := HQ.out
      rw [hp] at h9
      have h8 := congrArg Prod.snd h9
      rw [← hpb]
      exact h8.symm
    have hq := st_ne er
    have V2 := Go.Proofs.YtbkeaajnhalekaaGreatDoor.Hid.mk' (V1.out.trans (hb.mono V1.out.size))
    clear HQ hp hpb ho hb HBC HZ
    subst hst
    generalize stB er = sb at *
    rcases hq with rfl | rfl | rfl | rfl
    all_goals
      go_wp2_with (first
        | (go_at_call 11; refine (HAL.out _ V2.out).mono ?_; rintro e w6 ⟨rfl, hb6⟩))
      go_ret
      exact ⟨rfl, V2.out.trans (hb6.mono V2.out.size)⟩
end Go.Proofs.YtbkeaajnhalekaaGreatDoor

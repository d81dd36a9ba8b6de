/- The law's step: Put. -/
import Derived.Test.YtpmbpadckbkglaaP7RQ
namespace Go.Proofs.Ytpmbpadckbkglaa
open Go.RowKit Go.Maps
set_option linter.unusedVariables false
set_option linter.unusedSimpArgs false

/-- Behind the program's half of a step; where the new blocks lie. -/
def HalfB (base : Nat) (w0 : World) (B : Nat) (F G H K : Nat → Prop) (p dp : Value) (g : Nat) (dq : Value) (P : PS) (D : DS) (N : Int) (L : List EV) (R : RPS) (w' : World) : Prop := ∃ F' G', Pair7 base w' F' G' H K p dp g dq 0 P D N L R ∧ Fr w0 w' (fun i => F i ∨ G i) ∧ ∀ i, (F' i ∨ G' i) → (F i ∨ G i) ∨ B ≤ i
theorem HalfB.half {base B : Nat} {w0 w' : World} {F G H K : Nat → Prop} {p dp : Value} {g : Nat} {dq : Value} {P : PS} {D : DS} {N : Int} {L : List EV} {R : RPS} (h : HalfB base w0 B F G H K p dp g dq P D N L R w') : Half base w0 F G H K p dp g dq P D N L R w' := by
  obtain ⟨F', G', h1, h2, _⟩ := h
  exact ⟨F', G', h1, h2⟩
theorem Half.keepB {base : Nat} {w0 w' wx : World} {F G H K : Nat → Prop} {p dp : Value} {g : Nat} {dq : Value} {P : PS} {D : DS} {N : Int} {L : List EV} {R : RPS} (h : Half base w0 F G H K p dp g dq P D N L R w') (hb : Below w'.heap.size w' wx) : Half base w0 F G H K p dp g dq P D N L R wx := by
  obtain ⟨F', G', h1, h2⟩ := h
  exact ⟨F', G', h1.keepB hb, h2.trans (Fr.of_below (F := fun _ => False) hb) (fun i hi => hi.elim)⟩
theorem HalfB.scrub {base B gb C : Nat} {w0 w' wq : World} {F G H K : Nat → Prop} {p dp : Value} {g : Nat} {dq : Value} {P : PS} {D : DS} {N : Int} {L : List EV} {R : RPS} (h : HalfB base w0 B F G H K p dp g dq P D N L R w') (hs : Scrub7 w' wq gb C) (hB : gb < B) (hg : w0.heap.size ≤ gb) (hlo : ∀ i, ((F i ∨ G i) ∨ (H i ∨ K i)) → i < w0.heap.size) : Half base w0 F G H K p dp g dq P D N L R wq := by
  obtain ⟨F', G', h1, h2, h3⟩ := h
  refine ⟨F', G', h1.keepF hs.f (fun i hi e => ?_) (fun i hi e => ?_), h2.trans hs.f (fun i e => Or.inr (by omega))⟩
  · subst e
    rcases h3 _ hi with h4 | h4
    · have := hlo _ (Or.inl h4); omega
    · omega
  · subst e
    have := hlo _ (Or.inr hi); omega
/-- Put on both sides. -/
theorem put_both {base : Nat} {w0 : World} {F G H K : Nat → Prop} {gp dg : Nat} {g : Nat} {dq : Value} {P : PS} {D : DS} {N : Int} {L : List EV} {R : RPS} {k : Nat} (T : Two7 base w0 F G H K (.pointer (some ⟨gp, 0, none⟩)) (.pointer (some ⟨dg, 0, none⟩)) g dq P D N L R k) (hk : k < 150) (I M : Int) (hI : -9223372036854775808 ≤ I ∧ I ≤ 9223372036854775807) (hM : 0 ≤ M ∧ M ≤ 18446744073709551615) (xs : List UInt8) :
    ∃ (E : Int) (P1 : PS), (∀ wx vb, Below w0.heap.size w0 wx → Bytes wx vb xs → Calls Try.prog 19 #[.pointer (some ⟨gp, 0, none⟩), .int .i64 I, vb, .int .u64 M] wx fun e w' => e = .returned (.int .i64 E) ∧ HalfB base w0 wx.heap.size F G H K (.pointer (some ⟨gp, 0, none⟩)) (.pointer (some ⟨dg, 0, none⟩)) g dq P1 D N L R w' ∧ Fr wx w' (fun i => F i ∨ G i)) ∧
      (∀ wx vb, Half base w0 F G H K (.pointer (some ⟨gp, 0, none⟩)) (.pointer (some ⟨dg, 0, none⟩)) g dq P1 D N L R wx → Bytes wx vb xs → (∀ a n c, vb = .slice (some a) n c → ¬ H a.block) → Calls Try.prog 26 #[.pointer (some ⟨g, 0, none⟩), .int .i64 I, vb, .int .u64 M] wx fun e w' => e = .returned (.int .i64 E) ∧ Whole7 base w0 F G H K (.pointer (some ⟨gp, 0, none⟩)) (.pointer (some ⟨dg, 0, none⟩)) g dq N k w') := by
  have hok := T.two.a.ok
  have hus := T.uses
  have hln := T.len
  have hsame : ∀ wx, Below w0.heap.size w0 wx → HalfB base w0 wx.heap.size F G H K (.pointer (some ⟨gp, 0, none⟩)) (.pointer (some ⟨dg, 0, none⟩)) g dq P D N L R wx := fun wx hb => ⟨F, G, T.two.keepB hb, Fr.of_below hb, fun i hi => Or.inl hi⟩
  have hwh : ∀ wx, Half base w0 F G H K (.pointer (some ⟨gp, 0, none⟩)) (.pointer (some ⟨dg, 0, none⟩)) g dq P D N L R wx → Whole7 base w0 F G H K (.pointer (some ⟨gp, 0, none⟩)) (.pointer (some ⟨dg, 0, none⟩)) g dq N k wx := fun wx hh => by
    obtain ⟨F', G', hp2, hf⟩ := id hh
    exact ⟨F', G', H, K, P, D, L, R, { T.next with two := hp2 }, Half.fr hh (Fr.refl _ _)⟩
  by_cases hy : I ∈ P.keys ∧ (P.fr I).pins ≠ 0
  · have hpin : ∀ f ∈ R.l, f.page = I → f.pins ≠ 0 := fun f hf hfp => by
      have h6 := (T.rel.fr f hf).pins
      rw [hfp] at h6
      rw [h6]; exact hy.2
    by_cases hx : xs.length = 2048
    · refine ⟨0, P.touch I { P.fr I with bytes := xs, dirty := true, mark := mx (P.fr I).mark M }, fun wx vb hb hB => ?_, fun wx vb hh hB hBH => ?_⟩
      · refine (pd_put (T.two.a.keepB hb) (by omega) hI hy.1 hy.2 vb xs hB hx M hM).mono ?_
        rintro e w' ⟨he, F', G', h, hf, hF, hG⟩
        refine ⟨he, ⟨F', G', (T.two.keepB hb).turnP h hf hF hG, (Fr.of_below hb).trans hf (fun i hi => Or.inl hi), fun i hi => ?_⟩, hf⟩
        rcases hi with hi | hi
        · exact (hF i hi).imp Or.inl id
        · exact (hG i hi).imp Or.inr id
      · obtain ⟨F', G', hp2, hf⟩ := id hh
        obtain ⟨vL, hr⟩ := hp2.r
        have hnu := T.rel.now
        have huo := hok.uses
        refine (refPut_any hr (by omega) I (by rw [hnu]; omega) (T.rel.find hy.1) hpin vb xs hB hBH hx M).mono ?_
        rintro e w' ⟨he, j, hj, v', hjp, ht⟩
        obtain ⟨H', hp3, hf3⟩ := hp2.turnT ht
        have hfe := T.rel.fr _ (List.getElem_mem hj)
        rw [hjp] at hfe
        have hu := T.rel.use hj (f := { R.l[j] with v := v', b := xs, dirty := true, mark := mx R.l[j].mark M }) (x := { P.fr I with bytes := xs, dirty := true, mark := mx (P.fr I).mark M }) rfl ⟨hfe.pins, rfl, by show mx R.l[j].mark M = _; rw [hfe.mark], rfl⟩
        rw [hjp] at hu
        exact ⟨he, F', G', H', K, _, D, L, _, ⟨hp3, hu, T.rd, T.size, T.fit, T.pg, by show P.uses + 1 ≤ _; omega, by have := T.ws; omega, by have := T.ll; omega⟩, Half.fr hh hf3⟩
    · refine ⟨1, P, fun wx vb hb hB => ?_, fun wx vb hh hB hBH => ?_⟩
      · refine (pd_put_long (T.two.a.keepB hb) hI hy.1 hy.2 vb xs hB hx M).mono ?_
        rintro e w' ⟨he, hw⟩
        rw [hw]
        exact ⟨he, hsame wx hb, Fr.refl _ _⟩
      · obtain ⟨F', G', hp2, hf⟩ := id hh
        obtain ⟨vL, hr⟩ := hp2.r
        refine (refPut_long hr (by omega) I (T.rel.find hy.1) hpin vb xs hB hx M).mono ?_
        rintro e w' ⟨he, hw⟩
        rw [hw]
        exact ⟨he, hwh wx hh⟩
  · have hno : I ∉ P.keys ∨ (P.fr I).pins = 0 := by
      by_cases h1 : I ∈ P.keys
      · right
        by_cases h2 : (P.fr I).pins = 0
        · exact h2
        · exact absurd ⟨h1, h2⟩ hy
      · exact Or.inl h1
    refine ⟨72, P, fun wx vb hb hB => ?_, fun wx vb hh hB hBH => ?_⟩
    · refine (pd_put_bad (T.two.a.keepB hb) hI hno vb M).mono ?_
      rintro e w' ⟨he, hw⟩
      rw [hw]
      exact ⟨he, hsame wx hb, Fr.refl _ _⟩
    · obtain ⟨F', G', hp2, hf⟩ := id hh
      obtain ⟨vL, hr⟩ := hp2.r
      refine (refPut_bad hr (by omega) I ?_ vb M).mono ?_
      · rcases hno with h1 | h1
        · exact Or.inl (T.rel.not h1)
        · right
          intro f hf2 hfp
          have h6 := (T.rel.fr f hf2).pins
          rw [hfp, h1] at h6
          exact h6
      · rintro e w' ⟨he, hw⟩
        rw [hw]
        exact ⟨he, hwh wx hh⟩
set_option maxRecDepth 100000 in
set_option maxHeartbeats 8000000 in
theorem step_put2 {base : Nat} {w : World} {F G H K : Nat → Prop} {p dp : Value} {g : Nat} {dq : Value} {P : PS} {D : DS} {N : Int} {L : List EV} {R : RPS} {k : Nat} (T : Two7 base w F G H K p dp g dq P D N L R k) (hk : k < 150) (I : Int) (c : UInt8) (M : Int) (hI : -9223372036854775808 ≤ I ∧ I ≤ 9223372036854775807) (hM : 0 ≤ M ∧ M ≤ 18446744073709551615) :
    Calls Try.prog 11 #[p, .pointer (some ⟨g, 0, none⟩), opA 2 I c M] w fun e w' => StepOut base w p dp g dq N k e w' := by
  obtain ⟨gp, dg, hpp, hdp⟩ := T.two.a.ptr
  subst hpp hdp
  have hs0 : Below w.heap.size w (w.alloc (opC 2 I c M)) := (Below.refl _ _).alloc (Nat.le_refl _) _
  have HT : Hid (Two7 base (w.alloc (opC 2 I c M)) F G H K (.pointer (some ⟨gp, 0, none⟩)) (.pointer (some ⟨dg, 0, none⟩)) g dq P D N L R k) := T.keepB hs0
  have hob := heap_alloc_new w (opC 2 I c M)
  have hbs := T.two.a.base_le
  have hgb : ¬ ((F w.heap.size ∨ G w.heap.size) ∨ (H w.heap.size ∨ K w.heap.size)) := fun h => by
    have := (T.lo _ h).2; omega
  have hsz : (w.alloc (opC 2 I c M)).heap.size = w.heap.size + 1 := by simp
  have HSZ : Hid ((w.alloc (opC 2 I c M)).heap.size = w.heap.size + 1) := hsz
  have HLO : Hid (∀ i, ((F i ∨ G i) ∨ (H i ∨ K i)) → i < (w.alloc (opC 2 I c M)).heap.size) := fun i hi => by have := (T.lo i hi).2; omega
  have HB0 : Hid (Below base w (w.alloc (opC 2 I c M))) := hs0.mono hbs
  clear T hsz
  generalize hwo : w.alloc (opC 2 I c M) = wo at *
  obtain ⟨E, P1, hA, hB⟩ := put_both HT.out hk I M hI hM (bodyL I c 2048)
  have HA : Hid (∀ wx vb, Below wo.heap.size wo wx → Bytes wx vb (bodyL I c 2048) → Calls Try.prog 19 #[.pointer (some ⟨gp, 0, none⟩), .int .i64 I, vb, .int .u64 M] wx fun e w' => e = .returned (.int .i64 E) ∧ HalfB base wo wx.heap.size F G H K (.pointer (some ⟨gp, 0, none⟩)) (.pointer (some ⟨dg, 0, none⟩)) g dq P1 D N L R w' ∧ Fr wx w' (fun i => F i ∨ G i)) := hA
  have HB : Hid (∀ wx vb, Half base wo F G H K (.pointer (some ⟨gp, 0, none⟩)) (.pointer (some ⟨dg, 0, none⟩)) g dq P1 D N L R wx → Bytes wx vb (bodyL I c 2048) → (∀ a n c, vb = .slice (some a) n c → ¬ H a.block) → Calls Try.prog 26 #[.pointer (some ⟨g, 0, none⟩), .int .i64 I, vb, .int .u64 M] wx fun e w' => e = .returned (.int .i64 E) ∧ Whole7 base wo F G H K (.pointer (some ⟨gp, 0, none⟩)) (.pointer (some ⟨dg, 0, none⟩)) g dq N k w') := hB
  have HOB : Hid (wo.heap[w.heap.size]? = some (.cells #[.int .i64 2, .int .i64 I, bv c, .int .u64 M] 45 (0, 0))) := hob
  have o0 : wo.cell? ⟨w.heap.size, 0, none⟩ = some (.int .i64 2) := by rw [cell_of_row wo _ 0 _ _ _ hob]; rfl
  have o1 : wo.cell? ⟨w.heap.size, 1, none⟩ = some (.int .i64 I) := by rw [cell_of_row wo _ 1 _ _ _ hob]; rfl
  have o2 : wo.cell? ⟨w.heap.size, 2, none⟩ = some (bv c) := by rw [cell_of_row wo _ 2 _ _ _ hob]; rfl
  have o3 : wo.cell? ⟨w.heap.size, 3, none⟩ = some (.int .u64 M) := by rw [cell_of_row wo _ 3 _ _ _ hob]; rfl
  have hbl := bodyL_len I c 2048
  clear hA hB hs0 hob
  have hbd := body_any 2 I c M 2048 (by omega) wo
  go_enter Try.func11, Try.ntmps11
  go_wp2_with fail
  refine hbd.mono ?_
  rintro e w1 ⟨rfl, hr1, hb1⟩
  have hs1 := hb1.size
  have hB1l := hr1.lt
  have HBy : Hid (Bytes w1 (.slice (some ⟨wo.heap.size + 1, 0, none⟩) 2048 2048) (bodyL I c 2048)) := by
    have := hr1.bytes hbl (Nat.le_refl _)
    exact this
  have HR1 : Hid (RowB w1 (wo.heap.size + 1) (bodyL I c 2048)) := hr1
  have q1 := cell_keep hb1 o1
  have q3 := cell_keep hb1 o3
  clear hbd hr1 o0 o1 o2 o3
  have hcp := HA.out w1 _ hb1 HBy.out
  obtain ⟨B1, hB1⟩ : ∃ B1, wo.heap.size + 1 = B1 := ⟨_, rfl⟩
  rw [hB1] at HBy HR1 hcp hB1l ⊢
  have HB1 : Hid (wo.heap.size + 1 = B1) := hB1
  clear hB1
  go_wp2_with fail
  refine hcp.mono ?_
  rintro e w2 ⟨rfl, hh2, hf2⟩
  have hs2 := hf2.size
  have HH2 : Hid (HalfB base wo w1.heap.size F G H K (.pointer (some ⟨gp, 0, none⟩)) (.pointer (some ⟨dg, 0, none⟩)) g dq P1 D N L R w2) := hh2
  have hnB : ¬ (F B1 ∨ G B1) := fun h => by have := HLO.out _ (Or.inl h); have := HB1.out; omega
  have hSc : Scrub7 w2 w2 B1 2048 := Scrub7.start ((hf2.block B1 hB1l hnB).trans HR1.out) (by simp [hbl])
  have HO2 : Hid (w2.heap[w.heap.size]? = some (.cells #[.int .i64 2, .int .i64 I, bv c, .int .u64 M] 45 (0, 0))) := (hf2.block _ (by have := HSZ.out; omega) (fun h => hgb (Or.inl h))).trans ((hb1.block _ (by have := HSZ.out; omega)).trans HOB.out)
  clear hcp hh2 hf2 HR1 HBy q1 q3 HA hnB
  go_wp2_with fail
  go_loopw [16] (fun iv wq => ∃ j : Nat, j ≤ 2048 ∧ iv = .int .i64 j ∧ Scrub7 w2 wq B1 2048) (fun iv _ => 2048 - (intOf iv).toNat)
  case atStart => exact ⟨0, Nat.zero_le _, rfl, hSc⟩
  case round =>
    rename World => wq
    obtain ⟨j, hj, rfl, hSq⟩ := hrel
    clear hSc
    by_cases hj1 : j < 2048
    · have tj : decide ((j : Int) < ((2048 : Nat) : Int)) = true := by simp; omega
      obtain ⟨u0, hu0⟩ := hSq.cell (k := j) (by omega)
      have hfz := hSq.frozen j
      have hSn := hSq.step j (.int .u8 8)
      go_wp2
      go_roundw
      case rel => exact ⟨j + 1, by omega, by go_num, hSn⟩
      case measure => simp [intOf]; omega
    · have tj : decide ((j : Int) < ((2048 : Nat) : Int)) = false := by simp; omega
      have hB1e := HB1.out
      have hsze := HSZ.out
      have HHq : Hid (Half base wo F G H K (.pointer (some ⟨gp, 0, none⟩)) (.pointer (some ⟨dg, 0, none⟩)) g dq P1 D N L R wq) := HH2.out.scrub hSq hB1l (by omega) HLO.out
      have hOq := (hSq.f.block w.heap.size (by omega) (by omega)).trans HO2.out
      have hszq := hSq.f.size
      have p0 : wq.cell? ⟨w.heap.size, 0, none⟩ = some (.int .i64 2) := by rw [cell_of_row wq _ 0 _ _ _ hOq]; rfl
      have p1 : wq.cell? ⟨w.heap.size, 1, none⟩ = some (.int .i64 I) := by rw [cell_of_row wq _ 1 _ _ _ hOq]; rfl
      have p2 : wq.cell? ⟨w.heap.size, 2, none⟩ = some (bv c) := by rw [cell_of_row wq _ 2 _ _ _ hOq]; rfl
      have p3 : wq.cell? ⟨w.heap.size, 3, none⟩ = some (.int .u64 M) := by rw [cell_of_row wq _ 3 _ _ _ hOq]; rfl
      have HBD : Hid (∀ wx, (wx = wq ∨ wx = wq.drew) → Calls Try.prog 20 #[.agg #[.int .i64 2, .int .i64 I, bv c, .int .u64 M], .int .i64 (2048 : Nat)] wx fun e w' => e = .returned (.slice (some ⟨wq.heap.size + 1, 0, none⟩) 2048 2048) ∧ RowB w' (wq.heap.size + 1) (bodyL I c 2048) ∧ Below wq.heap.size wq w') := fun wx hwx => by
        have hb : Below wq.heap.size wq wx := by
          rcases hwx with rfl | rfl
          · exact Below.refl _ _
          · exact (Below.refl _ _).drew
        have hsx : wx.heap.size = wq.heap.size := by rcases hwx with rfl | rfl <;> rfl
        refine (body_any 2 I c M 2048 (by omega) wx).mono ?_
        rintro e w' ⟨h1, h2, h3⟩
        rw [hsx] at h1 h2 h3
        exact ⟨h1, h2, hb.trans h3⟩
      have HCP : Hid (∀ w3, RowB w3 (wq.heap.size + 1) (bodyL I c 2048) → Below wq.heap.size wq w3 → Calls Try.prog 26 #[.pointer (some ⟨g, 0, none⟩), .int .i64 I, .slice (some ⟨wq.heap.size + 1, 0, none⟩) 2048 2048, .int .u64 M] w3 fun e w' => e = .returned (.int .i64 E) ∧ Whole7 base wo F G H K (.pointer (some ⟨gp, 0, none⟩)) (.pointer (some ⟨dg, 0, none⟩)) g dq N k w') := fun w3 hr3 hb3 => by
        refine HB.out w3 _ (HHq.out.keepB hb3) (hr3.bytes hbl (Nat.le_refl _)) (fun a n cc e hx => ?_)
        cases e
        have := HLO.out _ (Or.inr (Or.inl hx))
        simp only at this
        omega
      have HKW : Hid (∀ wx, Whole7 base wo F G H K (.pointer (some ⟨gp, 0, none⟩)) (.pointer (some ⟨dg, 0, none⟩)) g dq N k wx → wx.cell? ⟨w.heap.size, 0, none⟩ = some (.int .i64 2) ∧ wx.cell? ⟨w.heap.size, 1, none⟩ = some (.int .i64 I) ∧ wx.cell? ⟨w.heap.size, 2, none⟩ = some (bv c) ∧ wx.cell? ⟨w.heap.size, 3, none⟩ = some (.int .u64 M)) := fun wx hh => by
        obtain ⟨_, _, _, _, _, _, _, _, _, hf⟩ := hh
        have hb5 := (hf.block _ (by omega) hgb).trans HOB.out
        exact ⟨by rw [cell_of_row wx _ 0 _ _ _ hb5]; rfl, by rw [cell_of_row wx _ 1 _ _ _ hb5]; rfl, by rw [cell_of_row wx _ 2 _ _ _ hb5]; rfl, by rw [cell_of_row wx _ 3 _ _ _ hb5]; rfl⟩
      have HKB : Hid (∀ wx, Below wq.heap.size wq wx → wx.cell? ⟨w.heap.size, 0, none⟩ = some (.int .i64 2) ∧ wx.cell? ⟨w.heap.size, 1, none⟩ = some (.int .i64 I) ∧ wx.cell? ⟨w.heap.size, 2, none⟩ = some (bv c) ∧ wx.cell? ⟨w.heap.size, 3, none⟩ = some (.int .u64 M)) := fun wx hb => ⟨cell_keep hb p0, cell_keep hb p1, cell_keep hb p2, cell_keep hb p3⟩
      clear hSq hOq HO2 HH2 HHq HB HOB hB1e
      go_wp2_with fail
      go_region_held_law (fun w' => w'.cell? ⟨w.heap.size, 0, none⟩ = some (.int .i64 2) ∧ w'.cell? ⟨w.heap.size, 1, none⟩ = some (.int .i64 I) ∧ w'.cell? ⟨w.heap.size, 2, none⟩ = some (bv c) ∧ w'.cell? ⟨w.heap.size, 3, none⟩ = some (.int .u64 M)) (first | exact ⟨p0, p1, p2, p3⟩ | exact HKB.out _ hb3 | exact HKW.out _ hh4)
        (first
          | (go_at_call 20; refine (HBD.out _ (by first | exact Or.inl rfl | exact Or.inr rfl)).mono ?_; rintro e w3 ⟨rfl, hr3, hb3⟩)
          | (go_at_call 26; refine (HCP.out _ hr3 hb3).mono ?_; rintro e w4 ⟨rfl, hh4⟩))
      go_wp2
      go_ret
      obtain ⟨F', G', H', K', P', D', L', R', hT, hf⟩ := hh4
      exact .mk rfl F' G' H' K' P' D' L' R' hT (HB0.out.trans (hf.below (by have := HB0.out.size; omega) (fun i hi => (HT.out.lo i hi).1)))

set_option maxRecDepth 100000 in
set_option maxHeartbeats 8000000 in
theorem step_put6 {base : Nat} {w : World} {F G H K : Nat → Prop} {p dp : Value} {g : Nat} {dq : Value} {P : PS} {D : DS} {N : Int} {L : List EV} {R : RPS} {k : Nat} (T : Two7 base w F G H K p dp g dq P D N L R k) (hk : k < 150) (I : Int) (c : UInt8) (M : Int) (hI : -9223372036854775808 ≤ I ∧ I ≤ 9223372036854775807) (hM : 0 ≤ M ∧ M ≤ 18446744073709551615) :
    Calls Try.prog 11 #[p, .pointer (some ⟨g, 0, none⟩), opA 6 I c M] w fun e w' => StepOut base w p dp g dq N k e w' := by
  obtain ⟨gp, dg, hpp, hdp⟩ := T.two.a.ptr
  subst hpp hdp
  have hs0 : Below w.heap.size w (w.alloc (opC 6 I c M)) := (Below.refl _ _).alloc (Nat.le_refl _) _
  have HT : Hid (Two7 base (w.alloc (opC 6 I c M)) F G H K (.pointer (some ⟨gp, 0, none⟩)) (.pointer (some ⟨dg, 0, none⟩)) g dq P D N L R k) := T.keepB hs0
  have hob := heap_alloc_new w (opC 6 I c M)
  have hbs := T.two.a.base_le
  have hgb : ¬ ((F w.heap.size ∨ G w.heap.size) ∨ (H w.heap.size ∨ K w.heap.size)) := fun h => by
    have := (T.lo _ h).2; omega
  have hsz : (w.alloc (opC 6 I c M)).heap.size = w.heap.size + 1 := by simp
  have HSZ : Hid ((w.alloc (opC 6 I c M)).heap.size = w.heap.size + 1) := hsz
  have HLO : Hid (∀ i, ((F i ∨ G i) ∨ (H i ∨ K i)) → i < (w.alloc (opC 6 I c M)).heap.size) := fun i hi => by have := (T.lo i hi).2; omega
  have HB0 : Hid (Below base w (w.alloc (opC 6 I c M))) := hs0.mono hbs
  clear T hsz
  obtain ⟨n, hn⟩ : ∃ n : Nat, M % 3000 = (n : Int) := ⟨(M % 3000).toNat, by omega⟩
  have hn3 : n < 3000 := by omega
  have hrem : Int.tmod M 3000 = (n : Int) := by rw [Int.tmod_eq_emod_of_nonneg hM.1]; exact hn
  have hw1 : IntKind.u64.wrap (n : Int) = n := by simp [IntKind.wrap, IntKind.bits, IntKind.signed]; omega
  have hw2 : IntKind.i64.wrap (n : Int) = n := wrap64 (by omega)
  generalize hwo : w.alloc (opC 6 I c M) = wo at *
  obtain ⟨E, P1, hA, hB⟩ := put_both HT.out hk I M hI hM (bodyL I c n)
  have HA : Hid (∀ wx vb, Below wo.heap.size wo wx → Bytes wx vb (bodyL I c n) → Calls Try.prog 19 #[.pointer (some ⟨gp, 0, none⟩), .int .i64 I, vb, .int .u64 M] wx fun e w' => e = .returned (.int .i64 E) ∧ HalfB base wo wx.heap.size F G H K (.pointer (some ⟨gp, 0, none⟩)) (.pointer (some ⟨dg, 0, none⟩)) g dq P1 D N L R w' ∧ Fr wx w' (fun i => F i ∨ G i)) := hA
  have HB : Hid (∀ wx vb, Half base wo F G H K (.pointer (some ⟨gp, 0, none⟩)) (.pointer (some ⟨dg, 0, none⟩)) g dq P1 D N L R wx → Bytes wx vb (bodyL I c n) → (∀ a n c, vb = .slice (some a) n c → ¬ H a.block) → Calls Try.prog 26 #[.pointer (some ⟨g, 0, none⟩), .int .i64 I, vb, .int .u64 M] wx fun e w' => e = .returned (.int .i64 E) ∧ Whole7 base wo F G H K (.pointer (some ⟨gp, 0, none⟩)) (.pointer (some ⟨dg, 0, none⟩)) g dq N k w') := hB
  have HOB : Hid (wo.heap[w.heap.size]? = some (.cells #[.int .i64 6, .int .i64 I, bv c, .int .u64 M] 45 (0, 0))) := hob
  have o0 : wo.cell? ⟨w.heap.size, 0, none⟩ = some (.int .i64 6) := by rw [cell_of_row wo _ 0 _ _ _ hob]; rfl
  have o1 : wo.cell? ⟨w.heap.size, 1, none⟩ = some (.int .i64 I) := by rw [cell_of_row wo _ 1 _ _ _ hob]; rfl
  have o2 : wo.cell? ⟨w.heap.size, 2, none⟩ = some (bv c) := by rw [cell_of_row wo _ 2 _ _ _ hob]; rfl
  have o3 : wo.cell? ⟨w.heap.size, 3, none⟩ = some (.int .u64 M) := by rw [cell_of_row wo _ 3 _ _ _ hob]; rfl
  have hbl := bodyL_len I c n
  clear hA hB hs0 hob
  have hbd := body_any 6 I c M n (by omega) wo
  go_enter Try.func11, Try.ntmps11
  go_wp2_with fail
  refine hbd.mono ?_
  rintro e w1 ⟨rfl, hr1, hb1⟩
  have hs1 := hb1.size
  have hB1l := hr1.lt
  have HBy : Hid (Bytes w1 (.slice (some ⟨wo.heap.size + 1, 0, none⟩) n n) (bodyL I c n)) := by
    have := hr1.bytes hbl (Nat.le_refl _)
    exact this
  have HR1 : Hid (RowB w1 (wo.heap.size + 1) (bodyL I c n)) := hr1
  have q1 := cell_keep hb1 o1
  have q3 := cell_keep hb1 o3
  clear hbd hr1 o0 o1 o2 o3
  have hcp := HA.out w1 _ hb1 HBy.out
  obtain ⟨B1, hB1⟩ : ∃ B1, wo.heap.size + 1 = B1 := ⟨_, rfl⟩
  rw [hB1] at HBy HR1 hcp hB1l ⊢
  have HB1 : Hid (wo.heap.size + 1 = B1) := hB1
  clear hB1
  go_wp2_with fail
  refine hcp.mono ?_
  rintro e w2 ⟨rfl, hh2, hf2⟩
  have hs2 := hf2.size
  have HH2 : Hid (HalfB base wo w1.heap.size F G H K (.pointer (some ⟨gp, 0, none⟩)) (.pointer (some ⟨dg, 0, none⟩)) g dq P1 D N L R w2) := hh2
  have hnB : ¬ (F B1 ∨ G B1) := fun h => by have := HLO.out _ (Or.inl h); have := HB1.out; omega
  have hSc : Scrub7 w2 w2 B1 n := Scrub7.start ((hf2.block B1 hB1l hnB).trans HR1.out) (by simp [hbl])
  have HO2 : Hid (w2.heap[w.heap.size]? = some (.cells #[.int .i64 6, .int .i64 I, bv c, .int .u64 M] 45 (0, 0))) := (hf2.block _ (by have := HSZ.out; omega) (fun h => hgb (Or.inl h))).trans ((hb1.block _ (by have := HSZ.out; omega)).trans HOB.out)
  clear hcp hh2 hf2 HR1 HBy q1 q3 HA hnB
  go_wp2_with fail
  go_loopw [16] (fun iv wq => ∃ j : Nat, j ≤ n ∧ iv = .int .i64 j ∧ Scrub7 w2 wq B1 n) (fun iv _ => n - (intOf iv).toNat)
  case atStart => exact ⟨0, Nat.zero_le _, rfl, hSc⟩
  case round =>
    rename World => wq
    obtain ⟨j, hj, rfl, hSq⟩ := hrel
    clear hSc
    by_cases hj1 : j < n
    · have tj : decide ((j : Int) < ((n : Nat) : Int)) = true := by simp; omega
      obtain ⟨u0, hu0⟩ := hSq.cell (k := j) (by omega)
      have hfz := hSq.frozen j
      have hSn := hSq.step j (.int .u8 8)
      go_wp2
      go_roundw
      case rel => exact ⟨j + 1, by omega, by go_num, hSn⟩
      case measure => simp [intOf]; omega
    · have tj : decide ((j : Int) < ((n : Nat) : Int)) = false := by simp; omega
      have hB1e := HB1.out
      have hsze := HSZ.out
      have HHq : Hid (Half base wo F G H K (.pointer (some ⟨gp, 0, none⟩)) (.pointer (some ⟨dg, 0, none⟩)) g dq P1 D N L R wq) := HH2.out.scrub hSq hB1l (by omega) HLO.out
      have hOq := (hSq.f.block w.heap.size (by omega) (by omega)).trans HO2.out
      have hszq := hSq.f.size
      have p0 : wq.cell? ⟨w.heap.size, 0, none⟩ = some (.int .i64 6) := by rw [cell_of_row wq _ 0 _ _ _ hOq]; rfl
      have p1 : wq.cell? ⟨w.heap.size, 1, none⟩ = some (.int .i64 I) := by rw [cell_of_row wq _ 1 _ _ _ hOq]; rfl
      have p2 : wq.cell? ⟨w.heap.size, 2, none⟩ = some (bv c) := by rw [cell_of_row wq _ 2 _ _ _ hOq]; rfl
      have p3 : wq.cell? ⟨w.heap.size, 3, none⟩ = some (.int .u64 M) := by rw [cell_of_row wq _ 3 _ _ _ hOq]; rfl
      have HBD : Hid (∀ wx, (wx = wq ∨ wx = wq.drew) → Calls Try.prog 20 #[.agg #[.int .i64 6, .int .i64 I, bv c, .int .u64 M], .int .i64 (n : Nat)] wx fun e w' => e = .returned (.slice (some ⟨wq.heap.size + 1, 0, none⟩) n n) ∧ RowB w' (wq.heap.size + 1) (bodyL I c n) ∧ Below wq.heap.size wq w') := fun wx hwx => by
        have hb : Below wq.heap.size wq wx := by
          rcases hwx with rfl | rfl
          · exact Below.refl _ _
          · exact (Below.refl _ _).drew
        have hsx : wx.heap.size = wq.heap.size := by rcases hwx with rfl | rfl <;> rfl
        refine (body_any 6 I c M n (by omega) wx).mono ?_
        rintro e w' ⟨h1, h2, h3⟩
        rw [hsx] at h1 h2 h3
        exact ⟨h1, h2, hb.trans h3⟩
      have HCP : Hid (∀ w3, RowB w3 (wq.heap.size + 1) (bodyL I c n) → Below wq.heap.size wq w3 → Calls Try.prog 26 #[.pointer (some ⟨g, 0, none⟩), .int .i64 I, .slice (some ⟨wq.heap.size + 1, 0, none⟩) n n, .int .u64 M] w3 fun e w' => e = .returned (.int .i64 E) ∧ Whole7 base wo F G H K (.pointer (some ⟨gp, 0, none⟩)) (.pointer (some ⟨dg, 0, none⟩)) g dq N k w') := fun w3 hr3 hb3 => by
        refine HB.out w3 _ (HHq.out.keepB hb3) (hr3.bytes hbl (Nat.le_refl _)) (fun a n cc e hx => ?_)
        cases e
        have := HLO.out _ (Or.inr (Or.inl hx))
        simp only at this
        omega
      have HKW : Hid (∀ wx, Whole7 base wo F G H K (.pointer (some ⟨gp, 0, none⟩)) (.pointer (some ⟨dg, 0, none⟩)) g dq N k wx → wx.cell? ⟨w.heap.size, 0, none⟩ = some (.int .i64 6) ∧ wx.cell? ⟨w.heap.size, 1, none⟩ = some (.int .i64 I) ∧ wx.cell? ⟨w.heap.size, 2, none⟩ = some (bv c) ∧ wx.cell? ⟨w.heap.size, 3, none⟩ = some (.int .u64 M)) := fun wx hh => by
        obtain ⟨_, _, _, _, _, _, _, _, _, hf⟩ := hh
        have hb5 := (hf.block _ (by omega) hgb).trans HOB.out
        exact ⟨by rw [cell_of_row wx _ 0 _ _ _ hb5]; rfl, by rw [cell_of_row wx _ 1 _ _ _ hb5]; rfl, by rw [cell_of_row wx _ 2 _ _ _ hb5]; rfl, by rw [cell_of_row wx _ 3 _ _ _ hb5]; rfl⟩
      have HKB : Hid (∀ wx, Below wq.heap.size wq wx → wx.cell? ⟨w.heap.size, 0, none⟩ = some (.int .i64 6) ∧ wx.cell? ⟨w.heap.size, 1, none⟩ = some (.int .i64 I) ∧ wx.cell? ⟨w.heap.size, 2, none⟩ = some (bv c) ∧ wx.cell? ⟨w.heap.size, 3, none⟩ = some (.int .u64 M)) := fun wx hb => ⟨cell_keep hb p0, cell_keep hb p1, cell_keep hb p2, cell_keep hb p3⟩
      clear hSq hOq HO2 HH2 HHq HB HOB hB1e
      go_wp2_with fail
      go_region_held_law (fun w' => w'.cell? ⟨w.heap.size, 0, none⟩ = some (.int .i64 6) ∧ w'.cell? ⟨w.heap.size, 1, none⟩ = some (.int .i64 I) ∧ w'.cell? ⟨w.heap.size, 2, none⟩ = some (bv c) ∧ w'.cell? ⟨w.heap.size, 3, none⟩ = some (.int .u64 M)) (first | exact ⟨p0, p1, p2, p3⟩ | exact HKB.out _ hb3 | exact HKW.out _ hh4)
        (first
          | (go_at_call 20; refine (HBD.out _ (by first | exact Or.inl rfl | exact Or.inr rfl)).mono ?_; rintro e w3 ⟨rfl, hr3, hb3⟩)
          | (go_at_call 26; refine (HCP.out _ hr3 hb3).mono ?_; rintro e w4 ⟨rfl, hh4⟩))
      go_wp2
      go_ret
      obtain ⟨F', G', H', K', P', D', L', R', hT, hf⟩ := hh4
      exact .mk rfl F' G' H' K' P' D' L' R' hT (HB0.out.trans (hf.below (by have := HB0.out.size; omega) (fun i hi => (HT.out.lo i hi).1)))
end Go.Proofs.Ytpmbpadckbkglaa

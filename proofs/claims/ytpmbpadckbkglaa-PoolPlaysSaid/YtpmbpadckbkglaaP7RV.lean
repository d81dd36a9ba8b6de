/- The law's step: Pin. -/
import Derived.Test.YtpmbpadckbkglaaP7RT
import Derived.Test.YtpmbpadckbkglaaP7RM
namespace Go.Proofs.Ytpmbpadckbkglaa
open Go.RowKit Go.Maps
set_option linter.unusedVariables false
set_option linter.unusedSimpArgs false

/-- Behind both Pins that told bytes. -/
structure PinOk7 (base : Nat) (w0 : World) (F G H K : Nat → Prop) (p dp : Value) (g : Nat) (dq : Value) (N : Int) (k : Nat) (bs : List UInt8) (gv cap : Nat) (v2 : Value) (w' : World) : Prop where
  c : ∃ cur, w'.heap[gv]? = some (.cells cur 5 (0, 0)) ∧ cur.size = cap
  b1 : Bytes w' (.slice (some ⟨gv, 0, none⟩) 2048 cap) bs
  b2 : Bytes w' v2 bs
  s : ∀ wq, Scrub7 w' wq gv cap → Whole7 base w0 F G H K p dp g dq N k wq
set_option maxRecDepth 100000 in
set_option maxHeartbeats 8000000 in
theorem step_pin (HL : PinLaw) {base : Nat} {w : World} {F G H K : Nat → Prop} {p dp : Value} {g : Nat} {dq : Value} {P : PS} {D : DS} {N : Int} {L : List EV} {R : RPS} {k : Nat} (T : Two7 base w F G H K p dp g dq P D N L R k) (hk : k < 150) (I : Int) (c : UInt8) (M : Int) (hI : -9223372036854775808 ≤ I ∧ I ≤ 9223372036854775807) :
    Calls Try.prog 11 #[p, .pointer (some ⟨g, 0, none⟩), opA 1 I c M] w fun e w' => StepOut base w p dp g dq N k e w' := by
  obtain ⟨gp, dg, hpp, hdp⟩ := T.two.a.ptr
  subst hpp hdp
  have hs0 : Below w.heap.size w (w.alloc (opC 1 I c M)) := (Below.refl _ _).alloc (Nat.le_refl _) _
  have HT : Hid (Two7 base (w.alloc (opC 1 I c M)) F G H K (.pointer (some ⟨gp, 0, none⟩)) (.pointer (some ⟨dg, 0, none⟩)) g dq P D N L R k) := T.keepB hs0
  have hob := heap_alloc_new w (opC 1 I c M)
  have hbs := T.two.a.base_le
  have hgb : ¬ ((F w.heap.size ∨ G w.heap.size) ∨ (H w.heap.size ∨ K w.heap.size)) := fun h => by
    have := (T.lo _ h).2; omega
  have HSZ : Hid ((w.alloc (opC 1 I c M)).heap.size = w.heap.size + 1) := by
    show (w.alloc (opC 1 I c M)).heap.size = w.heap.size + 1
    simp
  have HLO : Hid (∀ i, ((F i ∨ G i) ∨ (H i ∨ K i)) → i < w.heap.size) := fun i hi => (T.lo i hi).2
  have HB0 : Hid (Below base w (w.alloc (opC 1 I c M))) := hs0.mono hbs
  have hus := T.uses
  have hws := T.ws
  have hll := T.ll
  clear T
  generalize hwo : w.alloc (opC 1 I c M) = wo at *
  have o0 : wo.cell? ⟨w.heap.size, 0, none⟩ = some (.int .i64 1) := by rw [cell_of_row wo _ 0 _ _ _ hob]; rfl
  have o1 : wo.cell? ⟨w.heap.size, 1, none⟩ = some (.int .i64 I) := by rw [cell_of_row wo _ 1 _ _ _ hob]; rfl
  have hfin : ∀ wy, Whole7 base wo F G H K (.pointer (some ⟨gp, 0, none⟩)) (.pointer (some ⟨dg, 0, none⟩)) g dq N k wy → StepOut base w (.pointer (some ⟨gp, 0, none⟩)) (.pointer (some ⟨dg, 0, none⟩)) g dq N k (.returned (.bool true)) wy := fun wy hh => by
    obtain ⟨F', G', H', K', P', D', L', R', hT, hf⟩ := hh
    exact .mk rfl F' G' H' K' P' D' L' R' hT (HB0.out.trans (hf.below (by have := HB0.out.size; omega) (fun i hi => (HT.out.lo i hi).1)))
  have HFIN : Hid (∀ wy, Whole7 base wo F G H K (.pointer (some ⟨gp, 0, none⟩)) (.pointer (some ⟨dg, 0, none⟩)) g dq N k wy → StepOut base w (.pointer (some ⟨gp, 0, none⟩)) (.pointer (some ⟨dg, 0, none⟩)) g dq N k (.returned (.bool true)) wy) := hfin
  have hok := HT.out.two.a.ok
  clear hs0 hob hfin
  by_cases hr : 0 ≤ I ∧ I < P.pages
  · have hpin := pd_pin HT.out.two.a (by omega) (by omega) hr
    go_enter Try.func11, Try.ntmps11
    go_wp2_with fail
    refine hpin.mono ?_
    intro e w1 ho
    cases ho with
    | err cc he hnk hc hb =>
      subst he
      have q1 := cell_keep hb o1
      have hh1 := Half.of_same HT.out hb
      obtain ⟨F', G', hp2, hf⟩ := id hh1
      obtain ⟨vL, hrr⟩ := hp2.r
      have HC2 : Hid (Calls Try.prog 25 #[.pointer (some ⟨g, 0, none⟩), .int .i64 I] w1 fun e w' => e = .returned (.tuple #[.slice none 0 0, .int .i64 cc]) ∧ Whole7 base wo F G H K (.pointer (some ⟨gp, 0, none⟩)) (.pointer (some ⟨dg, 0, none⟩)) g dq N k w') := by
        refine (HL base w1 H K g dq vL R N [] L P D I hrr hp2.d hp2.dis2 HT.out.rel hok HT.out.fit HT.out.rd (by simp; omega) (by omega) hr).mono ?_
        intro e w2 ho
        cases ho with
        | ok P2 D2 bs2 ht2 v2 he2 hv2 H2 K2 vL2 R2 L2 hP2 hR2 hdis2 hrel2 hrd2 hlen2 hf2 hH2 hK2 => exact (ht2.noerr hnk hc).elim
        | err dd he2 hnk2 hc2 hb2 =>
          obtain rfl := hc.one hc2
          exact ⟨he2, F', G', H, K, P, D, L, R, { HT.out.next with two := hp2.keepB hb2 }, Half.fr hh1 (Fr.of_below hb2)⟩
      clear hpin hh1 hp2 hf hrr o0 o1
      go_wp2_with fail
      refine HC2.out.mono ?_
      rintro e w2 ⟨rfl, hw2⟩
      have HW2 : Hid (Whole7 base wo F G H K (.pointer (some ⟨gp, 0, none⟩)) (.pointer (some ⟨dg, 0, none⟩)) g dq N k w2) := hw2
      have hsm := same7 (.slice none 0 0) (.slice none 0 0) [] [] w2 (Or.inl ⟨rfl, rfl⟩) (Or.inl ⟨rfl, rfl⟩)
      rw [decide_eq_true rfl] at hsm
      clear hw2 HC2 q1
      go_wp2_with (go_at_call 17; refine hsm.mono ?_; rintro e wx ⟨rfl, hwx⟩; rw [hwx]; clear hwx wx)
      go_loopw [12] (fun iv wq => iv = .int .i64 0 ∧ wq = w2) (fun _ _ => 0)
      case atStart => exact ⟨rfl, rfl⟩
      case round =>
        obtain ⟨rfl, hwq⟩ := hrel
        rw [hwq]
        go_wp2
        all_goals (go_ret; exact HFIN.out _ HW2.out)
    | ok P1 D1 bs ht hkk v he hv F1 G1 hP1 hf1 hF1 hG1 hn1 =>
      subst he
      have hs1 := hf1.size
      have hsz := HSZ.out
      have q1 := fr_cell hf1 (fun h => hgb (Or.inl h)) o1
      obtain ⟨gv, cap, cur, hve, hgv, hgvl, hcc, hcs, hcap⟩ := hv.cells7 (by have := hkk.len; omega)
      rw [hkk.len] at hve hcap
      subst hve
      have hp2 := HT.out.two.turnP hP1 hf1 hF1 hG1
      obtain ⟨vL, hrr⟩ := hp2.r
      have hby := hv.toBytes
      have hngv := hn1 gv rfl
      have HC2 : Hid (Calls Try.prog 25 #[.pointer (some ⟨g, 0, none⟩), .int .i64 I] w1 fun e w' => ∃ v2, e = .returned (.tuple #[v2, .int .i64 0]) ∧ PinOk7 base wo F G H K (.pointer (some ⟨gp, 0, none⟩)) (.pointer (some ⟨dg, 0, none⟩)) g dq N k bs gv cap v2 w') := by
        refine (HL base w1 H K g dq vL R N [] L P D I hrr hp2.d hp2.dis2 HT.out.rel hok HT.out.fit HT.out.rd (by simp; omega) (by omega) hr).mono ?_
        intro e w2 ho
        cases ho with
        | err dd he2 hnk2 hc2 hb2 => exact (ht.noerr hnk2 hc2).elim
        | ok P2 D2 bs2 ht2 v2 he2 hv2 H2 K2 vL2 R2 L2 hP2 hR2 hdis2 hrel2 hrd2 hlen2 hf2 hH2 hK2 =>
          obtain ⟨rfl, rfl, rfl⟩ := ht.one hok ht2
          have hnHK : ¬ (H gv ∨ K gv) := fun hx => by have := HLO.out _ (Or.inr hx); omega
          have hc2 : w2.heap[gv]? = some (.cells cur 5 (0, 0)) := (hf2.block gv hgvl hnHK).trans hcc
          have hp3 := hp2.turnR hP2 hR2 hdis2 hf2 hH2 hK2
          refine ⟨v2, he2, ⟨⟨cur, hc2, hcs⟩, hby.keepFr hf2 (fun a n cc e hx => ?_), hv2.toBytes, fun wq hsq => ?_⟩⟩
          · cases e; exact hnHK hx
          · have hp4 := hp3.keepF hsq.f (fun i hi e => by
              subst e
              rcases hi with hi | hi
              · exact hngv.1 hi
              · exact hngv.2 hi) (fun i hi e => by
              subst e
              rcases hi with hi | hi
              · rcases hH2 _ hi with h5 | h5
                · exact hnHK (Or.inl h5)
                · omega
              · rcases hK2 _ hi with h5 | h5
                · exact hnHK (Or.inr h5)
                · omega)
            refine ⟨F1, G1, H2, K2, P1, D1, L2, R2, ⟨hp4, hrel2, hrd2, by rw [hkk.dsize]; exact HT.out.size, by rw [hkk.first, hkk.pages]; exact HT.out.fit, by rw [hkk.pages]; exact HT.out.pg, by rw [hkk.uses]; omega, by have := hkk.ws; omega, by omega⟩, ?_⟩
            refine ((hf1.mono (fun i hi => Or.inl hi)).trans (hf2.mono (G := fun i => (F i ∨ G i) ∨ (H i ∨ K i)) (fun i hi => Or.inr hi)) (fun i hi => Or.inl hi)).trans hsq.f (fun i e => Or.inr (by omega))
      clear hpin hp2 hrr o0 o1 hv hby hP1 hF1 hG1 hn1 hf1 ht hcc
      go_wp2_with fail
      refine HC2.out.mono ?_
      rintro e w2 ⟨v2, rfl, hpk⟩
      have HPK : Hid (PinOk7 base wo F G H K (.pointer (some ⟨gp, 0, none⟩)) (.pointer (some ⟨dg, 0, none⟩)) g dq N k bs gv cap v2 w2) := hpk
      have hsm := same7 _ _ bs bs w2 hpk.b1 hpk.b2
      rw [decide_eq_true rfl] at hsm
      obtain ⟨cur2, hc2, hcs2⟩ := hpk.c
      have hSc : Scrub7 w2 w2 gv cap := Scrub7.start hc2 hcs2
      clear hpk HC2 q1 hc2 hcs2
      go_wp2_with (go_at_call 17; refine hsm.mono ?_; rintro e wx ⟨rfl, hwx⟩; rw [hwx]; clear hwx wx)
      go_loopw [12] (fun iv wq => ∃ j : Nat, j ≤ 2048 ∧ iv = .int .i64 j ∧ Scrub7 w2 wq gv cap) (fun iv _ => 2048 - (intOf iv).toNat)
      case atStart => exact ⟨0, Nat.zero_le _, rfl, hSc⟩
      case round =>
        rename World => wq
        obtain ⟨j, hj, rfl, hSq⟩ := hrel
        clear hSc
        by_cases hj1 : j < 2048
        · have tj : decide ((j : Int) < 2048) = true := by simp; omega
          obtain ⟨u0, hu0⟩ := hSq.cell (k := j) (by omega)
          have hfz := hSq.frozen j
          have hSn := hSq.step j (.int .u8 9)
          go_wp2
          go_roundw
          case rel => exact ⟨j + 1, by omega, by go_num, hSn⟩
          case measure => simp [intOf]; omega
        · have tj : decide ((j : Int) < 2048) = false := by simp; omega
          have hW := HPK.out.s _ hSq
          have HW : Hid (Whole7 base wo F G H K (.pointer (some ⟨gp, 0, none⟩)) (.pointer (some ⟨dg, 0, none⟩)) g dq N k wq) := hW
          clear hSq HPK hW
          go_wp2
          all_goals (go_ret; exact HFIN.out _ HW.out)
  · have hpin := pd_pin_range HT.out.two.a (k := I) (by omega)
    obtain ⟨vL, hrr⟩ := HT.out.two.r
    have hpn2 := refPin_range hrr (p := I) (by rw [HT.out.rel.pages]; omega)
    have hW : Whole7 base wo F G H K (.pointer (some ⟨gp, 0, none⟩)) (.pointer (some ⟨dg, 0, none⟩)) g dq N k wo := ⟨F, G, H, K, P, D, L, R, HT.out.next, Fr.refl _ _⟩
    have HW : Hid (Whole7 base wo F G H K (.pointer (some ⟨gp, 0, none⟩)) (.pointer (some ⟨dg, 0, none⟩)) g dq N k wo) := hW
    have hsm := same7 (.slice none 0 0) (.slice none 0 0) [] [] wo (Or.inl ⟨rfl, rfl⟩) (Or.inl ⟨rfl, rfl⟩)
    rw [decide_eq_true rfl] at hsm
    clear hrr hW
    go_enter Try.func11, Try.ntmps11
    go_wp2_with (first
      | (go_at_call 18; refine hpin.mono ?_; rintro e wx ⟨rfl, hwx⟩; rw [hwx]; clear hwx wx)
      | (go_at_call 25; refine hpn2.mono ?_; rintro e wx ⟨rfl, hwx⟩; rw [hwx]; clear hwx wx)
      | (go_at_call 17; refine hsm.mono ?_; rintro e wx ⟨rfl, hwx⟩; rw [hwx]; clear hwx wx))
    go_loopw [12] (fun iv wq => iv = .int .i64 0 ∧ wq = wo) (fun _ _ => 0)
    case atStart => exact ⟨rfl, rfl⟩
    case round =>
      obtain ⟨rfl, hwq⟩ := hrel
      rw [hwq]
      go_wp2
      all_goals (go_ret; exact HFIN.out _ HW.out)

theorem pinLaw : PinLaw := by
  intro base w H G g dq vL R N F L P D p h hq hdis hrel hok hfit hrd hcnt hus hp
  by_cases hk : p ∈ P.keys
  · exact refPin_held h hq hdis hrel hok hrd hk
  · exact refPin_came h hq hdis hrel hok hfit hrd hcnt hus hp hk
theorem step_any {base : Nat} {w : World} {F G H K : Nat → Prop} {p dp : Value} {g : Nat} {dq : Value} {P : PS} {D : DS} {N : Int} {L : List EV} {R : RPS} {k : Nat} (T : Two7 base w F G H K p dp g dq P D N L R k) (hk : k < 150) (Q I : Int) (c : UInt8) (M : Int) (hI : -9223372036854775808 ≤ I ∧ I ≤ 9223372036854775807) (hM : 0 ≤ M ∧ M ≤ 18446744073709551615) :
    Calls Try.prog 11 #[p, .pointer (some ⟨g, 0, none⟩), .agg #[.int .i64 Q, .int .i64 I, bv c, .int .u64 M]] w fun e w' => StepOut base w p dp g dq N k e w' := by
  by_cases h1 : Q = 1
  · subst h1; exact step_pin pinLaw T hk I c M hI
  by_cases h2 : Q = 2
  · subst h2; exact step_put2 T hk I c M hI hM
  by_cases h3 : Q = 3
  · subst h3; exact step_unpin T hk I c M hI
  by_cases h4 : Q = 4
  · subst h4; exact step_safe T I c M hM
  by_cases h5 : Q = 5
  · subst h5; exact step_flush T hk I c M
  by_cases h6 : Q = 6
  · subst h6; exact step_put6 T hk I c M hI hM
  exact step_none T Q I c M (by omega)
end Go.Proofs.Ytpmbpadckbkglaa

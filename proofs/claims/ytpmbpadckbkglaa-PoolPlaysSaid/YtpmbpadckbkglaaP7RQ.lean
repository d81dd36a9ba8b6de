/- The law's step: Unpin, Flush, Safe, nothing. -/
import Derived.Test.YtpmbpadckbkglaaP7RP
namespace Go.Proofs.Ytpmbpadckbkglaa
open Go.RowKit Go.Maps
set_option linter.unusedVariables false
set_option linter.unusedSimpArgs false

/-- What a step comes to. -/
inductive StepOut (base : Nat) (w : World) (p dp : Value) (g : Nat) (dq : Value) (N : Int) (k : Nat) (e : Ending) (w' : World) : Prop
  | mk (he : e = .returned (.bool true)) (F' G' H' K' : Nat → Prop) (P' : PS) (D' : DS) (L' : List EV) (R' : RPS) (h : Two7 base w' F' G' H' K' p dp g dq P' D' N L' R' (k + 1)) (hb : Below base w w')
theorem Two7.next {base : Nat} {w : World} {F G H K : Nat → Prop} {p dp : Value} {g : Nat} {dq : Value} {P : PS} {D : DS} {N : Int} {L : List EV} {R : RPS} {k : Nat} (h : Two7 base w F G H K p dp g dq P D N L R k) : Two7 base w F G H K p dp g dq P D N L R (k + 1) := { h with uses := by have := h.uses; omega, ws := by have := h.ws; omega, ll := by have := h.ll; omega }
theorem Two7.keepB {base : Nat} {w w' : World} {F G H K : Nat → Prop} {p dp : Value} {g : Nat} {dq : Value} {P : PS} {D : DS} {N : Int} {L : List EV} {R : RPS} {k : Nat} (h : Two7 base w F G H K p dp g dq P D N L R k) (hb : Below w.heap.size w w') : Two7 base w' F G H K p dp g dq P D N L R k := { h with two := h.two.keepB hb }
theorem Two7.len {base : Nat} {w : World} {F G H K : Nat → Prop} {p dp : Value} {g : Nat} {dq : Value} {P : PS} {D : DS} {N : Int} {L : List EV} {R : RPS} {k : Nat} (h : Two7 base w F G H K p dp g dq P D N L R k) : R.l.length ≤ 64 := by
  have := h.rel.len h.two.a.ok; have := h.two.a.ok.len; have := h.two.a.ok.size; omega
/-- Behind the program's half of a step. -/
def Half (base : Nat) (w0 : World) (F G H K : Nat → Prop) (p dp : Value) (g : Nat) (dq : Value) (P : PS) (D : DS) (N : Int) (L : List EV) (R : RPS) (w' : World) : Prop := ∃ F' G', Pair7 base w' F' G' H K p dp g dq 0 P D N L R ∧ Fr w0 w' (fun i => F i ∨ G i)
/-- Behind both halves. -/
def Whole7 (base : Nat) (w0 : World) (F G H K : Nat → Prop) (p dp : Value) (g : Nat) (dq : Value) (N : Int) (k : Nat) (w' : World) : Prop := ∃ F' G' H' K' P' D' L' R', Two7 base w' F' G' H' K' p dp g dq P' D' N L' R' (k + 1) ∧ Fr w0 w' (fun i => (F i ∨ G i) ∨ (H i ∨ K i))
theorem Half.of_same {base : Nat} {w0 wx : World} {F G H K : Nat → Prop} {p dp : Value} {g : Nat} {dq : Value} {P : PS} {D : DS} {N : Int} {L : List EV} {R : RPS} {k : Nat} (T : Two7 base w0 F G H K p dp g dq P D N L R k) (hb : Below w0.heap.size w0 wx) : Half base w0 F G H K p dp g dq P D N L R wx := ⟨F, G, T.two.keepB hb, Fr.of_below hb⟩
theorem Half.of_to {base : Nat} {w0 wx w' : World} {F G H K : Nat → Prop} {p dp : Value} {g : Nat} {dq : Value} {P P' : PS} {D D' : DS} {N : Int} {L : List EV} {R : RPS} {k : Nat} (T : Two7 base w0 F G H K p dp g dq P D N L R k) (hb : Below w0.heap.size w0 wx) (ht : PTo base wx F G p dp 0 P' D' w') : Half base w0 F G H K p dp g dq P' D' N L R w' := by
  obtain ⟨F', G', h, hf, hF, hG⟩ := ht
  have hs := hb.size
  exact ⟨F', G', (T.two.keepB hb).turnP h hf hF hG, (Fr.of_below hb).trans hf (fun i hi => Or.inl hi)⟩
theorem Half.fr {base : Nat} {w0 w' wy : World} {F G H K : Nat → Prop} {p dp : Value} {g : Nat} {dq : Value} {P' : PS} {D' : DS} {N : Int} {L : List EV} {R : RPS} (h : Half base w0 F G H K p dp g dq P' D' N L R w') (hf : Fr w' wy (fun i => H i ∨ K i)) : Fr w0 wy (fun i => (F i ∨ G i) ∨ (H i ∨ K i)) := by
  obtain ⟨F', G', _, hf0⟩ := h
  exact (hf0.mono (fun i hi => Or.inl hi)).trans (hf.mono (fun i hi => Or.inr hi)) (fun i hi => Or.inl hi)
theorem Two7.lo {base : Nat} {w : World} {F G H K : Nat → Prop} {p dp : Value} {g : Nat} {dq : Value} {P : PS} {D : DS} {N : Int} {L : List EV} {R : RPS} {k : Nat} (h : Two7 base w F G H K p dp g dq P D N L R k) : ∀ i, ((F i ∨ G i) ∨ (H i ∨ K i)) → base ≤ i ∧ i < w.heap.size := fun i hi => by
  rcases hi with hi | hi
  · exact h.two.a.lo i hi
  · exact h.two.hk i hi
theorem Half.low {base : Nat} {w0 w' : World} {F G H K : Nat → Prop} {p dp : Value} {g : Nat} {dq : Value} {P P' : PS} {D D' : DS} {N : Int} {L : List EV} {R : RPS} {k : Nat} (T : Two7 base w0 F G H K p dp g dq P D N L R k) (h : Half base w0 F G H K p dp g dq P' D' N L R w') : Below base w0 w' := by
  obtain ⟨F', G', _, hf⟩ := h
  exact T.two.belowP hf
abbrev opA (K I : Int) (c : UInt8) (M : Int) : Value := .agg #[.int .i64 K, .int .i64 I, bv c, .int .u64 M]
abbrev opC (K I : Int) (c : UInt8) (M : Int) : Obj := .cells #[.int .i64 K, .int .i64 I, bv c, .int .u64 M] 45
set_option maxRecDepth 100000 in
set_option maxHeartbeats 4000000 in
theorem step_unpin {base : Nat} {w : World} {F G H K : Nat → Prop} {p dp : Value} {g : Nat} {dq : Value} {P : PS} {D : DS} {N : Int} {L : List EV} {R : RPS} {k : Nat} (T : Two7 base w F G H K p dp g dq P D N L R k) (hk : k < 150) (I : Int) (c : UInt8) (M : Int) (hI : -9223372036854775808 ≤ I ∧ I ≤ 9223372036854775807) :
    Calls Try.prog 11 #[p, .pointer (some ⟨g, 0, none⟩), opA 3 I c M] w fun e w' => StepOut base w p dp g dq N k e w' := by
  obtain ⟨gp, dg, hpp, hdp⟩ := T.two.a.ptr
  subst hpp hdp
  have hs0 : Below w.heap.size w (w.alloc (opC 3 I c M)) := (Below.refl _ _).alloc (Nat.le_refl _) _
  have HT : Hid (Two7 base (w.alloc (opC 3 I c M)) F G H K (.pointer (some ⟨gp, 0, none⟩)) (.pointer (some ⟨dg, 0, none⟩)) g dq P D N L R k) := T.keepB hs0
  have hob := heap_alloc_new w (opC 3 I c M)
  have hus := T.uses
  have hln := T.len
  have hbs := T.two.a.base_le
  have T0 : Hid (Two7 base w F G H K (.pointer (some ⟨gp, 0, none⟩)) (.pointer (some ⟨dg, 0, none⟩)) g dq P D N L R k) := T
  clear T
  go_enter Try.func11, Try.ntmps11
  obtain ⟨E, P1, HA, HB⟩ : ∃ (E : Int) (P1 : PS), Hid (∀ wx, Below (w.alloc (opC 3 I c M)).heap.size (w.alloc (opC 3 I c M)) wx → Calls Try.prog 21 #[.pointer (some ⟨gp, 0, none⟩), .int .i64 I] wx fun e w' => e = .returned (.int .i64 E) ∧ Half base (w.alloc (opC 3 I c M)) F G H K (.pointer (some ⟨gp, 0, none⟩)) (.pointer (some ⟨dg, 0, none⟩)) g dq P1 D N L R w') ∧
      Hid (∀ wx, Half base (w.alloc (opC 3 I c M)) F G H K (.pointer (some ⟨gp, 0, none⟩)) (.pointer (some ⟨dg, 0, none⟩)) g dq P1 D N L R wx → Calls Try.prog 27 #[.pointer (some ⟨g, 0, none⟩), .int .i64 I] wx fun e w' => e = .returned (.int .i64 E) ∧ Whole7 base (w.alloc (opC 3 I c M)) F G H K (.pointer (some ⟨gp, 0, none⟩)) (.pointer (some ⟨dg, 0, none⟩)) g dq N k w') := by
    have hok := HT.out.two.a.ok
    by_cases hy : I ∈ P.keys ∧ (P.fr I).pins ≠ 0
    · refine ⟨0, P.touch I { P.fr I with pins := (P.fr I).pins - 1 }, fun wx hb => ?_, fun wx hh => ?_⟩
      · refine (pd_unpin (HT.out.two.a.keepB hb) (by omega) hI hy.1 hy.2).mono ?_
        rintro e w' ⟨he, ht⟩
        exact ⟨he, Half.of_to HT.out hb ht⟩
      · obtain ⟨F', G', hp2, hf⟩ := id hh
        obtain ⟨vL, hr⟩ := hp2.r
        have hfo := hok.fr I hy.1
        have hnu := HT.out.rel.now
        have huo := hok.uses
        refine (refUnpin_any hr (by omega) I (by rw [hnu]; omega) (HT.out.rel.find hy.1) (fun f hf2 hfp => ?_)).mono ?_
        · have h6 := (HT.out.rel.fr f hf2).pins
          rw [hfp] at h6
          have := hfo.pins
          have := hy.2
          omega
        · rintro e w' ⟨he, j, hj, hjp, ht⟩
          obtain ⟨H', hp3, hf3⟩ := hp2.turnT ht
          have hfe := HT.out.rel.fr _ (List.getElem_mem hj)
          rw [hjp] at hfe
          have hu := HT.out.rel.use hj (f := { R.l[j] with pins := R.l[j].pins - 1 }) (x := { P.fr I with pins := (P.fr I).pins - 1 }) rfl ⟨by show R.l[j].pins - 1 = _; rw [hfe.pins], hfe.dirty, hfe.mark, hfe.b⟩
          rw [hjp] at hu
          refine ⟨he, F', G', H', K, _, D, L, _, ⟨hp3, hu, HT.out.rd, HT.out.size, HT.out.fit, HT.out.pg, by show P.uses + 1 ≤ _; omega, by have := HT.out.ws; omega, by have := HT.out.ll; omega⟩, Half.fr hh hf3⟩
    · have hno : I ∉ P.keys ∨ (P.fr I).pins = 0 := by
        by_cases h1 : I ∈ P.keys
        · right
          by_cases h2 : (P.fr I).pins = 0
          · exact h2
          · exact absurd ⟨h1, h2⟩ hy
        · exact Or.inl h1
      refine ⟨72, P, fun wx hb => ?_, fun wx hh => ?_⟩
      · refine (pd_unpin_bad (HT.out.two.a.keepB hb) hI hno).mono ?_
        rintro e w' ⟨he, hw⟩
        rw [hw]
        exact ⟨he, Half.of_same HT.out hb⟩
      · obtain ⟨F', G', hp2, hf⟩ := id hh
        obtain ⟨vL, hr⟩ := hp2.r
        refine (refUnpin_bad hr (by omega) I ?_).mono ?_
        · rcases hno with h1 | h1
          · exact Or.inl (HT.out.rel.not h1)
          · right
            intro f hf2 hfp
            have h6 := (HT.out.rel.fr f hf2).pins
            rw [hfp, h1] at h6
            exact h6
        · rintro e w' ⟨he, hw⟩
          rw [hw]
          exact ⟨he, F', G', H, K, P, D, L, R, { HT.out.next with two := hp2 }, Half.fr hh (Fr.refl _ _)⟩
  have hgb : ¬ ((F w.heap.size ∨ G w.heap.size) ∨ (H w.heap.size ∨ K w.heap.size)) := fun h => by
    have := (T0.out.lo _ h).2; omega
  have HB0 : Hid (Below base w (w.alloc (opC 3 I c M))) := hs0.mono hbs
  generalize hwo : w.alloc (opC 3 I c M) = wo at *
  have o1 : wo.cell? ⟨w.heap.size, 1, none⟩ = some (.int .i64 I) := by rw [cell_of_row wo _ 1 _ _ _ hob]; rfl
  have o0 : wo.cell? ⟨w.heap.size, 0, none⟩ = some (.int .i64 3) := by rw [cell_of_row wo _ 0 _ _ _ hob]; rfl
  have hkeep : ∀ wx, Half base wo F G H K (.pointer (some ⟨gp, 0, none⟩)) (.pointer (some ⟨dg, 0, none⟩)) g dq P1 D N L R wx → wx.cell? ⟨w.heap.size, 1, none⟩ = some (.int .i64 I) := fun wx hh => by
    obtain ⟨F', G', _, hf⟩ := hh
    exact fr_cell hf (fun h => hgb (Or.inl h)) o1
  have HKE : Hid (∀ wx, Half base wo F G H K (.pointer (some ⟨gp, 0, none⟩)) (.pointer (some ⟨dg, 0, none⟩)) g dq P1 D N L R wx → wx.cell? ⟨w.heap.size, 1, none⟩ = some (.int .i64 I)) := hkeep
  have HKF : Hid (∀ wx, Whole7 base wo F G H K (.pointer (some ⟨gp, 0, none⟩)) (.pointer (some ⟨dg, 0, none⟩)) g dq N k wx → wx.cell? ⟨w.heap.size, 1, none⟩ = some (.int .i64 I)) := fun wx hh => by
    obtain ⟨_, _, _, _, _, _, _, _, _, hf⟩ := hh
    exact fr_cell hf hgb o1
  clear hkeep hgb
  go_wp2_with fail
  go_region_held_law (fun w' => w'.cell? ⟨w.heap.size, 1, none⟩ = some (.int .i64 I)) (first | exact o1 | exact HKE.out _ hh1 | exact HKF.out _ hh2)
    (first
      | (go_at_call 21; refine (HA.out _ (by first | exact Below.refl _ _ | exact (Below.refl _ _).drew)).mono ?_; rintro e w1 ⟨rfl, hh1⟩)
      | (go_at_call 27; refine (HB.out _ hh1).mono ?_; rintro e w2 ⟨rfl, hh2⟩))
  go_wp2
  go_ret
  obtain ⟨F', G', H', K', P', D', L', R', hT, hf⟩ := hh2
  refine .mk rfl F' G' H' K' P' D' L' R' hT (HB0.out.trans (hf.below (by have := HB0.out.size; omega) (fun i hi => (HT.out.lo i hi).1)))

set_option maxRecDepth 100000 in
set_option maxHeartbeats 4000000 in
theorem step_flush {base : Nat} {w : World} {F G H K : Nat → Prop} {p dp : Value} {g : Nat} {dq : Value} {P : PS} {D : DS} {N : Int} {L : List EV} {R : RPS} {k : Nat} (T : Two7 base w F G H K p dp g dq P D N L R k) (hk : k < 150) (I : Int) (c : UInt8) (M : Int) :
    Calls Try.prog 11 #[p, .pointer (some ⟨g, 0, none⟩), opA 5 I c M] w fun e w' => StepOut base w p dp g dq N k e w' := by
  obtain ⟨gp, dg, hpp, hdp⟩ := T.two.a.ptr
  subst hpp hdp
  have hs0 : Below w.heap.size w (w.alloc (opC 5 I c M)) := (Below.refl _ _).alloc (Nat.le_refl _) _
  have HT : Hid (Two7 base (w.alloc (opC 5 I c M)) F G H K (.pointer (some ⟨gp, 0, none⟩)) (.pointer (some ⟨dg, 0, none⟩)) g dq P D N L R k) := T.keepB hs0
  have hob := heap_alloc_new w (opC 5 I c M)
  have hus := T.uses
  have hln := T.len
  have hbs := T.two.a.base_le
  have hws := T.ws
  have hll := T.ll
  have hpg := T.pg
  clear T
  obtain ⟨E, P1, D1, HA, HB⟩ : ∃ (E : Int) (P1 : PS) (D1 : DS), Hid (∀ wx, Below (w.alloc (opC 5 I c M)).heap.size (w.alloc (opC 5 I c M)) wx → Calls Try.prog 23 #[.pointer (some ⟨gp, 0, none⟩)] wx fun e w' => e = .returned (.int .i64 E) ∧ Half base (w.alloc (opC 5 I c M)) F G H K (.pointer (some ⟨gp, 0, none⟩)) (.pointer (some ⟨dg, 0, none⟩)) g dq P1 D1 N L R w') ∧
      Hid (∀ wx, Half base (w.alloc (opC 5 I c M)) F G H K (.pointer (some ⟨gp, 0, none⟩)) (.pointer (some ⟨dg, 0, none⟩)) g dq P1 D1 N L R wx → Calls Try.prog 28 #[.pointer (some ⟨g, 0, none⟩)] wx fun e w' => e = .returned (.int .i64 E) ∧ Whole7 base (w.alloc (opC 5 I c M)) F G H K (.pointer (some ⟨gp, 0, none⟩)) (.pointer (some ⟨dg, 0, none⟩)) g dq N k w') := by
    have hok := HT.out.two.a.ok
    have hkl : P.keys.length ≤ 12 := by
      have h1 := rise_len (n := 12) hok.rise (fun k hk => by have := hok.rng k hk; omega)
      exact h1
    by_cases hy : ∃ k ∈ P.keys, beh P.safe (P.fr k) = true
    · refine ⟨74, P, D, fun wx hb => ?_, fun wx hh => ?_⟩
      · refine (flush_any (HT.out.two.a.keepB hb) (by omega)).mono ?_
        intro e w' ho
        cases ho with
        | behind he hx hb2 => exact ⟨he, Half.of_same HT.out (hb.trans (hb2.mono hb.size))⟩
        | ok he hx ht =>
          obtain ⟨q, hq, h1⟩ := hy
          rw [hx q hq] at h1; cases h1
      · obtain ⟨F', G', hp2, hf⟩ := id hh
        obtain ⟨vL, hr⟩ := hp2.r
        refine (refFlush_any hr hp2.d hp2.dis2 HT.out.rel hok (HT.out.fit) HT.out.rd (by simp; omega)).mono ?_
        intro e w' ho
        cases ho with
        | behind he hx hb2 => exact ⟨he, F', G', H, K, P, D, L, R, { HT.out.next with two := hp2.keepB hb2 }, Half.fr hh (Fr.of_below hb2)⟩
        | ok he hx R' K' L' hP hR hrel hrd hlen hf2 ho2 =>
          obtain ⟨q, hq, h1⟩ := hy
          rw [hx q hq] at h1; cases h1
    · refine ⟨0, P.cleanL P.keys, D.cleanL P P.keys, fun wx hb => ?_, fun wx hh => ?_⟩
      · refine (flush_any (HT.out.two.a.keepB hb) (by omega)).mono ?_
        intro e w' ho
        cases ho with
        | behind he hx hb2 => exact absurd hx hy
        | ok he hx ht => exact ⟨he, Half.of_to HT.out hb ht⟩
      · obtain ⟨F', G', hp2, hf⟩ := id hh
        obtain ⟨vL, hr⟩ := hp2.r
        refine (refFlush_any hr hp2.d hp2.dis2 HT.out.rel hok (HT.out.fit) HT.out.rd (by simp; omega)).mono ?_
        intro e w' ho
        cases ho with
        | behind he hx hb2 => exact absurd hx hy
        | ok he hx R' K' L' hP hR hrel hrd hlen hf2 ho2 =>
          have hdis2 : ∀ i, H i → ¬ K' i := fun i hi hx2 => by
            rcases ho2 i hx2 with h1 | h1
            · exact hp2.dis2 i hi h1
            · have := (hr.lo i hi).2; omega
          have hp3 := hp2.turnR hP hR hdis2 hf2 (fun i hi => Or.inl hi) ho2
          have hcw := cleanL_ws D P P.keys
          refine ⟨he, F', G', H, K', _, _, L', R', ⟨hp3, hrel, hrd, by rw [cleanL_size]; exact HT.out.size, HT.out.fit, HT.out.pg, by show P.uses ≤ _; omega, by omega, by omega⟩, Half.fr hh hf2⟩
  have HB0 : Hid (Below base w (w.alloc (opC 5 I c M))) := hs0.mono hbs
  generalize hwo : w.alloc (opC 5 I c M) = wo at *
  have o0 : wo.cell? ⟨w.heap.size, 0, none⟩ = some (.int .i64 5) := by rw [cell_of_row wo _ 0 _ _ _ hob]; rfl
  clear hs0
  go_enter Try.func11, Try.ntmps11
  go_wp2_with (first
      | (go_at_call 23; refine (HA.out _ (by first | exact Below.refl _ _ | exact (Below.refl _ _).drew)).mono ?_; rintro e w1 ⟨rfl, hh1⟩)
      | (go_at_call 28; refine (HB.out _ hh1).mono ?_; rintro e w2 ⟨rfl, hh2⟩))
  go_ret
  obtain ⟨F', G', H', K', P', D', L', R', hT, hf⟩ := hh2
  exact .mk rfl F' G' H' K' P' D' L' R' hT (HB0.out.trans (hf.below (by have := HB0.out.size; omega) (fun i hi => (HT.out.lo i hi).1)))
set_option maxRecDepth 100000 in
set_option maxHeartbeats 4000000 in
theorem step_safe {base : Nat} {w : World} {F G H K : Nat → Prop} {p dp : Value} {g : Nat} {dq : Value} {P : PS} {D : DS} {N : Int} {L : List EV} {R : RPS} {k : Nat} (T : Two7 base w F G H K p dp g dq P D N L R k) (I : Int) (c : UInt8) (M : Int) (hM : 0 ≤ M ∧ M ≤ 18446744073709551615) :
    Calls Try.prog 11 #[p, .pointer (some ⟨g, 0, none⟩), opA 4 I c M] w fun e w' => StepOut base w p dp g dq N k e w' := by
  obtain ⟨gp, dg, hpp, hdp⟩ := T.two.a.ptr
  subst hpp hdp
  have hs0 : Below w.heap.size w (w.alloc (opC 4 I c M)) := (Below.refl _ _).alloc (Nat.le_refl _) _
  have HT : Hid (Two7 base (w.alloc (opC 4 I c M)) F G H K (.pointer (some ⟨gp, 0, none⟩)) (.pointer (some ⟨dg, 0, none⟩)) g dq P D N L R k) := T.keepB hs0
  have hob := heap_alloc_new w (opC 4 I c M)
  have hbs := T.two.a.base_le
  have hgb : ¬ ((F w.heap.size ∨ G w.heap.size) ∨ (H w.heap.size ∨ K w.heap.size)) := fun h => by
    have := (T.lo _ h).2; omega
  have HB0 : Hid (Below base w (w.alloc (opC 4 I c M))) := hs0.mono hbs
  clear T
  generalize hwo : w.alloc (opC 4 I c M) = wo at *
  have o0 : wo.cell? ⟨w.heap.size, 0, none⟩ = some (.int .i64 4) := by rw [cell_of_row wo _ 0 _ _ _ hob]; rfl
  have o3 : wo.cell? ⟨w.heap.size, 3, none⟩ = some (.int .u64 M) := by rw [cell_of_row wo _ 3 _ _ _ hob]; rfl
  have hA := pd_safe HT.out.two.a M hM
  clear hs0
  go_enter Try.func11, Try.ntmps11
  go_wp2_with fail
  refine hA.mono ?_
  rintro e w1 ⟨rfl, ht⟩
  have hh := Half.of_to HT.out (Below.refl _ _) ht
  obtain ⟨F', G', hp2, hf⟩ := id hh
  obtain ⟨vL, hr⟩ := hp2.r
  have HH : Hid (Half base wo F G H K (.pointer (some ⟨gp, 0, none⟩)) (.pointer (some ⟨dg, 0, none⟩)) g dq { P with safe := mx P.safe M } D N L R w1) := hh
  have HP2 : Hid (Pair7 base w1 F' G' H K (.pointer (some ⟨gp, 0, none⟩)) (.pointer (some ⟨dg, 0, none⟩)) g dq 0 { P with safe := mx P.safe M } D N L R) := hp2
  have HRR : Hid (RPIn base w1 H g dq vL R) := hr
  have q3 := fr_cell hf (fun h => hgb (Or.inl h)) o3
  have c5 := hr.cells.c5
  have cf := hr.cells.f
  clear ht hh hp2 hr hf o0 o3 hA
  go_wp2_with fail
  try go_region
  go_wp2
  go_ret
  obtain ⟨hP3, hF3⟩ := HRR.out.setG (R' := { R with log := max R.log M }) (j := 5) (u := .int .u64 (max R.log M)) rfl rfl
  have hrel : Rel { P with safe := mx P.safe M } { R with log := max R.log M } := by
    have h := HT.out.rel
    exact ⟨h.first, h.pages, h.frames, by show max R.log M = mx P.safe M; rw [mx_max, h.log], h.now, h.nd, h.mem, h.fr⟩
  have hfd : ∀ wy, Below (w1.setCell ⟨g, 5, none⟩ (.int .u64 (max R.log M))).heap.size (w1.setCell ⟨g, 5, none⟩ (.int .u64 (max R.log M))) wy → StepOut base w (.pointer (some ⟨gp, 0, none⟩)) (.pointer (some ⟨dg, 0, none⟩)) g dq N k (.returned (.bool true)) wy := fun wy hy => by
    have hgH : H g := HRR.out.gg
    have hF4 : Fr w1 (w1.setCell ⟨g, 5, none⟩ (.int .u64 (max R.log M))) (fun i => H i ∨ K i) := hF3.mono (fun i hi => Or.inl (hi ▸ hgH))
    have hd : RefAt base (w1.setCell ⟨g, 5, none⟩ (.int .u64 (max R.log M))) K dq N [] L := HP2.out.d.keep hF3 (fun i hi e => HP2.out.dis2 g hgH (e ▸ hi))
    have hp3 := HP2.out.turnR hP3 hd HP2.out.dis2 hF4 (fun i hi => Or.inl hi) (fun i hi => Or.inl hi)
    have hT0 := HT.out
    refine .mk rfl F' G' H K { P with safe := mx P.safe M } D L { R with log := max R.log M } ⟨hp3.keepB hy, hrel, hT0.rd, hT0.size, hT0.fit, hT0.pg, by have := hT0.uses; show P.uses ≤ _; omega, by have := hT0.ws; omega, by have := hT0.ll; omega⟩ ?_
    have hfr := Half.fr HH.out hF4
    exact HB0.out.trans ((hfr.trans (Fr.of_below (F := fun _ => False) hy) (fun i hi => hi.elim)).below (by have := HB0.out.size; omega) (fun i hi => (hT0.lo i hi).1))
  first
    | exact hfd _ (Below.refl _ _)
    | exact hfd _ (Below.refl _ _).drew
set_option maxRecDepth 100000 in
set_option maxHeartbeats 4000000 in
theorem step_none {base : Nat} {w : World} {F G H K : Nat → Prop} {p dp : Value} {g : Nat} {dq : Value} {P : PS} {D : DS} {N : Int} {L : List EV} {R : RPS} {k : Nat} (T : Two7 base w F G H K p dp g dq P D N L R k) (Q I : Int) (c : UInt8) (M : Int) (hQ : ¬ (Q = 1 ∨ Q = 2 ∨ Q = 3 ∨ Q = 4 ∨ Q = 5 ∨ Q = 6)) :
    Calls Try.prog 11 #[p, .pointer (some ⟨g, 0, none⟩), opA Q I c M] w fun e w' => StepOut base w p dp g dq N k e w' := by
  have hs0 : Below w.heap.size w (w.alloc (opC Q I c M)) := (Below.refl _ _).alloc (Nat.le_refl _) _
  have HT : Hid (Two7 base (w.alloc (opC Q I c M)) F G H K p dp g dq P D N L R k) := T.keepB hs0
  have HB0 : Hid (Below base w (w.alloc (opC Q I c M))) := hs0.mono T.two.a.base_le
  have hob := heap_alloc_new w (opC Q I c M)
  have t1 : (Q == 1) = false := by rw [beq_eq_false_iff_ne]; omega
  have t2 : (Q == 2) = false := by rw [beq_eq_false_iff_ne]; omega
  have t3 : (Q == 3) = false := by rw [beq_eq_false_iff_ne]; omega
  have t4 : (Q == 4) = false := by rw [beq_eq_false_iff_ne]; omega
  have t5 : (Q == 5) = false := by rw [beq_eq_false_iff_ne]; omega
  have t6 : (Q == 6) = false := by rw [beq_eq_false_iff_ne]; omega
  clear T hs0
  generalize hwo : w.alloc (opC Q I c M) = wo at *
  have o0 : wo.cell? ⟨w.heap.size, 0, none⟩ = some (.int .i64 Q) := by rw [cell_of_row wo _ 0 _ _ _ hob]; rfl
  go_enter Try.func11, Try.ntmps11
  go_wp2
  go_ret
  exact .mk rfl F G H K P D L R HT.out.next HB0.out
end Go.Proofs.Ytpmbpadckbkglaa

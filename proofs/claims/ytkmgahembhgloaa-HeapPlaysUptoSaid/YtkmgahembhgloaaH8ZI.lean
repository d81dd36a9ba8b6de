/- The heap and the document's, side by side (for HeapPlays). -/
import Derived.Test.YtkmgahembhgloaaH8ZG
import Derived.Test.YtkmgahembhgloaaH8ZF
namespace Go.Proofs.Ytkmgahembhgloaa
open Go.RowKit Go.Maps
set_option linter.unusedVariables false
set_option linter.unusedSimpArgs false

/-- Both heaps, apart from one another and from the blocks of X. -/
inductive Pr8 (base : Nat) (X : Nat → Prop) (w : World) (hv rv : Value) (n : Nat) (Ra Rb : Nat → List (List UInt8)) (t : Nat) : Prop
  | mk (F : Nat → Prop) (ro : Nat → Nat) (hA : HeapAt base w F hv n Ra t) (hR : RefAt base w ro rv n Rb) (dis : ∀ i, F i → ro i = 0) (off : ∀ i, X i → ¬ F i ∧ ro i = 0) (xlt : ∀ i, X i → i < w.heap.size)
theorem Pr8.keepB {base : Nat} {X : Nat → Prop} {w w' : World} {hv rv : Value} {n : Nat} {Ra Rb : Nat → List (List UInt8)} {t : Nat} (h : Pr8 base X w hv rv n Ra Rb t) (hb : Below w.heap.size w w') : Pr8 base X w' hv rv n Ra Rb t := by
  obtain ⟨F, ro, hA, hR, dis, off, xlt⟩ := h
  exact .mk F ro (hA.keepB hb) (hR.keepB hb) dis off (fun i hi => Nat.lt_of_lt_of_le (xlt i hi) hb.size)
theorem Pr8.le {base : Nat} {X : Nat → Prop} {w : World} {hv rv : Value} {n : Nat} {Ra Rb : Nat → List (List UInt8)} {t t' : Nat} (h : Pr8 base X w hv rv n Ra Rb t) (ht : t ≤ t') : Pr8 base X w hv rv n Ra Rb t' := by
  obtain ⟨F, ro, hA, hR, dis, off, xlt⟩ := h
  exact .mk F ro (hA.le ht) hR dis off xlt
theorem Pr8.less {base : Nat} {X X' : Nat → Prop} {w : World} {hv rv : Value} {n : Nat} {Ra Rb : Nat → List (List UInt8)} {t : Nat} (h : Pr8 base X w hv rv n Ra Rb t) (hx : ∀ i, X' i → X i) : Pr8 base X' w hv rv n Ra Rb t := by
  obtain ⟨F, ro, hA, hR, dis, off, xlt⟩ := h
  exact .mk F ro hA hR dis (fun i hi => off i (hx i hi)) (fun i hi => xlt i (hx i hi))
/-- What was laid since is nobody's. -/
theorem Pr8.more {base : Nat} {X : Nat → Prop} {w w' : World} {hv rv : Value} {n : Nat} {Ra Rb : Nat → List (List UInt8)} {t : Nat} (h : Pr8 base X w hv rv n Ra Rb t) (hb : Below w.heap.size w w') : Pr8 base (fun i => X i ∨ (w.heap.size ≤ i ∧ i < w'.heap.size)) w' hv rv n Ra Rb t := by
  obtain ⟨F, ro, hA, hR, dis, off, xlt⟩ := h
  refine .mk F ro (hA.keepB hb) (hR.keepB hb) dis (fun i hi => ?_) (fun i hi => ?_)
  · rcases hi with hi | hi
    · exact off i hi
    · exact ⟨fun hF => by have := (hA.lo i hF).2; omega, hR.hz i hi.1⟩
  · rcases hi with hi | hi
    · exact Nat.lt_of_lt_of_le (xlt i hi) hb.size
    · exact hi.2
/-- What the law writes into its own blocks. -/
theorem Pr8.write {base : Nat} {X S : Nat → Prop} {w w' : World} {hv rv : Value} {n : Nat} {Ra Rb : Nat → List (List UInt8)} {t : Nat} (h : Pr8 base X w hv rv n Ra Rb t) (hf : Fr w w' S) (hs : ∀ i, S i → X i) : Pr8 base X w' hv rv n Ra Rb t := by
  obtain ⟨F, ro, hA, hR, dis, off, xlt⟩ := h
  exact .mk F ro (hA.keep hf (fun i hi hS => (off i (hs i hS)).1 hi)) (hR.keep hf (fun i hS => (off i (hs i hS)).2)) dis off (fun i hi => Nat.lt_of_lt_of_le (xlt i hi) hf.size)
theorem Pr8.few {base : Nat} {X : Nat → Prop} {w : World} {hv rv : Value} {n : Nat} {Ra Rb : Nat → List (List UInt8)} {t : Nat} (h : Pr8 base X w hv rv n Ra Rb t) (hn : n ≤ 256) : RBd n Ra := by
  obtain ⟨F, ro, hA, hR, dis, off, xlt⟩ := h
  obtain ⟨FP, FD, hgg, p, dp, nd, P, D, e, h⟩ := hA
  exact ⟨hn, fun j hj => (h.ok j hj).few, fun j hj => sum_recs (h.ok j hj)⟩
theorem Pr8.prog {base : Nat} {X : Nat → Prop} {w w' : World} {hv rv : Value} {n : Nat} {Ra Rb R' : Nat → List (List UInt8)} {t t' : Nat} {F : Nat → Prop} {ro : Nat → Nat} (hA : HeapAt base w F hv n Ra t) (hR : RefAt base w ro rv n Rb) (dis : ∀ i, F i → ro i = 0) (off : ∀ i, X i → ¬ F i ∧ ro i = 0) (xlt : ∀ i, X i → i < w.heap.size) (hT : HTo base w F hv n R' t' w') : Pr8 base X w' hv rv n R' Rb t' ∧ Fr w w' (fun i => base ≤ i ∧ ¬ X i) := by
  obtain ⟨F', hH', hF', hfr⟩ := hT
  refine ⟨.mk F' ro hH' (hR.keep hfr dis) (fun i hi => ?_) (fun i hi => ⟨fun h => ?_, (off i hi).2⟩) (fun i hi => Nat.lt_of_lt_of_le (xlt i hi) hfr.size), hfr.mono (fun i hi => ⟨(hA.lo i hi).1, fun hx => (off i hx).1 hi⟩)⟩
  · rcases hF' i hi with h | h
    · exact dis i h
    · exact hR.hz i h
  · rcases hF' i h with h' | h'
    · exact (off i hi).1 h'
    · have := xlt i hi; omega
theorem Pr8.refd {base : Nat} {X : Nat → Prop} {w w' : World} {hv rv : Value} {n : Nat} {Ra Rb R' : Nat → List (List UInt8)} {t : Nat} {F : Nat → Prop} {ro : Nat → Nat} (hA : HeapAt base w F hv n Ra t) (hR : RefAt base w ro rv n Rb) (dis : ∀ i, F i → ro i = 0) (off : ∀ i, X i → ¬ F i ∧ ro i = 0) (xlt : ∀ i, X i → i < w.heap.size) (hT : RTo base w ro rv n R' w') : Pr8 base X w' hv rv n Ra R' t ∧ Fr w w' (fun i => base ≤ i ∧ ¬ X i) := by
  obtain ⟨ro', hR', hfr, hro⟩ := hT
  have hd : ∀ i, F i → ¬ (ro i ≠ 0) := fun i hi h => h (dis i hi)
  refine ⟨.mk F ro' (hA.keep hfr hd) hR' (fun i hi => ?_) (fun i hi => ⟨(off i hi).1, ?_⟩) (fun i hi => Nat.lt_of_lt_of_le (xlt i hi) hfr.size), hfr.mono (fun i hi => ⟨hR.lo i hi, fun hx => hi (off i hx).2⟩)⟩
  · apply Classical.byContradiction
    intro h
    rcases hro i h with h' | h'
    · exact h' (dis i hi)
    · have := (hA.lo i hi).2; omega
  · apply Classical.byContradiction
    intro h
    rcases hro i h with h' | h'
    · exact h' (off i hi).2
    · have := xlt i hi; omega
theorem Pr8.insert {base : Nat} {X : Nat → Prop} {w : World} {hv rv : Value} {n : Nat} {Ra Rb : Nat → List (List UInt8)} {t : Nat} (h : Pr8 base X w hv rv n Ra Rb t) (ht : t + n < 50000) (v : Value) (b : List UInt8) (hB : Bytes w v b) (hx : ∀ a n c, v = .slice (some a) n c → X a.block) (hl : b.length ≤ 140737488355328) :
    Calls Try.prog 18 #[hv, v] w fun e w' => e = .returned (.tuple #[.int .i64 (insE n Ra b).1, .int .i64 (insE n Ra b).2]) ∧ Pr8 base X w' hv rv n (insR n Ra b) Rb (t + n) ∧ Fr w w' (fun i => base ≤ i ∧ ¬ X i) := by
  obtain ⟨F, ro, hA, hR, dis, off, xlt⟩ := h
  refine (hinsert_any hA ht v b hB (fun a n c e hF => (off _ (hx a n c e)).1 hF) hl).mono ?_
  rintro e w' hO
  obtain ⟨he, hT⟩ := hO.fn
  exact ⟨he, Pr8.prog hA hR dis off xlt hT⟩
theorem Pr8.update {base : Nat} {X : Nat → Prop} {w : World} {hv rv : Value} {n : Nat} {Ra Rb : Nat → List (List UInt8)} {t : Nat} (h : Pr8 base X w hv rv n Ra Rb t) (ht : t < 50000) (id : Int) (hid : -9223372036854775808 ≤ id ∧ id ≤ 9223372036854775807) (v : Value) (b : List UInt8) (hB : Bytes w v b) (hx : ∀ a n c, v = .slice (some a) n c → X a.block) (hl : b.length ≤ 140737488355328) :
    Calls Try.prog 20 #[hv, .int .i64 id, v] w fun e w' => e = .returned (.int .i64 (updE n Ra id b)) ∧ Pr8 base X w' hv rv n (updR n Ra id b) Rb (t + 1) ∧ Fr w w' (fun i => base ≤ i ∧ ¬ X i) := by
  obtain ⟨F, ro, hA, hR, dis, off, xlt⟩ := h
  refine (hupdate_any hA ht id hid v b hB (fun a n c e hF => (off _ (hx a n c e)).1 hF) hl).mono ?_
  rintro e w' hO
  obtain ⟨he, hT⟩ := hO.fn
  exact ⟨he, Pr8.prog hA hR dis off xlt hT⟩
theorem Pr8.delete {base : Nat} {X : Nat → Prop} {w : World} {hv rv : Value} {n : Nat} {Ra Rb : Nat → List (List UInt8)} {t : Nat} (h : Pr8 base X w hv rv n Ra Rb t) (ht : t < 50000) (id : Int) (hid : -9223372036854775808 ≤ id ∧ id ≤ 9223372036854775807) :
    Calls Try.prog 21 #[hv, .int .i64 id] w fun e w' => e = .returned (.int .i64 (delE n Ra id)) ∧ Pr8 base X w' hv rv n (delR n Ra id) Rb (t + 1) ∧ Fr w w' (fun i => base ≤ i ∧ ¬ X i) := by
  obtain ⟨F, ro, hA, hR, dis, off, xlt⟩ := h
  refine (hdelete_any hA ht id hid).mono ?_
  rintro e w' hO
  obtain ⟨he, hT⟩ := hO.fn
  exact ⟨he, Pr8.prog hA hR dis off xlt hT⟩
theorem Pr8.scan {base : Nat} {X : Nat → Prop} {w : World} {hv rv : Value} {n : Nat} {Ra Rb : Nat → List (List UInt8)} {t : Nat} (h : Pr8 base X w hv rv n Ra Rb t) (ht : t + n < 50000) :
    Calls Try.prog 12 #[hv] w fun e w' => ∃ ao m cp, e = .returned (.tuple #[.slice ao m cp, .int .i64 0]) ∧ Ints w' (.slice ao m cp) (scanR n Ra) ∧ Pr8 base X w' hv rv n Ra Rb (t + n) ∧ Fr w w' (fun i => base ≤ i ∧ ¬ X i) := by
  obtain ⟨F, ro, hA, hR, dis, off, xlt⟩ := h
  refine (hscan_any hA ht).mono ?_
  rintro e w' ⟨v, he, hrow, F', hH', hF', hfr, hnF⟩
  have hi := ints_of_own hrow
  obtain ⟨ao, cp, hv, _, _⟩ := (show Ints w' v (scanR n Ra) from hi)
  subst hv
  exact ⟨ao, _, cp, he, hi, Pr8.prog hA hR dis off xlt ⟨F', hH', hF', hfr⟩⟩
theorem Pr8.get {base : Nat} {X : Nat → Prop} {w : World} {hv rv : Value} {n : Nat} {Ra Rb : Nat → List (List UInt8)} {t : Nat} (h : Pr8 base X w hv rv n Ra Rb t) (ht : t < 50000) (id : Int) (hid : -9223372036854775808 ≤ id ∧ id ≤ 9223372036854775807) :
    Calls Try.prog 15 #[hv, .int .i64 id] w fun e w' => ∃ ao m cp, e = .returned (.tuple #[.slice ao m cp, .int .i64 (getE n Ra id)]) ∧ OwnB w.heap.size w' (.slice ao m cp) (getB n Ra id) ∧ Pr8 base (fun i => X i ∨ (Value.slice ao m cp).ownBlock = some i) w' hv rv n Ra Rb (t + 1) ∧ Fr w w' (fun i => base ≤ i ∧ ¬ X i) := by
  obtain ⟨F, ro, hA, hR, dis, off, xlt⟩ := h
  refine (hget_any hA ht id hid).mono ?_
  rintro e w' hO
  cases hO with
  | no hn he hT =>
    obtain ⟨h1, h2⟩ := Pr8.prog hA hR dis off xlt hT
    exact ⟨none, 0, 0, by rw [he]; unfold getE; rw [if_neg hn], by unfold getB; rw [if_neg hn]; exact ⟨rfl, Or.inl ⟨rfl, rfl⟩⟩, h1.less (fun i hi => hi.elim (fun h => h) (fun h => by cases h)), h2⟩
  | yes k s hk hs hid' hy ao m cp he hown F' hH' hF' hfr hnF =>
    have hT : ThereR n Ra id := ⟨k, s, hk, hs, hid', hy⟩
    obtain ⟨e1, e2⟩ := ksOf hs hid'
    refine ⟨ao, m, cp, by rw [he]; unfold getE; rw [if_pos hT], by unfold getB; rw [if_pos hT, e1, e2]; exact hown, .mk F' ro hH' (hR.keep hfr dis) (fun i hi => ?_) (fun i hi => ?_) (fun i hi => ?_), hfr.mono (fun i hi => ⟨(hA.lo i hi).1, fun hx => (off i hx).1 hi⟩)⟩
    · rcases hF' i hi with h | h
      · exact dis i h
      · exact hR.hz i h
    · rcases hi with hi | hi
      · refine ⟨fun h => ?_, (off i hi).2⟩
        rcases hF' i h with h' | h'
        · exact (off i hi).1 h'
        · have := xlt i hi; omega
      · exact ⟨hnF i hi, hR.hz i (World.ownsRow.lt hown i hi).1⟩
    · rcases hi with hi | hi
      · exact Nat.lt_of_lt_of_le (xlt i hi) hfr.size
      · exact (World.ownsRow.lt hown i hi).2
theorem Pr8.rinsert {base : Nat} {X : Nat → Prop} {w : World} {hv rv : Value} {n : Nat} {Ra Rb : Nat → List (List UInt8)} {t : Nat} (h : Pr8 base X w hv rv n Ra Rb t) (hbw : base ≤ w.heap.size) (hB : RBd n Rb) (v : Value) (b : List UInt8) (hv' : Bytes w v b) (hl : b.length ≤ 140737488355328) :
    Calls Try.prog 26 #[rv, v] w fun e w' => e = .returned (.tuple #[.int .i64 (insE n Rb b).1, .int .i64 (insE n Rb b).2]) ∧ Pr8 base X w' hv rv n Ra (insR n Rb b) t ∧ Fr w w' (fun i => base ≤ i ∧ ¬ X i) := by
  obtain ⟨F, ro, hA, hR, dis, off, xlt⟩ := h
  refine (refInsert_any hR hbw hB v b hv' hl).mono ?_
  rintro e w' ⟨he, hT⟩
  exact ⟨he, Pr8.refd hA hR dis off xlt hT⟩
theorem Pr8.rupdate {base : Nat} {X : Nat → Prop} {w : World} {hv rv : Value} {n : Nat} {Ra Rb : Nat → List (List UInt8)} {t : Nat} (h : Pr8 base X w hv rv n Ra Rb t) (hbw : base ≤ w.heap.size) (hB : RBd n Rb) (id : Int) (hid : -9223372036854775808 ≤ id ∧ id ≤ 9223372036854775807) (v : Value) (b : List UInt8) (hv' : Bytes w v b) (hl : b.length ≤ 140737488355328) :
    Calls Try.prog 27 #[rv, .int .i64 id, v] w fun e w' => e = .returned (.int .i64 (updE n Rb id b)) ∧ Pr8 base X w' hv rv n Ra (updR n Rb id b) t ∧ Fr w w' (fun i => base ≤ i ∧ ¬ X i) := by
  obtain ⟨F, ro, hA, hR, dis, off, xlt⟩ := h
  refine (refUpdate_any hR hbw hB id hid v b hv' hl).mono ?_
  rintro e w' ⟨he, hT⟩
  exact ⟨he, Pr8.refd hA hR dis off xlt hT⟩
theorem Pr8.rdelete {base : Nat} {X : Nat → Prop} {w : World} {hv rv : Value} {n : Nat} {Ra Rb : Nat → List (List UInt8)} {t : Nat} (h : Pr8 base X w hv rv n Ra Rb t) (hB : RBd n Rb) (id : Int) (hid : -9223372036854775808 ≤ id ∧ id ≤ 9223372036854775807) :
    Calls Try.prog 28 #[rv, .int .i64 id] w fun e w' => e = .returned (.int .i64 (delE n Rb id)) ∧ Pr8 base X w' hv rv n Ra (delR n Rb id) t ∧ Fr w w' (fun i => base ≤ i ∧ ¬ X i) := by
  obtain ⟨F, ro, hA, hR, dis, off, xlt⟩ := h
  refine (refDelete_any hR hB id hid).mono ?_
  rintro e w' ⟨he, hT⟩
  exact ⟨he, Pr8.refd hA hR dis off xlt hT⟩
theorem Pr8.rget {base : Nat} {X : Nat → Prop} {w : World} {hv rv : Value} {n : Nat} {Ra Rb : Nat → List (List UInt8)} {t : Nat} (h : Pr8 base X w hv rv n Ra Rb t) (hB : RBd n Rb) (id : Int) (hid : -9223372036854775808 ≤ id ∧ id ≤ 9223372036854775807) :
    Calls Try.prog 16 #[rv, .int .i64 id] w fun e w' => ∃ ao m cp, e = .returned (.tuple #[.slice ao m cp, .int .i64 (getE n Rb id)]) ∧ Bytes w' (.slice ao m cp) (getB n Rb id) ∧ Below w.heap.size w w' := by
  obtain ⟨F, ro, hA, hR, dis, off, xlt⟩ := h
  exact refGet_any hR hB id hid
theorem Pr8.rscan {base : Nat} {X : Nat → Prop} {w : World} {hv rv : Value} {n : Nat} {Ra Rb : Nat → List (List UInt8)} {t : Nat} (h : Pr8 base X w hv rv n Ra Rb t) (hB : RBd n Rb) :
    Calls Try.prog 14 #[rv] w fun e w' => ∃ ao m cp, e = .returned (.slice ao m cp) ∧ Ints w' (.slice ao m cp) (scanR n Rb) ∧ (∀ c, (Value.slice ao m cp).ownBlock = some c → w.heap.size ≤ c ∧ c < w'.heap.size) ∧ Below w.heap.size w w' := by
  obtain ⟨F, ro, hA, hR, dis, off, xlt⟩ := h
  refine (refScan_any hR hB).mono ?_
  rintro e w' ⟨ao, m, cp, he, hrow, hb⟩
  exact ⟨ao, m, cp, he, ints_of_own hrow, fun c hc => World.ownsRow.lt hrow c hc, hb⟩
end Go.Proofs.Ytkmgahembhgloaa

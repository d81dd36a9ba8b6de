/- Two heaps of the same records are asked for them. -/
import Derived.Test.YtkmgahembhgloaaH8U
namespace Go.Proofs.Ytkmgahembhgloaa
open Go.RowKit Go.Maps
set_option linter.unusedVariables false
set_option linter.unusedSimpArgs false

open Classical in
/-- What Get answers. -/
noncomputable def getB (n : Nat) (R : Nat → List (List UInt8)) (id : Int) : List UInt8 := if ThereR n R id then (R (kOf id)).getD (sOf id) [] else []
open Classical in
noncomputable def getE (n : Nat) (R : Nat → List (List UInt8)) (id : Int) : Int := if ThereR n R id then 0 else 82
/-- Two heaps of the same records, and a row of ids beside them. -/
inductive End8 (base : Nat) (w : World) (ha hb : Value) (n : Nat) (R : Nat → List (List UInt8)) (t : Nat) (la : Value) (ids : List Int) : Prop
  | mk (Fa Fb : Nat → Prop) (hA : HeapAt base w Fa ha n R t) (hB : HeapAt base w Fb hb n R t) (dis : ∀ i, Fa i → ¬ Fb i) (b0 : Nat) (row : w.ownsRow b0 3 1 la ids.length (ids.map (Value.int .i64))) (off : ∀ c, la.ownBlock = some c → ¬ Fa c ∧ ¬ Fb c)
theorem End8.swap {base : Nat} {w : World} {ha hb : Value} {n : Nat} {R : Nat → List (List UInt8)} {t : Nat} {la : Value} {ids : List Int} (h : End8 base w ha hb n R t la ids) : End8 base w hb ha n R t la ids := by
  obtain ⟨Fa, Fb, hA, hB, dis, b0, row, off⟩ := h
  exact .mk Fb Fa hB hA (fun i h1 h2 => dis i h2 h1) b0 row (fun c hc => ⟨(off c hc).2, (off c hc).1⟩)
theorem End8.keepB {base : Nat} {w w' : World} {ha hb : Value} {n : Nat} {R : Nat → List (List UInt8)} {t : Nat} {la : Value} {ids : List Int} (h : End8 base w ha hb n R t la ids) (hb' : Below w.heap.size w w') : End8 base w' ha hb n R t la ids := by
  obtain ⟨Fa, Fb, hA, hB, dis, b0, row, off⟩ := h
  exact .mk Fa Fb (hA.keepB hb') (hB.keepB hb') dis b0 (own_of_block row (fun b hb => hb'.block b (ownGe row b hb).2)) off
theorem End8.ints {base : Nat} {w : World} {ha hb : Value} {n : Nat} {R : Nat → List (List UInt8)} {t : Nat} {la : Value} {ids : List Int} (h : End8 base w ha hb n R t la ids) : Ints w la ids := by
  obtain ⟨Fa, Fb, hA, hB, dis, b0, row, off⟩ := h
  exact ints_of_own row
theorem End8.le {base : Nat} {w : World} {ha hb : Value} {n : Nat} {R : Nat → List (List UInt8)} {t t' : Nat} {la : Value} {ids : List Int} (h : End8 base w ha hb n R t la ids) (ht : t ≤ t') : End8 base w ha hb n R t' la ids := by
  obtain ⟨Fa, Fb, hA, hB, dis, b0, row, off⟩ := h
  exact .mk Fa Fb (hA.le ht) (hB.le ht) dis b0 row off
/-- What Get leaves: the heaps, the row of ids, and the answer beside them. -/
inductive GetSt (base : Nat) (w : World) (ha hb : Value) (n : Nat) (R : Nat → List (List UInt8)) (t : Nat) (la : Value) (ids : List Int) (x : Value) (xs : List UInt8) : Prop
  | mk (Fa Fb : Nat → Prop) (hA : HeapAt base w Fa ha n R t) (hB : HeapAt base w Fb hb n R t) (dis : ∀ i, Fa i → ¬ Fb i) (b0 : Nat) (row : w.ownsRow b0 3 1 la ids.length (ids.map (Value.int .i64))) (off : ∀ c, la.ownBlock = some c → ¬ Fa c ∧ ¬ Fb c) (hx : Bytes w x xs) (ox : ∀ a n c, x = .slice (some a) n c → ¬ Fa a.block ∧ ¬ Fb a.block)
theorem End8.get {base : Nat} {w : World} {ha hb : Value} {n : Nat} {R : Nat → List (List UInt8)} {t : Nat} {la : Value} {ids : List Int} (h : End8 base w ha hb n R t la ids) (ht : t < 50000) (id : Int) (hid : -9223372036854775808 ≤ id ∧ id ≤ 9223372036854775807) :
    Calls Try.prog 15 #[ha, .int .i64 id] w fun e w' => ∃ ao m cp, e = .returned (.tuple #[.slice ao m cp, .int .i64 (getE n R id)]) ∧ GetSt base w' ha hb n R (t + 1) la ids (.slice ao m cp) (getB n R id) ∧ (base ≤ w.heap.size → Below base w w') := by
  obtain ⟨Fa, Fb, hA, hB, dis, b0, row, off⟩ := h
  refine (hget_any hA ht id hid).mono ?_
  rintro e w' hO
  have main : ∀ F', HeapAt base w' F' ha n R (t + 1) → (∀ i, F' i → Fa i ∨ w.heap.size ≤ i) → Fr w w' Fa → ∀ x xs, Bytes w' x xs → (∀ a n c, x = .slice (some a) n c → ¬ F' a.block ∧ ¬ Fb a.block) → GetSt base w' ha hb n R (t + 1) la ids x xs := by
    intro F' hH' hF' hfr x xs hx hox
    refine .mk F' Fb hH' ((hB.keep hfr (fun i h1 h2 => dis i h2 h1)).le (by omega)) (fun i h1 h2 => ?_) b0 (own_of_block row (fun b hb => hfr.block b (ownGe row b hb).2 (off b hb).1)) (fun c hc => ⟨fun h => ?_, (off c hc).2⟩) hx hox
    · rcases hF' i h1 with h | h
      · exact dis i h h2
      · have := (hB.lo i h2).2; omega
    · rcases hF' c h with h' | h'
      · exact (off c hc).1 h'
      · have := (ownGe row c hc).2; omega
  cases hO with
  | no hn he hT =>
    obtain ⟨F', hH', hF', hfr⟩ := hT
    refine ⟨none, 0, 0, by rw [he]; unfold getE; rw [if_neg hn], main F' hH' hF' hfr _ _ (by unfold getB; rw [if_neg hn]; exact Or.inl ⟨rfl, rfl⟩) (fun a n c e => by cases e), fun hb => hfr.below hb (fun i hi => (hA.lo i hi).1)⟩
  | yes k s hk hs hid' hy ao m cp he hown F' hH' hF' hfr hnF =>
    have hT : ThereR n R id := ⟨k, s, hk, hs, hid', hy⟩
    obtain ⟨e1, e2⟩ := ksOf hs hid'
    refine ⟨ao, m, cp, by rw [he]; unfold getE; rw [if_pos hT], main F' hH' hF' hfr _ _ (by unfold getB; rw [if_pos hT, e1, e2]; exact hown.toBytes) (fun a n c e => ⟨hnF _ (by rw [e]; rfl), fun h => ?_⟩), fun hb => hfr.below hb (fun i hi => (hA.lo i hi).1)⟩
    have h1 := (World.ownsRow.lt hown a.block (by rw [e]; rfl)).1
    have := (hB.lo _ h).2
    omega
theorem GetSt.end8 {base : Nat} {w : World} {ha hb : Value} {n : Nat} {R : Nat → List (List UInt8)} {t : Nat} {la : Value} {ids : List Int} {x : Value} {xs : List UInt8} (h : GetSt base w ha hb n R t la ids x xs) : End8 base w ha hb n R t la ids := by
  obtain ⟨Fa, Fb, hA, hB, dis, b0, row, off, hx, ox⟩ := h
  exact .mk Fa Fb hA hB dis b0 row off
/-- Get of the second heap, behind Get of the first: both answers lie. -/
theorem GetSt.get2 {base : Nat} {w : World} {ha hb : Value} {n : Nat} {R : Nat → List (List UInt8)} {t : Nat} {la : Value} {ids : List Int} {x : Value} {xs : List UInt8} (h : GetSt base w ha hb n R t la ids x xs) (ht : t < 50000) (id : Int) (hid : -9223372036854775808 ≤ id ∧ id ≤ 9223372036854775807) :
    Calls Try.prog 15 #[hb, .int .i64 id] w fun e w' => ∃ ao m cp, e = .returned (.tuple #[.slice ao m cp, .int .i64 (getE n R id)]) ∧ Bytes w' (.slice ao m cp) (getB n R id) ∧ Bytes w' x xs ∧ End8 base w' ha hb n R (t + 1) la ids ∧ (base ≤ w.heap.size → Below base w w') := by
  obtain ⟨Fa, Fb, hA, hB, dis, b0, row, off, hx, ox⟩ := h
  refine (hget_any hB ht id hid).mono ?_
  rintro e w' hO
  have main : ∀ F', HeapAt base w' F' hb n R (t + 1) → (∀ i, F' i → Fb i ∨ w.heap.size ≤ i) → Fr w w' Fb → End8 base w' ha hb n R (t + 1) la ids ∧ Bytes w' x xs := by
    intro F' hH' hF' hfr
    refine ⟨.mk Fa F' ((hA.keep hfr (fun i h1 h2 => dis i h1 h2)).le (by omega)) hH' (fun i h1 h2 => ?_) b0 (own_of_block row (fun b hb => hfr.block b (ownGe row b hb).2 (off b hb).2)) (fun c hc => ⟨(off c hc).1, fun h => ?_⟩), hx.fr8 (fun a n c e => (ox a n c e).2) hfr⟩
    · rcases hF' i h2 with h | h
      · exact dis i h1 h
      · have := (hA.lo i h1).2; omega
    · rcases hF' c h with h' | h'
      · exact (off c hc).2 h'
      · have := (ownGe row c hc).2; omega
  cases hO with
  | no hn he hT =>
    obtain ⟨F', hH', hF', hfr⟩ := hT
    obtain ⟨m1, m2⟩ := main F' hH' hF' hfr
    exact ⟨none, 0, 0, by rw [he]; unfold getE; rw [if_neg hn], by unfold getB; rw [if_neg hn]; exact Or.inl ⟨rfl, rfl⟩, m2, m1, fun hb => hfr.below hb (fun i hi => (hB.lo i hi).1)⟩
  | yes k s hk hs hid' hy ao m cp he hown F' hH' hF' hfr hnF =>
    have hT : ThereR n R id := ⟨k, s, hk, hs, hid', hy⟩
    obtain ⟨e1, e2⟩ := ksOf hs hid'
    obtain ⟨m1, m2⟩ := main F' hH' hF' hfr
    exact ⟨ao, m, cp, by rw [he]; unfold getE; rw [if_pos hT], by unfold getB; rw [if_pos hT, e1, e2]; exact hown.toBytes, m2, m1, fun hb => hfr.below hb (fun i hi => (hB.lo i hi).1)⟩
/-- Scan of both, one behind the other. -/
theorem End8.of_scan {base : Nat} {w : World} {Fa Fb : Nat → Prop} {ha hb : Value} {n : Nat} {R : Nat → List (List UInt8)} {t b0 : Nat} {la : Value} {ids : List Int} (hA : HeapAt base w Fa ha n R t) (hB : HeapAt base w Fb hb n R t) (dis : ∀ i, Fa i → ¬ Fb i) (row : w.ownsRow b0 3 1 la ids.length (ids.map (Value.int .i64))) (off : ∀ c, la.ownBlock = some c → ¬ Fa c ∧ ¬ Fb c) (ht : t + n < 50000) :
    Calls Try.prog 12 #[hb] w fun e w' => ∃ ao m cp, e = .returned (.tuple #[.slice ao m cp, .int .i64 0]) ∧ Ints w' (.slice ao m cp) (scanR n R) ∧ End8 base w' ha hb n R (t + n) la ids ∧ (base ≤ w.heap.size → Below base w w') := by
  refine (hscan_any hB ht).mono ?_
  rintro e w' ⟨v, he, hrow, F', hH', hF', hfr, hnF⟩
  have hi := ints_of_own hrow
  obtain ⟨ao, cp, hv, _, _⟩ := id hi
  subst hv
  refine ⟨ao, _, cp, he, hi, .mk Fa F' ((hA.keep hfr (fun i h1 h2 => dis i h1 h2)).le (by omega)) hH' (fun i h1 h2 => ?_) b0 (own_of_block row (fun b hb => hfr.block b (ownGe row b hb).2 (off b hb).2)) (fun c hc => ⟨(off c hc).1, fun h => ?_⟩), fun hb => hfr.below hb (fun i hi => (hB.lo i hi).1)⟩
  · rcases hF' i h2 with h | h
    · exact dis i h1 h
    · have := (hA.lo i h1).2; omega
  · rcases hF' c h with h' | h'
    · exact (off c hc).2 h'
    · have := (ownGe row c hc).2; omega
theorem scanR_range {n : Nat} {R : Nat → List (List UInt8)} (hn : n ≤ 256) (hf : ∀ j, j < n → (R j).length ≤ 256) {id : Int} (h : id ∈ scanR n R) : 0 ≤ id ∧ id ≤ 100000 := by
  unfold scanR at h
  obtain ⟨j, hj, h⟩ := List.mem_flatMap.1 h
  rw [List.mem_range] at hj
  unfold idsR at h
  obtain ⟨s, hs, rfl⟩ := List.mem_map.1 h
  have := (List.mem_filter.1 hs).1
  rw [List.mem_range] at this
  have := hf j hj
  omega
end Go.Proofs.Ytkmgahembhgloaa

/- What the calls answer, as functions of the records; two heaps side by side. -/
import Derived.Test.YtkmgahembhgloaaH8S
namespace Go.Proofs.Ytkmgahembhgloaa
open Go.RowKit Go.Maps
set_option linter.unusedVariables false
set_option linter.unusedSimpArgs false

def kOf (id : Int) : Nat := (id / 256).toNat
def sOf (id : Int) : Nat := (id % 256).toNat
theorem ksOf {id : Int} {k s : Nat} (hs : s < 256) (h : id = 256 * (k : Int) + (s : Int)) : kOf id = k ∧ sOf id = s := by
  unfold kOf sOf; omega
def firstFit (n : Nat) (R : Nat → List (List UInt8)) (m : Nat) : Option Nat := (List.range n).find? (fun j => fitsP (R j) m)
theorem firstFit_none {n : Nat} {R : Nat → List (List UInt8)} {m : Nat} (h : ∀ j, j < n → fitsP (R j) m = false) : firstFit n R m = none := by
  unfold firstFit
  rw [List.find?_eq_none]
  intro j hj
  rw [h j (by simpa using hj)]; simp
theorem firstFit_some {n : Nat} {R : Nat → List (List UInt8)} {m k : Nat} (hk : k < n) (h1 : fitsP (R k) m = true) (h2 : ∀ j, j < k → fitsP (R j) m = false) : firstFit n R m = some k := by
  unfold firstFit
  rw [List.find?_range_eq_some]
  exact ⟨h1, by simpa using hk, fun j hj => by rw [h2 j hj]; rfl⟩
/-- What Insert answers. -/
def insE (n : Nat) (R : Nat → List (List UInt8)) (b : List UInt8) : Int × Int :=
  if b.length = 0 ∨ b.length > 1500 then (0, 81) else match firstFit n R b.length with
    | none => (0, 83)
    | some k => ((k : Int) * 256 + (freeAt (R k) : Int), 0)
/-- .. and what is there behind it. -/
def insR (n : Nat) (R : Nat → List (List UInt8)) (b : List UInt8) : Nat → List (List UInt8) :=
  if b.length = 0 ∨ b.length > 1500 then R else match firstFit n R b.length with
    | none => R
    | some k => upR R k (some (insP (R k) b))
open Classical in
noncomputable def updE (n : Nat) (R : Nat → List (List UInt8)) (id : Int) (b : List UInt8) : Int := if ThereR n R id then (updO (R (kOf id)) (sOf id) b).2 else 82
open Classical in
noncomputable def updR (n : Nat) (R : Nat → List (List UInt8)) (id : Int) (b : List UInt8) : Nat → List (List UInt8) := if ThereR n R id then upR R (kOf id) (updO (R (kOf id)) (sOf id) b).1 else R
open Classical in
noncomputable def delE (n : Nat) (R : Nat → List (List UInt8)) (id : Int) : Int := if ThereR n R id then 0 else 82
open Classical in
noncomputable def delR (n : Nat) (R : Nat → List (List UInt8)) (id : Int) : Nat → List (List UInt8) := if ThereR n R id then upR R (kOf id) (some ((R (kOf id)).set (sOf id) [])) else R
theorem InsOut.fn {base : Nat} {w : World} {F : Nat → Prop} {hv : Value} {n : Nat} {R : Nat → List (List UInt8)} {t : Nat} {b : List UInt8} {e : Ending} {w3 : World} (h : InsOut base w F hv n R t b e w3) : e = .returned (.tuple #[.int .i64 (insE n R b).1, .int .i64 (insE n R b).2]) ∧ HTo base w F hv n (insR n R b) (t + n) w3 := by
  unfold insE insR
  cases h with
  | long h1 h2 h3 => rw [if_pos h1, if_pos h1]; exact ⟨h2, h3⟩
  | full h1 h2 h3 h4 => rw [if_neg h1, if_neg h1, firstFit_none h2]; exact ⟨h3, h4⟩
  | ok h1 k hk h2 h3 h4 h5 => rw [if_neg h1, if_neg h1, firstFit_some hk h2 h3]; exact ⟨h4, h5⟩
theorem UpdOut.fn {base : Nat} {w : World} {F : Nat → Prop} {hv : Value} {n : Nat} {R : Nat → List (List UInt8)} {t : Nat} {id : Int} {b : List UInt8} {e : Ending} {w3 : World} (h : UpdOut base w F hv n R t id b e w3) : e = .returned (.int .i64 (updE n R id b)) ∧ HTo base w F hv n (updR n R id b) (t + 1) w3 := by
  unfold updE updR
  cases h with
  | no h1 h2 h3 => rw [if_neg h1, if_neg h1]; exact ⟨h2, h3⟩
  | yes k s hk hs hid hy h2 h3 =>
    obtain ⟨e1, e2⟩ := ksOf hs hid
    have : ThereR n R id := ⟨k, s, hk, hs, hid, hy⟩
    rw [if_pos this, if_pos this, e1, e2]; exact ⟨h2, h3⟩
theorem DelOut.fn {base : Nat} {w : World} {F : Nat → Prop} {hv : Value} {n : Nat} {R : Nat → List (List UInt8)} {t : Nat} {id : Int} {e : Ending} {w3 : World} (h : DelOut base w F hv n R t id e w3) : e = .returned (.int .i64 (delE n R id)) ∧ HTo base w F hv n (delR n R id) (t + 1) w3 := by
  unfold delE delR
  cases h with
  | no h1 h2 h3 => rw [if_neg h1, if_neg h1]; exact ⟨h2, h3⟩
  | yes k s hk hs hid hy h2 h3 =>
    obtain ⟨e1, e2⟩ := ksOf hs hid
    have : ThereR n R id := ⟨k, s, hk, hs, hid, hy⟩
    rw [if_pos this, if_pos this, e1, e2]; exact ⟨h2, h3⟩
theorem insE_bounds (n : Nat) (R : Nat → List (List UInt8)) (b : List UInt8) (hn : n ≤ 256) (hf : ∀ j, j < n → (R j).length ≤ 256) : 0 ≤ (insE n R b).1 ∧ (insE n R b).1 ≤ 100000 := by
  unfold insE
  split
  · simp
  · split
    · simp
    · rename_i k hk
      unfold firstFit at hk
      have hk' := List.mem_of_find?_eq_some hk
      rw [List.mem_range] at hk'
      have := freeAt_le (R k)
      have := hf k hk'
      show 0 ≤ (k : Int) * 256 + (freeAt (R k) : Int) ∧ (k : Int) * 256 + (freeAt (R k) : Int) ≤ 100000
      omega
/-- Two heaps, apart; the first below the block S, the second below the block S2. -/
inductive Mix (base S S2 : Nat) (w : World) (ha hb : Value) (n : Nat) (Ra Rb : Nat → List (List UInt8)) (t : Nat) : Prop
  | mk (Fa Fb : Nat → Prop) (hA : HeapAt base w Fa ha n Ra t) (hB : HeapAt base w Fb hb n Rb t) (dis : ∀ i, Fa i → ¬ Fb i) (lt : (∀ i, Fa i → i < S) ∧ ∀ i, Fb i → i < S2) (le : S ≤ w.heap.size ∧ S2 ≤ w.heap.size)
theorem Mix.swap {base S S2 : Nat} {w : World} {ha hb : Value} {n : Nat} {Ra Rb : Nat → List (List UInt8)} {t : Nat} (h : Mix base S S2 w ha hb n Ra Rb t) : Mix base S2 S w hb ha n Rb Ra t := by
  obtain ⟨Fa, Fb, hA, hB, dis, lt, le⟩ := h
  exact .mk Fb Fa hB hA (fun i h1 h2 => dis i h2 h1) ⟨lt.2, lt.1⟩ ⟨le.2, le.1⟩
theorem Mix.keepB {base S S2 : Nat} {w w' : World} {ha hb : Value} {n : Nat} {Ra Rb : Nat → List (List UInt8)} {t : Nat} (h : Mix base S S2 w ha hb n Ra Rb t) (hb' : Below w.heap.size w w') : Mix base S S2 w' ha hb n Ra Rb t := by
  obtain ⟨Fa, Fb, hA, hB, dis, lt, le⟩ := h
  exact .mk Fa Fb (hA.keepB hb') (hB.keepB hb') dis lt ⟨Nat.le_trans le.1 hb'.size, Nat.le_trans le.2 hb'.size⟩
theorem Mix.size {base S S2 : Nat} {w : World} {ha hb : Value} {n : Nat} {Ra Rb : Nat → List (List UInt8)} {t : Nat} (h : Mix base S S2 w ha hb n Ra Rb t) : S ≤ w.heap.size ∧ S2 ≤ w.heap.size := by
  obtain ⟨Fa, Fb, hA, hB, dis, lt, le⟩ := h; exact le
theorem Mix.le {base S S2 : Nat} {w : World} {ha hb : Value} {n : Nat} {Ra Rb : Nat → List (List UInt8)} {t t' : Nat} (h : Mix base S S2 w ha hb n Ra Rb t) (ht : t ≤ t') : Mix base S S2 w ha hb n Ra Rb t' := by
  obtain ⟨Fa, Fb, hA, hB, dis, lt, le⟩ := h
  exact .mk Fa Fb (hA.le ht) (hB.le ht) dis lt le
/-- What a call on the first of two heaps leaves. -/
theorem Mix.step {base S S2 : Nat} {w w' : World} {ha hb : Value} {n : Nat} {Rb R' : Nat → List (List UInt8)} {t t' : Nat} {Fa Fb : Nat → Prop} (hB : HeapAt base w Fb hb n Rb t) (dis : ∀ i, Fa i → ¬ Fb i) (lt : (∀ i, Fa i → i < S) ∧ ∀ i, Fb i → i < S2) (le : S ≤ w.heap.size ∧ S2 ≤ w.heap.size) (lo : ∀ i, Fa i → base ≤ i ∧ i < w.heap.size) (hT : HTo base w Fa ha n R' t' w') (ht : t ≤ t') : Mix base w'.heap.size S2 w' ha hb n R' Rb t' ∧ Fr w w' (fun i => base ≤ i ∧ i < S) := by
  obtain ⟨F', hH', hF', hfr⟩ := hT
  have hs := hfr.size
  have hB' := hB.keep hfr (fun i h1 h2 => dis i h2 h1)
  refine ⟨.mk F' Fb hH' (hB'.le ht) (fun i h1 h2 => ?_) ⟨fun i h => (hH'.lo i h).2, lt.2⟩ ⟨Nat.le_refl _, Nat.le_trans le.2 hs⟩, hfr.mono (fun i hi => ⟨(lo i hi).1, lt.1 i hi⟩)⟩
  · rcases hF' i h1 with h | h
    · exact dis i h h2
    · have := lt.2 i h2; omega
/-- Bytes that are newer than S. -/
def NewB (S : Nat) (v : Value) : Prop := ∀ a n c, v = .slice (some a) n c → S ≤ a.block
theorem newB_own {base : Nat} {w : World} {v : Value} {xs : List UInt8} (h : OwnB base w v xs) {S : Nat} (hS : S ≤ base) : NewB S v := fun a n c e => by
  have := (World.ownsRow.lt h a.block (by rw [e]; rfl)).1
  omega
theorem Mix.insert {base S S2 : Nat} {w : World} {ha hb : Value} {n : Nat} {Ra Rb : Nat → List (List UInt8)} {t : Nat} (h : Mix base S S2 w ha hb n Ra Rb t) (ht : t + n < 50000) (v : Value) (b : List UInt8) (hB : Bytes w v b) (hn : NewB S v) (hl : b.length ≤ 140737488355328) :
    Calls Try.prog 18 #[ha, v] w fun e w' => e = .returned (.tuple #[.int .i64 (insE n Ra b).1, .int .i64 (insE n Ra b).2]) ∧ Mix base w'.heap.size S2 w' ha hb n (insR n Ra b) Rb (t + n) ∧ Fr w w' (fun i => base ≤ i ∧ i < S) := by
  obtain ⟨Fa, Fb, hA, hBB, dis, lt, le⟩ := h
  refine (hinsert_any hA ht v b hB (fun a n c e hF => by have := lt.1 _ hF; have := hn a n c e; omega) hl).mono ?_
  rintro e w' hO
  obtain ⟨he, hT⟩ := hO.fn
  exact ⟨he, Mix.step hBB dis lt le hA.lo hT (by omega)⟩
theorem Mix.update {base S S2 : Nat} {w : World} {ha hb : Value} {n : Nat} {Ra Rb : Nat → List (List UInt8)} {t : Nat} (h : Mix base S S2 w ha hb n Ra Rb t) (ht : t < 50000) (id : Int) (hid : -9223372036854775808 ≤ id ∧ id ≤ 9223372036854775807) (v : Value) (b : List UInt8) (hB : Bytes w v b) (hn : NewB S v) (hl : b.length ≤ 140737488355328) :
    Calls Try.prog 20 #[ha, .int .i64 id, v] w fun e w' => e = .returned (.int .i64 (updE n Ra id b)) ∧ Mix base w'.heap.size S2 w' ha hb n (updR n Ra id b) Rb (t + 1) ∧ Fr w w' (fun i => base ≤ i ∧ i < S) := by
  obtain ⟨Fa, Fb, hA, hBB, dis, lt, le⟩ := h
  refine (hupdate_any hA ht id hid v b hB (fun a n c e hF => by have := lt.1 _ hF; have := hn a n c e; omega) hl).mono ?_
  rintro e w' hO
  obtain ⟨he, hT⟩ := hO.fn
  exact ⟨he, Mix.step hBB dis lt le hA.lo hT (by omega)⟩
theorem Mix.delete {base S S2 : Nat} {w : World} {ha hb : Value} {n : Nat} {Ra Rb : Nat → List (List UInt8)} {t : Nat} (h : Mix base S S2 w ha hb n Ra Rb t) (ht : t < 50000) (id : Int) (hid : -9223372036854775808 ≤ id ∧ id ≤ 9223372036854775807) :
    Calls Try.prog 21 #[ha, .int .i64 id] w fun e w' => e = .returned (.int .i64 (delE n Ra id)) ∧ Mix base w'.heap.size S2 w' ha hb n (delR n Ra id) Rb (t + 1) ∧ Fr w w' (fun i => base ≤ i ∧ i < S) := by
  obtain ⟨Fa, Fb, hA, hBB, dis, lt, le⟩ := h
  refine (hdelete_any hA ht id hid).mono ?_
  rintro e w' hO
  obtain ⟨he, hT⟩ := hO.fn
  exact ⟨he, Mix.step hBB dis lt le hA.lo hT (by omega)⟩
theorem Mix.scan {base S S2 : Nat} {w : World} {ha hb : Value} {n : Nat} {Ra Rb : Nat → List (List UInt8)} {t : Nat} (h : Mix base S S2 w ha hb n Ra Rb t) (ht : t + n < 50000) :
    Calls Try.prog 12 #[ha] w fun e w' => ∃ ao m cp, e = .returned (.tuple #[.slice ao m cp, .int .i64 0]) ∧ w'.ownsRow w.heap.size 3 1 (.slice ao m cp) (scanR n Ra).length ((scanR n Ra).map (Value.int .i64)) ∧ (∃ Fa Fb, HeapAt base w' Fa ha n Ra (t + n) ∧ HeapAt base w' Fb hb n Rb (t + n) ∧ (∀ i, Fa i → ¬ Fb i) ∧ (∀ c, (Value.slice ao m cp).ownBlock = some c → ¬ Fa c ∧ ¬ Fb c)) ∧ Fr w w' (fun i => base ≤ i ∧ i < S) := by
  obtain ⟨Fa, Fb, hA, hBB, dis, lt, le⟩ := h
  refine (hscan_any hA ht).mono ?_
  rintro e w' ⟨v, he, hrow, F', hH', hF', hfr, hnF⟩
  obtain ⟨ao, cp, hv, _, _⟩ := ints_of_own hrow
  subst hv
  have hB' := (hBB.keep hfr (fun i h1 h2 => dis i h2 h1)).le (show t ≤ t + n by omega)
  refine ⟨ao, _, cp, he, hrow, ⟨F', Fb, hH', hB', fun i h1 h2 => ?_, fun c hc => ⟨hnF c hc, fun h => ?_⟩⟩, hfr.mono (fun i hi => ⟨(hA.lo i hi).1, lt.1 i hi⟩)⟩
  · rcases hF' i h1 with h | h
    · exact dis i h h2
    · have := lt.2 i h2; omega
  · have := lt.2 c h
    have := (ownGe hrow c hc).1
    omega
theorem Mix.up {base S S2 : Nat} {w : World} {ha hb : Value} {n : Nat} {Ra Rb : Nat → List (List UInt8)} {t : Nat} (h : Mix base S S2 w ha hb n Ra Rb t) : Mix base w.heap.size w.heap.size w ha hb n Ra Rb t := by
  obtain ⟨Fa, Fb, hA, hB, dis, lt, le⟩ := h
  exact .mk Fa Fb hA hB dis ⟨fun i hi => Nat.lt_of_lt_of_le (lt.1 i hi) le.1, fun i hi => Nat.lt_of_lt_of_le (lt.2 i hi) le.2⟩ ⟨Nat.le_refl _, Nat.le_refl _⟩
end Go.Proofs.Ytkmgahembhgloaa

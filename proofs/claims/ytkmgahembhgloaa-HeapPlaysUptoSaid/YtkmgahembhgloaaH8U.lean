/- Heaps: a lower base; a made pair. -/
import Derived.Test.YtkmgahembhgloaaH8T
namespace Go.Proofs.Ytkmgahembhgloaa
open Go.RowKit Go.Maps
set_option linter.unusedVariables false
set_option linter.unusedSimpArgs false

theorem PoolIn.down {base b' : Nat} {w : World} {F : Nat → Prop} {g b : Nat} {dp : Value} {blk : Int → Nat} {cv : Int → Value} {P : PS} (h : PoolIn base w F g dp b blk cv P) (hb : b' ≤ base) : PoolIn b' w F g dp b blk cv P :=
  { h with hc := fun k hk => own_base (h.hc k hk) hb, lo := fun k hk => ⟨Nat.le_trans hb (h.lo k hk).1, (h.lo k hk).2⟩ }
theorem HeapAt.down {base b' : Nat} {w : World} {F : Nat → Prop} {hv : Value} {n : Nat} {R : Nat → List (List UInt8)} {t : Nat} (h : HeapAt base w F hv n R t) (hb : b' ≤ base) : HeapAt b' w F hv n R t := by
  obtain ⟨FP, FD, hgg, p, dp, nd, P, D, e, h⟩ := h
  obtain ⟨g, b, blk, cv, hp, hP⟩ := h.pd.pool
  exact ⟨FP, FD, hgg, p, dp, nd, P, D, e, { h with pd := ⟨⟨g, b, blk, cv, hp, hP.down hb⟩, h.pd.disk.base_le hb, h.pd.dis, h.pd.ok, h.pd.fit⟩, lo := Nat.le_trans hb h.lo }⟩
/-- Two heaps that were made one behind the other. -/
theorem Mix.made {w w1 w2 : World} {Fa Fb : Nat → Prop} {ha hb : Value} {n : Nat} {R : Nat → List (List UInt8)} {t : Nat} (hA : HeapAt w.heap.size w1 Fa ha n R t) (hB : HeapAt w1.heap.size w2 Fb hb n R t) (hb1 : w.heap.size ≤ w1.heap.size) (hb2 : Below w1.heap.size w1 w2) : Mix w.heap.size w2.heap.size w2.heap.size w2 ha hb n R R t :=
  .mk Fa Fb (hA.keepB hb2) (hB.down hb1) (fun i h1 h2 => by have := (hA.lo i h1).2; have := (hB.lo i h2).1; omega) ⟨fun i h => by have := (hA.lo i h).2; have := hb2.size; omega, fun i h => (hB.lo i h).2⟩ ⟨Nat.le_refl _, Nat.le_refl _⟩
theorem Mix.few {base S S2 : Nat} {w : World} {ha hb : Value} {n : Nat} {Ra Rb : Nat → List (List UInt8)} {t : Nat} (h : Mix base S S2 w ha hb n Ra Rb t) : ∀ j, j < n → (Ra j).length ≤ 256 := by
  obtain ⟨Fa, Fb, hA, hB, dis, lt, le⟩ := h
  exact hA.few
theorem fr_base {base S : Nat} {w0 w w' : World} (hb : Below base w0 w) (hf : Fr w w' (fun i => base ≤ i ∧ i < S)) (hs : base ≤ w.heap.size) : Below base w0 w' := hb.trans (hf.below hs (fun i hi => hi.1))
theorem infoOp8 : (Try.prog.info? 32).map (·.size) = some 5 := by kernel_rfl
/-- A step is read off the script. -/
theorem ops_at {w : World} {ao : Option Addr} {rs : List Op8} (h : rs = [] ∨ ∃ g o, ao = some ⟨g, o, none⟩ ∧ ∀ k (h : k < rs.length), w.rangeAt g (o + k * 5) (cells8 rs[k])) {k : Nat} (hk : k < rs.length) {w' : World} (hb : Below w.heap.size w w') : ∃ g o, ao = some ⟨g, o, none⟩ ∧ w'.rangeAt g (o + k * 5) (cells8 rs[k]) := by
  rcases h with h | ⟨g, o, ha, h⟩
  · rw [h] at hk; simp at hk
  · refine ⟨g, o, ha, fun j u hu => ?_⟩
    have := h k hk j u hu
    exact (hb.cell (World.block_lt_of_cell? w _ this)).trans this
end Go.Proofs.Ytkmgahembhgloaa

/- Where a script's playing stands: a pool, its disk, and how often each page is pinned. -/
import Derived.Test.YtpmbpadckbkglaaP7T
namespace Go.Proofs.Ytpmbpadckbkglaa
open Go.RowKit Go.Maps
set_option linter.unusedVariables false
set_option linter.unusedSimpArgs false

structure HS (w wr : World) (A : Nat) (nF : Int) (p dp : Value) (F G : Nat → Prop) (pf : Nat → Int) (P : PS) (D : DS) (k : Nat) : Prop where
  pd : PD w.heap.size wr F G p dp 0 P D
  na : ¬ (F A ∨ G A)
  first : P.first = 0
  pages : P.pages = 6
  size : P.size = nF
  uses : P.uses ≤ k
  ws : D.ws.length ≤ 96 * k
  row : wr.rowIs A 55 6 (fun j => .int .i64 (pf j))
  lo : w.heap.size ≤ A
  below : Below w.heap.size w wr
theorem HS.keep {w wr w' : World} {A : Nat} {nF : Int} {p dp : Value} {F G H : Nat → Prop} {pf : Nat → Int} {P : PS} {D : DS} {k : Nat} (h : HS w wr A nF p dp F G pf P D k) (hf : Fr wr w' H) (h1 : ∀ i, F i ∨ G i → ¬ H i) (h2 : ¬ H A) (h3 : ∀ i, H i → w.heap.size ≤ i) : HS w w' A nF p dp F G pf P D k :=
  { h with pd := h.pd.keep hf (fun i hi => h1 i (Or.inl hi)) (fun i hi => h1 i (Or.inr hi)), row := h.row.of_block (hf.block A h.row.lt h2), below := h.below.trans (hf.below h.below.size h3) }
theorem HS.keepB {w wr w' : World} {A : Nat} {nF : Int} {p dp : Value} {F G : Nat → Prop} {pf : Nat → Int} {P : PS} {D : DS} {k : Nat} (h : HS w wr A nF p dp F G pf P D k) (hb : Below wr.heap.size wr w') : HS w w' A nF p dp F G pf P D k :=
  h.keep (Fr.of_below (F := fun _ => False) hb) (fun _ _ => id) id (fun _ => False.elim)
theorem HS.mono {w wr : World} {A : Nat} {nF : Int} {p dp : Value} {F G : Nat → Prop} {pf : Nat → Int} {P : PS} {D : DS} {k m : Nat} (h : HS w wr A nF p dp F G pf P D k) (hm : k ≤ m) : HS w wr A nF p dp F G pf P D m :=
  { h with uses := by have := h.uses; omega, ws := by have := h.ws; omega }
theorem HS.pto {w wr w' : World} {A : Nat} {nF : Int} {p dp : Value} {F G : Nat → Prop} {pf : Nat → Int} {P P' : PS} {D D' : DS} {k : Nat} (h : HS w wr A nF p dp F G pf P D k) (ht : PTo w.heap.size wr F G p dp 0 P' D' w') (h0 : P'.first = P.first) (h1 : P'.pages = P.pages) (h2 : P'.size = P.size) (h3 : P'.uses ≤ P.uses + 1) (h4 : D'.ws.length ≤ D.ws.length + 96) :
    ∃ F' G', HS w w' A nF p dp F' G' pf P' D' (k + 1) ∧ Fr wr w' (fun i => F i ∨ G i) := by
  obtain ⟨F', G', hp, hf, hF, hG⟩ := ht
  have hA := h.row.lt
  refine ⟨F', G', ⟨hp, fun hx => ?_, h0.trans h.first, h1.trans h.pages, h2.trans h.size, by have := h.uses; omega, by have := h.ws; omega, h.row.of_block (hf.block A hA h.na), h.lo, h.below.trans (hf.below h.below.size (fun i hi => (h.pd.lo i hi).1))⟩, hf⟩
  rcases hx with hx | hx
  · rcases hF A hx with h1 | h1
    · exact h.na (Or.inl h1)
    · omega
  · rcases hG A hx with h1 | h1
    · exact h.na (Or.inr h1)
    · omega
theorem HS.pin {w wr w' : World} {A : Nat} {nF : Int} {p dp : Value} {F G : Nat → Prop} {pf : Nat → Int} {P P' : PS} {D D' : DS} {k : Nat} {bs : List UInt8} (h : HS w wr A nF p dp F G pf P D k) (hk : PinOk P D P' D' bs) {F' G' : Nat → Prop} (hp : PD w.heap.size w' F' G' p dp 0 P' D') (hf : Fr wr w' (fun i => F i ∨ G i)) (hF : ∀ i, F' i → F i ∨ wr.heap.size ≤ i) (hG : ∀ i, G' i → G i ∨ wr.heap.size ≤ i) :
    HS w w' A nF p dp F' G' pf P' D' (k + 1) := by
  have hA := h.row.lt
  refine ⟨hp, fun hx => ?_, hk.first.trans h.first, hk.pages.trans h.pages, hk.size.trans h.size, by have := h.uses; have := hk.uses; omega, by have := h.ws; have := hk.ws; omega, h.row.of_block (hf.block A hA h.na), h.lo, h.below.trans (hf.below h.below.size (fun i hi => (h.pd.lo i hi).1))⟩
  rcases hx with hx | hx
  · rcases hF A hx with h1 | h1
    · exact h.na (Or.inl h1)
    · omega
  · rcases hG A hx with h1 | h1
    · exact h.na (Or.inr h1)
    · omega
theorem HS.set {w wr : World} {A : Nat} {nF : Int} {p dp : Value} {F G : Nat → Prop} {pf : Nat → Int} {P : PS} {D : DS} {k : Nat} (h : HS w wr A nF p dp F G pf P D k) (j : Nat) (v : Int) : HS w (wr.setCell ⟨A, j, none⟩ (.int .i64 v)) A nF p dp F G (fun i => if i = j then v else pf i) P D k :=
  { h with
    pd := h.pd.keep (fr_set _ _ _ _) (fun i hi e => h.na (Or.inl (e ▸ hi))) (fun i hi e => h.na (Or.inr (e ▸ hi)))
    row := (h.row.set j (.int .i64 v)).congr (fun i hi => by by_cases e : i = j <;> simp [e])
    below := h.below.setCell h.lo _ }
theorem HS.cell {w wr : World} {A : Nat} {nF : Int} {p dp : Value} {F G : Nat → Prop} {pf : Nat → Int} {P : PS} {D : DS} {k : Nat} (h : HS w wr A nF p dp F G pf P D k) {j : Nat} (hj : j < 6) : wr.cell? ⟨A, j, none⟩ = some (.int .i64 (pf j)) := h.row.cell hj
theorem HS.congr {w wr : World} {A : Nat} {nF : Int} {p dp : Value} {F G : Nat → Prop} {pf pf' : Nat → Int} {P : PS} {D : DS} {k : Nat} (h : HS w wr A nF p dp F G pf P D k) (e : ∀ j, j < 6 → pf j = pf' j) : HS w wr A nF p dp F G pf' P D k :=
  { h with row := h.row.congr (fun j hj => by rw [e j hj]) }
/-- Integers that lie somewhere. -/
def Ints (w : World) (v : Value) (ks : List Int) : Prop :=
  ∃ ao cap, v = .slice ao ks.length cap ∧ ks.length ≤ cap ∧ (ks = [] ∨ ∃ g, ao = some ⟨g, 0, none⟩ ∧ ∀ j (hj : j < ks.length), w.cell? ⟨g, j, none⟩ = some (.int .i64 ks[j]))
theorem ints_of_own {base : Nat} {w : World} {v : Value} {ks : List Int} (h : w.ownsRow base 3 1 v ks.length (ks.map (Value.int .i64))) : Ints w v ks := by
  rcases id h with ⟨h1, ⟨hv, hn⟩ | ⟨g, cap, cur, hv, hg, hh, hc, _⟩⟩
  · exact ⟨none, 0, by rw [hv, hn], by omega, Or.inl (List.eq_nil_of_length_eq_zero hn)⟩
  · refine ⟨some ⟨g, 0, none⟩, cap, hv, hc, Or.inr ⟨g, rfl, fun j hj => ?_⟩⟩
    have := World.ownsRow.cells h (g := g) (by rw [hv]; rfl) j (.int .i64 ks[j]) (by simp [hj])
    rw [Addr.add_mid] at this
    simpa using this
theorem cells_opP {w : World} {g o : Nat} {x : OpP} (h : w.rangeAt g o (cellsP x)) : w.cell? ⟨g, o, none⟩ = some (.int .i64 x.kind) ∧ w.cell? ⟨g, o + 1, none⟩ = some (.int .i64 x.page) ∧ w.cell? ⟨g, o + 2, none⟩ = some (bv x.by_) ∧ w.cell? ⟨g, o + 3, none⟩ = some (.int .u64 x.mark) :=
  ⟨h 0 _ rfl, h 1 _ rfl, h 2 _ rfl, h 3 _ rfl⟩
end Go.Proofs.Ytpmbpadckbkglaa

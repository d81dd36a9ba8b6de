/- A child becomes two: split. -/
import Derived.Test.YtfobcnmhghfanaaB9E
namespace Go.Proofs.Ytfobcnmhghfanaa
open Go.RowKit Go.Shelf
set_option linter.unusedVariables false
set_option linter.unusedSimpArgs false

theorem mem_cellB' {base : Nat} {w : World} {g n cap : Nat} {bs : List Br} (h : OwnN base w (.slice (some ⟨g, 0, none⟩) n cap) bs) (i : Nat) (hi : i < bs.length) : w.cell? ⟨g, i * 2 + 1, none⟩ = some (pt bs[i].2) := by
  have := h.cell (cB_len bs) i hi 1 (by omega)
  simpa [cB] using this
/-- A new node is taken up. -/
theorem MTo.adopt {base : Nat} {w0 w : World} {ro0 ro : Ro} {nd0 nd : Nat → Nd} (h : MTo base w0 ro0 nd0 w ro nd) {f : Nat} (hf : ro f = none) (hfr : w0.heap.size ≤ f) (hbs : base ≤ w0.heap.size) (x : Nd) (hblk : w.heap[f]? = some (.cells (x.ve :: x.vb :: x.ex).toArray x.ty (0, 0))) (hE : OwnE base w x.ve x.es) (hN : OwnN base w x.vb x.bs) (h1 : ∀ k, x.ve.ownBlock = some k → ro k = none ∧ w0.heap.size ≤ k ∧ k ≠ f) (h2 : ∀ k, x.vb.ownBlock = some k → ro k = none ∧ w0.heap.size ≤ k ∧ k ≠ f) (hne : ∀ k, x.ve.ownBlock = some k → x.vb.ownBlock ≠ some k) :
    MTo base w0 ro0 nd0 w (fun k => if k = f then some (f, 0) else roPut ro f x k) (updN nd f x) := by
  have hput : ∀ k, ro k ≠ none → (if k = f then some (f, 0) else roPut ro f x k) = ro k := fun k hk => by
    rw [if_neg (fun e => hk (by rw [e]; exact hf))]
    unfold roPut
    rw [if_neg (fun e => hk (h1 k e).1), if_neg (fun e => hk (h2 k e).1)]
  have hn : ∀ c, (if c = f then some (f, 0) else roPut ro f x c) = some (c, 0) → c = f ∨ ro c = some (c, 0) := fun c hc => by
    split at hc
    · rename_i e; exact Or.inl e
    · unfold roPut at hc
      split at hc
      · cases hc
      · split at hc
        · cases hc
        · exact Or.inr hc
  have hm := h.mem
  have hcf : ∀ c, ro c = some (c, 0) → c ≠ f := fun c hc e => by rw [e, hf] at hc; cases hc
  have hlt : f < w.heap.size := (Array.getElem?_eq_some_iff.1 hblk).1
  refine ⟨⟨fun c hc => ?_, fun c hc => ?_, fun c hc => ?_, fun c hc k hk => ?_, fun c hc k hk => ?_, fun k hk => ?_⟩, fun c hc => ?_, fun c hc => ?_, h.fr, fun k hk => ?_⟩
  · rcases hn c hc with rfl | hc
    · rw [updN_same]; exact hblk
    · rw [updN_other _ _ (hcf c hc)]; exact hm.blk c hc
  · rcases hn c hc with rfl | hc
    · rw [updN_same]; exact hE
    · rw [updN_other _ _ (hcf c hc)]; exact hm.rowE c hc
  · rcases hn c hc with rfl | hc
    · rw [updN_same]; exact hN
    · rw [updN_other _ _ (hcf c hc)]; exact hm.rowB c hc
  · rcases hn c hc with rfl | hc
    · rw [updN_same] at hk
      rw [if_neg (h1 k hk).2.2]; unfold roPut; rw [if_pos hk]
    · rw [updN_other _ _ (hcf c hc)] at hk
      have := hm.ro1 c hc k hk
      rw [hput k (by rw [this]; simp)]; exact this
  · rcases hn c hc with rfl | hc
    · rw [updN_same] at hk
      rw [if_neg (h2 k hk).2.2]; unfold roPut; rw [if_neg (fun e => hne k e hk), if_pos hk]
    · rw [updN_other _ _ (hcf c hc)] at hk
      have := hm.ro2 c hc k hk
      rw [hput k (by rw [this]; simp)]; exact this
  · split at hk
    · rename_i e; subst e; exact ⟨by omega, hlt⟩
    · rcases roPut_ge hk with hk | hk | hk
      · exact hm.lo k hk
      · exact hE.lo k hk
      · exact hN.lo k hk
  · rw [hput c (by rw [h.node c hc]; simp)]; exact h.node c hc
  · rw [updN_other _ _ (hcf c (h.node c hc))]; exact h.ex c hc
  · split at hk
    · rename_i e; subst e; exact Or.inr hfr
    · rcases roPut_ge hk with hk | hk | hk
      · exact h.gr k hk
      · exact Or.inr (h1 k hk).2.1
      · exact Or.inr (h2 k hk).2.1
/-- A child that is a leaf gives the second part of its entries to a new node. -/
theorem mem_cutE {base : Nat} {w w2 : World} {ro : Ro} {nd : Nat → Nd} (hm : Mem base w ro nd) {c : Nat} (hc : ro c = some (c, 0)) (hb : base ≤ w.heap.size) {es1 es2 : List E} {g1 n1 c1 g2 n2 c2 : Nat} (h2 : Below w.heap.size w w2) (hf2 : w2.heap[w.heap.size]? = some (.cells #[.slice none 0 0, .slice none 0 0] 52 (0, 0))) (o1 : OwnE base w2 (.slice (some ⟨g1, 0, none⟩) n1 c1) es1) (o2 : OwnE base w2 (.slice (some ⟨g2, 0, none⟩) n2 c2) es2) (k1 : w.heap.size < g1) (k2 : w.heap.size < g2) (hne : g1 ≠ g2) :
    ∃ ro' nd', MTo base w ro nd ((w2.setCell ⟨c, 0, none⟩ (.slice (some ⟨g1, 0, none⟩) n1 c1)).setCell ⟨w.heap.size, 0, none⟩ (.slice (some ⟨g2, 0, none⟩) n2 c2)) ro' nd' ∧ ro' w.heap.size = some (w.heap.size, 0) ∧
      (nd' c).es = es1 ∧ (nd' c).bs = (nd c).bs ∧ (nd' w.heap.size).es = es2 ∧ (nd' w.heap.size).bs = [] ∧ (nd' w.heap.size).ve = .slice (some ⟨g2, 0, none⟩) n2 c2 ∧ (nd' w.heap.size).vb = .slice none 0 0 ∧ ∀ b, b ≠ c → b ≠ w.heap.size → nd' b = nd b := by
  have hlt := hm.lt hc
  generalize hs1 : Value.slice (some ⟨g1, 0, none⟩) n1 c1 = s1 at *
  generalize hs2 : Value.slice (some ⟨g2, 0, none⟩) n2 c2 = s2 at *
  have b1 : s1.ownBlock = some g1 := by rw [← hs1]; rfl
  have b2 : s2.ownBlock = some g2 := by rw [← hs2]; rfl
  have hblk2 : w2.heap[c]? = some (.cells ((nd c).ve :: (nd c).vb :: (nd c).ex).toArray (nd c).ty (0, 0)) := (h2.block c hlt).trans (hm.blk c hc)
  have f1 := fr_set w2 c 0 s1
  obtain ⟨w3, hw3⟩ : ∃ w3, w2.setCell ⟨c, 0, none⟩ s1 = w3 := ⟨_, rfl⟩
  have hblk3 : w3.heap[c]? = some (.cells (s1 :: (nd c).vb :: (nd c).ex).toArray (nd c).ty (0, 0)) := by rw [← hw3]; exact heap_set0 hblk2 s1
  rw [hw3] at f1 ⊢
  have f2 := fr_set w3 w.heap.size 0 s2
  have hl2 : w.heap.size < w2.heap.size := (Array.getElem?_eq_some_iff.1 hf2).1
  have hf3 : w3.heap[w.heap.size]? = some (.cells [.slice none 0 0, .slice none 0 0].toArray 52 (0, 0)) := (f1.block _ hl2 (fun e => by omega)).trans hf2
  obtain ⟨w4, hw4⟩ : ∃ w4, w3.setCell ⟨w.heap.size, 0, none⟩ s2 = w4 := ⟨_, rfl⟩
  have hf4 : w4.heap[w.heap.size]? = some (.cells [s2, .slice none 0 0].toArray 52 (0, 0)) := by rw [← hw4]; exact heap_set0 hf3 s2
  rw [hw4] at f2 ⊢
  have hblk4 : w4.heap[c]? = some (.cells (s1 :: (nd c).vb :: (nd c).ex).toArray (nd c).ty (0, 0)) := (f2.block c (Nat.lt_of_lt_of_le hlt (Nat.le_trans h2.size f1.size)) (fun e => by omega)).trans hblk3
  have hfr0 : Fr w w4 (fun k => k = c) := ((Fr.of_below h2).trans f1 (fun k hk => Or.inl hk)).trans f2 (fun k hk => Or.inr (by omega))
  have hfr : Fr w w4 (Own3 nd c) := hfr0.mono (fun k hk => Or.inl hk)
  have ro4 : ∀ k, w.heap.size < k → k < w2.heap.size → w4.heap[k]? = w2.heap[k]? := fun k hk hk2 => (f2.block k (Nat.lt_of_lt_of_le hk2 f1.size) (fun e => by omega)).trans (f1.block k hk2 (fun e => by omega))
  have o1' : OwnE base w4 s1 es1 := o1.of_block (fun k hk => ro4 k (by rw [b1] at hk; cases hk; exact k1) (o1.lo k hk).2)
  have o2' : OwnE base w4 s2 es2 := o2.of_block (fun k hk => ro4 k (by rw [b2] at hk; cases hk; exact k2) (o2.lo k hk).2)
  have oN : OwnN base w4 (nd c).vb (nd c).bs := (hm.rowB c hc).of_block (fun k hk => hfr0.block k ((hm.rowB c hc).lo k hk).2 (fun ho => hm.ne2 hc (ho ▸ hk)))
  have hno : ∀ k, w.heap.size ≤ k → k ≠ g1 → roPut ro c (putE (nd c) es1 s1) k = none := fun k hk hk1 => by
    unfold roPut
    rw [if_neg (fun e => by have e' : s1.ownBlock = some k := e; rw [b1] at e'; cases e'; exact hk1 rfl), if_neg (fun e => by have := ((hm.rowB c hc).lo k e).2; omega)]
    cases hr : ro k with
    | none => rfl
    | some y => have := (hm.lo k (by rw [hr]; simp)).2; omega
  have TA := hm.put hc (putE (nd c) es1 s1) hfr hblk4 o1' oN (Or.inr (fun k hk => by have e' : s1.ownBlock = some k := hk; rw [b1] at e'; cases e'; omega)) (Or.inl rfl) (fun k hk e => by have e' : s1.ownBlock = some k := hk; rw [b1] at e'; cases e'; have := ((hm.rowB c hc).lo _ e).2; omega) ⟨rfl, rfl⟩
  have TB := TA.adopt (f := w.heap.size) (hno _ (Nat.le_refl _) (by omega)) (Nat.le_refl _) hb ⟨es2, [], s2, .slice none 0 0, [], 52⟩ hf4 o2' (Row.nil_ _ _ _ _ _) (fun k hk => by have e' : s2.ownBlock = some k := hk; rw [b2] at e'; cases e'; exact ⟨hno _ (by omega) (by omega), by omega, by omega⟩) (fun k hk => by cases hk) (fun k _ e => by cases e)
  refine ⟨_, _, TB, if_pos rfl, ?_, ?_, ?_, ?_, ?_, ?_, ?_⟩
  · rw [updN_other _ _ (by omega), updN_same]; rfl
  · rw [updN_other _ _ (by omega), updN_same]; rfl
  · rw [updN_same]
  · rw [updN_same]
  · rw [updN_same]
  · rw [updN_same]
  · intro b h1 h2
    rw [updN_other _ _ h2, updN_other _ _ h1]
/-- A child that is no leaf gives the second part of its branches to a new node. -/
theorem mem_cutB {base : Nat} {w w2 : World} {ro : Ro} {nd : Nat → Nd} (hm : Mem base w ro nd) {c : Nat} (hc : ro c = some (c, 0)) (hb : base ≤ w.heap.size) {bs1 bs2 : List Br} {g1 n1 c1 g2 n2 c2 : Nat} (h2 : Below w.heap.size w w2) (hf2 : w2.heap[w.heap.size]? = some (.cells #[.slice none 0 0, .slice none 0 0] 52 (0, 0))) (o1 : OwnN base w2 (.slice (some ⟨g1, 0, none⟩) n1 c1) bs1) (o2 : OwnN base w2 (.slice (some ⟨g2, 0, none⟩) n2 c2) bs2) (k1 : w.heap.size < g1) (k2 : w.heap.size < g2) (hne : g1 ≠ g2) :
    ∃ ro' nd', MTo base w ro nd ((w2.setCell ⟨c, 1, none⟩ (.slice (some ⟨g1, 0, none⟩) n1 c1)).setCell ⟨w.heap.size, 1, none⟩ (.slice (some ⟨g2, 0, none⟩) n2 c2)) ro' nd' ∧ ro' w.heap.size = some (w.heap.size, 0) ∧
      (nd' c).es = (nd c).es ∧ (nd' c).bs = bs1 ∧ (nd' w.heap.size).es = [] ∧ (nd' w.heap.size).bs = bs2 ∧ (nd' w.heap.size).ve = .slice none 0 0 ∧ (nd' w.heap.size).vb = .slice (some ⟨g2, 0, none⟩) n2 c2 ∧ ∀ b, b ≠ c → b ≠ w.heap.size → nd' b = nd b := by
  have hlt := hm.lt hc
  generalize hs1 : Value.slice (some ⟨g1, 0, none⟩) n1 c1 = s1 at *
  generalize hs2 : Value.slice (some ⟨g2, 0, none⟩) n2 c2 = s2 at *
  have b1 : s1.ownBlock = some g1 := by rw [← hs1]; rfl
  have b2 : s2.ownBlock = some g2 := by rw [← hs2]; rfl
  have hblk2 : w2.heap[c]? = some (.cells ((nd c).ve :: (nd c).vb :: (nd c).ex).toArray (nd c).ty (0, 0)) := (h2.block c hlt).trans (hm.blk c hc)
  have f1 := fr_set w2 c 1 s1
  obtain ⟨w3, hw3⟩ : ∃ w3, w2.setCell ⟨c, 1, none⟩ s1 = w3 := ⟨_, rfl⟩
  have hblk3 : w3.heap[c]? = some (.cells ((nd c).ve :: s1 :: (nd c).ex).toArray (nd c).ty (0, 0)) := by rw [← hw3]; exact heap_set1 hblk2 s1
  rw [hw3] at f1 ⊢
  have f2 := fr_set w3 w.heap.size 1 s2
  have hl2 : w.heap.size < w2.heap.size := (Array.getElem?_eq_some_iff.1 hf2).1
  have hf3 : w3.heap[w.heap.size]? = some (.cells [.slice none 0 0, .slice none 0 0].toArray 52 (0, 0)) := (f1.block _ hl2 (fun e => by omega)).trans hf2
  obtain ⟨w4, hw4⟩ : ∃ w4, w3.setCell ⟨w.heap.size, 1, none⟩ s2 = w4 := ⟨_, rfl⟩
  have hf4 : w4.heap[w.heap.size]? = some (.cells [.slice none 0 0, s2].toArray 52 (0, 0)) := by rw [← hw4]; exact heap_set1 hf3 s2
  rw [hw4] at f2 ⊢
  have hblk4 : w4.heap[c]? = some (.cells ((nd c).ve :: s1 :: (nd c).ex).toArray (nd c).ty (0, 0)) := (f2.block c (Nat.lt_of_lt_of_le hlt (Nat.le_trans h2.size f1.size)) (fun e => by omega)).trans hblk3
  have hfr0 : Fr w w4 (fun k => k = c) := ((Fr.of_below h2).trans f1 (fun k hk => Or.inl hk)).trans f2 (fun k hk => Or.inr (by omega))
  have hfr : Fr w w4 (Own3 nd c) := hfr0.mono (fun k hk => Or.inl hk)
  have ro4 : ∀ k, w.heap.size < k → k < w2.heap.size → w4.heap[k]? = w2.heap[k]? := fun k hk hk2 => (f2.block k (Nat.lt_of_lt_of_le hk2 f1.size) (fun e => by omega)).trans (f1.block k hk2 (fun e => by omega))
  have o1' : OwnN base w4 s1 bs1 := o1.of_block (fun k hk => ro4 k (by rw [b1] at hk; cases hk; exact k1) (o1.lo k hk).2)
  have o2' : OwnN base w4 s2 bs2 := o2.of_block (fun k hk => ro4 k (by rw [b2] at hk; cases hk; exact k2) (o2.lo k hk).2)
  have oE : OwnE base w4 (nd c).ve (nd c).es := (hm.rowE c hc).of_block (fun k hk => hfr0.block k ((hm.rowE c hc).lo k hk).2 (fun ho => hm.ne1 hc (ho ▸ hk)))
  have hno : ∀ k, w.heap.size ≤ k → k ≠ g1 → roPut ro c (putB (nd c) bs1 s1) k = none := fun k hk hk1 => by
    unfold roPut
    rw [if_neg (fun e => by have := ((hm.rowE c hc).lo k e).2; omega), if_neg (fun e => by have e' : s1.ownBlock = some k := e; rw [b1] at e'; cases e'; exact hk1 rfl)]
    cases hr : ro k with
    | none => rfl
    | some y => have := (hm.lo k (by rw [hr]; simp)).2; omega
  have TA := hm.put hc (putB (nd c) bs1 s1) hfr hblk4 oE o1' (Or.inl rfl) (Or.inr (fun k hk => by have e' : s1.ownBlock = some k := hk; rw [b1] at e'; cases e'; omega)) (fun k e hk => by have e' : s1.ownBlock = some k := hk; rw [b1] at e'; cases e'; have := ((hm.rowE c hc).lo _ e).2; omega) ⟨rfl, rfl⟩
  have TB := TA.adopt (f := w.heap.size) (hno _ (Nat.le_refl _) (by omega)) (Nat.le_refl _) hb ⟨[], bs2, .slice none 0 0, s2, [], 52⟩ hf4 (Row.nil_ _ _ _ _ _) o2' (fun k hk => by cases hk) (fun k hk => by have e' : s2.ownBlock = some k := hk; rw [b2] at e'; cases e'; exact ⟨hno _ (by omega) (by omega), by omega, by omega⟩) (fun k e _ => by cases e)
  refine ⟨_, _, TB, if_pos rfl, ?_, ?_, ?_, ?_, ?_, ?_, ?_⟩
  · rw [updN_other _ _ (by omega), updN_same]; rfl
  · rw [updN_other _ _ (by omega), updN_same]; rfl
  · rw [updN_same]
  · rw [updN_same]
  · rw [updN_same]
  · rw [updN_same]
  · intro b h1 h2
    rw [updN_other _ _ h2, updN_other _ _ h1]
end Go.Proofs.Ytfobcnmhghfanaa

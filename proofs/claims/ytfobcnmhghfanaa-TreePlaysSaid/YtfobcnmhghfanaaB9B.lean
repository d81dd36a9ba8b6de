/- Nodes as they lie: each its own block and its two rows, none shared. -/
import Derived.Test.YtfobcnmhghfanaaB9SE
import Derived.Test.YtfobcnmhghfanaaB9SN
import Derived.Test.YtfobcnmhghfanaaB9M3
namespace Go.Proofs.Ytfobcnmhghfanaa
open Go.RowKit
set_option linter.unusedVariables false
set_option linter.unusedSimpArgs false

/-- Which block belongs to which node, and as what: 0 itself, 1 its entries, 2 its branches. -/
abbrev Ro := Nat → Option (Nat × Nat)
structure Mem (base : Nat) (w : World) (ro : Ro) (nd : Nat → Nd) : Prop where
  blk : ∀ b, ro b = some (b, 0) → w.heap[b]? = some (.cells ((nd b).ve :: (nd b).vb :: (nd b).ex).toArray (nd b).ty (0, 0))
  rowE : ∀ b, ro b = some (b, 0) → OwnE base w (nd b).ve (nd b).es
  rowB : ∀ b, ro b = some (b, 0) → OwnN base w (nd b).vb (nd b).bs
  ro1 : ∀ b, ro b = some (b, 0) → ∀ k, (nd b).ve.ownBlock = some k → ro k = some (b, 1)
  ro2 : ∀ b, ro b = some (b, 0) → ∀ k, (nd b).vb.ownBlock = some k → ro k = some (b, 2)
  lo : ∀ k, ro k ≠ none → base ≤ k ∧ k < w.heap.size
theorem Mem.keep {base : Nat} {w w' : World} {ro : Ro} {nd : Nat → Nd} (h : Mem base w ro nd) {G : Nat → Prop} (hf : Fr w w' G) (hd : ∀ k, ro k ≠ none → ¬ G k) : Mem base w' ro nd := by
  have hb : ∀ k, ro k ≠ none → w'.heap[k]? = w.heap[k]? := fun k hk => hf.block k (h.lo k hk).2 (hd k hk)
  exact ⟨fun b e => (hb b (by rw [e]; simp)).trans (h.blk b e), fun b e => (h.rowE b e).of_block (fun k hk => hb k (by rw [h.ro1 b e k hk]; simp)), fun b e => (h.rowB b e).of_block (fun k hk => hb k (by rw [h.ro2 b e k hk]; simp)), h.ro1, h.ro2, fun k hk => ⟨(h.lo k hk).1, Nat.lt_of_lt_of_le (h.lo k hk).2 hf.size⟩⟩
theorem Mem.below {base : Nat} {w w' : World} {ro : Ro} {nd : Nat → Nd} (h : Mem base w ro nd) (hf : Below w.heap.size w w') : Mem base w' ro nd := h.keep (Fr.of_below (F := fun _ => False) hf) (fun _ _ => id)
/-- A node's two first cells. -/
structure NodeC (w : World) (b : Nat) (ve vb : Value) : Prop where
  c0 : w.cell? ⟨b, 0, none⟩ = some ve
  c1 : w.cell? ⟨b, 1, none⟩ = some vb
  fz : ∀ o, w.frozen? ⟨b, o, none⟩ = false
theorem nodeC {w : World} {b : Nat} {ve vb : Value} {ex : List Value} {t : TypeId} (h : w.heap[b]? = some (.cells (ve :: vb :: ex).toArray t (0, 0))) : NodeC w b ve vb :=
  ⟨by rw [cell_of_row w b 0 _ _ _ h]; simp, by rw [cell_of_row w b 1 _ _ _ h]; simp, frozen_row h⟩
theorem Mem.at_ {base : Nat} {w : World} {ro : Ro} {nd : Nat → Nd} (h : Mem base w ro nd) {b : Nat} (hb : ro b = some (b, 0)) : NodeC w b (nd b).ve (nd b).vb := nodeC (h.blk b hb)
theorem NodeC.below {w w' : World} {b : Nat} {ve vb : Value} (h : NodeC w b ve vb) (hf : Below w.heap.size w w') : NodeC w' b ve vb := by
  have hlt := World.block_lt_of_cell? w _ h.c0
  exact ⟨(hf.cell (p := ⟨b, 0, none⟩) hlt).trans h.c0, (hf.cell (p := ⟨b, 1, none⟩) hlt).trans h.c1, fun o => (World.frozen?_of_block (hf.block b hlt)).trans (h.fz o)⟩
theorem heap_set0 {w : World} {b : Nat} {ve vb : Value} {ex : List Value} {t : TypeId} (h : w.heap[b]? = some (.cells (ve :: vb :: ex).toArray t (0, 0))) (v : Value) : (w.setCell ⟨b, 0, none⟩ v).heap[b]? = some (.cells (v :: vb :: ex).toArray t (0, 0)) := by
  rw [setCell_eq_setRow w b 0 _ t _ v h, setRow_heap w b _ _ t _ h]; simp
theorem heap_set1 {w : World} {b : Nat} {ve vb : Value} {ex : List Value} {t : TypeId} (h : w.heap[b]? = some (.cells (ve :: vb :: ex).toArray t (0, 0))) (v : Value) : (w.setCell ⟨b, 1, none⟩ v).heap[b]? = some (.cells (ve :: v :: ex).toArray t (0, 0)) := by
  rw [setCell_eq_setRow w b 1 _ t _ v h, setRow_heap w b _ _ t _ h]; simp
/-- Who owns what, behind a node's turning. -/
def roPut (ro : Ro) (b : Nat) (x : Nd) : Ro := fun k => if x.ve.ownBlock = some k then some (b, 1) else if x.vb.ownBlock = some k then some (b, 2) else ro k
theorem roPut_ge {ro : Ro} {b : Nat} {x : Nd} {k : Nat} (h : roPut ro b x k ≠ none) : ro k ≠ none ∨ x.ve.ownBlock = some k ∨ x.vb.ownBlock = some k := by
  unfold roPut at h
  split at h
  · rename_i e; exact Or.inr (Or.inl e)
  · split at h
    · rename_i e; exact Or.inr (Or.inr e)
    · exact Or.inl h
/-- What is known of a row that took another's place. -/
def Came (w : World) (v v' : Value) : Prop := v'.ownBlock = v.ownBlock ∨ ∀ k, v'.ownBlock = some k → w.heap.size ≤ k
theorem roPut_node {base : Nat} {w : World} {ro : Ro} {nd : Nat → Nd} (h : Mem base w ro nd) {b : Nat} (hb : ro b = some (b, 0)) {x : Nd} (h1 : Came w (nd b).ve x.ve) (h2 : Came w (nd b).vb x.vb) {c : Nat} (hc : ro c = some (c, 0)) : roPut ro b x c = some (c, 0) := by
  have n1 : x.ve.ownBlock ≠ some c := fun e => by
    rcases h1 with h1 | h1
    · have := h.ro1 b hb c (h1 ▸ e); rw [hc] at this; cases this
    · have := h1 c e; have := (h.lo c (by rw [hc]; simp)).2; omega
  have n2 : x.vb.ownBlock ≠ some c := fun e => by
    rcases h2 with h2 | h2
    · have := h.ro2 b hb c (h2 ▸ e); rw [hc] at this; cases this
    · have := h2 c e; have := (h.lo c (by rw [hc]; simp)).2; omega
  unfold roPut
  rw [if_neg n1, if_neg n2, hc]
/-- A node's blocks. -/
def Own3 (nd : Nat → Nd) (b : Nat) (k : Nat) : Prop := k = b ∨ (nd b).ve.ownBlock = some k ∨ (nd b).vb.ownBlock = some k
theorem Mem.own3 {base : Nat} {w : World} {ro : Ro} {nd : Nat → Nd} (h : Mem base w ro nd) {b : Nat} (hb : ro b = some (b, 0)) {k : Nat} (hk : Own3 nd b k) : ∃ i, ro k = some (b, i) := by
  rcases hk with rfl | hk | hk
  · exact ⟨0, hb⟩
  · exact ⟨1, h.ro1 b hb k hk⟩
  · exact ⟨2, h.ro2 b hb k hk⟩
/-- What a call made of the nodes. -/
structure MTo (base : Nat) (w : World) (ro : Ro) (nd : Nat → Nd) (w' : World) (ro' : Ro) (nd' : Nat → Nd) : Prop where
  mem : Mem base w' ro' nd'
  node : ∀ b, ro b = some (b, 0) → ro' b = some (b, 0)
  ex : ∀ b, ro b = some (b, 0) → (nd' b).ex = (nd b).ex ∧ (nd' b).ty = (nd b).ty
  fr : Fr w w' (fun k => ro k ≠ none)
  gr : ∀ k, ro' k ≠ none → ro k ≠ none ∨ w.heap.size ≤ k
theorem MTo.of_below {base : Nat} {w w' : World} {ro : Ro} {nd : Nat → Nd} (h : Mem base w ro nd) (hf : Below w.heap.size w w') : MTo base w ro nd w' ro nd :=
  ⟨h.below hf, fun _ h => h, fun _ _ => ⟨rfl, rfl⟩, Fr.of_below hf, fun _ h => Or.inl h⟩
theorem MTo.trans {base : Nat} {w w1 w2 : World} {ro ro1 ro2 : Ro} {nd nd1 nd2 : Nat → Nd} (h : MTo base w ro nd w1 ro1 nd1) (k : MTo base w1 ro1 nd1 w2 ro2 nd2) : MTo base w ro nd w2 ro2 nd2 :=
  ⟨k.mem, fun b hb => k.node b (h.node b hb), fun b hb => ⟨(k.ex b (h.node b hb)).1.trans (h.ex b hb).1, (k.ex b (h.node b hb)).2.trans (h.ex b hb).2⟩, h.fr.trans k.fr h.gr, fun i hi => by
    rcases k.gr i hi with h1 | h1
    · exact h.gr i h1
    · exact Or.inr (Nat.le_trans h.fr.size h1)⟩
/-- A node turns: of what was there its own blocks alone. -/
theorem Mem.put {base : Nat} {w w' : World} {ro : Ro} {nd : Nat → Nd} (h : Mem base w ro nd) {b : Nat} (hb : ro b = some (b, 0)) (x : Nd) (hf : Fr w w' (Own3 nd b)) (hblk : w'.heap[b]? = some (.cells (x.ve :: x.vb :: x.ex).toArray x.ty (0, 0))) (hE : OwnE base w' x.ve x.es) (hN : OwnN base w' x.vb x.bs) (h1 : Came w (nd b).ve x.ve) (h2 : Came w (nd b).vb x.vb) (hne : ∀ k, x.ve.ownBlock = some k → x.vb.ownBlock ≠ some k) (hex : x.ex = (nd b).ex ∧ x.ty = (nd b).ty) :
    MTo base w ro nd w' (roPut ro b x) (updN nd b x) := by
  have hn : ∀ c, roPut ro b x c = some (c, 0) → ro c = some (c, 0) := fun c hc => by
    unfold roPut at hc
    split at hc
    · cases hc
    · split at hc
      · cases hc
      · exact hc
  have hold : ∀ c, ro c = some (c, 0) → c ≠ b → ∀ k i, ro k = some (c, i) → ¬ Own3 nd b k ∧ roPut ro b x k = ro k := fun c hc hcb k i hk => by
    refine ⟨fun ho => ?_, ?_⟩
    · obtain ⟨j, hj⟩ := h.own3 hb ho
      rw [hk] at hj; cases hj; exact hcb rfl
    · have hlt := (h.lo k (by rw [hk]; simp)).2
      have n1 : x.ve.ownBlock ≠ some k := fun e => by
        rcases h1 with h1 | h1
        · have := h.ro1 b hb k (h1 ▸ e); rw [hk] at this; cases this; exact hcb rfl
        · have := h1 k e; omega
      have n2 : x.vb.ownBlock ≠ some k := fun e => by
        rcases h2 with h2 | h2
        · have := h.ro2 b hb k (h2 ▸ e); rw [hk] at this; cases this; exact hcb rfl
        · have := h2 k e; omega
      unfold roPut
      rw [if_neg n1, if_neg n2]
  have hkeep : ∀ c, ro c = some (c, 0) → c ≠ b → ∀ k i, ro k = some (c, i) → w'.heap[k]? = w.heap[k]? := fun c hc hcb k i hk => hf.block k (h.lo k (by rw [hk]; simp)).2 (hold c hc hcb k i hk).1
  refine ⟨⟨fun c hc => ?_, fun c hc => ?_, fun c hc => ?_, fun c hc k hk => ?_, fun c hc k hk => ?_, fun k hk => ?_⟩, fun c hc => roPut_node h hb h1 h2 hc, fun c hc => ?_, ?_, fun k hk => ?_⟩
  · by_cases e : c = b
    · subst e; rw [updN_same]; exact hblk
    · rw [updN_other _ _ e]; exact (hkeep c (hn c hc) e c 0 (hn c hc)).trans (h.blk c (hn c hc))
  · by_cases e : c = b
    · subst e; rw [updN_same]; exact hE
    · rw [updN_other _ _ e]; exact (h.rowE c (hn c hc)).of_block (fun k hk => hkeep c (hn c hc) e k 1 (h.ro1 c (hn c hc) k hk))
  · by_cases e : c = b
    · subst e; rw [updN_same]; exact hN
    · rw [updN_other _ _ e]; exact (h.rowB c (hn c hc)).of_block (fun k hk => hkeep c (hn c hc) e k 2 (h.ro2 c (hn c hc) k hk))
  · by_cases e : c = b
    · subst e; rw [updN_same] at hk; unfold roPut; rw [if_pos hk]
    · rw [updN_other _ _ e] at hk
      have := h.ro1 c (hn c hc) k hk
      rw [(hold c (hn c hc) e k 1 this).2]; exact this
  · by_cases e : c = b
    · subst e; rw [updN_same] at hk; unfold roPut; rw [if_neg (fun e => hne k e hk), if_pos hk]
    · rw [updN_other _ _ e] at hk
      have := h.ro2 c (hn c hc) k hk
      rw [(hold c (hn c hc) e k 2 this).2]; exact this
  · rcases roPut_ge hk with hk | hk | hk
    · exact ⟨(h.lo k hk).1, Nat.lt_of_lt_of_le (h.lo k hk).2 hf.size⟩
    · exact hE.lo k hk
    · exact hN.lo k hk
  · by_cases e : c = b
    · subst e; rw [updN_same]; exact hex
    · rw [updN_other _ _ e]; exact ⟨rfl, rfl⟩
  · refine hf.mono (fun k hk => ?_)
    obtain ⟨i, hi⟩ := h.own3 hb hk
    rw [hi]; simp
  · rcases roPut_ge hk with hk | hk | hk
    · exact Or.inl hk
    · rcases h1 with h1 | h1
      · exact Or.inl (by rw [h.ro1 b hb k (h1 ▸ hk)]; simp)
      · exact Or.inr (h1 k hk)
    · rcases h2 with h2 | h2
      · exact Or.inl (by rw [h.ro2 b hb k (h2 ▸ hk)]; simp)
      · exact Or.inr (h2 k hk)
/-- A new node: a block of its own, rows of its own or none. -/
theorem Mem.new {base : Nat} {w w' : World} {ro : Ro} {nd : Nat → Nd} (h : Mem base w ro nd) {f : Nat} (hfr : w.heap.size ≤ f) (hlt : f < w'.heap.size) (hbs : base ≤ w.heap.size) (x : Nd) (hf : Below w.heap.size w w') (hblk : w'.heap[f]? = some (.cells (x.ve :: x.vb :: x.ex).toArray x.ty (0, 0))) (hE : OwnE base w' x.ve x.es) (hN : OwnN base w' x.vb x.bs) (h1 : ∀ k, x.ve.ownBlock = some k → w.heap.size ≤ k ∧ k ≠ f) (h2 : ∀ k, x.vb.ownBlock = some k → w.heap.size ≤ k ∧ k ≠ f) (hne : ∀ k, x.ve.ownBlock = some k → x.vb.ownBlock ≠ some k) :
    MTo base w ro nd w' (fun k => if k = f then some (f, 0) else roPut ro f x k) (updN nd f x) := by
  have hro : ∀ k, ro k ≠ none → k < w.heap.size := fun k hk => (h.lo k hk).2
  have hput : ∀ k, k < w.heap.size → (if k = f then some (f, 0) else roPut ro f x k) = ro k := fun k hk => by
    rw [if_neg (by omega)]
    unfold roPut
    rw [if_neg (fun e => by have := (h1 k e).1; omega), if_neg (fun e => by have := (h2 k e).1; omega)]
  have hn : ∀ c, (if c = f then some (f, 0) else roPut ro f x c) = some (c, 0) → c = f ∨ ro c = some (c, 0) := fun c hc => by
    split at hc
    · rename_i e; exact Or.inl e
    · unfold roPut at hc
      split at hc
      · cases hc
      · split at hc
        · cases hc
        · exact Or.inr hc
  have hm := h.below hf
  have hcf : ∀ c, ro c = some (c, 0) → c ≠ f := fun c hc => by have := hro c (by rw [hc]; simp); omega
  refine ⟨⟨fun c hc => ?_, fun c hc => ?_, fun c hc => ?_, fun c hc k hk => ?_, fun c hc k hk => ?_, fun k hk => ?_⟩, fun c hc => ?_, fun c hc => ?_, Fr.of_below hf, fun k hk => ?_⟩
  · rcases hn c hc with rfl | hc
    · rw [updN_same]; exact hblk
    · rw [updN_other _ _ (hcf c hc)]; exact hm.blk c hc
  · rcases hn c hc with rfl | hc
    · rw [updN_same]; exact hE
    · rw [updN_other _ _ (hcf c hc)]; exact hm.rowE c hc
  · rcases hn c hc with rfl | hc
    · rw [updN_same]; exact hN
    · rw [updN_other _ _ (hcf c hc)]; exact hm.rowB c hc
  · rcases hn c hc with rfl | hc
    · rw [updN_same] at hk
      rw [if_neg (h1 k hk).2]; unfold roPut; rw [if_pos hk]
    · rw [updN_other _ _ (hcf c hc)] at hk
      have := h.ro1 c hc k hk
      rw [hput k (hro k (by rw [this]; simp))]; exact this
  · rcases hn c hc with rfl | hc
    · rw [updN_same] at hk
      rw [if_neg (h2 k hk).2]; unfold roPut; rw [if_neg (fun e => hne k e hk), if_pos hk]
    · rw [updN_other _ _ (hcf c hc)] at hk
      have := h.ro2 c hc k hk
      rw [hput k (hro k (by rw [this]; simp))]; exact this
  · split at hk
    · rename_i e; subst e; exact ⟨by omega, hlt⟩
    · rcases roPut_ge hk with hk | hk | hk
      · exact hm.lo k hk
      · exact hE.lo k hk
      · exact hN.lo k hk
  · rw [hput c (hro c (by rw [hc]; simp))]; exact hc
  · rw [updN_other _ _ (hcf c hc)]; exact ⟨rfl, rfl⟩
  · split at hk
    · rename_i e; subst e; exact Or.inr hfr
    · rcases roPut_ge hk with hk | hk | hk
      · exact Or.inl hk
      · exact Or.inr (h1 k hk).1
      · exact Or.inr (h2 k hk).1
end Go.Proofs.Ytfobcnmhghfanaa

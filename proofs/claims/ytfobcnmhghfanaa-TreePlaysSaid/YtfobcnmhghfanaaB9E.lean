/- Nodes that turn: a row of theirs; join. -/
import Derived.Test.YtfobcnmhghfanaaB9D
namespace Go.Proofs.Ytfobcnmhghfanaa
open Go.RowKit Go.Shelf
set_option linter.unusedVariables false
set_option linter.unusedSimpArgs false

theorem Mem.ne1 {base : Nat} {w : World} {ro : Ro} {nd : Nat → Nd} (h : Mem base w ro nd) {b : Nat} (hb : ro b = some (b, 0)) : (nd b).ve.ownBlock ≠ some b := fun e => by have := h.ro1 b hb b e; rw [hb] at this; cases this
theorem Mem.ne2 {base : Nat} {w : World} {ro : Ro} {nd : Nat → Nd} (h : Mem base w ro nd) {b : Nat} (hb : ro b = some (b, 0)) : (nd b).vb.ownBlock ≠ some b := fun e => by have := h.ro2 b hb b e; rw [hb] at this; cases this
theorem Mem.ne12 {base : Nat} {w : World} {ro : Ro} {nd : Nat → Nd} (h : Mem base w ro nd) {b : Nat} (hb : ro b = some (b, 0)) {k : Nat} (h1 : (nd b).ve.ownBlock = some k) : (nd b).vb.ownBlock ≠ some k := fun e => by have h3 := h.ro2 b hb k e; rw [h.ro1 b hb k h1] at h3; cases h3
theorem Mem.lt {base : Nat} {w : World} {ro : Ro} {nd : Nat → Nd} (h : Mem base w ro nd) {b : Nat} (hb : ro b = some (b, 0)) : b < w.heap.size := (h.lo b (by rw [hb]; simp)).2
def putE (x : Nd) (es : List E) (v : Value) : Nd := { x with es := es, ve := v }
def putB (x : Nd) (bs : List Br) (v : Value) : Nd := { x with bs := bs, vb := v }
/-- A node's entries turn. -/
theorem Mem.putE {base : Nat} {w w1 : World} {ro : Ro} {nd : Nat → Nd} (h : Mem base w ro nd) {b : Nat} (hb : ro b = some (b, 0)) {v' : Value} {es' : List E} (ho : OwnE base w1 v' es') (hg : GrowB w (nd b).ve w1 v') :
    MTo base w ro nd (w1.setCell ⟨b, 0, none⟩ v') (roPut ro b (putE (nd b) es' v')) (updN nd b (putE (nd b) es' v')) := by
  have hlt := h.lt hb
  have hblk1 : w1.heap[b]? = w.heap[b]? := hg.grown.block b hlt (fun e => h.ne1 hb e.symm)
  have hvb : v'.ownBlock ≠ some b := fun e => by
    rcases hg.own with h1 | h1
    · exact h.ne1 hb (h1 ▸ e)
    · have := h1 b e; omega
  have hvv : ∀ k, v'.ownBlock = some k → (nd b).vb.ownBlock ≠ some k := fun k hk e => by
    rcases hg.own with h1 | h1
    · exact h.ne12 hb (h1 ▸ hk) e
    · have := h1 k hk; have := ((h.rowB b hb).lo k e).2; omega
  have hf1 : Fr w w1 (Own3 nd b) := Fr.of_grown hg.grown (fun k hk => Or.inr (Or.inl hk))
  have hf2 : Fr w (w1.setCell ⟨b, 0, none⟩ v') (Own3 nd b) := hf1.trans (fr_set w1 b 0 v') (fun k hk => Or.inl (Or.inl hk))
  refine h.put hb (Go.Proofs.Ytfobcnmhghfanaa.putE (nd b) es' v') hf2 (heap_set0 (hblk1.trans (h.blk b hb)) v') ?_ ?_ hg.own (Or.inl rfl) hvv ⟨rfl, rfl⟩
  · exact ho.of_block (fun k hk => (fr_set w1 b 0 v').block k (ho.lo k hk).2 (fun e => hvb (e ▸ hk)))
  · refine (h.rowB b hb).of_block (fun k hk => ?_)
    have hk2 := ((h.rowB b hb).lo k hk).2
    refine ((fr_set w1 b 0 v').block k (Nat.lt_of_lt_of_le hk2 hg.grown.size) (fun e => h.ne2 hb (e ▸ hk))).trans (hg.grown.block k hk2 (fun e => h.ne12 hb e.symm hk))
/-- A node's branches turn. -/
theorem Mem.putB {base : Nat} {w w1 : World} {ro : Ro} {nd : Nat → Nd} (h : Mem base w ro nd) {b : Nat} (hb : ro b = some (b, 0)) {v' : Value} {bs' : List Br} (ho : OwnN base w1 v' bs') (hg : GrowB w (nd b).vb w1 v') :
    MTo base w ro nd (w1.setCell ⟨b, 1, none⟩ v') (roPut ro b (putB (nd b) bs' v')) (updN nd b (putB (nd b) bs' v')) := by
  have hlt := h.lt hb
  have hblk1 : w1.heap[b]? = w.heap[b]? := hg.grown.block b hlt (fun e => h.ne2 hb e.symm)
  have hvb : v'.ownBlock ≠ some b := fun e => by
    rcases hg.own with h1 | h1
    · exact h.ne2 hb (h1 ▸ e)
    · have := h1 b e; omega
  have hvv : ∀ k, (nd b).ve.ownBlock = some k → v'.ownBlock ≠ some k := fun k e hk => by
    rcases hg.own with h1 | h1
    · exact h.ne12 hb e (h1 ▸ hk)
    · have := h1 k hk; have := ((h.rowE b hb).lo k e).2; omega
  have hf1 : Fr w w1 (Own3 nd b) := Fr.of_grown hg.grown (fun k hk => Or.inr (Or.inr hk))
  have hf2 : Fr w (w1.setCell ⟨b, 1, none⟩ v') (Own3 nd b) := hf1.trans (fr_set w1 b 1 v') (fun k hk => Or.inl (Or.inl hk))
  refine h.put hb (Go.Proofs.Ytfobcnmhghfanaa.putB (nd b) bs' v') hf2 (heap_set1 (hblk1.trans (h.blk b hb)) v') ?_ ?_ (Or.inl rfl) hg.own hvv ⟨rfl, rfl⟩
  · refine (h.rowE b hb).of_block (fun k hk => ?_)
    have hk2 := ((h.rowE b hb).lo k hk).2
    refine ((fr_set w1 b 1 v').block k (Nat.lt_of_lt_of_le hk2 hg.grown.size) (fun e => h.ne1 hb (e ▸ hk))).trans (hg.grown.block k hk2 (fun e => h.ne12 hb hk e.symm))
  · exact ho.of_block (fun k hk => (fr_set w1 b 1 v').block k (ho.lo k hk).2 (fun e => hvb (e ▸ hk)))
theorem GrowB.undrew {w w' : World} {v v' : Value} (h : GrowB w.drew v w' v') : GrowB w v w' v' := ⟨⟨h.grown.os, h.grown.tape, h.grown.output, h.grown.size, h.grown.block⟩, h.own⟩
theorem MTo.undrew {base : Nat} {w w' : World} {ro ro' : Ro} {nd nd' : Nat → Nd} (h : MTo base w.drew ro nd w' ro' nd') : MTo base w ro nd w' ro' nd' := ⟨h.mem, h.node, h.ex, ⟨h.fr.os, h.fr.tape, h.fr.output, h.fr.size, h.fr.block⟩, h.gr⟩
theorem Mem.drew {base : Nat} {w : World} {ro : Ro} {nd : Nat → Nd} (h : Mem base w ro nd) : Mem base w.drew ro nd := h.below ((Below.refl _ _).drew)
/-- An append of a whole row to another. -/
structure AppO {α : Type} (e z : Nat) (c : α → List Value) (base : Nat) (w : World) (v : Value) (l : List α) (w' : World) (v' : Value) : Prop where
  own : Row e z c base w' v' l
  gr : GrowB w v w' v'
theorem run_app0 {α : Type} {P : Program} {t e z : Nat} {c : α → List Value} {zv : Value} {by_ : Nat} (hu : P.underlying t = some (.slice e)) (hi : (P.info? e).map (fun i => (i.zero, i.size, i.bytes)) = some (some zv, z, by_)) {w : World} {base : Nat} (ty : TypeId) {v : Value} {l : List α} (hown : Row e z c base w v l) (vo : Option Addr) (vc : Nat) :
    ∃ w', (Builtin.append_ #[t, t] ty #[v, .slice vo 0 vc]).run P w = .ok v w' ∧ AppO e z c base w v l w' v := by
  obtain ⟨i0, hi, hz0, hz1, hz2⟩ := info_parts hi
  rcases id hown with ⟨h0, h2⟩
  rcases h2 with ⟨hv, hn⟩ | ⟨g, cap, cur, hv, hbg, hg, hnc, hcm, hcs, htake⟩
  · subst hv
    refine ⟨w, ?_, hown, GrowB.refl _ _⟩
    cases vo with
    | none => simp [Builtin.append_, run_underlying hu, sizeOf, typeInfo, hi, Builtin.lenOf, Builtin.firstCells, storeCells]
    | some ad => simp [Builtin.append_, run_underlying hu, sizeOf, typeInfo, hi, Builtin.lenOf, Builtin.firstCells, storeCells, loadCells, loadCellsFrom]
  · subst hv
    cases vo with
    | none =>
      refine ⟨w, ?_, hown, GrowB.refl _ _⟩
      simp [Builtin.append_, run_underlying hu, sizeOf, typeInfo, hi, Builtin.lenOf, Builtin.firstCells, hnc, storeCells]
    | some ad =>
      have hr := run_append_room (P := P) w t ty e i0 hu hi g l.length cap cur hg ad 0 vc [] (by simp) (by simp) (by simp) hnc (by rw [hz1, hcs]; simp; exact Nat.mul_le_mul_right _ hnc)
      refine ⟨_, hr, ⟨h0, Or.inr ⟨g, cap, _, rfl, hbg, setRow_heap w g cur _ e _ hg, hnc, hcm, ?_, ?_⟩⟩, ⟨setRow_grown w g _, Or.inl rfl⟩⟩
      · simp [hz1]; exact hcs
      · rw [hz1, htake]
        simp
        exact List.take_left' h0
theorem run_appE {w : World} {base : Nat} (ty : TypeId) {v : Value} {l ys : List E} (hown : OwnE base w v l) {v2 : Value} {base2 : Nat} (h2 : OwnE base2 w v2 ys) (hl : l.length + ys.length ≤ 1000) (hb : base ≤ w.heap.size) :
    ∃ ao n c w', (Builtin.append_ #[49, 49] ty #[v, v2]).run Try.prog w = .ok (.slice ao n c) w' ∧ AppO 66 3 cE base w v (l ++ ys) w' (.slice ao n c) := by
  by_cases h0 : ys = []
  · subst h0
    obtain ⟨ao2, c2, rfl, _⟩ := h2.form
    obtain ⟨ao, c, rfl, _⟩ := hown.form
    obtain ⟨w', hr, ha⟩ := run_app0 Try.underlying49 infoE ty hown ao2 c2
    exact ⟨_, _, _, w', hr, by rw [List.append_nil]; exact ha⟩
  · have hpos : 0 < ys.length := List.length_pos_iff.2 h0
    obtain ⟨g2, c2, rfl, _, _⟩ := h2.at_ hpos
    obtain ⟨i0, hi, hz0, hz1, hz2⟩ := info_parts infoE
    obtain ⟨g, cap, w', hr, k1, k2, k3, _⟩ := run_append_lies (P := Try.prog) w 49 ty base 66 i0 _ 3 _ Try.underlying49 hi hz0 hz1 hz2 rfl (by decide) v l.length (l.flatMap cE) hown ⟨g2, 0, none⟩ ys.length c2 (ys.flatMap cE) (flat_len cE 3 _ (cE_len _)) (World.ownsRow.cells h2 rfl) (cE_one ys) hpos (by unfold maxLen; omega) (by omega) hb w.heap.size rfl
    refine ⟨_, _, _, w', hr, ?_, k2, ?_⟩
    · show w'.ownsRow base 66 3 _ (l ++ ys).length ((l ++ ys).flatMap cE)
      rw [List.length_append, List.flatMap_append]
      exact k1
    · rcases k3 with h3 | h3
      · exact Or.inl h3.symm
      · exact Or.inr fun k hk => by simp [Value.ownBlock] at hk; omega
theorem run_appN {w : World} {base : Nat} (ty : TypeId) {v : Value} {l ys : List Br} (hown : OwnN base w v l) {v2 : Value} {base2 : Nat} (h2 : OwnN base2 w v2 ys) (hl : l.length + ys.length ≤ 1000) (hb : base ≤ w.heap.size) :
    ∃ ao n c w', (Builtin.append_ #[50, 50] ty #[v, v2]).run Try.prog w = .ok (.slice ao n c) w' ∧ AppO 75 2 cB base w v (l ++ ys) w' (.slice ao n c) := by
  by_cases h0 : ys = []
  · subst h0
    obtain ⟨ao2, c2, rfl, _⟩ := h2.form
    obtain ⟨ao, c, rfl, _⟩ := hown.form
    obtain ⟨w', hr, ha⟩ := run_app0 Try.underlying50 infoN ty hown ao2 c2
    exact ⟨_, _, _, w', hr, by rw [List.append_nil]; exact ha⟩
  · have hpos : 0 < ys.length := List.length_pos_iff.2 h0
    obtain ⟨g2, c2, rfl, _, _⟩ := h2.at_ hpos
    obtain ⟨i0, hi, hz0, hz1, hz2⟩ := info_parts infoN
    obtain ⟨g, cap, w', hr, k1, k2, k3, _⟩ := run_append_lies (P := Try.prog) w 50 ty base 75 i0 _ 2 _ Try.underlying50 hi hz0 hz1 hz2 rfl (by decide) v l.length (l.flatMap cB) hown ⟨g2, 0, none⟩ ys.length c2 (ys.flatMap cB) (flat_len cB 2 _ (cB_len _)) (World.ownsRow.cells h2 rfl) (cB_one ys) hpos (by unfold maxLen; omega) (by omega) hb w.heap.size rfl
    refine ⟨_, _, _, w', hr, ?_, k2, ?_⟩
    · show w'.ownsRow base 75 2 _ (l ++ ys).length ((l ++ ys).flatMap cB)
      rw [List.length_append, List.flatMap_append]
      exact k1
    · rcases k3 with h3 | h3
      · exact Or.inl h3.symm
      · exact Or.inr fun k hk => by simp [Value.ownBlock] at hk; omega
end Go.Proofs.Ytfobcnmhghfanaa

/- The root grows and shrinks. -/
import Derived.Test.YtfobcnmhghfanaaB9N
namespace Go.Proofs.Ytfobcnmhghfanaa
open Go.RowKit Go.Shelf
set_option linter.unusedVariables false
set_option linter.unusedSimpArgs false

/-- Who owns what, when the root's rows go to a new node. -/
def roGrow (ro : Ro) (r f b2 : Nat) : Ro := fun k => if k = f then some (f, 0) else if k = b2 then some (r, 2) else match ro k with | some (b, i) => (if b = r ∧ i ≠ 0 then some (f, i) else some (b, i)) | none => none
theorem mem_grow {base : Nat} {w W : World} {ro : Ro} {nd : Nat → Nd} (hm : Mem base w ro nd) {r : Nat} (hr : ro r = some (r, 0)) (hb : base ≤ w.heap.size) {f b2 c : Nat} (hf : w.heap.size ≤ f) (hb2 : w.heap.size ≤ b2) (hne : f ≠ b2) (hfr : Fr w W (fun k => k = r)) (h1 : W.heap[r]? = some (.cells (.slice none 0 0 :: .slice (some ⟨b2, 0, none⟩) 1 c :: (nd r).ex).toArray (nd r).ty (0, 0))) (h2 : W.heap[f]? = some (.cells ((nd r).ve :: (nd r).vb :: []).toArray 52 (0, 0))) (h3 : OwnN base W (.slice (some ⟨b2, 0, none⟩) 1 c) [(ByteArray.empty, f)]) :
    MTo base w ro nd W (roGrow ro r f b2) (updN (updN nd r ⟨[], [(ByteArray.empty, f)], .slice none 0 0, .slice (some ⟨b2, 0, none⟩) 1 c, (nd r).ex, (nd r).ty⟩) f ⟨(nd r).es, (nd r).bs, (nd r).ve, (nd r).vb, [], 52⟩) := by
  have hlo : ∀ k, ro k ≠ none → k < w.heap.size := fun k hk => (hm.lo k hk).2
  have hrl := hm.lt hr
  have hn : ∀ b, roGrow ro r f b2 b = some (b, 0) → b = f ∨ (ro b = some (b, 0) ∧ b ≠ f ∧ b ≠ b2) := fun b h => by
    unfold roGrow at h
    split at h
    · rename_i e; exact Or.inl e
    · rename_i e1
      split at h
      · rename_i e2; cases h
      · rename_i e2
        refine Or.inr ⟨?_, e1, e2⟩
        cases hk : ro b with
        | none => rw [hk] at h; cases h
        | some y =>
          obtain ⟨b', i⟩ := y
          rw [hk] at h
          simp only at h
          split at h
          · rename_i e; cases h; exact absurd rfl e.2
          · exact h
  have hold : ∀ k b i, ro k = some (b, i) → b ≠ r ∨ i = 0 → roGrow ro r f b2 k = some (b, i) := fun k b i hk hbi => by
    have := hlo k (by rw [hk]; simp)
    unfold roGrow
    rw [if_neg (by omega), if_neg (by omega), hk]
    simp only
    rw [if_neg (fun e => by rcases hbi with h | h; exact h e.1; exact e.2 h)]
  have hmov : ∀ k i, ro k = some (r, i) → i ≠ 0 → roGrow ro r f b2 k = some (f, i) := fun k i hk hi => by
    have := hlo k (by rw [hk]; simp)
    unfold roGrow
    rw [if_neg (by omega), if_neg (by omega), hk]
    simp only
    rw [if_pos ⟨trivial, hi⟩]
  have hkeep : ∀ k b i, ro k = some (b, i) → b ≠ r ∨ i ≠ 0 → W.heap[k]? = w.heap[k]? := fun k b i hk hbi => hfr.block k (hlo k (by rw [hk]; simp)) (fun e => by
    rw [e, hr] at hk; cases hk; rcases hbi with h | h; exact h rfl; exact h rfl)
  have hrf : r ≠ f := by omega
  have uf : updN (updN nd r ⟨[], [(ByteArray.empty, f)], .slice none 0 0, .slice (some ⟨b2, 0, none⟩) 1 c, (nd r).ex, (nd r).ty⟩) f ⟨(nd r).es, (nd r).bs, (nd r).ve, (nd r).vb, [], 52⟩ f = ⟨(nd r).es, (nd r).bs, (nd r).ve, (nd r).vb, [], 52⟩ := updN_same _ _ _
  have ur : updN (updN nd r ⟨[], [(ByteArray.empty, f)], .slice none 0 0, .slice (some ⟨b2, 0, none⟩) 1 c, (nd r).ex, (nd r).ty⟩) f ⟨(nd r).es, (nd r).bs, (nd r).ve, (nd r).vb, [], 52⟩ r = ⟨[], [(ByteArray.empty, f)], .slice none 0 0, .slice (some ⟨b2, 0, none⟩) 1 c, (nd r).ex, (nd r).ty⟩ := by rw [updN_other _ _ hrf, updN_same]
  have uo : ∀ b, b ≠ r → b ≠ f → updN (updN nd r ⟨[], [(ByteArray.empty, f)], .slice none 0 0, .slice (some ⟨b2, 0, none⟩) 1 c, (nd r).ex, (nd r).ty⟩) f ⟨(nd r).es, (nd r).bs, (nd r).ve, (nd r).vb, [], 52⟩ b = nd b := fun b h1 h2 => by rw [updN_other _ _ h2, updN_other _ _ h1]
  generalize updN (updN nd r ⟨[], [(ByteArray.empty, f)], .slice none 0 0, .slice (some ⟨b2, 0, none⟩) 1 c, (nd r).ex, (nd r).ty⟩) f ⟨(nd r).es, (nd r).bs, (nd r).ve, (nd r).vb, [], 52⟩ = nd' at *
  have hWf : f < W.heap.size := (Array.getElem?_eq_some_iff.1 h2).1
  have hrow1 : OwnE base W (nd r).ve (nd r).es := (hm.rowE r hr).of_block (fun k hk => hkeep k r 1 (hm.ro1 r hr k hk) (Or.inr (by omega)))
  have hrow2 : OwnN base W (nd r).vb (nd r).bs := (hm.rowB r hr).of_block (fun k hk => hkeep k r 2 (hm.ro2 r hr k hk) (Or.inr (by omega)))
  refine ⟨⟨fun b hb' => ?_, fun b hb' => ?_, fun b hb' => ?_, fun b hb' k hk => ?_, fun b hb' k hk => ?_, fun k hk => ?_⟩, fun b hb' => hold b b 0 hb' (Or.inr rfl), fun b hb' => ?_, hfr.mono (fun k hk => by rw [hk, hr]; simp), fun k hk => ?_⟩
  · rcases hn b hb' with rfl | ⟨h, hbf, hbb⟩
    · rw [uf]; exact h2
    · by_cases e : b = r
      · subst e; rw [ur]; exact h1
      · rw [uo b e hbf, hkeep b b 0 h (Or.inl e)]; exact hm.blk b h
  · rcases hn b hb' with rfl | ⟨h, hbf, hbb⟩
    · rw [uf]; exact hrow1
    · by_cases e : b = r
      · subst e; rw [ur]; exact Row.nil_ _ _ _ _ _
      · rw [uo b e hbf]; exact (hm.rowE b h).of_block (fun k hk => hkeep k b 1 (hm.ro1 b h k hk) (Or.inl e))
  · rcases hn b hb' with rfl | ⟨h, hbf, hbb⟩
    · rw [uf]; exact hrow2
    · by_cases e : b = r
      · subst e; rw [ur]; exact h3
      · rw [uo b e hbf]; exact (hm.rowB b h).of_block (fun k hk => hkeep k b 2 (hm.ro2 b h k hk) (Or.inl e))
  · rcases hn b hb' with rfl | ⟨h, hbf, hbb⟩
    · rw [uf] at hk; exact hmov k 1 (hm.ro1 r hr k hk) (by omega)
    · by_cases e : b = r
      · subst e; rw [ur] at hk; cases hk
      · rw [uo b e hbf] at hk; exact hold k b 1 (hm.ro1 b h k hk) (Or.inl e)
  · rcases hn b hb' with rfl | ⟨h, hbf, hbb⟩
    · rw [uf] at hk; exact hmov k 2 (hm.ro2 r hr k hk) (by omega)
    · by_cases e : b = r
      · subst e; rw [ur] at hk; cases hk; unfold roGrow; rw [if_neg hne.symm, if_pos rfl]
      · rw [uo b e hbf] at hk; exact hold k b 2 (hm.ro2 b h k hk) (Or.inl e)
  · unfold roGrow at hk
    split at hk
    · rename_i e; subst e; exact ⟨by omega, hWf⟩
    · split at hk
      · rename_i e; subst e; exact h3.lo _ rfl
      · cases hk' : ro k with
        | none => rw [hk'] at hk; exact absurd rfl hk
        | some y => have := hm.lo k (by rw [hk']; simp); exact ⟨this.1, Nat.lt_of_lt_of_le this.2 hfr.size⟩
  · have hbf : b ≠ f := fun e => by have := hlo b (by rw [hb']; simp); omega
    by_cases e : b = r
    · subst e; rw [ur]; exact ⟨rfl, rfl⟩
    · rw [uo b e hbf]; exact ⟨rfl, rfl⟩
  · unfold roGrow at hk
    split at hk
    · rename_i e; subst e; exact Or.inr hf
    · split at hk
      · rename_i e; subst e; exact Or.inr hb2
      · cases hk' : ro k with
        | none => rw [hk'] at hk; exact absurd rfl hk
        | some y => exact Or.inl (by simp)
/-- Who owns what, when a child's rows go to the root. -/
def roShrink (ro : Ro) (r c : Nat) : Ro := fun k => if k = c then none else match ro k with | some (b, i) => (if b = c then some (r, i) else some (b, i)) | none => none
theorem mem_shrink {base : Nat} {w W : World} {ro : Ro} {nd : Nat → Nd} (hm : Mem base w ro nd) {r c : Nat} (hr : ro r = some (r, 0)) (hc : ro c = some (c, 0)) (hne : r ≠ c) (hfr : Fr w W (fun k => k = r)) (h1 : W.heap[r]? = some (.cells ((nd c).ve :: (nd c).vb :: (nd r).ex).toArray (nd r).ty (0, 0))) :
    Mem base W (roShrink ro r c) (updN nd r ⟨(nd c).es, (nd c).bs, (nd c).ve, (nd c).vb, (nd r).ex, (nd r).ty⟩) ∧ (∀ b, ro b = some (b, 0) → b ≠ c → roShrink ro r c b = some (b, 0)) ∧ ∀ k, roShrink ro r c k ≠ none → ro k ≠ none := by
  have hlo : ∀ k, ro k ≠ none → k < w.heap.size := fun k hk => (hm.lo k hk).2
  have hn : ∀ b, roShrink ro r c b = some (b, 0) → ro b = some (b, 0) ∧ b ≠ c := fun b h => by
    unfold roShrink at h
    split at h
    · cases h
    · rename_i e1
      refine ⟨?_, e1⟩
      cases hk : ro b with
      | none => rw [hk] at h; cases h
      | some y =>
        obtain ⟨b', i⟩ := y
        rw [hk] at h
        simp only at h
        split at h
        · rename_i e
          cases h
          subst e
          rw [hr] at hk; cases hk; exact absurd rfl hne
        · exact h
  have hold : ∀ k b i, ro k = some (b, i) → b ≠ c → roShrink ro r c k = some (b, i) := fun k b i hk hbc => by
    unfold roShrink
    rw [if_neg (fun e => by rw [e, hc] at hk; cases hk; exact hbc rfl), hk]
    simp only
    rw [if_neg hbc]
  have hmov : ∀ k i, ro k = some (c, i) → i ≠ 0 → roShrink ro r c k = some (r, i) := fun k i hk hi => by
    unfold roShrink
    rw [if_neg (fun e => by rw [e, hc] at hk; cases hk; exact hi rfl), hk]
    simp only
    rw [if_pos trivial]
  have hkeep : ∀ k b i, ro k = some (b, i) → b ≠ r ∨ i ≠ 0 → W.heap[k]? = w.heap[k]? := fun k b i hk hbi => hfr.block k (hlo k (by rw [hk]; simp)) (fun e => by
    rw [e, hr] at hk; cases hk; rcases hbi with h | h; exact h rfl; exact h rfl)
  have hrs : ∀ k, roShrink ro r c k ≠ none → ro k ≠ none := fun k hk h => by
    apply hk
    unfold roShrink
    split
    · rfl
    · rw [h]
  refine ⟨⟨fun b hb' => ?_, fun b hb' => ?_, fun b hb' => ?_, fun b hb' k hk => ?_, fun b hb' k hk => ?_, fun k hk => ?_⟩, fun b hb hbc => hold b b 0 hb hbc, hrs⟩
  · obtain ⟨h, hbc⟩ := hn b hb'
    by_cases e : b = r
    · subst e; rw [updN_same]; exact h1
    · rw [updN_other _ _ e, hkeep b b 0 h (Or.inl e)]; exact hm.blk b h
  · obtain ⟨h, hbc⟩ := hn b hb'
    by_cases e : b = r
    · subst e; rw [updN_same]; exact (hm.rowE c hc).of_block (fun k hk => hkeep k c 1 (hm.ro1 c hc k hk) (Or.inr (by omega)))
    · rw [updN_other _ _ e]; exact (hm.rowE b h).of_block (fun k hk => hkeep k b 1 (hm.ro1 b h k hk) (Or.inl e))
  · obtain ⟨h, hbc⟩ := hn b hb'
    by_cases e : b = r
    · subst e; rw [updN_same]; exact (hm.rowB c hc).of_block (fun k hk => hkeep k c 2 (hm.ro2 c hc k hk) (Or.inr (by omega)))
    · rw [updN_other _ _ e]; exact (hm.rowB b h).of_block (fun k hk => hkeep k b 2 (hm.ro2 b h k hk) (Or.inl e))
  · obtain ⟨h, hbc⟩ := hn b hb'
    by_cases e : b = r
    · subst e; rw [updN_same] at hk; exact hmov k 1 (hm.ro1 c hc k hk) (by omega)
    · rw [updN_other _ _ e] at hk; exact hold k b 1 (hm.ro1 b h k hk) hbc
  · obtain ⟨h, hbc⟩ := hn b hb'
    by_cases e : b = r
    · subst e; rw [updN_same] at hk; exact hmov k 2 (hm.ro2 c hc k hk) (by omega)
    · rw [updN_other _ _ e] at hk; exact hold k b 2 (hm.ro2 b h k hk) hbc
  · have := hm.lo k (hrs k hk); exact ⟨this.1, Nat.lt_of_lt_of_le this.2 hfr.size⟩
end Go.Proofs.Ytfobcnmhghfanaa

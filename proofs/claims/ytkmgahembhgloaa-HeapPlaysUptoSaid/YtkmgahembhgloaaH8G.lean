/- What a page of the pool holds, with every frame unpinned and every mark nought: pure. -/
import Derived.Test.YtkmgahembhgloaaP7P
import Derived.Test.YtkmgahembhgloaaH8A
namespace Go.Proofs.Ytkmgahembhgloaa
open Go.RowKit Go.Maps
set_option linter.unusedVariables false
set_option linter.unusedSimpArgs false

theorem secs_all (bs : List UInt8) : ∀ k, (List.range k).flatMap (fun j => (bs.drop (128 * j)).take 128) = bs.take (128 * k)
  | 0 => by simp
  | k + 1 => by
    rw [List.range_succ, List.flatMap_append, secs_all bs k, Nat.mul_succ, List.take_add]
    simp
theorem getN_put_same {now : Int → List UInt8} {s : Int} {bs : List UInt8} (h : bs.length = 2048) : getN (putN now s bs 16) s 16 = bs := by
  have e : getN (putN now s bs 16) s 16 = (List.range 16).flatMap (fun j => (bs.drop (128 * j)).take 128) := by
    unfold getN
    rw [List.flatMap_def, List.flatMap_def]
    congr 1
    apply List.map_congr_left
    intro j hj
    have hj' : j < 16 := by simpa using hj
    unfold putN secP
    rw [if_pos (by omega)]
    congr 3
    omega
  rw [e, secs_all, List.take_of_length_le (by omega)]
theorem getN_put_other {now : Int → List UInt8} {s t : Int} {bs : List UInt8} (h : t + 16 ≤ s ∨ s + 16 ≤ t) : getN (putN now s bs 16) t 16 = getN now t 16 := by
  unfold getN
  rw [List.flatMap_def, List.flatMap_def]
  congr 1
  apply List.map_congr_left
  intro j hj
  have hj' : j < 16 := by simpa using hj
  unfold putN
  rw [if_neg (by omega)]
/-- What a page holds, in its frame or on the disk. -/
noncomputable def cur (P : PS) (D : DS) (j : Nat) : List UInt8 := if (j : Int) ∈ P.keys then (P.fr j).bytes else getN D.now (P.first + 16 * j) 16
theorem cleaned_get {P : PS} (hok : POk P) {D : DS} (hc : ∀ j : Nat, (j : Int) ∈ P.keys → (P.fr j).dirty = false → (P.fr j).bytes = getN D.now (P.first + 16 * j) 16) {g : Int} (hg : g ∈ P.keys) (j : Nat) : getN (D.cleaned P g).now (P.first + 16 * j) 16 = if (j : Int) = g then (P.fr g).bytes else getN D.now (P.first + 16 * j) 16 := by
  have hlen := (hok.fr g hg).len
  unfold DS.cleaned
  cases hd : (P.fr g).dirty with
  | true =>
    simp only [if_true]
    show getN (putN D.now (P.first + 16 * g) (P.fr g).bytes 16) (P.first + 16 * j) 16 = _
    by_cases e : (j : Int) = g
    · rw [if_pos e, e]; exact getN_put_same hlen
    · rw [if_neg e]; exact getN_put_other (by omega)
  | false =>
    simp only [Bool.false_eq_true, if_false]
    by_cases e : (j : Int) = g
    · rw [if_pos e]
      have := hc j (e ▸ hg) (e ▸ hd)
      rw [← this, e]
    · rw [if_neg e]
/-- A frame that is clean holds what the disk holds. -/
def CleanP (P : PS) (D : DS) : Prop := ∀ j : Nat, (j : Int) ∈ P.keys → (P.fr j).dirty = false → (P.fr j).bytes = getN D.now (P.first + 16 * j) 16
/-- No frame is pinned, no mark is above nought. -/
def IdleP (P : PS) : Prop := ∀ k ∈ P.keys, (P.fr k).pins = 0 ∧ (P.fr k).mark = 0
/-- One page alone is pinned, once. -/
structure HeldP (P : PS) (k : Int) : Prop where
  mem : k ∈ P.keys
  one : (P.fr k).pins = 1
  oth : ∀ j ∈ P.keys, j ≠ k → (P.fr j).pins = 0
  mark : ∀ j ∈ P.keys, (P.fr j).mark = 0
theorem idle_room {P : PS} (h : IdleP P) (hok : POk P) {c : Int} (hc : RoomErr P c) : False := by
  have hs := hok.size
  have hsf := hok.safe
  have hex : ∀ h : ¬ ((P.keys.length : Int) < P.size), ∃ k, k ∈ P.keys := fun hh => by
    cases e : P.keys with
    | nil => rw [e] at hh; simp at hh; omega
    | cons k l => exact ⟨k, by simp⟩
  cases hc with
  | behind hh h1 h2 =>
    obtain ⟨k, hk⟩ := hex hh
    have h3 := h1 k hk
    have h4 := h k hk
    unfold mayGo unp beh at h3
    rw [h4.1, h4.2] at h3
    simp at h3
    omega
  | full hh h1 =>
    obtain ⟨k, hk⟩ := hex hh
    have h3 := h1 k hk
    unfold unp at h3
    rw [(h k hk).1] at h3
    simp at h3
theorem clean_made {P : PS} {D : DS} (h : CleanP P D) (hi : IdleP P) (hok : POk P) {P1 : PS} {D1 : DS} (hm : Made P D P1 D1) : CleanP P1 D1 ∧ IdleP P1 ∧ ∀ j : Nat, cur P1 D1 j = cur P D j := by
  cases hm with
  | free _ => exact ⟨h, hi, fun _ => rfl⟩
  | went _ g hg =>
    refine ⟨fun j hj hd => ?_, fun k hk => hi k ((mem_delS _ _ _).1 hk).2, fun j => ?_⟩
    · have hj' := (mem_delS _ _ _).1 hj
      show (P.fr j).bytes = getN (D.cleaned P g).now (P.first + 16 * j) 16
      rw [cleaned_get hok h hg.mem j, if_neg hj'.1]
      exact h j hj'.2 hd
    · unfold cur
      show (if (j : Int) ∈ delS g P.keys then (P.fr j).bytes else getN (D.cleaned P g).now (P.first + 16 * j) 16) = _
      rw [cleaned_get hok h hg.mem j]
      by_cases e : (j : Int) = g
      · rw [if_neg (by simp [mem_delS, e]), if_pos e, if_pos (e ▸ hg.mem), e]
      · simp [mem_delS, e]
theorem touch_fr (P : PS) (k : Int) (f : FS) (j : Int) : (P.touch k f).fr j = if j = k then { f with used := P.uses + 1 } else P.fr j := rfl
/-- A frame is used, its bytes as they were. -/
theorem clean_touch {P : PS} {D : DS} (h : CleanP P D) {k : Int} {f : FS} (h1 : f.bytes = (P.fr k).bytes) (h2 : f.dirty = (P.fr k).dirty) : CleanP (P.touch k f) D ∧ ∀ j : Nat, cur (P.touch k f) D j = cur P D j := by
  have hb : ∀ j, ((P.touch k f).fr j).bytes = (P.fr j).bytes := fun j => by rw [touch_fr]; split; rename_i e; rw [e]; exact h1; rfl
  have hd : ∀ j, ((P.touch k f).fr j).dirty = (P.fr j).dirty := fun j => by rw [touch_fr]; split; rename_i e; rw [e]; exact h2; rfl
  refine ⟨fun j hj hx => ?_, fun j => ?_⟩
  · rw [hd] at hx; rw [hb]; exact h j hj hx
  · unfold cur; rw [hb]; rfl
theorem clean_pin {P : PS} {D : DS} (h : CleanP P D) (hi : IdleP P) (hok : POk P) {k : Nat} {P' : PS} {D' : DS} {bs : List UInt8} (ht : PinTo P D k P' D' bs) : CleanP P' D' ∧ HeldP P' k ∧ (∀ j : Nat, cur P' D' j = cur P D j) ∧ bs = cur P D k := by
  cases ht with
  | held hk =>
    obtain ⟨h1, h2⟩ := clean_touch h (k := k) (f := { P.fr k with pins := (P.fr k).pins + 1 }) rfl rfl
    refine ⟨h1, ⟨hk, ?_, fun j hj e => ?_, fun j hj => ?_⟩, h2, by unfold cur; rw [if_pos hk]⟩
    · rw [touch_fr, if_pos rfl]; show (P.fr k).pins + 1 = 1; rw [(hi _ hk).1]; rfl
    · rw [touch_fr, if_neg e]; exact (hi j hj).1
    · rw [touch_fr]; split
      · rename_i e; exact (hi _ hk).2
      · exact (hi j hj).2
  | came hk P1 D1 hm =>
    obtain ⟨h1, h2, h3⟩ := clean_made h hi hok hm
    have hM := hm.ok hok
    have hk1 : (k : Int) ∉ P1.keys := fun h => hk (hM.sub _ h)
    obtain ⟨B, hB⟩ : ∃ B, getN D'.now (P.first + 16 * k) 16 = B := ⟨_, rfl⟩
    rw [hB]
    have hfr : ∀ j, ((P1.add k ⟨B, 0, false, 0, 0⟩).touch k ⟨B, 1, false, 0, 0⟩).fr j = if j = (k : Int) then ⟨B, 1, false, 0, P1.uses + 1⟩ else P1.fr j := fun j => by
      show updA (updA P1.fr k _) k _ j = _
      rw [updA_twice]; rfl
    have hky : ∀ j, j ∈ ((P1.add k ⟨B, 0, false, 0, 0⟩).touch k ⟨B, 1, false, 0, 0⟩).keys ↔ j = (k : Int) ∨ j ∈ P1.keys := fun j => mem_insS _ _ _
    have hf : ((P1.add k ⟨B, 0, false, 0, 0⟩).touch k ⟨B, 1, false, 0, 0⟩).first = P.first := hM.first
    have hcur : cur P D k = B := by
      rw [← h3 k]
      unfold cur
      rw [if_neg hk1, hM.first, hB]
    refine ⟨fun j hj hd => ?_, ⟨(hky _).2 (Or.inl rfl), by rw [hfr, if_pos rfl], fun j hj e => ?_, fun j hj => ?_⟩, fun j => ?_, hcur.symm⟩
    · rw [hf, hfr]
      by_cases e : (j : Int) = k
      · rw [if_pos e]; rw [e]; exact hB.symm
      · rw [if_neg e]
        rw [hfr, if_neg e] at hd
        have := h1 j (((hky _).1 hj).resolve_left e) hd
        rwa [hM.first] at this
    · rw [hfr, if_neg e]; exact (h2 j (((hky _).1 hj).resolve_left e)).1
    · rw [hfr]; split
      · rfl
      · rename_i e; exact (h2 j (((hky _).1 hj).resolve_left e)).2
    · by_cases e : j = k
      · subst e
        rw [hcur]
        unfold cur
        rw [if_pos ((hky _).2 (Or.inl rfl)), hfr, if_pos rfl]
      · have e' : (j : Int) ≠ k := by omega
        rw [← h3 j]
        unfold cur
        rw [hfr, if_neg e', hf, hM.first]
        by_cases hj : (j : Int) ∈ P1.keys
        · rw [if_pos hj, if_pos ((hky _).2 (Or.inr hj))]
        · rw [if_neg hj, if_neg (fun h => hj (((hky _).1 h).resolve_left e'))]
theorem held_put {P : PS} {D : DS} (h : CleanP P D) {k : Nat} (hh : HeldP P k) (xs : List UInt8) : CleanP (P.touch k { P.fr k with bytes := xs, dirty := true, mark := mx (P.fr k).mark 0 }) D ∧ HeldP (P.touch k { P.fr k with bytes := xs, dirty := true, mark := mx (P.fr k).mark 0 }) k ∧ ∀ j : Nat, cur (P.touch k { P.fr k with bytes := xs, dirty := true, mark := mx (P.fr k).mark 0 }) D j = if j = k then xs else cur P D j := by
  have hm := hh.mark k hh.mem
  refine ⟨fun j hj hd => ?_, ⟨hh.mem, ?_, fun j hj e => ?_, fun j hj => ?_⟩, fun j => ?_⟩
  · rw [touch_fr] at hd ⊢
    by_cases e : (j : Int) = k
    · rw [if_pos e] at hd; cases hd
    · rw [if_neg e] at hd ⊢; exact h j hj hd
  · rw [touch_fr, if_pos rfl]; exact hh.one
  · rw [touch_fr, if_neg e]; exact hh.oth j hj e
  · rw [touch_fr]; split
    · show mx (P.fr k).mark 0 = 0; rw [hm]; rfl
    · exact hh.mark j hj
  · unfold cur
    show (if (j : Int) ∈ P.keys then ((P.touch k { P.fr k with bytes := xs, dirty := true, mark := mx (P.fr k).mark 0 }).fr j).bytes else getN D.now (P.first + 16 * j) 16) = _
    rw [touch_fr]
    by_cases e : j = k
    · subst e
      rw [if_pos rfl, if_pos hh.mem, if_pos rfl]
    · have e' : ¬ ((j : Int) = k) := by omega
      rw [if_neg e, if_neg e']
theorem held_unpin {P : PS} {D : DS} (h : CleanP P D) {k : Nat} (hh : HeldP P k) : CleanP (P.touch k { P.fr k with pins := (P.fr k).pins - 1 }) D ∧ IdleP (P.touch k { P.fr k with pins := (P.fr k).pins - 1 }) ∧ ∀ j : Nat, cur (P.touch k { P.fr k with pins := (P.fr k).pins - 1 }) D j = cur P D j := by
  obtain ⟨h1, h2⟩ := clean_touch h (k := k) (f := { P.fr k with pins := (P.fr k).pins - 1 }) rfl rfl
  refine ⟨h1, fun j hj => ?_, h2⟩
  rw [touch_fr]
  split
  · exact ⟨by show (P.fr k).pins - 1 = 0; rw [hh.one]; rfl, hh.mark k hh.mem⟩
  · rename_i e; exact ⟨hh.oth j hj e, hh.mark j hj⟩
end Go.Proofs.Ytkmgahembhgloaa

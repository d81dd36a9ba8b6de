/- How often each page is pinned; how many are. -/
import Derived.Test.YtpmbpadckbkglaaP7S
namespace Go.Proofs.Ytpmbpadckbkglaa
open Go.RowKit Go.Maps
set_option linter.unusedVariables false
set_option linter.unusedSimpArgs false

/-- How often a page is pinned. -/
noncomputable def pinsOf (P : PS) (j : Nat) : Int := if (j : Int) ∈ P.keys then (P.fr j).pins else 0
theorem pinsOf_nonneg {P : PS} (h : POk P) (j : Nat) : 0 ≤ pinsOf P j := by
  unfold pinsOf; split
  · exact (h.fr _ (by assumption)).pins.1
  · omega
theorem pinsOf_le {P : PS} (h : POk P) (j : Nat) : pinsOf P j ≤ P.uses := by
  unfold pinsOf; split
  · exact (h.fr _ (by assumption)).pins.2
  · exact h.uses.1
theorem pinsOf_mem {P : PS} {j : Nat} (h : 0 < pinsOf P j) : (j : Int) ∈ P.keys ∧ (P.fr j).pins ≠ 0 := by
  unfold pinsOf at h; split at h
  · exact ⟨by assumption, by omega⟩
  · omega
theorem pinsOf_no {P : PS} (hok : POk P) {j : Nat} (h : ¬ 0 < pinsOf P j) : (j : Int) ∉ P.keys ∨ (P.fr j).pins = 0 := by
  by_cases hk : (j : Int) ∈ P.keys
  · right
    unfold pinsOf at h; rw [if_pos hk] at h
    have := (hok.fr _ hk).pins.1; omega
  · exact Or.inl hk
theorem pinsOf_touch (P : PS) {k : Nat} (hk : (k : Int) ∈ P.keys) (f : FS) (j : Nat) : pinsOf (P.touch k f) j = if j = k then f.pins else pinsOf P j := by
  unfold pinsOf PS.touch
  by_cases e : j = k
  · subst e; simp only [if_true, updA_same, hk]
  · simp only [if_neg e]
    rw [updA_other _ _ (by omega)]
theorem pinsOf_gone {P : PS} {k : Int} (hk : Goner P k) (j : Nat) : pinsOf (P.gone k) j = pinsOf P j := by
  unfold pinsOf PS.gone
  by_cases e : (j : Int) = k
  · rw [if_neg (by simp [mem_delS, e])]
    have hu := hk.may
    unfold mayGo unp at hu
    simp at hu
    rw [← e] at hu
    simp [hu.1]
  · simp [mem_delS, e]
theorem pinsOf_made {P : PS} {D : DS} {P1 : PS} {D1 : DS} (h : Made P D P1 D1) (j : Nat) : pinsOf P1 j = pinsOf P j := by
  cases h with
  | free h => rfl
  | went h k hk => exact pinsOf_gone hk j
theorem pinsOf_add {P : PS} {k : Nat} (hk : (k : Int) ∉ P.keys) (f0 f : FS) (j : Nat) : pinsOf ((P.add k f0).touch k f) j = if j = k then f.pins else pinsOf P j := by
  rw [pinsOf_touch _ ((mem_insS _ _ _).2 (Or.inl rfl))]
  by_cases e : j = k
  · rw [if_pos e, if_pos e]
  · rw [if_neg e, if_neg e]
    unfold pinsOf PS.add
    have e' : ¬ ((j : Int) = k) := by omega
    simp only [mem_insS, e', false_or]
    rw [updA_other _ _ e']
theorem pinsOf_pin {P : PS} {D : DS} {k : Nat} {P' : PS} {D' : DS} {bs : List UInt8} (h : PinTo P D k P' D' bs) (j : Nat) : pinsOf P' j = if j = k then pinsOf P k + 1 else pinsOf P j := by
  cases h with
  | held hk =>
    rw [pinsOf_touch P hk]
    by_cases e : j = k
    · rw [if_pos e, if_pos e]
      unfold pinsOf; rw [if_pos hk]
    · rw [if_neg e, if_neg e]
  | came hk P1 D1 hm =>
    have hM : (k : Int) ∉ P1.keys := fun h => hk (by
      cases hm with
      | free _ => exact h
      | went _ g hg => exact ((mem_delS _ _ _).1 h).2)
    rw [pinsOf_add hM]
    by_cases e : j = k
    · rw [if_pos e, if_pos e]
      have : pinsOf P k = 0 := by unfold pinsOf; rw [if_neg hk]
      rw [this]; rfl
    · rw [if_neg e, if_neg e]; exact pinsOf_made hm j
/-- How many of the first pages are pinned. -/
noncomputable def cntPos (P : PS) : Nat → Nat
  | 0 => 0
  | m + 1 => cntPos P m + (if 0 < pinsOf P m then 1 else 0)
/-- Which of the first pages are pinned. -/
noncomputable def posL (P : PS) : Nat → List Int
  | 0 => []
  | m + 1 => if 0 < pinsOf P m then posL P m ++ [(m : Int)] else posL P m
theorem posL_len (P : PS) : ∀ m, (posL P m).length = cntPos P m
  | 0 => rfl
  | m + 1 => by
    unfold posL cntPos
    split
    · rw [List.length_append, posL_len P m]; rfl
    · rw [posL_len P m]; rfl
theorem posL_mem (P : PS) : ∀ m x, x ∈ posL P m ↔ ∃ j : Nat, j < m ∧ x = (j : Int) ∧ 0 < pinsOf P j
  | 0, x => by simp [posL]
  | m + 1, x => by
    unfold posL
    split
    · rename_i h
      rw [List.mem_append, posL_mem P m x]
      constructor
      · rintro (⟨j, h1, h2, h3⟩ | h1)
        · exact ⟨j, by omega, h2, h3⟩
        · simp at h1; exact ⟨m, by omega, h1, h⟩
      · rintro ⟨j, h1, h2, h3⟩
        by_cases e : j = m
        · subst e; right; simp [h2]
        · exact Or.inl ⟨j, by omega, h2, h3⟩
    · rename_i h
      rw [posL_mem P m x]
      constructor
      · rintro ⟨j, h1, h2, h3⟩; exact ⟨j, by omega, h2, h3⟩
      · rintro ⟨j, h1, h2, h3⟩
        by_cases e : j = m
        · subst e; exact absurd h3 h
        · exact ⟨j, by omega, h2, h3⟩
theorem posL_rise (P : PS) : ∀ m, Rise (posL P m)
  | 0 => List.Pairwise.nil
  | m + 1 => by
    unfold posL
    split
    · refine List.pairwise_append.2 ⟨posL_rise P m, List.pairwise_singleton _ _, fun a ha b hb => ?_⟩
      obtain ⟨j, h1, h2, _⟩ := (posL_mem P m a).1 ha
      simp at hb
      omega
    · exact posL_rise P m
theorem rise_sub : ∀ (l : List Int) (k : List Int), Rise l → Rise k → (∀ x ∈ l, x ∈ k) → l.length ≤ k.length
  | [], k, _, _, _ => Nat.zero_le _
  | x :: xs, k, hl, hk, hs => by
    have hx := List.pairwise_cons.1 hl
    have h0 := len_delS hk.nodup (hs x (List.mem_cons_self ..))
    have := rise_sub xs (delS x k) hx.2 (rise_delS hk) (fun y hy => (mem_delS _ _ _).2 ⟨by have := hx.1 y hy; omega, hs y (List.mem_cons_of_mem _ hy)⟩)
    rw [List.length_cons]; omega
theorem cntPos_le {P : PS} (h : POk P) (m : Nat) : cntPos P m ≤ P.keys.length := by
  rw [← posL_len]
  exact rise_sub _ _ (posL_rise P m) h.rise (fun x hx => by
    obtain ⟨j, _, h2, h3⟩ := (posL_mem P m x).1 hx
    rw [h2]; exact (pinsOf_mem h3).1)
theorem cntPos_lt {P : PS} (h : POk P) (m : Nat) {k : Int} (hk : k ∈ P.keys) (hu : unp (P.fr k) = true) : cntPos P m < P.keys.length := by
  have h0 := len_delS h.rise.nodup hk
  have h1 : (posL P m).length ≤ (delS k P.keys).length := rise_sub _ _ (posL_rise P m) (rise_delS h.rise) (fun x hx => by
    obtain ⟨j, _, h2, h3⟩ := (posL_mem P m x).1 hx
    have h4 := pinsOf_mem h3
    refine (mem_delS _ _ _).2 ⟨fun e => h4.2 ?_, by rw [h2]; exact h4.1⟩
    rw [← h2, e]
    simpa [unp] using hu)
  rw [posL_len] at h1
  omega
theorem cntPos_all {P : PS} (h : POk P) {m : Nat} (hm : P.pages ≤ m) (hu : ∀ k ∈ P.keys, unp (P.fr k) = false) : cntPos P m = P.keys.length := by
  have h1 := cntPos_le h m
  have h2 : P.keys.length ≤ (posL P m).length := rise_sub _ _ h.rise (posL_rise P m) (fun x hx => by
    have hr := h.rng x hx
    refine (posL_mem P m x).2 ⟨x.toNat, by omega, by omega, ?_⟩
    have e : ((x.toNat : Nat) : Int) = x := by omega
    unfold pinsOf
    rw [e, if_pos hx]
    have := hu x hx
    unfold unp at this
    have h3 := (h.fr x hx).pins.1
    simp at this
    omega)
  rw [posL_len] at h2
  omega
/-- Whether a page can be pinned, the log being safe all the way. -/
theorem pin_iff {P : PS} (h : POk P) {m : Nat} (hm : P.pages ≤ m) (hs : P.safe = 18446744073709551615) {D : DS} {k : Nat} {P' : PS} {D' : DS} {bs : List UInt8} (ht : PinTo P D k P' D' bs) : 0 < pinsOf P k ∨ (cntPos P m : Int) < P.size := by
  have hl := h.len
  cases ht with
  | held hk =>
    by_cases hp : 0 < pinsOf P k
    · exact Or.inl hp
    · right
      have h0 : (P.fr k).pins = 0 := by
        rcases pinsOf_no h hp with h1 | h1
        · exact absurd hk h1
        · exact h1
      have := cntPos_lt h m hk (by simp [unp, h0])
      omega
  | came hk P1 D1 hmd =>
    right
    cases hmd with
    | free hf => have := cntPos_le h m; omega
    | went hf g hg =>
      have hu : unp (P.fr g) = true := by
        have := hg.may
        unfold mayGo at this
        simp at this
        exact this.1
      have := cntPos_lt h m hg.mem hu
      omega
theorem err_iff {P : PS} (h : POk P) {m : Nat} (hm : P.pages ≤ m) (hs : P.safe = 18446744073709551615) {c : Int} {k : Nat} (hk : (k : Int) ∉ P.keys) (he : RoomErr P c) : c ≠ 0 ∧ ¬ 0 < pinsOf P k ∧ ¬ (cntPos P m : Int) < P.size := by
  have h0 : pinsOf P k = 0 := by unfold pinsOf; rw [if_neg hk]
  cases he with
  | behind hf h1 h2 =>
    exfalso
    obtain ⟨j, hj, hu⟩ := h2
    have := h1 j hj
    have hmk := (h.fr j hj).mark
    unfold mayGo at this
    rw [hu] at this
    unfold beh at this
    simp at this
    omega
  | full hf h1 =>
    have := cntPos_all h hm h1
    exact ⟨by omega, by omega, by omega⟩
end Go.Proofs.Ytpmbpadckbkglaa

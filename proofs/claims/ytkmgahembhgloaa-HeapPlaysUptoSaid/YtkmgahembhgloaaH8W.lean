/- The records by their ids: what the calls change (pure). -/
import Derived.Test.YtkmgahembhgloaaH8V
namespace Go.Proofs.Ytkmgahembhgloaa
open Go.RowKit Go.Maps
set_option linter.unusedVariables false
set_option linter.unusedSimpArgs false

theorem upR_at (R : Nat → List (List UInt8)) (k : Nat) (rs : List (List UInt8)) (j : Nat) : upR R k (some rs) j = if j = k then rs else R j := rfl
theorem getD_ge {rs : List (List UInt8)} {s : Nat} (h : rs.length ≤ s) : rs.getD s [] = [] := by simp [List.getD, List.getElem?_eq_none h]
theorem getD_lt {rs : List (List UInt8)} {s : Nat} (h : s < rs.length) : rs.getD s [] = rs[s] := by simp [List.getD, List.getElem?_eq_getElem h]
theorem getB_eq (n : Nat) (R : Nat → List (List UInt8)) (id : Int) : getB n R id = if 0 ≤ id ∧ id < 256 * (n : Int) then (R (kOf id)).getD (sOf id) [] else [] := by
  unfold getB
  by_cases h : ThereR n R id
  · rw [if_pos h]
    obtain ⟨k, s, h1, h2, h3, h4⟩ := h
    rw [if_pos (by omega)]
  · rw [if_neg h]
    split
    · rename_i hr
      rcases hg : (R (kOf id)).getD (sOf id) [] with _ | ⟨y, l⟩
      · rfl
      · exfalso
        apply h
        refine ⟨kOf id, sOf id, by unfold kOf; omega, by unfold sOf; omega, by unfold kOf sOf; omega, ?_, by rw [hg]; simp⟩
        rcases Nat.lt_or_ge (sOf id) (R (kOf id)).length with h' | h'
        · exact h'
        · rw [getD_ge h'] at hg; cases hg
    · rfl
theorem there_getB {n : Nat} {R : Nat → List (List UInt8)} {id : Int} : ThereR n R id ↔ getB n R id ≠ [] := by
  constructor
  · intro h
    unfold getB
    rw [if_pos h]
    obtain ⟨k, s, h1, h2, h3, h4⟩ := h
    obtain ⟨e1, e2⟩ := ksOf h2 h3
    rw [e1, e2]
    intro e
    have := h4.2
    rw [e] at this
    simp at this
  · intro h
    apply Classical.byContradiction
    intro h'
    apply h
    unfold getB
    rw [if_neg h']
/-- One slot of one page is other. -/
theorem getB_set {n : Nat} {R : Nat → List (List UInt8)} {k s : Nat} (hk : k < n) (hs : s < 256) (hsl : s < (R k).length) (b : List UInt8) (x : Int) : getB n (upR R k (some ((R k).set s b))) x = if x = 256 * (k : Int) + (s : Int) then b else getB n R x := by
  rw [getB_eq, getB_eq]
  by_cases hx : x = 256 * (k : Int) + (s : Int)
  · obtain ⟨e1, e2⟩ := ksOf hs hx
    rw [if_pos hx, if_pos (by omega), e1, e2]
    simp [upR, List.getD, hsl]
  · rw [if_neg hx]
    by_cases hr : 0 ≤ x ∧ x < 256 * (n : Int)
    · rw [if_pos hr, if_pos hr]
      rw [upR_at]
      by_cases hkx : kOf x = k
      · rw [if_pos hkx, hkx]
        have hsx : s ≠ sOf x := fun e => hx (by rw [← hkx, e]; unfold kOf sOf; omega)
        simp [List.getD, List.getElem?_set_ne hsx]
      · rw [if_neg hkx]
    · rw [if_neg hr, if_neg hr]
theorem getB_ins {n : Nat} {R : Nat → List (List UInt8)} {k : Nat} (hk : k < n) (hf : freeAt (R k) < 256) (b : List UInt8) (x : Int) : getB n (upR R k (some (insP (R k) b))) x = if x = 256 * (k : Int) + (freeAt (R k) : Int) then b else getB n R x := by
  unfold insP
  by_cases h : freeAt (R k) < (R k).length
  · rw [if_pos h]; exact getB_set hk hf h b x
  · rw [if_neg h]
    have hle := freeAt_le (R k)
    have he : freeAt (R k) = (R k).length := by omega
    rw [getB_eq, getB_eq]
    by_cases hx : x = 256 * (k : Int) + (freeAt (R k) : Int)
    · obtain ⟨e1, e2⟩ := ksOf hf hx
      rw [if_pos hx, if_pos (by omega), e1, e2]
      simp [upR, List.getD, he]
    · rw [if_neg hx]
      by_cases hr : 0 ≤ x ∧ x < 256 * (n : Int)
      · rw [if_pos hr, if_pos hr]
        rw [upR_at]
        by_cases hkx : kOf x = k
        · rw [if_pos hkx, hkx]
          have hsx : sOf x ≠ (R k).length := fun e => hx (by rw [he, ← e, ← hkx]; unfold kOf sOf; omega)
          simp only [List.getD]
          rcases Nat.lt_or_ge (sOf x) (R k).length with h' | h'
          · rw [List.getElem?_append_left h']
          · rw [List.getElem?_eq_none (by simp; omega), List.getElem?_eq_none h']
        · rw [if_neg hkx]
      · rw [if_neg hr, if_neg hr]
theorem free_none {n : Nat} {R : Nat → List (List UInt8)} {k : Nat} (hk : k < n) (hf : freeAt (R k) < 256) : getB n R (256 * (k : Int) + (freeAt (R k) : Int)) = [] := by
  obtain ⟨e1, e2⟩ := ksOf hf rfl
  rw [getB_eq, e1, e2, if_pos (by omega)]
  rcases Nat.lt_or_ge (freeAt (R k)) (R k).length with h' | h'
  · have := freeAt_free h'
    rw [getD_lt h']
    exact List.eq_nil_of_length_eq_zero this
  · exact getD_ge h'
theorem fits_free {rs : List (List UInt8)} {m : Nat} (hf : rs.length ≤ 256) (h : fitsP rs m = true) : freeAt rs < 256 := by
  have := freeAt_le rs
  unfold fitsP at h
  split at h
  · omega
  · simp at h; omega
theorem fst_inj {L : List (Int × List UInt8)} (h : (L.map (·.1)).Nodup) {i j : Nat} (hi : i < L.length) (hj : j < L.length) (e : L[i].1 = L[j].1) : i = j := by
  have h' := List.pairwise_iff_getElem.1 h
  rcases Nat.lt_trichotomy i j with hlt | he | hgt
  · exact absurd (by rw [List.getElem_map, List.getElem_map]; exact e) (h' i j (by simpa using hi) (by simpa using hj) hlt)
  · exact he
  · exact absurd (by rw [List.getElem_map, List.getElem_map]; exact e.symm) (h' j i (by simpa using hj) (by simpa using hi) hgt)
theorem delR_not {n : Nat} {R : Nat → List (List UInt8)} {id : Int} (h : ¬ ThereR n R id) : delR n R id = R := by
  unfold delR; rw [if_neg h]
/-- What is there, as a list: ids and bytes. -/
structure KeepP (n : Nat) (R : Nat → List (List UInt8)) (L : List (Int × List UInt8)) : Prop where
  nodup : (L.map (·.1)).Nodup
  here : ∀ x ∈ L, x.2 ≠ [] ∧ getB n R x.1 = x.2
  all : ∀ id, getB n R id ≠ [] → ∃ x ∈ L, x.1 = id
theorem KeepP.nil (n : Nat) : KeepP n (fun _ => []) [] := ⟨by simp, (fun x hx => by cases hx), fun id h => by
  exfalso; apply h; rw [getB_eq]; split <;> simp⟩
theorem nodup_map_inj {α β : Type} {f : α → β} {l : List α} (hf : ∀ a b, f a = f b → a = b) (h : l.Nodup) : (l.map f).Nodup := by
  rw [List.Nodup, List.pairwise_map]
  exact h.imp (fun hne e => hne (hf _ _ e))
theorem scanR_nodup {n : Nat} {R : Nat → List (List UInt8)} (hf : ∀ j, j < n → (R j).length ≤ 256) : (scanR n R).Nodup := by
  induction n with
  | zero => simp [scanR]
  | succ n ih =>
    rw [scanR_succ, List.nodup_append]
    refine ⟨ih (fun j hj => hf j (by omega)), ?_, ?_⟩
    · unfold idsR
      exact nodup_map_inj (fun a b h => by omega) (List.nodup_range.filter _)
    · intro a ha b hb e
      subst e
      unfold scanR at ha
      obtain ⟨j, hj, ha⟩ := List.mem_flatMap.1 ha
      rw [List.mem_range] at hj
      unfold idsR at ha hb
      obtain ⟨s, hs, e1⟩ := List.mem_map.1 ha
      obtain ⟨s', hs', e2⟩ := List.mem_map.1 hb
      have h1 := (List.mem_filter.1 hs).1
      have h2 := (List.mem_filter.1 hs').1
      rw [List.mem_range] at h1 h2
      have := hf j (by omega)
      have := hf n (by omega)
      omega
theorem mem_scanR {n : Nat} {R : Nat → List (List UInt8)} (hf : ∀ j, j < n → (R j).length ≤ 256) (id : Int) : id ∈ scanR n R ↔ ThereR n R id := by
  unfold scanR
  rw [List.mem_flatMap]
  constructor
  · rintro ⟨j, hj, h⟩
    rw [List.mem_range] at hj
    unfold idsR at h
    obtain ⟨s, hs, rfl⟩ := List.mem_map.1 h
    obtain ⟨h1, h2⟩ := List.mem_filter.1 hs
    rw [List.mem_range] at h1
    have := hf j hj
    exact ⟨j, s, hj, by omega, by omega, h1, by simpa using h2⟩
  · rintro ⟨k, s, h1, h2, rfl, h3, h4⟩
    refine ⟨k, List.mem_range.2 h1, ?_⟩
    unfold idsR
    exact List.mem_map.2 ⟨s, List.mem_filter.2 ⟨List.mem_range.2 h3, by simpa using h4⟩, by omega⟩
theorem KeepP.len {n : Nat} {R : Nat → List (List UInt8)} {L : List (Int × List UInt8)} (h : KeepP n R L) (hf : ∀ j, j < n → (R j).length ≤ 256) : (scanR n R).length = L.length := by
  have hp : (scanR n R).Perm (L.map (·.1)) := by
    rw [List.perm_ext_iff_of_nodup (scanR_nodup hf) h.nodup]
    intro id
    rw [mem_scanR hf, there_getB, List.mem_map]
    constructor
    · intro hg
      obtain ⟨x, hx, e⟩ := h.all id hg
      exact ⟨x, hx, e⟩
    · rintro ⟨x, hx, rfl⟩
      rw [(h.here x hx).2]; exact (h.here x hx).1
  simpa using hp.length_eq
theorem KeepP.there {n : Nat} {R : Nat → List (List UInt8)} {L : List (Int × List UInt8)} (h : KeepP n R L) {x : Int × List UInt8} (hx : x ∈ L) : ThereR n R x.1 := by
  rw [there_getB, (h.here x hx).2]; exact (h.here x hx).1
/-- Insert that was taken. -/
theorem KeepP.ins {n : Nat} {R : Nat → List (List UInt8)} {L : List (Int × List UInt8)} (h : KeepP n R L) (hf : ∀ j, j < n → (R j).length ≤ 256) (b : List UInt8) (he : (insE n R b).2 = 0) : KeepP n (insR n R b) (L ++ [((insE n R b).1, b)]) ∧ ∀ x ∈ L, x.1 ≠ (insE n R b).1 := by
  unfold insE at he ⊢
  unfold insR
  split at he
  · cases he
  · rename_i hb
    rw [if_neg hb, if_neg hb]
    cases hff : firstFit n R b.length with
    | none => rw [hff] at he; cases he
    | some k =>
      simp only
      have hk : k < n := by
        unfold firstFit at hff
        have := List.mem_of_find?_eq_some hff
        rwa [List.mem_range] at this
      have hfit : fitsP (R k) b.length = true := by
        unfold firstFit at hff
        have := List.find?_some hff
        simpa using this
      have hf2 := fits_free (hf k hk) hfit
      have hn := free_none hk hf2
      have hcm : (k : Int) * 256 + (freeAt (R k) : Int) = 256 * (k : Int) + (freeAt (R k) : Int) := by omega
      rw [hcm]
      have hne : ∀ x ∈ L, x.1 ≠ 256 * (k : Int) + (freeAt (R k) : Int) := fun x hx e => by
        have h1 := (h.here x hx)
        rw [e, hn] at h1
        exact h1.1 h1.2.symm
      refine ⟨⟨?_, fun x hx => ?_, fun id hid => ?_⟩, hne⟩
      · rw [List.map_append, List.nodup_append]
        refine ⟨h.nodup, by simp, ?_⟩
        intro a ha c hc e
        simp at hc
        obtain ⟨x, hx, rfl⟩ := List.mem_map.1 ha
        exact hne x hx (e.trans hc)
      · rw [getB_ins hk hf2]
        rcases List.mem_append.1 hx with hx | hx
        · rw [if_neg (hne x hx)]; exact h.here x hx
        · obtain rfl := List.mem_singleton.1 hx
          refine ⟨fun e => hb (Or.inl ?_), if_pos rfl⟩
          rw [show b = [] from e]; rfl
      · rw [getB_ins hk hf2] at hid
        split at hid
        · rename_i e
          exact ⟨_, List.mem_append_right _ (List.mem_singleton.2 rfl), e.symm⟩
        · obtain ⟨x, hx, e⟩ := h.all id hid
          exact ⟨x, List.mem_append_left _ hx, e⟩
theorem insR_not {n : Nat} {R : Nat → List (List UInt8)} {b : List UInt8} (he : (insE n R b).2 ≠ 0) : insR n R b = R := by
  unfold insE at he
  unfold insR
  split
  · rfl
  · rename_i hb
    rw [if_neg hb] at he
    cases hff : firstFit n R b.length with
    | none => rfl
    | some k => rw [hff] at he; exact absurd rfl he
/-- Update that was taken. -/
theorem KeepP.upd {n : Nat} {R : Nat → List (List UInt8)} {L : List (Int × List UInt8)} (h : KeepP n R L) {k : Nat} (hk : k < L.length) (b : List UInt8) (he : updE n R L[k].1 b = 0) : KeepP n (updR n R L[k].1 b) (L.set k (L[k].1, b)) := by
  have hT := h.there (List.getElem_mem hk)
  unfold updE at he
  unfold updR
  rw [if_pos hT] at he ⊢
  obtain ⟨p, s, h1, h2, h3, h4⟩ := hT
  obtain ⟨e1, e2⟩ := ksOf h2 h3
  rw [e1, e2] at he ⊢
  unfold updO at he ⊢
  split at he
  · cases he
  · rename_i hb
    split at he
    · cases he
    · rename_i hr
      rw [if_neg hb, if_neg hr]
      have hbn : b ≠ [] := fun e => hb (Or.inl (by rw [e]; rfl))
      have hids : (L.set k (L[k].1, b)).map (·.1) = L.map (·.1) := by
        rw [List.map_set]
        have : (L.map (·.1))[k]'(by simpa using hk) = L[k].1 := by simp
        rw [← this]
        exact List.set_getElem_self _
      refine ⟨by rw [hids]; exact h.nodup, fun x hx => ?_, fun id hid => ?_⟩
      · rw [getB_set h1 h2 h4.1, ← h3]
        obtain ⟨j, hj, rfl⟩ := List.getElem_of_mem hx
        have hj' : j < L.length := by simpa using hj
        rw [List.getElem_set]
        by_cases e : k = j
        · rw [if_pos e]; simp only [if_true]; exact ⟨hbn, trivial⟩
        · rw [if_neg e, if_neg]
          · exact h.here _ (List.getElem_mem hj')
          · intro e'
            exact e (fst_inj h.nodup hj' hk e').symm
      · rw [getB_set h1 h2 h4.1, ← h3] at hid
        have hm : id ∈ (L.set k (L[k].1, b)).map (·.1) := by
          rw [hids]
          split at hid
          · rename_i e; rw [e]; exact List.mem_map.2 ⟨_, List.getElem_mem hk, rfl⟩
          · obtain ⟨x, hx, e⟩ := h.all id hid
            exact List.mem_map.2 ⟨x, hx, e⟩
        obtain ⟨x, hx, e⟩ := List.mem_map.1 hm
        exact ⟨x, hx, e⟩
theorem updR_not {n : Nat} {R : Nat → List (List UInt8)} {id : Int} {b : List UInt8} (he : updE n R id b ≠ 0) : updR n R id b = R := by
  unfold updE at he
  unfold updR
  split
  · rename_i hT
    rw [if_pos hT] at he
    unfold updO at he ⊢
    split
    · rfl
    · rename_i h1
      rw [if_neg h1] at he
      split
      · rfl
      · rename_i h2
        rw [if_neg h2] at he
        exact absurd rfl he
  · rfl
/-- Delete. -/
theorem KeepP.del {n : Nat} {R : Nat → List (List UInt8)} {L : List (Int × List UInt8)} (h : KeepP n R L) {k : Nat} (hk : k < L.length) : delE n R L[k].1 = 0 ∧ KeepP n (delR n R L[k].1) (L.eraseIdx k) ∧ delE n (delR n R L[k].1) L[k].1 = 82 ∧ delR n (delR n R L[k].1) L[k].1 = delR n R L[k].1 := by
  have hT := h.there (List.getElem_mem hk)
  have hT' := hT
  obtain ⟨p, s, h1, h2, h3, h4⟩ := hT
  obtain ⟨e1, e2⟩ := ksOf h2 h3
  have hg : ∀ x, getB n (delR n R L[k].1) x = if x = L[k].1 then [] else getB n R x := fun x => by
    unfold delR
    rw [if_pos hT', e1, e2, getB_set h1 h2 h4.1, ← h3]
  have hno : ¬ ThereR n (delR n R L[k].1) L[k].1 := by
    rw [there_getB, hg, if_pos rfl]; simp
  have hmem : ∀ x, x ∈ L.eraseIdx k → x ∈ L ∧ x.1 ≠ L[k].1 := fun x hx => by
    obtain ⟨j, hj, hjk, e⟩ := List.mem_eraseIdx_iff_getElem.1 hx
    subst e
    refine ⟨List.getElem_mem _, fun e' => hjk ?_⟩
    exact fst_inj h.nodup hj hk e'
  refine ⟨by unfold delE; rw [if_pos hT'], ⟨h.nodup.sublist ((List.eraseIdx_sublist _ _).map _), fun x hx => ?_, fun id hid => ?_⟩, by unfold delE; rw [if_neg hno], delR_not hno⟩
  · obtain ⟨hm, hne⟩ := hmem x hx
    rw [hg, if_neg hne]; exact h.here x hm
  · rw [hg] at hid
    split at hid
    · exact absurd rfl hid
    · rename_i hne
      obtain ⟨x, hx, e⟩ := h.all id hid
      obtain ⟨j, hj, rfl⟩ := List.getElem_of_mem hx
      refine ⟨L[j], List.mem_eraseIdx_iff_getElem.2 ⟨j, hj, ?_, rfl⟩, e⟩
      intro e'
      subst e'
      exact hne e.symm
end Go.Proofs.Ytkmgahembhgloaa

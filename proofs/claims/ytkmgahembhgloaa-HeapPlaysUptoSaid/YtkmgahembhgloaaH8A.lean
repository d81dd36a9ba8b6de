/- A page's slots and its records: pure. -/
import Derived.Test.YtkmgahembhgloaaP7O
namespace Go.Proofs.Ytkmgahembhgloaa
open Go.RowKit Go.Maps
set_option linter.unusedVariables false
set_option linter.unusedSimpArgs false

/-- The number at a place of a page. -/
def numP (c : List UInt8) (i : Nat) : Nat := (c[i]?.getD 0).toNat + 256 * (c[i + 1]?.getD 0).toNat
theorem numP_le (c : List UInt8) (i : Nat) : numP c i ≤ 65535 := by
  unfold numP
  have := (c[i]?.getD 0).toNat_lt
  have := (c[i + 1]?.getD 0).toNat_lt
  omega
def pieceP (c : List UInt8) (p l : Nat) : List UInt8 := if p + l > c.length then [] else (c.drop p).take l
def cntP (c : List UInt8) : Nat := min (numP c 0) 256
def recP (c : List UInt8) (s : Nat) : List UInt8 := pieceP c (numP c (2 + 4 * s)) (numP c (2 + 4 * s + 2))
/-- A page's records by their slots. -/
def recsP (c : List UInt8) : List (List UInt8) := (List.range (cntP c)).map (recP c)
theorem cntP_le (c : List UInt8) : cntP c ≤ 256 := Nat.min_le_right _ _
theorem recsP_len (c : List UInt8) : (recsP c).length = cntP c := by simp [recsP]
theorem recsP_at (c : List UInt8) (s : Nat) (h : s < (recsP c).length) : (recsP c)[s] = recP c s := by simp [recsP]
def setNumP (c : List UInt8) (i n : Nat) : List UInt8 := (c.set i (UInt8.ofNat n)).set (i + 1) (UInt8.ofNat (n / 256))
theorem setNumP_len (c : List UInt8) (i n : Nat) : (setNumP c i n).length = c.length := by simp [setNumP]
theorem setNumP_at (c : List UInt8) (i n j : Nat) (h1 : j ≠ i) (h2 : j ≠ i + 1) : (setNumP c i n)[j]? = c[j]? := by
  unfold setNumP
  rw [List.getElem?_set_ne (by omega), List.getElem?_set_ne (by omega)]
theorem numP_set_same (c : List UInt8) (i n : Nat) (hi : i + 1 < c.length) (hn : n ≤ 65535) : numP (setNumP c i n) i = n := by
  unfold numP setNumP
  rw [List.getElem?_set_ne (by omega), List.getElem?_set_self (by omega), List.getElem?_set_self (by simp; omega)]
  simp only [Option.getD_some, UInt8.toNat_ofNat']
  omega
theorem numP_set_other (c : List UInt8) (i n j : Nat) (h : j + 2 ≤ i ∨ i + 2 ≤ j) : numP (setNumP c i n) j = numP c j := by
  unfold numP
  rw [setNumP_at c i n j (by omega) (by omega), setNumP_at c i n (j + 1) (by omega) (by omega)]
/-- Bytes are laid over a part of a page. -/
def overP (c : List UInt8) (p : Nat) (r : List UInt8) : List UInt8 := c.take p ++ r ++ c.drop (p + r.length)
theorem overP_len (c : List UInt8) (p : Nat) (r : List UInt8) (h : p + r.length ≤ c.length) : (overP c p r).length = c.length := by
  simp [overP]; omega
theorem overP_lo (c : List UInt8) (p : Nat) (r : List UInt8) (h : p + r.length ≤ c.length) (j : Nat) (hj : j < p) : (overP c p r)[j]? = c[j]? := by
  unfold overP
  rw [List.append_assoc, List.getElem?_append_left (by simp; omega), List.getElem?_take_of_lt hj]
theorem overP_in (c : List UInt8) (p : Nat) (r : List UInt8) (h : p + r.length ≤ c.length) (j : Nat) (hj : j < r.length) : (overP c p r)[p + j]? = r[j]? := by
  unfold overP
  rw [List.append_assoc, List.getElem?_append_right (by simp; omega), List.length_take, Nat.min_eq_left (by omega), Nat.add_sub_cancel_left, List.getElem?_append_left hj]
theorem numP_over (c : List UInt8) (p : Nat) (r : List UInt8) (h : p + r.length ≤ c.length) (j : Nat) (hj : j + 2 ≤ p) : numP (overP c p r) j = numP c j := by
  unfold numP
  rw [overP_lo c p r h j (by omega), overP_lo c p r h (j + 1) (by omega)]
def sumL (rs : List (List UInt8)) : Nat := (rs.map List.length).sum
/-- The room of a page of these records. -/
def roomP (rs : List (List UInt8)) : Int := 2046 - 4 * rs.length - sumL rs
theorem sumL_snoc (rs : List (List UInt8)) (r : List UInt8) : sumL (rs ++ [r]) = sumL rs + r.length := by simp [sumL]
theorem sumL_take (rs : List (List UInt8)) (k : Nat) (h : k < rs.length) : sumL (rs.take (k + 1)) = sumL (rs.take k) + rs[k].length := by
  rw [List.take_succ_eq_append_getElem h, sumL_snoc]
theorem sumL_le (rs : List (List UInt8)) (k : Nat) : sumL (rs.take k) ≤ sumL rs := by
  have h : sumL rs = sumL (rs.take k) + sumL (rs.drop k) := by
    conv => lhs; rw [← List.take_append_drop k rs]
    simp only [sumL, List.map_append, List.sum_append]
  omega
theorem sumL_set (rs : List (List UInt8)) (s : Nat) (h : s < rs.length) (b : List UInt8) : sumL (rs.set s b) + rs[s].length = sumL rs + b.length := by
  induction rs generalizing s with
  | nil => simp at h
  | cons x t ih =>
    cases s with
    | zero => simp [sumL]; omega
    | succ s =>
      have := ih s (by simpa using h)
      simp [sumL] at this ⊢
      omega
/-- A slot of a page, and its record. -/
structure SlotOk (c : List UInt8) (n s : Nat) (r : List UInt8) : Prop where
  ln : numP c (2 + 4 * s + 2) = r.length
  fit : numP c (2 + 4 * s) + r.length ≤ 2048
  pl : r.length = 0 ∨ 2 + 4 * n ≤ numP c (2 + 4 * s)
  by_ : ∀ j, j < r.length → c[numP c (2 + 4 * s) + j]? = r[j]?
/-- A page holds these records. -/
structure PageOk (c : List UInt8) (rs : List (List UInt8)) : Prop where
  len : c.length = 2048
  cnt : numP c 0 = rs.length
  few : rs.length ≤ 256
  at_ : ∀ s (h : s < rs.length), SlotOk c rs.length s rs[s]
  room : 0 ≤ roomP rs
theorem SlotOk.rec_ {c : List UInt8} {n s : Nat} {r : List UInt8} (h : SlotOk c n s r) (hl : c.length = 2048) : recP c s = r := by
  unfold recP pieceP
  have h1 := h.fit
  rw [h.ln, if_neg (by omega)]
  apply List.ext_getElem?
  intro j
  by_cases hj : j < r.length
  · rw [List.getElem?_take_of_lt hj, List.getElem?_drop]; exact h.by_ j hj
  · rw [List.getElem?_eq_none (by simp; omega), List.getElem?_eq_none (by omega)]
theorem PageOk.recs {c : List UInt8} {rs : List (List UInt8)} (h : PageOk c rs) : recsP c = rs := by
  have h1 : cntP c = rs.length := by unfold cntP; rw [h.cnt]; have := h.few; omega
  apply List.ext_getElem
  · rw [recsP_len, h1]
  · intro s h2 h3
    rw [recsP_at]; exact (h.at_ s h3).rec_ h.len
theorem numP_zero (n i : Nat) : numP (List.replicate n (0 : UInt8)) i = 0 := by
  have h : ∀ j : Nat, UInt8.toNat ((List.replicate n (0 : UInt8))[j]?.getD 0) = 0 := fun j => by
    by_cases hj : j < n
    · rw [List.getElem?_replicate_of_lt hj]; rfl
    · rw [List.getElem?_eq_none (by rw [List.length_replicate]; omega)]; rfl
  unfold numP
  rw [h, h]
theorem PageOk.zero : PageOk (List.replicate 2048 0) [] := ⟨List.length_replicate, by rw [numP_zero]; rfl, by simp, fun s h => by simp at h, by unfold roomP; simp [sumL]⟩
/-- A slot is made free. -/
def freeP (c : List UInt8) (s : Nat) : List UInt8 := setNumP (setNumP c (2 + 4 * s) 0) (2 + 4 * s + 2) 0
theorem roomP_set (rs : List (List UInt8)) (s : Nat) (h : s < rs.length) (b : List UInt8) : roomP (rs.set s b) = roomP rs + rs[s].length - b.length := by
  have := sumL_set rs s h b
  unfold roomP
  simp only [List.length_set]
  omega
theorem PageOk.free {c : List UInt8} {rs : List (List UInt8)} (h : PageOk c rs) {s : Nat} (hs : s < rs.length) : PageOk (freeP c s) (rs.set s []) := by
  have hl := h.len
  have hf := h.few
  have h0 : ∀ j, (j + 2 ≤ 2 + 4 * s ∨ 2 + 4 * s + 4 ≤ j) → numP (freeP c s) j = numP c j := fun j hj => by
    unfold freeP
    rw [numP_set_other _ _ _ _ (by omega), numP_set_other _ _ _ _ (by omega)]
  refine ⟨by simp [freeP, setNumP_len, hl], ?_, by simpa using hf, fun t ht => ?_, ?_⟩
  · rw [h0 0 (by omega), h.cnt]; simp
  · simp only [List.length_set] at ht ⊢
    by_cases e : t = s
    · subst e
      have e1 : numP (freeP c t) (2 + 4 * t) = 0 := by
        unfold freeP
        rw [numP_set_other _ _ _ _ (by omega), numP_set_same _ _ _ (by omega) (by omega)]
      have e2 : numP (freeP c t) (2 + 4 * t + 2) = 0 := by
        unfold freeP
        rw [numP_set_same _ _ _ (by rw [setNumP_len]; omega) (by omega)]
      rw [List.getElem_set_self]
      exact ⟨by rw [e2]; rfl, by rw [e1]; simp, Or.inl rfl, fun j hj => by simp at hj⟩
    · rw [List.getElem_set_ne (fun e' => e e'.symm)]
      obtain ⟨h1, h2, h3, h4⟩ := h.at_ t ht
      have e1 : numP (freeP c s) (2 + 4 * t) = numP c (2 + 4 * t) := h0 _ (by omega)
      have e2 : numP (freeP c s) (2 + 4 * t + 2) = numP c (2 + 4 * t + 2) := h0 _ (by omega)
      refine ⟨e2.trans h1, by rw [e1]; exact h2, by rw [e1]; exact h3, fun j hj => ?_⟩
      rw [e1, ← h4 j hj]
      unfold freeP
      have h5 : 2 + 4 * rs.length ≤ numP c (2 + 4 * t) := by omega
      rw [setNumP_at _ _ _ _ (by omega) (by omega), setNumP_at _ _ _ _ (by omega) (by omega)]
  · rw [roomP_set rs s hs []]
    have := h.room
    simp; omega
/-- A page is laid out, so far. -/
structure Laid (c : List UInt8) (rs : List (List UInt8)) (k place : Nat) : Prop where
  len : c.length = 2048
  cnt : numP c 0 = rs.length
  few : rs.length ≤ 256
  le : k ≤ rs.length
  hpl : place = 2 + 4 * rs.length + sumL (rs.take k)
  at_ : ∀ s (h : s < rs.length), s < k → SlotOk c rs.length s rs[s] ∧ numP c (2 + 4 * s) + rs[s].length ≤ place
  no : ∀ s, s < rs.length → k ≤ s → numP c (2 + 4 * s) = 0 ∧ numP c (2 + 4 * s + 2) = 0
  room : 0 ≤ roomP rs
theorem Laid.start (rs : List (List UInt8)) (hf : rs.length ≤ 256) (hr : 0 ≤ roomP rs) : Laid (setNumP (List.replicate 2048 0) 0 rs.length) rs 0 (2 + 4 * rs.length) := by
  have hl : (List.replicate 2048 (0 : UInt8)).length = 2048 := List.length_replicate
  refine ⟨by rw [setNumP_len, hl], numP_set_same _ _ _ (by rw [hl]; omega) (by omega), hf, Nat.zero_le _, by simp [sumL], fun s _ h => by omega, fun s hs _ => ?_, hr⟩
  rw [numP_set_other _ _ _ _ (by omega), numP_set_other _ _ _ _ (by omega), numP_zero, numP_zero]
  exact ⟨rfl, rfl⟩
theorem Laid.bound {c : List UInt8} {rs : List (List UInt8)} {k place : Nat} (h : Laid c rs k place) (hk : k < rs.length) : place + rs[k].length ≤ 2048 := by
  have h1 := sumL_take rs k hk
  have h2 := sumL_le rs (k + 1)
  have h3 := h.room
  have h4 := h.hpl
  unfold roomP at h3
  omega
theorem Laid.skip {c : List UInt8} {rs : List (List UInt8)} {k place : Nat} (h : Laid c rs k place) (hk : k < rs.length) (he : rs[k].length = 0) : Laid c rs (k + 1) place := by
  refine ⟨h.len, h.cnt, h.few, hk, ?_, fun s hs hsk => ?_, fun s hs hsk => h.no s hs (by omega), h.room⟩
  · rw [sumL_take rs k hk, he]; exact h.hpl
  · by_cases e : s = k
    · subst e
      obtain ⟨e1, e2⟩ := h.no s hs (Nat.le_refl _)
      exact ⟨⟨by rw [e2, he], by rw [e1, he]; omega, Or.inl he, fun j hj => by omega⟩, by rw [e1, he]; omega⟩
    · exact h.at_ s hs (by omega)
theorem Laid.put {c : List UInt8} {rs : List (List UInt8)} {k place : Nat} (h : Laid c rs k place) (hk : k < rs.length) : Laid (overP (setNumP (setNumP c (2 + 4 * k) place) (2 + 4 * k + 2) rs[k].length) place rs[k]) rs (k + 1) (place + rs[k].length) := by
  have hb := h.bound hk
  have hl := h.len
  have hp := h.hpl
  have hfew := h.few
  obtain ⟨c1, hc1⟩ : ∃ c1, setNumP c (2 + 4 * k) place = c1 := ⟨_, rfl⟩
  have hl1 : c1.length = 2048 := by rw [← hc1, setNumP_len, hl]
  obtain ⟨c2, hc2⟩ : ∃ c2, setNumP c1 (2 + 4 * k + 2) rs[k].length = c2 := ⟨_, rfl⟩
  have hl2 : c2.length = 2048 := by rw [← hc2, setNumP_len, hl1]
  rw [hc1, hc2]
  have hfit : place + rs[k].length ≤ c2.length := by omega
  have n0 : ∀ j, j + 2 ≤ place → (j + 2 ≤ 2 + 4 * k ∨ 2 + 4 * k + 4 ≤ j) → numP (overP c2 place rs[k]) j = numP c j := fun j hj h0 => by
    rw [numP_over c2 place _ hfit j hj, ← hc2, numP_set_other _ _ _ _ (by omega), ← hc1, numP_set_other _ _ _ _ (by omega)]
  have n1 : numP (overP c2 place rs[k]) (2 + 4 * k) = place := by
    rw [numP_over c2 place _ hfit _ (by omega), ← hc2, numP_set_other _ _ _ _ (by omega), ← hc1, numP_set_same _ _ _ (by omega) (by omega)]
  have n2 : numP (overP c2 place rs[k]) (2 + 4 * k + 2) = rs[k].length := by
    rw [numP_over c2 place _ hfit _ (by omega), ← hc2, numP_set_same _ _ _ (by omega) (by omega)]
  refine ⟨by rw [overP_len _ _ _ hfit, hl2], ?_, hfew, hk, ?_, fun s hs hsk => ?_, fun s hs hsk => ?_, h.room⟩
  · rw [n0 0 (by omega) (by omega)]; exact h.cnt
  · rw [sumL_take rs k hk]; omega
  · by_cases e : s = k
    · subst e
      exact ⟨⟨n2, by rw [n1]; omega, Or.inr (by rw [n1]; omega), fun j hj => by rw [n1]; exact overP_in c2 place _ hfit j hj⟩, by rw [n1]; omega⟩
    · obtain ⟨⟨h1, h2, h3, h4⟩, h5⟩ := h.at_ s hs (by omega)
      have e1 : numP (overP c2 place rs[k]) (2 + 4 * s) = numP c (2 + 4 * s) := n0 _ (by omega) (by omega)
      have e2 : numP (overP c2 place rs[k]) (2 + 4 * s + 2) = numP c (2 + 4 * s + 2) := n0 _ (by omega) (by omega)
      refine ⟨⟨e2.trans h1, by rw [e1]; exact h2, by rw [e1]; exact h3, fun j hj => ?_⟩, by rw [e1]; omega⟩
      have h6 : 2 + 4 * rs.length ≤ numP c (2 + 4 * s) := by omega
      rw [e1, ← h4 j hj, overP_lo c2 place _ hfit _ (by omega), ← hc2]
      rw [setNumP_at _ _ _ _ (by omega) (by omega), ← hc1, setNumP_at _ _ _ _ (by omega) (by omega)]
  · rw [n0 _ (by omega) (by omega), n0 _ (by omega) (by omega)]
    exact h.no s hs (by omega)
theorem Laid.done {c : List UInt8} {rs : List (List UInt8)} {place : Nat} (h : Laid c rs rs.length place) : PageOk c rs :=
  ⟨h.len, h.cnt, h.few, fun s hs => (h.at_ s hs hs).1, h.room⟩
/-- The first free slot, or the one behind. -/
def freeAt (rs : List (List UInt8)) : Nat := rs.findIdx (fun r => decide (r.length = 0))
theorem freeAt_le (rs : List (List UInt8)) : freeAt rs ≤ rs.length := List.findIdx_le_length
theorem freeAt_eq {rs : List (List UInt8)} {k : Nat} (hk : k < rs.length) (h0 : rs[k].length = 0) (hn : ∀ j (hj : j < rs.length), j < k → rs[j].length ≠ 0) : freeAt rs = k := by
  unfold freeAt
  rw [List.findIdx_eq hk]
  exact ⟨by simpa using h0, fun j hj => by simpa using hn j (by omega) hj⟩
theorem freeAt_none {rs : List (List UInt8)} (hn : ∀ j (hj : j < rs.length), rs[j].length ≠ 0) : freeAt rs = rs.length := by
  unfold freeAt
  rw [List.findIdx_eq_length]
  intro r hr
  obtain ⟨j, hj, e⟩ := List.getElem_of_mem hr
  simpa [← e] using hn j hj
/-- Is there room for so many bytes? -/
def fitsP (rs : List (List UInt8)) (n : Nat) : Bool :=
  if freeAt rs < rs.length then decide ((n : Int) ≤ roomP rs) else decide (rs.length < 256) && decide ((n : Int) + 4 ≤ roomP rs)
/-- The records behind Insert. -/
def insP (rs : List (List UInt8)) (b : List UInt8) : List (List UInt8) :=
  if freeAt rs < rs.length then rs.set (freeAt rs) b else rs ++ [b]
theorem insP_len (rs : List (List UInt8)) (b : List UInt8) : (insP rs b).length = if freeAt rs < rs.length then rs.length else rs.length + 1 := by
  unfold insP; split <;> simp
theorem freeAt_free {rs : List (List UInt8)} (h : freeAt rs < rs.length) : rs[freeAt rs].length = 0 := by
  have := List.findIdx_getElem (p := fun r : List UInt8 => decide (r.length = 0)) (xs := rs) (w := h)
  simpa [freeAt] using this
theorem ins_few {rs : List (List UInt8)} {b : List UInt8} (hf : rs.length ≤ 256) (h : fitsP rs b.length = true) : (insP rs b).length ≤ 256 := by
  rw [insP_len]
  unfold fitsP at h
  split <;> rename_i e
  · exact hf
  · rw [if_neg e] at h; simp at h; omega
theorem ins_room {rs : List (List UInt8)} {b : List UInt8} (h : fitsP rs b.length = true) : 0 ≤ roomP (insP rs b) := by
  unfold fitsP at h
  unfold insP
  split <;> rename_i e
  · rw [if_pos e] at h
    rw [roomP_set rs _ e, freeAt_free e]
    simp at h; simp; omega
  · rw [if_neg e] at h
    unfold roomP at h ⊢
    rw [sumL_snoc]
    simp at h ⊢; omega
end Go.Proofs.Ytkmgahembhgloaa

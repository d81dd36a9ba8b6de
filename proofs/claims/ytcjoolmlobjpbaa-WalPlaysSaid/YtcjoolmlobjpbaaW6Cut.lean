/- What a log's writes leave on a disk, whenever power goes. -/
import Derived.Test.YtcjoolmlobjpbaaW6Math
namespace Go.Proofs.Ytcjoolmlobjpbaa
open Go.RowKit Go.Maps
set_option linter.unusedVariables false
set_option linter.unusedSimpArgs false

/-- What writes leave, all of them. -/
def appl (f : Int → List UInt8) (ws : List W3) : Int → List UInt8 := ws.foldl (fun f x => upd f x.place x.sec) f
theorem appl_app (f : Int → List UInt8) (a b : List W3) : appl f (a ++ b) = appl (appl f a) b := by simp [appl, List.foldl_append]
theorem appl_one (f : Int → List UInt8) (x : W3) : appl f [x] = upd f x.place x.sec := rfl
theorem cutF_one (ks : List Bool) (safe : Nat) (f : Int → List UInt8) (ws : List W3) (x : W3) :
    cutF ks safe f (ws ++ [x]) = if leftB ks safe ws.length then upd (cutF ks safe f ws) x.place x.sec else cutF ks safe f ws := by
  unfold cutF
  rw [List.zipIdx_append, List.foldl_append]
  simp
theorem cutF_safe (ks : List Bool) (safe : Nat) (f : Int → List UInt8) (ws : List W3) (h : ws.length ≤ safe) : cutF ks safe f ws = appl f ws := by
  suffices H : ∀ k, k ≤ ws.length → cutF ks safe f (ws.take k) = appl f (ws.take k) by
    have := H ws.length (Nat.le_refl _)
    rwa [List.take_length] at this
  intro k
  induction k with
  | zero => intro _; simp [cutF, appl]
  | succ k ih =>
    intro hk
    rw [List.take_succ_eq_append_getElem (by omega), cutF_one, appl_app, ih (by omega), appl_one]
    have : leftB ks safe (ws.take k).length = true := by
      have e : (ws.take k).length < safe := by rw [List.length_take]; omega
      simp [leftB]; left; omega
    rw [this]; rfl
theorem cutF_either (ks : List Bool) (f : Int → List UInt8) (A B : List W3) (p : Int) :
    cutF ks A.length f (A ++ B) p = appl f A p ∨ ∃ x ∈ B, x.place = p ∧ cutF ks A.length f (A ++ B) p = x.sec := by
  suffices H : ∀ k, k ≤ B.length → cutF ks A.length f (A ++ B.take k) p = appl f A p ∨ ∃ x ∈ B.take k, x.place = p ∧ cutF ks A.length f (A ++ B.take k) p = x.sec by
    have := H B.length (Nat.le_refl _)
    rwa [List.take_length] at this
  intro k
  induction k with
  | zero =>
    intro _
    left
    rw [List.take_zero, List.append_nil, cutF_safe _ _ _ _ (Nat.le_refl _)]
  | succ k ih =>
    intro hk
    rw [List.take_succ_eq_append_getElem (by omega), ← List.append_assoc, cutF_one]
    by_cases hl : leftB ks A.length (A ++ B.take k).length = true
    · rw [if_pos hl]
      by_cases hp : p = (B[k]'(by omega)).place
      · right
        exact ⟨B[k]'(by omega), List.mem_append_right _ (by simp), hp.symm, by simp [upd, hp]⟩
      · have e : upd (cutF ks A.length f (A ++ B.take k)) (B[k]'(by omega)).place (B[k]'(by omega)).sec p = cutF ks A.length f (A ++ B.take k) p := by
          unfold upd; rw [if_neg hp]
        rw [e]
        rcases ih (by omega) with h | ⟨x, hx, h⟩
        · exact Or.inl h
        · exact Or.inr ⟨x, List.mem_append_left _ hx, h⟩
    · rw [if_neg hl]
      rcases ih (by omega) with h | ⟨x, hx, h⟩
      · exact Or.inl h
      · exact Or.inr ⟨x, List.mem_append_left _ hx, h⟩

/-- Sectors of a text, written one behind the other. -/
def layW (first : Int) (fr : List UInt8) (safe : Int) (a b : Nat) : List W3 := (List.range' a (b - a)).map fun i => ⟨first + (i : Nat), secOf fr i, safe⟩
def layN (f : Int → List UInt8) (first : Int) (fr : List UInt8) (a b : Nat) : Int → List UInt8 := fun p => if first + a ≤ p ∧ p < first + b then secOf fr (p - first).toNat else f p
theorem layW_len (first : Int) (fr : List UInt8) (safe : Int) (a b : Nat) : (layW first fr safe a b).length = b - a := by simp [layW]
theorem layW_nil (first : Int) (fr : List UInt8) (safe : Int) (a b : Nat) (h : b ≤ a) : layW first fr safe a b = [] := by
  simp [layW, Nat.sub_eq_zero_of_le h]
theorem layN_nil (f : Int → List UInt8) (first : Int) (fr : List UInt8) (a b : Nat) (h : b ≤ a) : layN f first fr a b = f := by
  funext p; unfold layN; rw [if_neg (by omega)]
theorem layW_succ (first : Int) (fr : List UInt8) (safe : Int) (a k : Nat) (h : a ≤ k) : layW first fr safe a (k + 1) = layW first fr safe a k ++ [⟨first + k, secOf fr k, safe⟩] := by
  unfold layW
  rw [show k + 1 - a = (k - a) + 1 by omega, List.range'_concat, List.map_append]
  simp only [List.map_cons, List.map_nil, Nat.one_mul]
  rw [show a + (k - a) = k by omega]
theorem layN_succ (f : Int → List UInt8) (first : Int) (fr : List UInt8) (a k : Nat) (h : a ≤ k) : upd (layN f first fr a k) (first + k) (secOf fr k) = layN f first fr a (k + 1) := by
  funext p
  unfold upd layN
  by_cases h1 : p = first + k
  · rw [if_pos h1, if_pos (by omega), h1]
    congr 1; omega
  · rw [if_neg h1]
    by_cases h2 : first + a ≤ p ∧ p < first + k
    · rw [if_pos h2, if_pos (by omega)]
    · rw [if_neg h2, if_neg (by omega)]
theorem layN_len {f : Int → List UInt8} (hf : ∀ i, (f i).length = 128) (first : Int) (fr : List UInt8) (a b : Nat) : ∀ i, (layN f first fr a b i).length = 128 := by
  intro i; unfold layN; split
  · exact secOf_len _ _
  · exact hf i
theorem layN_at (f : Int → List UInt8) (first : Int) (fr : List UInt8) (a b i : Nat) : layN f first fr a b (first + i) = if a ≤ i ∧ i < b then secOf fr i else f (first + i) := by
  unfold layN
  by_cases h : a ≤ i ∧ i < b
  · rw [if_pos h, if_pos (by omega)]; congr 1; omega
  · rw [if_neg h, if_neg (by omega)]
theorem appl_lay (f : Int → List UInt8) (first : Int) (fr : List UInt8) (safe : Int) (a b : Nat) : appl f (layW first fr safe a b) = layN f first fr a b := by
  by_cases h : b ≤ a
  · rw [layW_nil _ _ _ _ _ h, layN_nil _ _ _ _ _ h]; rfl
  · obtain ⟨d, rfl⟩ : ∃ d, b = a + d := ⟨b - a, by omega⟩
    clear h
    induction d with
    | zero => rw [layW_nil _ _ _ _ _ (by omega), layN_nil _ _ _ _ _ (by omega)]; rfl
    | succ d ih =>
      rw [← Nat.add_assoc, layW_succ _ _ _ _ _ (by omega), appl_app, ih, appl_one, layN_succ _ _ _ _ _ (by omega)]
theorem mem_layW {first : Int} {fr : List UInt8} {safe : Int} {a b : Nat} {x : W3} (h : x ∈ layW first fr safe a b) : ∃ i, a ≤ i ∧ i < b ∧ x = ⟨first + (i : Nat), secOf fr i, safe⟩ := by
  unfold layW at h
  obtain ⟨i, hi, rfl⟩ := List.mem_map.1 h
  rw [List.mem_range'_1] at hi
  exact ⟨i, by omega, by omega, rfl⟩

/-- A disk whose sectors are what the writes have left. -/
def DS.sound (D : DS) : Prop := D.now = appl D.first D.ws
/-- All writes are safe. -/
def DS.still (D : DS) : Prop := D.sound ∧ D.safe = D.ws.length
def DS.sync (D : DS) : DS := { D with safe := D.ws.length }
def DS.lay (D : DS) (first : Int) (fr : List UInt8) (a b : Nat) : DS := { D with now := layN D.now first fr a b, ws := D.ws ++ layW first fr D.safe a b, safe := D.ws.length + (b - a) }
theorem DS.sound.sync {D : DS} (h : D.sound) : D.sync.still := ⟨h, rfl⟩
theorem DS.still.sync {D : DS} (h : D.still) : D.sync = D := by
  unfold DS.sync; rw [← h.2]
theorem DS.sound.lay {D : DS} (h : D.sound) (first : Int) (fr : List UInt8) (a b : Nat) : (D.lay first fr a b).still := by
  refine ⟨?_, ?_⟩
  · unfold DS.sound at *
    show layN D.now first fr a b = appl D.first (D.ws ++ layW first fr D.safe a b)
    rw [appl_app, ← h, appl_lay]
  · show D.ws.length + (b - a) = (D.ws ++ layW first fr D.safe a b).length
    rw [List.length_append, layW_len]
theorem DS.still.cut {D : DS} (h : D.still) (ks : List Bool) : cutF ks D.safe D.first D.ws = D.now := by
  rw [cutF_safe _ _ _ _ (by rw [h.2]; exact Nat.le_refl _), ← h.1]
theorem DS.left_still {D : DS} (m s : Nat) (ks : List Bool) : (D.left m s ks).still := ⟨rfl, rfl⟩
/-- A loss of power within writes none of which is safe: each sector is what it was, or what one of them wrote. -/
theorem crash {D E : DS} (h : D.still) (W R : List W3) (hf : E.first = D.first) (hw : E.ws = D.ws ++ (W ++ R)) (hs : ∀ x ∈ W, x.safe = (D.safe : Nat)) (k : Nat) (h1 : D.ws.length < k) (h2 : k ≤ D.ws.length + W.length) (ks : List Bool) (p : Int) :
    (E.left k (E.safeAt k) ks).now p = D.now p ∨ ∃ x ∈ W.take (k - D.ws.length), x.place = p ∧ (E.left k (E.safeAt k) ks).now p = x.sec := by
  have e1 : E.safeAt k = D.ws.length := by
    unfold DS.safeAt
    rw [dif_pos ⟨by omega, by rw [hw]; simp; omega⟩]
    have : E.ws[k - 1]'(by rw [hw]; simp; omega) = W[k - 1 - D.ws.length]'(by omega) := by
      simp only [hw]
      rw [List.getElem_append_right (by omega), List.getElem_append_left (by omega)]
    rw [this, hs _ (List.getElem_mem _), h.2]; simp
  have e2 : E.ws.take k = D.ws ++ W.take (k - D.ws.length) := by
    rw [hw, List.take_append, List.take_append, List.take_of_length_le (by omega)]
    simp
    rw [show k - D.ws.length - W.length = 0 by omega]; simp
  show cutF ks (E.safeAt k) E.first (E.ws.take k) p = D.now p ∨ ∃ x ∈ W.take (k - D.ws.length), x.place = p ∧ cutF ks (E.safeAt k) E.first (E.ws.take k) p = x.sec
  rw [e1, e2, hf, h.1]
  exact cutF_either ks D.first D.ws (W.take (k - D.ws.length)) p
theorem left_len {D : DS} {m s : Nat} {ks : List Bool} (hf : ∀ i, (D.first i).length = 128) (hw : ∀ x ∈ D.ws, x.sec.length = 128) : ∀ i, ((D.left m s ks).now i).length = 128 := by
  intro i
  show (cutF ks s D.first (D.ws.take m) i).length = 128
  suffices H : ∀ k, k ≤ (D.ws.take m).length → ∀ i, (cutF ks s D.first ((D.ws.take m).take k) i).length = 128 by
    have := H _ (Nat.le_refl _) i
    rwa [List.take_length] at this
  intro k
  induction k with
  | zero => intro _ i; simpa [cutF] using hf i
  | succ k ih =>
    intro hk i
    rw [List.take_succ_eq_append_getElem (by omega), cutF_one]
    split
    · unfold upd; split
      · exact hw _ (List.mem_of_mem_take (List.getElem_mem _))
      · exact ih (by omega) i
    · exact ih (by omega) i

/-- What opening and formatting do: all behind the frames becomes noughts, the place where they end first. -/
def DS.settle (D : DS) (first : Int) (n : Nat) (fr : List UInt8) : DS := ((D.sync.lay first fr (fr.length / 128) (min (fr.length / 128 + 1) n)).lay first fr (min (fr.length / 128 + 1) n) n)
theorem DS.settle_now (D : DS) (first : Int) (n : Nat) (fr : List UInt8) (hle : fr.length ≤ 128 * n) (h : ∀ i, i < fr.length / 128 → D.now (first + i) = secOf fr i) : Clean (D.settle first n fr).now first n fr := by
  intro i hi
  show layN (layN D.now first fr _ _) first fr _ _ (first + i) = _
  rw [layN_at, layN_at]
  by_cases h1 : min (fr.length / 128 + 1) n ≤ i ∧ i < n
  · rw [if_pos h1]
  · rw [if_neg h1]
    by_cases h2 : fr.length / 128 ≤ i ∧ i < min (fr.length / 128 + 1) n
    · rw [if_pos h2]
    · rw [if_neg h2]
      exact h i (by omega)
theorem DS.settle_clean (D : DS) (hg : ∀ i, (D.now i).length = 128) (first : Int) (n : Nat) (l : List (List UInt8)) (h : Parses (reg D.now first n) l) : Clean (D.settle first n (frames l)).now first n (frames l) := by
  obtain ⟨h1, h2⟩ := h.bytes hg
  refine D.settle_now first n (frames l) h1 fun i hi => sec_ext (hg _) fun t ht => ?_
  exact h2 i (by unfold sizeL at h1; omega) t ht (by unfold sizeL; omega)
theorem DS.sound.settle {D : DS} (h : D.sound) (first : Int) (n : Nat) (fr : List UInt8) : (D.settle first n fr).still := ((h.sync.1.lay _ _ _ _).1.lay _ _ _ _)
theorem DS.settle_first (D : DS) (first : Int) (n : Nat) (fr : List UInt8) : (D.settle first n fr).first = D.first ∧ (D.settle first n fr).size = D.size := ⟨rfl, rfl⟩
theorem DS.settle_len (D : DS) (first : Int) (n : Nat) (fr : List UInt8) (hle : fr.length ≤ 128 * n) : (D.settle first n fr).ws.length = D.ws.length + (n - fr.length / 128) := by
  show ((D.ws ++ layW _ _ _ _ _) ++ layW _ _ _ _ _).length = _
  rw [List.length_append, List.length_append, layW_len, layW_len]; omega
/-- The crash lemma at the two layings. -/
theorem settle_crash (D : DS) (h : D.still) (first : Int) (n : Nat) (fr : List UInt8) (hle : fr.length ≤ 128 * n) (k : Nat) (h1 : D.ws.length < k) (h2 : k ≤ (D.settle first n fr).ws.length) (ks : List Bool) :
    let G := ((D.settle first n fr).left k ((D.settle first n fr).safeAt k) ks).now
    fr.length / 128 < n ∧ (∀ i : Nat, i ≠ fr.length / 128 → G (first + i) = D.now (first + i) ∨ fr.length / 128 < i ∧ G (first + i) = secOf fr i) ∧ (G (first + (fr.length / 128 : Nat)) = secOf fr (fr.length / 128) ∨ (∀ p, G p = D.now p)) := by
  rw [DS.settle_len _ _ _ _ hle] at h2
  have he : fr.length / 128 < n := by omega
  have hm : min (fr.length / 128 + 1) n = fr.length / 128 + 1 := by omega
  have hD2 : (D.sync.lay first fr (fr.length / 128) (fr.length / 128 + 1)).still := h.1.sync.1.lay _ _ _ _
  intro G
  refine ⟨he, ?_⟩
  by_cases hk : k = D.ws.length + 1
  · have key : ∀ p, G p = D.now p ∨ ∃ x ∈ (layW first fr D.ws.length (fr.length / 128) (fr.length / 128 + 1)).take (k - D.ws.length), x.place = p ∧ G p = x.sec := by
      intro p
      refine crash (D := D) (E := D.settle first n fr) h (layW first fr D.ws.length (fr.length / 128) (fr.length / 128 + 1)) (layW first fr (D.ws.length + (fr.length / 128 + 1 - fr.length / 128) : Nat) (fr.length / 128 + 1) n) rfl ?_ ?_ k (by omega) (by rw [layW_len]; omega) ks p
      · show (D.ws ++ layW _ _ _ _ _) ++ layW _ _ _ _ _ = _
        rw [List.append_assoc, hm]; rfl
      · intro x hx
        obtain ⟨i, _, _, rfl⟩ := mem_layW hx
        show ((D.ws.length : Nat) : Int) = D.safe
        rw [h.2]
    have one : ∀ p, G p = D.now p ∨ p = first + (fr.length / 128 : Nat) ∧ G p = secOf fr (fr.length / 128) := by
      intro p
      rcases key p with h | ⟨x, hx, hp, hs⟩
      · exact Or.inl h
      · obtain ⟨i, ha, hb, rfl⟩ := mem_layW (List.mem_of_mem_take hx)
        obtain rfl : i = fr.length / 128 := by omega
        exact Or.inr ⟨hp.symm, hs⟩
    refine ⟨fun i hi => ?_, ?_⟩
    · rcases one (first + i) with h | ⟨h, _⟩
      · exact Or.inl h
      · omega
    · rcases one (first + (fr.length / 128 : Nat)) with h | ⟨_, h⟩
      · right
        intro p
        rcases one p with hp | ⟨hp, hp2⟩
        · exact hp
        · rw [hp]; exact h
      · exact Or.inl h
  · have key : ∀ p, G p = (D.sync.lay first fr (fr.length / 128) (fr.length / 128 + 1)).now p ∨ ∃ x ∈ (layW first fr (D.ws.length + (fr.length / 128 + 1 - fr.length / 128) : Nat) (fr.length / 128 + 1) n).take (k - (D.sync.lay first fr (fr.length / 128) (fr.length / 128 + 1)).ws.length), x.place = p ∧ G p = x.sec := by
      have hl : (D.sync.lay first fr (fr.length / 128) (fr.length / 128 + 1)).ws.length = D.ws.length + 1 := by
        show (D.ws ++ layW _ _ _ _ _).length = _
        rw [List.length_append, layW_len]; omega
      intro p
      refine crash (E := D.settle first n fr) hD2 (layW first fr (D.ws.length + (fr.length / 128 + 1 - fr.length / 128) : Nat) (fr.length / 128 + 1) n) [] rfl ?_ ?_ k (by omega) (by rw [layW_len, hl]; omega) ks p
      · show (D.ws ++ layW _ _ _ _ _) ++ layW _ _ _ _ _ = (D.ws ++ layW _ _ _ _ _) ++ (layW _ _ _ _ _ ++ [])
        rw [List.append_nil, hm]; rfl
      · intro x hx
        obtain ⟨i, _, _, rfl⟩ := mem_layW hx
        rfl
    have hnow : ∀ i : Nat, (D.sync.lay first fr (fr.length / 128) (fr.length / 128 + 1)).now (first + i) = if i = fr.length / 128 then secOf fr i else D.now (first + i) := by
      intro i
      show layN D.now first fr _ _ (first + i) = _
      rw [layN_at]
      by_cases hi : i = fr.length / 128
      · rw [if_pos (by omega), if_pos hi]
      · rw [if_neg (by omega), if_neg hi]
    refine ⟨fun i hi => ?_, Or.inl ?_⟩
    · rcases key (first + i) with h | ⟨x, hx, hp, hs⟩
      · rw [hnow, if_neg hi] at h; exact Or.inl h
      · obtain ⟨j, ha, hb, rfl⟩ := mem_layW (List.mem_of_mem_take hx)
        have hp' : first + (j : Int) = first + i := hp
        obtain rfl : j = i := by omega
        exact Or.inr ⟨by omega, hs⟩
    · rcases key (first + (fr.length / 128 : Nat)) with h | ⟨x, hx, hp, hs⟩
      · rw [hnow, if_pos rfl] at h; exact h
      · obtain ⟨j, ha, hb, rfl⟩ := mem_layW (List.mem_of_mem_take hx)
        have hp' : first + (j : Int) = first + (fr.length / 128 : Nat) := hp
        omega
/-- Opening loses nothing. -/
theorem open_crash (D : DS) (h : D.still) (hg : ∀ i, (D.now i).length = 128) (first : Int) (n : Nat) (l : List (List UInt8)) (hp : Parses (reg D.now first n) l) (k : Nat) (h1 : D.ws.length < k) (h2 : k ≤ (D.settle first n (frames l)).ws.length) (ks : List Bool) (hG : ∀ i, (((D.settle first n (frames l)).left k ((D.settle first n (frames l)).safeAt k) ks).now i).length = 128) :
    Parses (reg ((D.settle first n (frames l)).left k ((D.settle first n (frames l)).safeAt k) ks).now first n) l := by
  obtain ⟨hle, hby⟩ := hp.bytes hg
  have hmod := frames_mod l
  obtain ⟨he, hc1, hc2⟩ := settle_crash D h first n (frames l) hle k h1 h2 ks
  rcases hc2 with hc2 | hc2
  · refine parses_of_reads hG hp.oks hle fun i hi t ht hlt => ?_
    have hs : sizeL l = (frames l).length := rfl
    by_cases h3 : i = (frames l).length / 128
    · rw [h3, hc2, getD_sec _ _ _ ht]
    · rcases hc1 i h3 with h4 | ⟨h4, h5⟩
      · rw [h4]
        by_cases h6 : 128 * i + t < sizeL l
        · exact hby i hi t ht h6
        · omega
      · rw [h5, getD_sec _ _ _ ht]
  · have : ((D.settle first n (frames l)).left k ((D.settle first n (frames l)).safeAt k) ks).now = D.now := funext hc2
    rw [this]; exact hp
/-- Formatting leaves what was there, or nothing. -/
theorem format_crash (D : DS) (h : D.still) (hg : ∀ i, (D.now i).length = 128) (first : Int) (n : Nat) (l : List (List UInt8)) (hp : Parses (reg D.now first n) l) (k : Nat) (h1 : D.ws.length < k) (h2 : k ≤ (D.settle first n []).ws.length) (ks : List Bool) (hG : ∀ i, (((D.settle first n []).left k ((D.settle first n []).safeAt k) ks).now i).length = 128) :
    Parses (reg ((D.settle first n []).left k ((D.settle first n []).safeAt k) ks).now first n) l ∨ Parses (reg ((D.settle first n []).left k ((D.settle first n []).safeAt k) ks).now first n) [] := by
  obtain ⟨he, hc1, hc2⟩ := settle_crash D h first n [] (by simp) k h1 h2 ks
  rcases hc2 with hc2 | hc2
  · right
    refine parses_of_reads hG (by simp) (by simp [sizeL, frames]) fun i hi t ht hlt => ?_
    have : i = 0 := by simp [sizeL, frames] at hlt; omega
    subst this
    have hc3 : ((D.settle first n []).left k ((D.settle first n []).safeAt k) ks).now (first + (0 : Nat)) = secOf [] 0 := hc2
    rw [hc3, getD_sec _ _ _ ht]; rfl
  · left
    have : ((D.settle first n []).left k ((D.settle first n []).safeAt k) ks).now = D.now := funext hc2
    rw [this]; exact hp

/-- A text with eight noughts at a place. -/
def blank (fr : List UInt8) (a : Nat) : List UInt8 := fr.take a ++ (List.replicate 8 0 ++ fr.drop (a + 8))
theorem blank_len {fr : List UInt8} {a : Nat} (h : a + 8 ≤ fr.length) : (blank fr a).length = fr.length := by simp [blank]; omega
theorem blank_getD {fr : List UInt8} {a : Nat} (h : a + 8 ≤ fr.length) (j : Nat) : (blank fr a).getD j 0 = if a ≤ j ∧ j < a + 8 then 0 else fr.getD j 0 := by
  unfold blank
  simp only [List.getD_eq_getElem?_getD]
  by_cases h1 : j < a
  · rw [if_neg (by omega), List.getElem?_append_left (by simp; omega), List.getElem?_take, if_pos h1]
  · rw [List.getElem?_append_right (by simp; omega), List.length_take, Nat.min_eq_left (by omega)]
    by_cases h2 : j < a + 8
    · rw [if_pos (by omega), List.getElem?_append_left (by simp; omega), List.getElem?_replicate]
      split <;> rfl
    · rw [if_neg (by omega), List.getElem?_append_right (by simp; omega), List.length_replicate, List.getElem?_drop]
      congr 2; omega
/-- What a flush does. -/
def cnt128 (n : Nat) : Nat := (n + 127) / 128
def DS.flush (D : DS) (first : Int) (a : Nat) (fr : List UInt8) : DS := (D.lay first (blank fr a) (a / 128) (cnt128 fr.length)).lay first fr (a / 128) (a / 128 + 1)
theorem DS.sound.flush {D : DS} (h : D.sound) (first : Int) (a : Nat) (fr : List UInt8) : (D.flush first a fr).still := (h.lay _ _ _ _).1.lay _ _ _ _
theorem DS.flush_len (D : DS) (first : Int) (a : Nat) (fr : List UInt8) : (D.flush first a fr).ws.length = D.ws.length + (cnt128 fr.length - a / 128) + 1 := by
  show ((D.ws ++ layW _ _ _ _ _) ++ layW _ _ _ _ _).length = _
  rw [List.length_append, List.length_append, layW_len, layW_len]; omega
theorem flush_now {D : DS} {first : Int} {n : Nat} {fr1 fr : List UInt8} (hc : Clean D.now first n fr1) (hpre : ∀ j, j < fr1.length → fr.getD j 0 = fr1.getD j 0) (ha : fr1.length % 8 = 0) (hm : fr1.length + 8 ≤ fr.length) (hle : fr.length ≤ 128 * n) : Clean (D.flush first fr1.length fr).now first n fr := by
  have z1 : ∀ j, fr1.length ≤ j → fr1.getD j 0 = 0 := fun j hj => by rw [List.getD_eq_getElem?_getD, List.getElem?_eq_none hj]; rfl
  have z2 : ∀ j, fr.length ≤ j → fr.getD j 0 = 0 := fun j hj => by rw [List.getD_eq_getElem?_getD, List.getElem?_eq_none hj]; rfl
  intro i hi
  show layN (layN D.now first (blank fr fr1.length) _ _) first fr _ _ (first + i) = _
  rw [layN_at, layN_at]
  by_cases h1 : fr1.length / 128 ≤ i ∧ i < fr1.length / 128 + 1
  · rw [if_pos h1]
  · rw [if_neg h1]
    by_cases h2 : fr1.length / 128 ≤ i ∧ i < cnt128 fr.length
    · rw [if_pos h2]
      refine secOf_congr fun t ht => ?_
      rw [blank_getD hm, if_neg (by omega)]
    · rw [if_neg h2, hc i hi]
      refine secOf_congr fun t ht => ?_
      unfold cnt128 at h2
      by_cases h3 : 128 * i + t < fr1.length
      · rw [hpre _ h3]
      · rw [z1 _ (by omega), z2 _ (by omega)]
theorem getD_app (a b : List UInt8) (j : Nat) (h : j < a.length) : (a ++ b).getD j 0 = a.getD j 0 := by
  simp only [List.getD_eq_getElem?_getD]; rw [List.getElem?_append_left h]
/-- All or nothing. -/
theorem flush_crash (D : DS) (h : D.still) (first : Int) (n : Nat) (l m : List (List UInt8)) (hc : Clean D.now first n (frames l)) (hl : ∀ r ∈ l ++ m, OkR r) (hm : 0 < m.length) (hle : sizeL (l ++ m) ≤ 128 * n) (k : Nat) (h1 : D.ws.length < k) (h2 : k ≤ (D.flush first (sizeL l) (frames (l ++ m))).ws.length) (ks : List Bool)
    (hG : ∀ i, (((D.flush first (sizeL l) (frames (l ++ m))).left k ((D.flush first (sizeL l) (frames (l ++ m))).safeAt k) ks).now i).length = 128) :
    Parses (reg ((D.flush first (sizeL l) (frames (l ++ m))).left k ((D.flush first (sizeL l) (frames (l ++ m))).safeAt k) ks).now first n) l ∨ Parses (reg ((D.flush first (sizeL l) (frames (l ++ m))).left k ((D.flush first (sizeL l) (frames (l ++ m))).safeAt k) ks).now first n) (l ++ m) := by
  rw [DS.flush_len] at h2
  have hmod := frames_mod l
  have hfl : (frames (l ++ m)).length = sizeL l + sizeL m := by rw [frames_app, List.length_append]; rfl
  have hm16 := sizeL_len m (fun r hr => hl r (by simp [hr]))
  have hs : sizeL l = (frames l).length := rfl
  have hs2 : sizeL (l ++ m) = sizeL l + sizeL m := hfl
  have h8 : sizeL l + 8 ≤ (frames (l ++ m)).length := by omega
  have hpre : ∀ j, j < (frames l).length → (frames (l ++ m)).getD j 0 = (frames l).getD j 0 := fun j hj => by rw [frames_app, getD_app _ _ _ hj]
  have z1 : ∀ j, (frames l).length ≤ j → (frames l).getD j 0 = 0 := fun j hj => by rw [List.getD_eq_getElem?_getD, List.getElem?_eq_none hj]; rfl
  have low : ∀ j, j < sizeL l + 8 → (blank (frames (l ++ m)) (sizeL l)).getD j 0 = (frames l).getD j 0 := by
    intro j hj
    rw [blank_getD h8]
    by_cases h3 : sizeL l ≤ j ∧ j < sizeL l + 8
    · rw [if_pos h3, z1 _ (by omega)]
    · rw [if_neg h3, hpre _ (by omega)]
  have hcnt : (cnt128 (frames (l ++ m)).length - sizeL l / 128) + sizeL l / 128 = cnt128 (frames (l ++ m)).length ∧ sizeL l / 128 < cnt128 (frames (l ++ m)).length ∧ cnt128 (frames (l ++ m)).length ≤ n := by unfold cnt128; omega
  have hD2 : (D.lay first (blank (frames (l ++ m)) (sizeL l)) (sizeL l / 128) (cnt128 (frames (l ++ m)).length)).still := h.1.lay _ _ _ _
  have hD2l : (D.lay first (blank (frames (l ++ m)) (sizeL l)) (sizeL l / 128) (cnt128 (frames (l ++ m)).length)).ws.length = D.ws.length + (cnt128 (frames (l ++ m)).length - sizeL l / 128) := by
    show (D.ws ++ layW _ _ _ _ _).length = _
    rw [List.length_append, layW_len]
  by_cases hk : k ≤ D.ws.length + (cnt128 (frames (l ++ m)).length - sizeL l / 128)
  · left
    refine parses_of_reads hG (fun r hr => hl r (by simp [hr])) (by omega) fun i hi t ht hlt => ?_
    have key := crash (D := D) (E := D.flush first (sizeL l) (frames (l ++ m))) h (layW first (blank (frames (l ++ m)) (sizeL l)) D.safe (sizeL l / 128) (cnt128 (frames (l ++ m)).length)) (layW first (frames (l ++ m)) (D.ws.length + (cnt128 (frames (l ++ m)).length - sizeL l / 128) : Nat) (sizeL l / 128) (sizeL l / 128 + 1)) rfl (by
        show (D.ws ++ layW _ _ _ _ _) ++ layW _ _ _ _ _ = _
        rw [List.append_assoc]; rfl) (fun x hx => by obtain ⟨i, _, _, rfl⟩ := mem_layW hx; rfl) k (by omega) (by rw [layW_len]; omega) ks (first + i)
    rcases key with key | ⟨x, hx, hp, hv⟩
    · rw [key, hc i hi, getD_sec _ _ _ ht]
    · obtain ⟨j, ha, hb, rfl⟩ := mem_layW (List.mem_of_mem_take hx)
      have hp' : first + (j : Int) = first + i := hp
      obtain rfl : j = i := by omega
      rw [hv]
      show (secOf _ j).getD t 0 = _
      rw [getD_sec _ _ _ ht, low _ hlt]
  · have key := fun p => crash (E := D.flush first (sizeL l) (frames (l ++ m))) hD2 (layW first (frames (l ++ m)) (D.ws.length + (cnt128 (frames (l ++ m)).length - sizeL l / 128) : Nat) (sizeL l / 128) (sizeL l / 128 + 1)) [] rfl (by
        show (D.ws ++ layW _ _ _ _ _) ++ layW _ _ _ _ _ = (D.ws ++ layW _ _ _ _ _) ++ (layW _ _ _ _ _ ++ [])
        rw [List.append_nil]; rfl) (fun x hx => by obtain ⟨i, _, _, rfl⟩ := mem_layW hx; rfl) k (by rw [hD2l]; omega) (by rw [layW_len, hD2l]; omega) ks p
    have hnow : ∀ i : Nat, (D.lay first (blank (frames (l ++ m)) (sizeL l)) (sizeL l / 128) (cnt128 (frames (l ++ m)).length)).now (first + i) = if sizeL l / 128 ≤ i ∧ i < cnt128 (frames (l ++ m)).length then secOf (blank (frames (l ++ m)) (sizeL l)) i else D.now (first + i) := fun i => layN_at _ _ _ _ _ _
    by_cases hlead : ((D.flush first (sizeL l) (frames (l ++ m))).left k ((D.flush first (sizeL l) (frames (l ++ m))).safeAt k) ks).now (first + (sizeL l / 128 : Nat)) = (D.lay first (blank (frames (l ++ m)) (sizeL l)) (sizeL l / 128) (cnt128 (frames (l ++ m)).length)).now (first + (sizeL l / 128 : Nat))
    · left
      refine parses_of_reads hG (fun r hr => hl r (by simp [hr])) (by omega) fun i hi t ht hlt => ?_
      have hi2 : ((D.flush first (sizeL l) (frames (l ++ m))).left k ((D.flush first (sizeL l) (frames (l ++ m))).safeAt k) ks).now (first + i) = (D.lay first (blank (frames (l ++ m)) (sizeL l)) (sizeL l / 128) (cnt128 (frames (l ++ m)).length)).now (first + i) := by
        rcases key (first + i) with key | ⟨x, hx, hp, hv⟩
        · exact key
        · obtain ⟨j, ha, hb, rfl⟩ := mem_layW (List.mem_of_mem_take hx)
          have hp' : first + (j : Int) = first + i := hp
          obtain rfl : j = i := by omega
          obtain rfl : j = sizeL l / 128 := by omega
          exact hlead
      rw [hi2, hnow]
      split
      · rw [getD_sec _ _ _ ht, low _ hlt]
      · rw [hc i hi, getD_sec _ _ _ ht]
    · right
      have hv : ((D.flush first (sizeL l) (frames (l ++ m))).left k ((D.flush first (sizeL l) (frames (l ++ m))).safeAt k) ks).now (first + (sizeL l / 128 : Nat)) = secOf (frames (l ++ m)) (sizeL l / 128) := by
        rcases key (first + (sizeL l / 128 : Nat)) with key | ⟨x, hx, hp, hv⟩
        · exact absurd key hlead
        · obtain ⟨j, ha, hb, rfl⟩ := mem_layW (List.mem_of_mem_take hx)
          obtain rfl : j = sizeL l / 128 := by omega
          exact hv
      have hcl : Clean ((D.flush first (sizeL l) (frames (l ++ m))).left k ((D.flush first (sizeL l) (frames (l ++ m))).safeAt k) ks).now first n (frames (l ++ m)) := by
        intro i hi
        by_cases hi0 : i = sizeL l / 128
        · rw [hi0]; exact hv
        · have full := flush_now (first := first) hc hpre hmod h8 hle i hi
          rcases key (first + i) with key | ⟨x, hx, hp, hv2⟩
          · rw [key, ← full]
            show _ = layN (D.lay first (blank (frames (l ++ m)) (sizeL l)) (sizeL l / 128) (cnt128 (frames (l ++ m)).length)).now first _ _ _ (first + i)
            rw [layN_at, if_neg (by omega)]
          · obtain ⟨j, ha, hb, rfl⟩ := mem_layW (List.mem_of_mem_take hx)
            have hp' : first + (j : Int) = first + i := hp
            omega
      exact hcl.parses hG hl hle
end Go.Proofs.Ytcjoolmlobjpbaa

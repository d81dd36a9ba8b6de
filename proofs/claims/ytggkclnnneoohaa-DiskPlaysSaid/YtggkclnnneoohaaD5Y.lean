/- The two disks as one: what the document's lists say of the program's rows. Pure. -/
import Derived.Test.YtggkclnnneoohaaD5X
namespace Go.Proofs.Ytggkclnnneoohaa
open Go.RowKit Go.Maps
set_option linter.unusedVariables false
set_option linter.unusedSimpArgs false

/-- What the document's entries come tt: the writes, each with the number of writes that were safe ahead of it; and how many are safe. -/
def stStep (st : List W3 × Nat) (e : EV) : List W3 × Nat := if e.sync then (st.1, st.1.length) else (st.1 ++ [⟨e.i, e.s, (st.2 : Int)⟩], st.2)
def stE (l : List EV) : List W3 × Nat := l.foldl stStep ([], 0)
theorem stE_snoc (l : List EV) (e : EV) : stE (l ++ [e]) = stStep (stE l) e := by unfold stE; rw [List.foldl_append]; rfl
theorem stE_succ (l : List EV) (k : Nat) (h : k < l.length) : stE (l.take (k + 1)) = stStep (stE (l.take k)) l[k] := by rw [List.take_succ_eq_append_getElem h, stE_snoc]
theorem stE_len (l : List EV) : ∀ k, k ≤ l.length → (stE (l.take k)).1.length = cntE (l.take k)
  | 0, _ => by simp [stE, cntE]
  | k + 1, h => by
    rw [stE_succ l k (by omega), cntE_succ l k (by omega)]
    have := stE_len l k (by omega)
    unfold stStep
    cases h2 : l[k].sync <;> simp [h2, this]
theorem stE_len' (l : List EV) : (stE l).1.length = cntE l := by have := stE_len l l.length (Nat.le_refl _); rwa [List.take_length] at this
theorem cntE_mono (l : List EV) (a : Nat) : ∀ b, a ≤ b → b ≤ l.length → cntE (l.take a) ≤ cntE (l.take b)
  | 0, h, _ => by obtain rfl : a = 0 := by omega
                  exact Nat.le_refl _
  | b + 1, h, hb => by
    by_cases h1 : a = b + 1
    · rw [h1]; exact Nat.le_refl _
    · have := cntE_mono l a b (by omega) (by omega)
      have hs := cntE_succ l b (by omega)
      omega
/-- So many are safe as there are writes ahead of the last Sync. -/
theorem stE_safe (l : List EV) : ∀ k, k ≤ l.length → (stE (l.take k)).2 = cntE ((l.take k).take (lastS (l.take k)))
  | 0, _ => by simp [stE, cntE]
  | k + 1, h => by
    have hk : k < l.length := by omega
    have ih := stE_safe l k (by omega)
    have hle := lastS_le l k (by omega)
    rw [stE_succ l k hk, lastS_succ l k hk]
    unfold stStep
    cases h2 : l[k].sync
    · simp only [Bool.false_eq_true, if_false]
      rw [ih, List.take_take, List.take_take]
      congr 2
      omega
    · simp only [if_true]
      rw [stE_len l k (by omega), List.take_take]
      congr 2
      omega
theorem stE_safe' (l : List EV) : (stE l).2 = cntE (l.take (lastS l)) := by have := stE_safe l l.length (Nat.le_refl _); rwa [List.take_length] at this
theorem lastS_le' (l : List EV) : lastS l ≤ l.length := by have := lastS_le l l.length (Nat.le_refl _); rwa [List.take_length] at this
theorem cntE_split (l : List EV) (k : Nat) : cntE l = cntE (l.take k) + cntE (l.drop k) := by
  conv => lhs; rw [← List.take_append_drop k l]
  unfold cntE
  rw [List.filter_append, List.length_append]
/-- Pending, said by both. -/
theorem pending_eq (l : List EV) : ((stE l).1.length : Int) - (stE l).2 = (cntE (l.drop (lastS l)) : Nat) := by
  rw [stE_len', stE_safe', cntE_split l (lastS l)]; omega
theorem rdF_snoc (A : List EV) (x : EV) (i : Int) (s : List UInt8) : rdF (A ++ [x]) i s = if x.i = i then full x.s else rdF A i s := by unfold rdF; rw [List.foldl_append]; rfl
theorem rdL_snoc (A : List EV) (x : EV) (i : Int) (s : List UInt8) : rdL (A ++ [x]) i s = if x.i = i ∧ x.sync = false then full x.s else rdL A i s := by unfold rdL; rw [List.foldl_append]; rfl
/-- What 'left' leaves is what a cut leaves: where the walk stands. -/
structure CutEq (ks : List Bool) (l F : List EV) (k : Nat) : Prop where
  cnt : (leftE ks (lastS l) (l.take k) F).2 = cntE (l.take k) - (stE l).2
  rd : ∀ i, rdF (leftE ks (lastS l) (l.take k) F).1 i zsec = cutF ks (stE l).2 (fun i => rdF F i zsec) (stE (l.take k)).1 i
theorem cutF_app (ks : List Bool) (safe : Nat) (f : Int → List UInt8) (ws : List W3) (x : W3) : cutF ks safe f (ws ++ [x]) = if leftB ks safe ws.length then upd (cutF ks safe f ws) x.place x.sec else cutF ks safe f ws := by
  unfold cutF
  rw [List.zipIdx_append, List.foldl_append]
  simp
theorem cutEq (ks : List Bool) (l F : List EV) (hl : ∀ e ∈ l, e.sync = false → e.s.length = 128) : ∀ k, k ≤ l.length → CutEq ks l F k
  | 0, _ => ⟨by simp [leftE, cntE], fun i => by simp [leftE, stE, cutF]⟩
  | k + 1, h => by
    have hk : k < l.length := by omega
    obtain ⟨ih1, ih2⟩ := cutEq ks l F hl k (by omega)
    have hlen := stE_len l k (by omega)
    have hls := leftE_succ ks (lastS l) l F k hk
    have hss := stE_succ l k hk
    have hcs := cntE_succ l k hk
    have hS := lastS_le' l
    have hsf := stE_safe' l
    have hm1 : k < lastS l → cntE (l.take (k + 1)) ≤ (stE l).2 := fun h1 => by rw [hsf]; exact cntE_mono l (k + 1) (lastS l) (by omega) hS
    have hm2 : lastS l ≤ k → (stE l).2 ≤ cntE (l.take k) := fun h1 => by rw [hsf]; exact cntE_mono l (lastS l) k h1 (by omega)
    have hx := hl l[k] (List.getElem_mem hk)
    cases h2 : l[k].sync
    · rw [h2] at hcs
      have e1 : leftE ks (lastS l) (l.take (k + 1)) F = (if leftB2 ks (lastS l) k (leftE ks (lastS l) (l.take k) F).2 then (leftE ks (lastS l) (l.take k) F).1 ++ [l[k]] else (leftE ks (lastS l) (l.take k) F).1, if lastS l ≤ k then (leftE ks (lastS l) (l.take k) F).2 + 1 else (leftE ks (lastS l) (l.take k) F).2) := by
        rw [hls]; simp only [leftStep, h2]; simp
      have e2 : (stE (l.take (k + 1))).1 = (stE (l.take k)).1 ++ [⟨l[k].i, l[k].s, ((stE (l.take k)).2 : Int)⟩] := by
        rw [hss]; simp only [stStep, h2]; simp
      have hB : leftB2 ks (lastS l) k (leftE ks (lastS l) (l.take k) F).2 = leftB ks (stE l).2 (stE (l.take k)).1.length := by
        unfold leftB2 leftB
        rw [ih1, hlen]
        congr 1
        by_cases h3 : k < lastS l
        · have := hm1 h3
          rw [decide_eq_true h3, decide_eq_true (by simp at hcs; omega)]
        · have := hm2 (by omega)
          rw [decide_eq_false h3, decide_eq_false (by omega)]
      refine ⟨?_, fun i => ?_⟩
      · rw [e1]
        simp only
        simp only [Bool.false_eq_true, if_false] at hcs
        split
        · rename_i h3
          have := hm2 h3
          rw [ih1]; omega
        · rename_i h3
          have := hm1 (by omega)
          rw [ih1]; omega
      · rw [e1, e2, cutF_app, hB]
        simp only
        split
        · rw [rdF_snoc, full_id (hx h2)]
          unfold upd
          by_cases h4 : l[k].i = i
          · rw [if_pos h4, if_pos h4.symm]
          · rw [if_neg h4, if_neg (fun e => h4 e.symm), ih2 i]
        · exact ih2 i
    · rw [h2] at hcs
      have e1 : leftE ks (lastS l) (l.take (k + 1)) F = leftE ks (lastS l) (l.take k) F := by rw [hls]; simp only [leftStep, h2]; simp
      have e2 : (stE (l.take (k + 1))).1 = (stE (l.take k)).1 := by rw [hss]; simp only [stStep, h2]; simp
      refine ⟨?_, fun i => ?_⟩
      · rw [e1, ih1, hcs]; simp
      · rw [e1, e2]; exact ih2 i
/-- The program's disk and the document's lists say the same. -/
structure Same5 (D : DS) (N : Int) (F L : List EV) : Prop where
  size : D.size = N
  first : D.first = fun i => rdF F i zsec
  now : ∀ i, D.now i = rdL L i (rdF F i zsec)
  ws : D.ws = (stE L).1
  safe : D.safe = (stE L).2
theorem Same5.new (N : Int) : Same5 ⟨N, fun _ => zsec, fun _ => zsec, [], 0⟩ N [] [] := ⟨rfl, rfl, fun _ => rfl, rfl, rfl⟩
theorem Same5.write {D : DS} {N : Int} {F L : List EV} (h : Same5 D N F L) (i : Int) (v : Value) (xs : List UInt8) : Same5 { D with now := upd D.now i (full xs), ws := D.ws ++ [⟨i, full xs, D.safe⟩] } N F (L ++ [⟨i, v, false, full xs⟩]) := by
  refine ⟨h.size, h.first, fun j => ?_, ?_, ?_⟩
  · rw [rdL_snoc]
    simp only [upd, full_id (full_len xs), and_true]
    by_cases h1 : j = i
    · rw [if_pos h1, if_pos h1.symm]
    · rw [if_neg h1, if_neg (fun e => h1 e.symm), h.now j]
  · rw [stE_snoc]; simp only [stStep]; simp [h.ws, h.safe]
  · rw [stE_snoc]; simp only [stStep]; simp [h.safe]
theorem Same5.sync {D : DS} {N : Int} {F L : List EV} (h : Same5 D N F L) : Same5 { D with safe := D.ws.length } N F (L ++ [syncE]) := by
  refine ⟨h.size, h.first, fun j => ?_, ?_, ?_⟩
  · rw [rdL_snoc, h.now j]; simp
  · rw [stE_snoc]; simp only [stStep]; simp [h.ws]
  · rw [stE_snoc]; simp only [stStep]; simp [h.ws]
/-- Behind a loss of power. -/
theorem Same5.cut {D : DS} {N : Int} {F L : List EV} (h : Same5 D N F L) (ks : List Bool) (l : List EV) (hl : ∀ e ∈ l, e.sync = false → e.s.length = 128) (m s : Nat) (hm : D.ws.take m = (stE l).1) (hs : s = (stE l).2) : Same5 (D.left m s ks) N (leftE ks (lastS l) l F).1 [] := by
  have hc := (cutEq ks l F hl l.length (Nat.le_refl _)).rd
  rw [List.take_length] at hc
  have hf : cutF ks s D.first (D.ws.take m) = fun i => rdF (leftE ks (lastS l) l F).1 i zsec := by
    funext i
    rw [hm, hs, h.first]; exact (hc i).symm
  exact ⟨h.size, hf, fun i => congrFun hf i, rfl, rfl⟩
theorem stE_prefix (l : List EV) : ∀ (k j : Nat), k ≤ j → j ≤ l.length → ∃ r, (stE (l.take j)).1 = (stE (l.take k)).1 ++ r
  | k, 0, h, _ => ⟨[], by obtain rfl : k = 0 := by omega
                          simp⟩
  | k, j + 1, h, hj => by
    by_cases h1 : k = j + 1
    · exact ⟨[], by rw [h1]; simp⟩
    · obtain ⟨r, hr⟩ := stE_prefix l k j (by omega) (by omega)
      rw [stE_succ l j (by omega)]
      unfold stStep
      split
      · exact ⟨r, hr⟩
      · exact ⟨r ++ [_], by simp only; rw [hr, List.append_assoc]⟩
/-- The entries up to the m-th write. -/
structure UpTo (L : List EV) (m tt : Nat) : Prop where
  le : tt ≤ L.length
  cnt : cntE (L.take tt) = m
  last : tt = 0 ∨ ∃ h : tt - 1 < L.length, L[tt - 1].sync = false
theorem Same5.upto {D : DS} {N : Int} {F L : List EV} (h : Same5 D N F L) {m tt : Nat} (hu : UpTo L m tt) : D.ws.take m = (stE (L.take tt)).1 ∧ D.safeAt m = (stE (L.take tt)).2 := by
  obtain ⟨r, hr⟩ := stE_prefix L tt L.length hu.le (Nat.le_refl _)
  rw [List.take_length] at hr
  have hl := stE_len L tt hu.le
  rw [hu.cnt] at hl
  have e1 : D.ws.take m = (stE (L.take tt)).1 := by
    rw [h.ws, hr, List.take_append_of_le_length (by omega), List.take_of_length_le (by omega)]
  refine ⟨e1, ?_⟩
  rcases hu.last with h0 | ⟨h1, h2⟩
  · have hm : m = 0 := by rw [← hu.cnt, h0]; simp [cntE]
    rw [h0, hm]; simp [DS.safeAt, stE]
  · by_cases ht : tt = 0
    · have hm : m = 0 := by rw [← hu.cnt, ht]; simp [cntE]
      rw [ht, hm]; simp [DS.safeAt, stE]
    · obtain ⟨t, rfl⟩ : ∃ t, tt = t + 1 := ⟨tt - 1, by omega⟩
      simp only [Nat.add_sub_cancel] at h1 h2
      have hs := stE_succ L t h1
      have hcs := cntE_succ L t h1
      have hl2 := stE_len L t (by omega)
      rw [hu.cnt, h2] at hcs
      simp only [Bool.false_eq_true, if_false] at hcs
      have e2 : stE (L.take (t + 1)) = ((stE (L.take t)).1 ++ [⟨L[t].i, L[t].s, ((stE (L.take t)).2 : Int)⟩], (stE (L.take t)).2) := by rw [hs]; simp only [stStep, h2]; simp
      have hmw : m ≤ D.ws.length := by rw [h.ws, hr, List.length_append]; omega
      unfold DS.safeAt
      rw [dif_pos ⟨by omega, hmw⟩]
      have e3 : D.ws[m - 1]'(by omega) = ⟨L[t].i, L[t].s, ((stE (L.take t)).2 : Int)⟩ := by
        have : D.ws[m - 1]? = some ⟨L[t].i, L[t].s, ((stE (L.take t)).2 : Int)⟩ := by
          have h5 : (D.ws.take m)[m - 1]? = D.ws[m - 1]? := by rw [List.getElem?_take]; simp; omega
          rw [← h5, e1, e2]
          simp only
          rw [List.getElem?_append_right (by omega), hl2]
          have : m - 1 - cntE (L.take t) = 0 := by omega
          rw [this]; rfl
        exact (List.getElem?_eq_some_iff.1 this).2
      rw [e3, e2]
      simp
end Go.Proofs.Ytggkclnnneoohaa

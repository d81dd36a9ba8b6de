/- What stands on the disk, and what Pin tells: kept by every call. -/
import Derived.Test.YtpmbpadckbkglaaP7W
namespace Go.Proofs.Ytpmbpadckbkglaa
open Go.RowKit Go.Maps
set_option linter.unusedVariables false
set_option linter.unusedSimpArgs false

theorem secs_all (bs : List UInt8) : ∀ k, (List.range k).flatMap (fun j => (bs.drop (128 * j)).take 128) = bs.take (128 * k)
  | 0 => by simp
  | k + 1 => by
    rw [List.range_succ, List.flatMap_append, secs_all bs k, Nat.mul_succ, List.take_add]
    simp
theorem getN_put_same {now : Int → List UInt8} {s : Int} {bs : List UInt8} (h : bs.length = 2048) : getN (putN now s bs 16) s 16 = bs := by
  have e : getN (putN now s bs 16) s 16 = (List.range 16).flatMap (fun j => (bs.drop (128 * j)).take 128) := by
    unfold getN
    rw [List.flatMap_def, List.flatMap_def]
    congr 1
    apply List.map_congr_left
    intro j hj
    have hj' : j < 16 := by simpa using hj
    unfold putN secP
    rw [if_pos (by omega)]
    congr 3
    omega
  rw [e, secs_all, List.take_of_length_le (by omega)]
theorem getN_put_other {now : Int → List UInt8} {s t : Int} {bs : List UInt8} (h : t + 16 ≤ s ∨ s + 16 ≤ t) : getN (putN now s bs 16) t 16 = getN now t 16 := by
  unfold getN
  rw [List.flatMap_def, List.flatMap_def]
  congr 1
  apply List.map_congr_left
  intro j hj
  have hj' : j < 16 := by simpa using hj
  unfold putN
  rw [if_neg (by omega)]
/-- What a page holds, in its frame or on the disk. -/
noncomputable def cur (P : PS) (D : DS) (j : Nat) : List UInt8 := if (j : Int) ∈ P.keys then (P.fr j).bytes else getN D.now (P.first + 16 * j) 16
/-- What stands on the disk was put with a mark that the log has reached, or is noughts. -/
def Stands (s : List UInt8) (j : Nat) (l : List OpP) (safe : Int) : Prop :=
  (s.getD 0 0 = 0 ∧ s.getD 1 0 = 0) ∨ ∃ o ∈ l, o.mark ≤ safe ∧ s.getD 0 0 = UInt8.ofNat ((j : Int) % 256).toNat ∧ s.getD 1 0 = o.by_
structure Inv (P : PS) (D : DS) (pl : Nat → List OpP) : Prop where
  a : ∀ j : Nat, (j : Int) ∈ P.keys → (P.fr j).dirty = true → ∃ o ∈ pl j, o.mark ≤ (P.fr j).mark ∧ (P.fr j).bytes = bodyL j o.by_ 2048
  c : ∀ j : Nat, (j : Int) ∈ P.keys → (P.fr j).dirty = false → (P.fr j).bytes = getN D.now (P.first + 16 * j) 16
  b : ∀ j : Nat, (j : Int) < P.pages → Stands (D.now (P.first + 16 * j)) j (pl j) P.safe
theorem cleaned_get {P : PS} (hok : POk P) {D : DS} (hc : ∀ j : Nat, (j : Int) ∈ P.keys → (P.fr j).dirty = false → (P.fr j).bytes = getN D.now (P.first + 16 * j) 16) {g : Int} (hg : g ∈ P.keys) (j : Nat) : getN (D.cleaned P g).now (P.first + 16 * j) 16 = if (j : Int) = g then (P.fr g).bytes else getN D.now (P.first + 16 * j) 16 := by
  have hlen := (hok.fr g hg).len
  unfold DS.cleaned
  cases hd : (P.fr g).dirty with
  | true =>
    simp only [if_true]
    show getN (putN D.now (P.first + 16 * g) (P.fr g).bytes 16) (P.first + 16 * j) 16 = _
    by_cases e : (j : Int) = g
    · rw [if_pos e, e]; exact getN_put_same hlen
    · rw [if_neg e]; exact getN_put_other (by omega)
  | false =>
    simp only [Bool.false_eq_true, if_false]
    by_cases e : (j : Int) = g
    · rw [if_pos e]
      have := hc j (e ▸ hg) (e ▸ hd)
      rw [← this, e]
    · rw [if_neg e]
theorem body_head (j : Nat) (c : UInt8) : (secP (bodyL j c 2048) 0).getD 0 0 = UInt8.ofNat ((j : Int) % 256).toNat ∧ (secP (bodyL j c 2048) 0).getD 1 0 = c := by
  have e : bodyL j c 2048 = UInt8.ofNat ((j : Int) % 256).toNat :: c :: List.replicate 2046 c := by
    unfold bodyL
    rw [if_neg (by decide)]
    show _ :: List.replicate (2046 + 1) c = _
    rw [List.replicate_succ]
  rw [e]
  unfold secP
  rw [Nat.mul_zero, List.drop_zero]
  show (List.take (126 + 1 + 1) _).getD 0 0 = _ ∧ (List.take (126 + 1 + 1) _).getD 1 0 = _
  rw [List.take_succ_cons, List.take_succ_cons]
  exact ⟨rfl, rfl⟩
theorem Inv.cleaned {P : PS} {D : DS} {pl : Nat → List OpP} (h : Inv P D pl) (hok : POk P) {g : Int} (hg : g ∈ P.keys) (hb : beh P.safe (P.fr g) = false) : Inv P (D.cleaned P g) pl := by
  refine ⟨h.a, fun j hj hd => ?_, fun j hj => ?_⟩
  · rw [cleaned_get hok h.c hg j]
    split
    · rename_i e; rw [e]
    · exact h.c j hj hd
  · have hgr := hok.rng g hg
    unfold DS.cleaned
    cases hd : (P.fr g).dirty with
    | false => simp only [Bool.false_eq_true, if_false]; exact h.b j hj
    | true =>
      simp only [if_true]
      show Stands (putN D.now (P.first + 16 * g) (P.fr g).bytes 16 (P.first + 16 * j)) _ _ _
      unfold putN
      by_cases e : (j : Int) = g
      · rw [if_pos (by omega)]
        obtain ⟨o, ho, hm, hbs⟩ := h.a j (e ▸ hg) (e ▸ hd)
        have e0 : (P.first + 16 * (j : Int) - (P.first + 16 * g)).toNat = 0 := by omega
        rw [e0, ← e, hbs]
        have hh := body_head j o.by_
        refine Or.inr ⟨o, ho, ?_, hh⟩
        unfold beh at hb
        rw [hd] at hb
        simp at hb
        rw [← e] at hb
        omega
      · rw [if_neg (by omega)]; exact h.b j hj
theorem Inv.gone {P : PS} {D : DS} {pl : Nat → List OpP} (h : Inv P D pl) (g : Int) : Inv (P.gone g) D pl :=
  ⟨fun j hj => h.a j ((mem_delS _ _ _).1 hj).2, fun j hj => h.c j ((mem_delS _ _ _).1 hj).2, h.b⟩
theorem mayGo_not {s : Int} {f : FS} (h : mayGo s f = true) : beh s f = false := by
  unfold mayGo at h; simp at h; exact h.2
theorem Inv.made {P : PS} {D : DS} {pl : Nat → List OpP} (h : Inv P D pl) (hok : POk P) {P1 : PS} {D1 : DS} (hm : Made P D P1 D1) : Inv P1 D1 pl ∧ ∀ j, cur P1 D1 j = cur P D j := by
  cases hm with
  | free _ => exact ⟨h, fun _ => rfl⟩
  | went _ g hg =>
    refine ⟨(h.cleaned hok hg.mem (mayGo_not hg.may)).gone g, fun j => ?_⟩
    unfold cur
    show (if (j : Int) ∈ delS g P.keys then (P.fr j).bytes else getN (D.cleaned P g).now (P.first + 16 * j) 16) = _
    rw [cleaned_get hok h.c hg.mem j]
    by_cases e : (j : Int) = g
    · rw [if_neg (by simp [mem_delS, e]), if_pos e, if_pos (e ▸ hg.mem), e]
    · simp [mem_delS, e]
/-- A frame is used, its bytes and marks as they were. -/
theorem Inv.touch {P : PS} {D : DS} {pl : Nat → List OpP} (h : Inv P D pl) {k : Int} (hk : k ∈ P.keys) {f : FS} (h1 : f.bytes = (P.fr k).bytes) (h2 : f.dirty = (P.fr k).dirty) (h3 : f.mark = (P.fr k).mark) : Inv (P.touch k f) D pl ∧ ∀ j, cur (P.touch k f) D j = cur P D j := by
  have hfr : ∀ j, ((P.touch k f).fr j).bytes = (P.fr j).bytes ∧ ((P.touch k f).fr j).dirty = (P.fr j).dirty ∧ ((P.touch k f).fr j).mark = (P.fr j).mark := fun j => by
    unfold PS.touch updA
    simp only []
    split
    · rename_i e; rw [e]; exact ⟨h1, h2, h3⟩
    · exact ⟨rfl, rfl, rfl⟩
  refine ⟨⟨fun j hj hd => ?_, fun j hj hd => ?_, h.b⟩, fun j => ?_⟩
  · rw [(hfr j).2.1] at hd
    rw [(hfr j).1, (hfr j).2.2]
    exact h.a j hj hd
  · rw [(hfr j).2.1] at hd
    rw [(hfr j).1]
    exact h.c j hj hd
  · unfold cur
    rw [(hfr j).1]
    rfl
theorem Inv.pin {P : PS} {D : DS} {pl : Nat → List OpP} (h : Inv P D pl) (hok : POk P) {k : Nat} {P' : PS} {D' : DS} {bs : List UInt8} (ht : PinTo P D k P' D' bs) : Inv P' D' pl ∧ (∀ j, cur P' D' j = cur P D j) ∧ bs = cur P D k := by
  cases ht with
  | held hk =>
    have h1 := h.touch hk (f := { P.fr k with pins := (P.fr k).pins + 1 }) rfl rfl rfl
    exact ⟨h1.1, h1.2, by unfold cur; rw [if_pos hk]⟩
  | came hk P1 D1 hm =>
    obtain ⟨h1, h2⟩ := h.made hok hm
    have hM := hm.ok hok
    have hk1 : (k : Int) ∉ P1.keys := fun h => hk (hM.sub _ h)
    have hbs : getN D'.now (P.first + 16 * k) 16 = cur P D k := by
      rw [← h2 k]; unfold cur; rw [if_neg hk1, hM.first]
    have hfr : ∀ j : Int, ((P1.add k ⟨getN D'.now (P.first + 16 * k) 16, 0, false, 0, 0⟩).touch k ⟨getN D'.now (P.first + 16 * k) 16, 1, false, 0, 0⟩).fr j = if j = (k : Int) then ⟨getN D'.now (P.first + 16 * k) 16, 1, false, 0, P1.uses + 1⟩ else P1.fr j := fun j => by
      show updA (updA P1.fr k _) k _ j = _
      rw [updA_twice]; rfl
    have hmem : ∀ j : Int, j ∈ insS k P1.keys → j ≠ k → j ∈ P1.keys := fun j hj e => by rcases (mem_insS _ _ _).1 hj with h | h; exact absurd h e; exact h
    refine ⟨⟨fun j hj hd => ?_, fun j hj hd => ?_, h1.b⟩, fun j => ?_, hbs⟩
    · rw [hfr j] at hd ⊢
      by_cases e : (j : Int) = k
      · rw [if_pos e] at hd; cases hd
      · rw [if_neg e] at hd ⊢; exact h1.a j (hmem _ hj e) hd
    · rw [hfr j] at hd ⊢
      by_cases e : (j : Int) = k
      · rw [if_pos e, e]
        show getN D'.now (P.first + 16 * k) 16 = getN D'.now (P1.first + 16 * k) 16
        rw [hM.first]
      · rw [if_neg e] at hd ⊢; exact h1.c j (hmem _ hj e) hd
    · rw [← h2 j]
      unfold cur
      rw [hfr j]
      show (if (j : Int) ∈ insS k P1.keys then _ else _) = _
      by_cases e : (j : Int) = k
      · rw [if_pos e, if_pos ((mem_insS _ _ _).2 (Or.inl e)), if_neg (by rw [e]; exact hk1), e, hM.first]
      · rw [if_neg e]
        simp only [mem_insS, e, false_or]
        rfl
theorem Stands.mono {s : List UInt8} {j : Nat} {l l' : List OpP} {a b : Int} (h : Stands s j l a) (hl : ∀ o ∈ l, o ∈ l') (hab : a ≤ b) : Stands s j l' b := by
  rcases h with h | ⟨o, ho, hm, h1⟩
  · exact Or.inl h
  · exact Or.inr ⟨o, hl o ho, by omega, h1⟩
def updN {α : Type} (f : Nat → α) (i : Nat) (x : α) : Nat → α := fun j => if j = i then x else f j
theorem Inv.put {P : PS} {D : DS} {pl : Nat → List OpP} (h : Inv P D pl) {k : Nat} (hk : (k : Int) ∈ P.keys) (o : OpP) : Inv (P.touch k { P.fr k with bytes := bodyL k o.by_ 2048, dirty := true, mark := mx (P.fr k).mark o.mark }) D (updN pl k (pl k ++ [o])) ∧ ∀ j, cur (P.touch k { P.fr k with bytes := bodyL k o.by_ 2048, dirty := true, mark := mx (P.fr k).mark o.mark }) D j = updN (cur P D) k (bodyL k o.by_ 2048) j := by
  have hfr : ∀ j : Nat, (P.touch k { P.fr k with bytes := bodyL k o.by_ 2048, dirty := true, mark := mx (P.fr k).mark o.mark }).fr j = if j = k then { P.fr k with bytes := bodyL k o.by_ 2048, dirty := true, mark := mx (P.fr k).mark o.mark, used := P.uses + 1 } else P.fr j := fun j => by
    show updA P.fr k _ j = _
    unfold updA
    by_cases e : j = k
    · rw [if_pos (by rw [e]), if_pos e]
    · rw [if_neg (by omega), if_neg e]
  have hpl : ∀ j, ∀ x ∈ pl j, x ∈ updN pl k (pl k ++ [o]) j := fun j x hx => by
    unfold updN; split
    · rename_i e; rw [e] at hx; simp [hx]
    · exact hx
  refine ⟨⟨fun j hj hd => ?_, fun j hj hd => ?_, fun j hj => (h.b j hj).mono (hpl j) (Int.le_refl _)⟩, fun j => ?_⟩
  · rw [hfr j] at hd ⊢
    by_cases e : j = k
    · subst e
      rw [if_pos rfl]
      refine ⟨o, by unfold updN; simp, ?_, rfl⟩
      show o.mark ≤ mx _ _
      unfold mx; split <;> omega
    · rw [if_neg e] at hd ⊢
      obtain ⟨x, hx, h1⟩ := h.a j hj hd
      exact ⟨x, hpl j x hx, h1⟩
  · rw [hfr j] at hd ⊢
    by_cases e : j = k
    · rw [if_pos e] at hd; cases hd
    · rw [if_neg e] at hd ⊢; exact h.c j hj hd
  · unfold cur updN
    rw [hfr j]
    show (if (j : Int) ∈ P.keys then _ else _) = _
    by_cases e : j = k
    · subst e; rw [if_pos rfl, if_pos rfl, if_pos hk]
    · rw [if_neg e, if_neg e]; rfl
theorem mx_le (a b : Int) : a ≤ mx a b := by unfold mx; split <;> omega
theorem Inv.safe {P : PS} {D : DS} {pl : Nat → List OpP} (h : Inv P D pl) (m : Int) : Inv { P with safe := mx P.safe m } D pl :=
  ⟨h.a, h.c, fun j hj => (h.b j hj).mono (fun _ h => h) (mx_le _ _)⟩
theorem Inv.cleanD {P : PS} (hok : POk P) {pl : Nat → List OpP} (hb : ∀ k ∈ P.keys, beh P.safe (P.fr k) = false) : ∀ (l : List Int) (D : DS), (∀ x ∈ l, x ∈ P.keys) → Inv P D pl → Inv P (D.cleanL P l) pl ∧ ∀ j : Nat, getN (D.cleanL P l).now (P.first + 16 * j) 16 = if (j : Int) ∈ l then (P.fr j).bytes else getN D.now (P.first + 16 * j) 16
  | [], D, _, h => ⟨h, fun j => by simp [DS.cleanL]⟩
  | k :: l, D, hl, h => by
    have hk := hl k (List.mem_cons_self ..)
    have h1 := h.cleaned hok hk (hb k hk)
    obtain ⟨h2, h3⟩ := Inv.cleanD hok hb l (D.cleaned P k) (fun x hx => hl x (List.mem_cons_of_mem _ hx)) h1
    refine ⟨h2, fun j => ?_⟩
    show getN (DS.cleanL (D.cleaned P k) P l).now _ 16 = _
    rw [h3 j, cleaned_get hok h.c hk j]
    by_cases e1 : (j : Int) ∈ l
    · rw [if_pos e1, if_pos (List.mem_cons_of_mem _ e1)]
    · rw [if_neg e1]
      by_cases e2 : (j : Int) = k
      · rw [if_pos e2, if_pos (by rw [e2]; exact List.mem_cons_self ..), e2]
      · rw [if_neg e2, if_neg (by simp [e1, e2])]
theorem Inv.flush {P : PS} {D : DS} {pl : Nat → List OpP} (h : Inv P D pl) (hok : POk P) (hb : ∀ k ∈ P.keys, beh P.safe (P.fr k) = false) : Inv (P.cleanL P.keys) (D.cleanL P P.keys) pl ∧ ∀ j, cur (P.cleanL P.keys) (D.cleanL P P.keys) j = cur P D j := by
  obtain ⟨h1, h2⟩ := Inv.cleanD hok hb P.keys D (fun x hx => hx) h
  have hfr : ∀ j : Int, j ∈ P.keys → (P.cleanL P.keys).fr j = { P.fr j with dirty := false } := fun j hj => by unfold PS.cleanL; simp [hj]
  refine ⟨⟨fun j hj hd => ?_, fun j hj hd => ?_, h1.b⟩, fun j => ?_⟩
  · rw [hfr j hj] at hd; cases hd
  · rw [hfr j hj]
    show (P.fr j).bytes = getN _ (P.first + 16 * j) 16
    rw [h2 j, if_pos (show (j : Int) ∈ P.keys from hj)]
  · unfold cur
    show (if (j : Int) ∈ P.keys then ((P.cleanL P.keys).fr j).bytes else getN (D.cleanL P P.keys).now (P.first + 16 * j) 16) = _
    by_cases e : (j : Int) ∈ P.keys
    · rw [if_pos e, if_pos e, hfr j e]
    · rw [if_neg e, if_neg e, h2 j, if_neg e]
theorem Inv.new (nF : Int) : Inv (PS.new 0 6 nF) ⟨96, fun _ => zsec, fun _ => zsec, [], 0⟩ (fun _ => []) :=
  ⟨fun j hj => by (cases hj), fun j hj => by (cases hj), fun j hj => Or.inl ⟨rfl, rfl⟩⟩
end Go.Proofs.Ytpmbpadckbkglaa

/- Both pools say the same: pure. -/
import Derived.Test.YtpmbpadckbkglaaP7RH
namespace Go.Proofs.Ytpmbpadckbkglaa
open Go.RowKit Go.Maps
set_option linter.unusedVariables false
set_option linter.unusedSimpArgs false

/-- A frame of the document's, and one of the program's. -/
structure FEq (f : RF) (x : FS) : Prop where
  pins : f.pins = x.pins
  dirty : f.dirty = x.dirty
  mark : f.mark = x.mark
  b : f.b = x.bytes
  used : f.used = x.used
/-- The document's pool holds what the program's holds. -/
structure Rel (P : PS) (R : RPS) : Prop where
  first : R.first = P.first
  pages : R.pages = P.pages
  frames : R.frames = P.size
  log : R.log = P.safe
  now : R.now = P.uses
  nd : (R.l.map (·.page)).Nodup
  mem : ∀ k, k ∈ P.keys ↔ k ∈ R.l.map (·.page)
  fr : ∀ f ∈ R.l, FEq f (P.fr f.page)
theorem Rel.len {P : PS} {R : RPS} (h : Rel P R) (hok : POk P) : R.l.length = P.keys.length := by
  have hp : (R.l.map (·.page)).Perm P.keys := (List.perm_ext_iff_of_nodup h.nd hok.rise.nodup).2 (fun k => (h.mem k).symm)
  have := hp.length_eq
  simpa using this
theorem Rel.has {P : PS} {R : RPS} (h : Rel P R) {f : RF} (hf : f ∈ R.l) : f.page ∈ P.keys := (h.mem _).2 (List.mem_map_of_mem hf)
theorem Rel.find {P : PS} {R : RPS} (h : Rel P R) {k : Int} (hk : k ∈ P.keys) : ∃ f ∈ R.l, f.page = k := by
  obtain ⟨f, hf, e⟩ := List.mem_map.1 ((h.mem k).1 hk)
  exact ⟨f, hf, e⟩
theorem Rel.not {P : PS} {R : RPS} (h : Rel P R) {k : Int} (hk : k ∉ P.keys) : ∀ f ∈ R.l, f.page ≠ k := fun f hf e => hk (e ▸ h.has hf)
/-- Two frames of one page are one. -/
theorem Rel.one {P : PS} {R : RPS} (h : Rel P R) {i j : Nat} (hi : i < R.l.length) (hj : j < R.l.length) (e : R.l[i].page = R.l[j].page) : i = j := by
  have h1 : (R.l.map (·.page))[i]'(by simpa using hi) = (R.l.map (·.page))[j]'(by simpa using hj) := by simpa using e
  exact (List.getElem_inj h.nd).1 h1
theorem map_set_page {l : List RF} {k : Nat} (hk : k < l.length) {f : RF} (hf : f.page = l[k].page) : (l.set k f).map (·.page) = l.map (·.page) := by
  rw [List.map_set, hf]
  have : (l.map (·.page))[k]'(by simpa using hk) = l[k].page := by simp
  rw [← this, List.set_getElem_self]
/-- One frame is turned on both sides. -/
theorem Rel.turn {P P' : PS} {R : RPS} (h : Rel P R) {k : Nat} (hk : k < R.l.length) {f : RF} {x : FS} (hf : f.page = R.l[k].page) (hfx : FEq f x) (u now : Int) (E : Bool) (hP : P' = { P with uses := now, fr := updA P.fr R.l[k].page x }) (hu : u = now) : Rel P' { R.at_ k f with now := u, early := E } := by
  subst hP hu
  refine ⟨h.first, h.pages, h.frames, h.log, rfl, ?_, fun j => ?_, fun y hy => ?_⟩
  · show ((R.l.set k f).map (·.page)).Nodup
    rw [map_set_page hk hf]; exact h.nd
  · show j ∈ P.keys ↔ j ∈ (R.l.set k f).map (·.page)
    rw [map_set_page hk hf]; exact h.mem j
  · have hy' : y ∈ R.l.set k f := hy
    obtain ⟨i, hi, rfl⟩ := List.getElem_of_mem hy'
    have hi' : i < R.l.length := by simpa using hi
    rw [List.getElem_set]
    split
    · rename_i e
      show FEq f (updA P.fr R.l[k].page x f.page)
      rw [hf, updA_same]; exact hfx
    · rename_i e
      show FEq R.l[i] (updA P.fr R.l[k].page x R.l[i].page)
      rw [updA_other _ _ (fun e' => e (h.one hk hi' e'.symm))]
      exact h.fr _ (List.getElem_mem hi')
theorem Rel.use {P : PS} {R : RPS} (h : Rel P R) {k : Nat} (hk : k < R.l.length) {f : RF} {x : FS} (hf : f.page = R.l[k].page) (hfx : f.pins = x.pins ∧ f.dirty = x.dirty ∧ f.mark = x.mark ∧ f.b = x.bytes) : Rel (P.touch R.l[k].page x) (R.use k f) := by
  have := h.turn (P' := P.touch R.l[k].page x) hk (f := { f with used := R.now + 1 }) (x := { x with used := P.uses + 1 }) hf ⟨hfx.1, hfx.2.1, hfx.2.2.1, hfx.2.2.2, by rw [h.now]⟩ (R.now + 1) (P.uses + 1) R.early rfl (by rw [h.now])
  exact this
theorem Rel.clean {P : PS} {R : RPS} (h : Rel P R) {k : Nat} (hk : k < R.l.length) (E : Bool) : Rel { P with fr := updA P.fr R.l[k].page { P.fr R.l[k].page with dirty := false } } { R.at_ k { R.l[k] with dirty := false } with early := E } := by
  have hf := h.fr _ (List.getElem_mem hk)
  have := h.turn (P' := { P with fr := updA P.fr R.l[k].page { P.fr R.l[k].page with dirty := false } }) hk (f := { R.l[k] with dirty := false }) (x := { P.fr R.l[k].page with dirty := false }) rfl ⟨hf.pins, rfl, hf.mark, hf.b, hf.used⟩ R.now P.uses E rfl h.now
  exact this
/-- A frame goes. -/
theorem Rel.gone {P : PS} {R : RPS} (h : Rel P R) {k : Nat} (hk : k < R.l.length) (E : Bool) : Rel (P.gone R.l[k].page) { R with l := R.l.take k ++ R.l.drop (k + 1), early := E } := by
  have hsub : ∀ f ∈ R.l.take k ++ R.l.drop (k + 1), f ∈ R.l := fun f hf => by
    rcases List.mem_append.1 hf with h1 | h1
    · exact List.mem_of_mem_take h1
    · exact List.mem_of_mem_drop h1
  have hsplit : R.l = R.l.take k ++ R.l[k] :: R.l.drop (k + 1) := by
    conv => lhs; rw [← List.take_append_drop k R.l, List.drop_eq_getElem_cons hk]
  have hnd := h.nd
  rw [hsplit, List.map_append, List.map_cons] at hnd
  have hnd2 := List.nodup_append.1 hnd
  have hnd3 := List.nodup_cons.1 hnd2.2.1
  refine ⟨h.first, h.pages, h.frames, h.log, h.now, ?_, fun j => ?_, fun f hf => h.fr f (hsub f hf)⟩
  · show ((R.l.take k ++ R.l.drop (k + 1)).map (·.page)).Nodup
    rw [List.map_append]
    exact List.nodup_append.2 ⟨hnd2.1, hnd3.2, fun a ha b hb => hnd2.2.2 a ha b (List.mem_cons_of_mem _ hb)⟩
  · show j ∈ delS R.l[k].page P.keys ↔ j ∈ (R.l.take k ++ R.l.drop (k + 1)).map (·.page)
    rw [mem_delS, h.mem j]
    rw [List.map_append, List.mem_append]
    constructor
    · rintro ⟨hne, hj⟩
      rw [hsplit, List.map_append, List.map_cons, List.mem_append, List.mem_cons] at hj
      rcases hj with h1 | h1 | h1
      · exact Or.inl h1
      · exact absurd h1 hne
      · exact Or.inr h1
    · intro hj
      refine ⟨fun e => ?_, ?_⟩
      · subst e
        rcases hj with h1 | h1
        · exact hnd2.2.2 _ h1 _ List.mem_cons_self rfl
        · exact hnd3.1 h1
      · rw [hsplit, List.map_append, List.map_cons, List.mem_append, List.mem_cons]
        rcases hj with h1 | h1
        · exact Or.inl h1
        · exact Or.inr (Or.inr h1)
/-- A frame comes. -/
theorem Rel.come {P : PS} {R : RPS} (h : Rel P R) {k : Int} (hk : k ∉ P.keys) {f : RF} {x : FS} (hf : f.page = k) (hfx : FEq f x) : Rel (P.add k x) { R with l := R.l ++ [f] } := by
  refine ⟨h.first, h.pages, h.frames, h.log, h.now, ?_, fun j => ?_, fun y hy => ?_⟩
  · show ((R.l ++ [f]).map (·.page)).Nodup
    rw [List.map_append]
    refine List.nodup_append.2 ⟨h.nd, by simp, fun a ha b hb e => ?_⟩
    simp at hb
    subst e
    rw [hb, hf] at ha
    exact hk ((h.mem k).2 ha)
  · show j ∈ insS k P.keys ↔ j ∈ (R.l ++ [f]).map (·.page)
    rw [mem_insS, h.mem j, List.map_append, List.mem_append]
    simp [hf]
    exact Or.comm
  · have hy' : y ∈ R.l ++ [f] := hy
    rcases List.mem_append.1 hy' with h1 | h1
    · show FEq y (updA P.fr k x y.page)
      rw [updA_other _ _ (h.not hk y h1)]
      exact h.fr y h1
    · rw [List.mem_singleton.1 h1]
      show FEq f (updA P.fr k x f.page)
      rw [hf, updA_same]; exact hfx
theorem Rel.new (first pages frames : Int) : Rel (PS.new first pages frames) ⟨first, pages, frames, [], 0, 0, false⟩ := ⟨rfl, rfl, rfl, rfl, rfl, by simp, by simp [PS.new], by simp⟩
/-- What both tell of the pages that are held. -/
theorem heldR_mem (l : List RF) (j : Int) : ∀ n, j ∈ heldR l n ↔ (0 ≤ j ∧ j < n) ∧ ∃ f ∈ l, f.page = j
  | 0 => by simp [heldR]; omega
  | n + 1 => by
    have ih := heldR_mem l j n
    have e : heldR l (n + 1) = if l.any (fun f => decide (f.page = (n : Int))) then heldR l n ++ [(n : Int)] else heldR l n := rfl
    rw [e]
    split
    · rename_i h
      obtain ⟨f, hf, hp⟩ := List.any_eq_true.1 h
      rw [List.mem_append, ih, List.mem_singleton]
      constructor
      · rintro (⟨h1, h2⟩ | h1)
        · exact ⟨by omega, h2⟩
        · subst h1; exact ⟨by omega, f, hf, by simpa using hp⟩
      · rintro ⟨h1, h2⟩
        by_cases h3 : j = n
        · exact Or.inr h3
        · exact Or.inl ⟨by omega, h2⟩
    · rename_i h
      rw [ih]
      constructor
      · rintro ⟨h1, h2⟩; exact ⟨by omega, h2⟩
      · rintro ⟨h1, f, hf, h2⟩
        refine ⟨⟨h1.1, ?_⟩, f, hf, h2⟩
        by_cases h3 : j = n
        · exfalso; apply h; exact List.any_eq_true.2 ⟨f, hf, by simp; omega⟩
        · omega
theorem heldR_rise (l : List RF) : ∀ n, Rise (heldR l n)
  | 0 => List.Pairwise.nil
  | n + 1 => by
    have e : heldR l (n + 1) = if l.any (fun f => decide (f.page = (n : Int))) then heldR l n ++ [(n : Int)] else heldR l n := rfl
    rw [e]
    split
    · refine List.pairwise_append.2 ⟨heldR_rise l n, List.pairwise_singleton _ _, fun a ha b hb => ?_⟩
      rw [List.mem_singleton.1 hb]
      exact ((heldR_mem l a n).1 ha).1.2
    · exact heldR_rise l n
theorem rise_ext : ∀ {a b : List Int}, Rise a → Rise b → (∀ j, j ∈ a ↔ j ∈ b) → a = b := by
  intro a b ha hb h
  have hp : a.Perm b := (List.perm_ext_iff_of_nodup ha.nodup hb.nodup).2 h
  exact List.Perm.eq_of_pairwise (fun x y _ _ h1 h2 => by omega) ha hb hp
theorem Rel.held {P : PS} {R : RPS} (h : Rel P R) (hok : POk P) {n : Nat} (hn : P.pages = n) : heldR R.l n = P.keys := by
  refine rise_ext (heldR_rise _ _) hok.rise fun j => ?_
  rw [heldR_mem]
  constructor
  · rintro ⟨_, f, hf, e⟩
    exact e ▸ h.has hf
  · intro hj
    have := hok.rng j hj
    exact ⟨by omega, h.find hj⟩
end Go.Proofs.Ytpmbpadckbkglaa

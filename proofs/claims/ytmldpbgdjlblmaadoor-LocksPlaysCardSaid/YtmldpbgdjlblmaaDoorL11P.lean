/- The table of locks as a list of requests: what is asked, dropped and woken, and what stays so; pure. -/
import Derived.Test.YtmldpbgdjlblmaaDoorM10P
namespace Go.Proofs.YtmldpbgdjlblmaaDoor
open Go.RowKit
set_option linter.unusedVariables false
set_option linter.unusedSimpArgs false

structure Rq where
  tx : Int
  ob : Ob
  md : Int
  gr : Bool
  sh : Bool
/-- Are two objects one? -/
def oe (a b : Ob) : Bool := decide (a.sp = b.sp) && decide (a.tb.toList = b.tb.toList) && decide (a.lo.toList = b.lo.toList) && decide (a.hi.toList = b.hi.toList) && decide (a.en = b.en)
theorem oe_iff {a b : Ob} : oe a b = true ↔ a = b := by
  constructor
  · intro h
    simp only [oe, Bool.and_eq_true, decide_eq_true_eq] at h
    obtain ⟨⟨⟨⟨h1, h2⟩, h3⟩, h4⟩, h5⟩ := h
    obtain ⟨sa, ta, la, ua, na⟩ := a
    obtain ⟨sb, tb, lb', ub, nb⟩ := b
    have e2 := tl_eq h2
    have e3 := tl_eq h3
    have e4 := tl_eq h4
    simp only at h1 e2 e3 e4 h5
    subst h1 e2 e3 e4 h5
    rfl
  · rintro rfl
    simp [oe]
theorem oe_refl (a : Ob) : oe a a = true := oe_iff.2 rfl
/-- Does a request clash with one that is granted? -/
def ag (g r : Rq) : Bool := decide (g.tx ≠ r.tx) && mt g.ob r.ob && !fi g.md r.md
/-- A granted request of the same transaction on just the same object. -/
def cg (g r : Rq) : Bool := g.gr && decide (g.tx = r.tx) && oe g.ob r.ob
def cvn (pre : List Rq) (r : Rq) : Bool := pre.any fun g => cg g r
def gb (L : List Rq) (r : Rq) : Bool := L.any fun g => g.gr && ag g r
def wb (pre : List Rq) (r : Rq) : Bool := pre.any fun e => !e.gr && (ag e r || ag r e)
/-- May a request between those ahead of it and those behind it be granted? -/
def mayP (pre : List Rq) (r : Rq) (suf : List Rq) : Bool := !gb pre r && !gb suf r && (cvn pre r || !wb pre r)
theorem ag_tx {g r : Rq} (h : ag g r = true) : g.tx ≠ r.tx := by
  simp only [ag, Bool.and_eq_true, decide_eq_true_eq] at h
  exact h.1.1
/-- What is granted does not change by what is short. -/
def Rq.like (a b : Rq) : Prop := a.tx = b.tx ∧ a.ob = b.ob ∧ a.md = b.md ∧ a.gr = b.gr
theorem ag_like {a b c d : Rq} (h1 : a.like b) (h2 : c.like d) : ag a c = ag b d := by
  obtain ⟨x1, x2, x3, _⟩ := h1
  obtain ⟨y1, y2, y3, _⟩ := h2
  simp only [ag, x1, x2, x3, y1, y2, y3]
/-- What stays so behind every call. -/
structure TInv (L : List Rq) : Prop where
  right : ∀ r ∈ L, 1 ≤ r.tx ∧ pl r.ob = true ∧ 1 ≤ r.md ∧ r.md ≤ 6
  odds : L.Pairwise fun a b => a.gr = true → b.gr = true → ¬ (ag a b = true ∧ ag b a = true)
  ready : ∀ pre r suf, L = pre ++ r :: suf → r.gr = false → mayP pre r suf = false
  one : L.Pairwise fun a b => a.gr = false → b.gr = false → a.tx ≠ b.tx
theorem TInv.nil : TInv [] := ⟨(fun r hr => by cases hr), List.Pairwise.nil, (fun pre r suf h => by cases pre <;> cases h), List.Pairwise.nil⟩
theorem gb_append (A B : List Rq) (r : Rq) : gb (A ++ B) r = (gb A r || gb B r) := by simp [gb, List.any_append]
/-- One more granted at the end keeps the others waiting. -/
theorem mayP_snoc {pre suf : List Rq} {r x : Rq} (h : mayP pre r suf = false) : mayP pre r (suf ++ [x]) = false := by
  simp only [mayP, gb_append] at h ⊢
  cases h1 : gb pre r <;> cases h2 : gb suf r <;> cases h3 : (cvn pre r || !wb pre r) <;> simp_all
theorem split_snoc {L pre suf : List Rq} {r x : Rq} (h : L ++ [x] = pre ++ r :: suf) : (∃ suf', suf = suf' ++ [x] ∧ L = pre ++ r :: suf') ∨ (suf = [] ∧ r = x ∧ pre = L) := by
  rcases List.eq_nil_or_concat suf with rfl | ⟨s, y, rfl⟩
  · right
    have := List.append_inj' (t₁ := [x]) (t₂ := [r]) h rfl
    exact ⟨rfl, by simpa using this.2.symm, this.1.symm⟩
  · left
    rw [List.concat_eq_append, ← List.cons_append, ← List.append_assoc] at h
    have := List.append_inj' h rfl
    refine ⟨s, ?_, this.1⟩
    rw [List.concat_eq_append]
    have e : x = y := by simpa using this.2
    rw [e]
theorem gb_none {L : List Rq} {r g : Rq} (h : gb L r = false) (hg : g ∈ L) (hr : g.gr = true) : ag g r = false := by
  simp only [gb, List.any_eq_false] at h
  have := h g hg
  rw [hr] at this
  simpa using this
/-- Ask: one more, granted if it may be. -/
theorem TInv.push {L : List Rq} (h : TInv L) (x : Rq) (hr : 1 ≤ x.tx ∧ pl x.ob = true ∧ 1 ≤ x.md ∧ x.md ≤ 6) (hg : x.gr = mayP L x []) (hw : ∀ r ∈ L, r.gr = false → r.tx ≠ x.tx) : TInv (L ++ [x]) := by
  refine ⟨fun r hm => ?_, ?_, fun pre r suf e hf => ?_, ?_⟩
  · rcases List.mem_append.1 hm with hm | hm
    · exact h.right r hm
    · rw [List.mem_singleton.1 hm]; exact hr
  · rw [List.pairwise_append]
    refine ⟨h.odds, List.pairwise_singleton _ _, fun a ha b hb ga gb' => ?_⟩
    rw [List.mem_singleton.1 hb] at gb' ⊢
    rintro ⟨h1, _⟩
    rw [hg] at gb'
    have : gb L x = false := by
      cases e : gb L x with
      | false => rfl
      | true => simp [mayP, e] at gb'
    rw [gb_none this ha ga] at h1
    cases h1
  · rcases split_snoc e with ⟨suf', rfl, e'⟩ | ⟨rfl, rfl, rfl⟩
    · exact mayP_snoc (h.ready pre r suf' e' hf)
    · rw [← hg]; exact hf
  · rw [List.pairwise_append]
    refine ⟨h.one, List.pairwise_singleton _ _, fun a ha b hb ga gb' => ?_⟩
    rw [List.mem_singleton.1 hb]
    exact hw a ha ga
/-- Requests whose shortness alone is other. -/
theorem like_refl (a : Rq) : a.like a := ⟨rfl, rfl, rfl, rfl⟩
theorem any_map_like {f : Rq → Rq} (hf : ∀ r, (f r).like r) {p : Rq → Bool} (hp : ∀ a b, a.like b → p a = p b) (L : List Rq) : (L.map f).any p = L.any p := by
  rw [List.any_map]
  congr 1
  funext r
  exact hp _ _ (hf r)
theorem cg_like {a b c d : Rq} (h1 : a.like b) (h2 : c.like d) : cg a c = cg b d := by
  obtain ⟨x1, x2, x3, x4⟩ := h1
  obtain ⟨y1, y2, y3, y4⟩ := h2
  simp only [cg, x1, x2, x4, y1, y2]
theorem mayP_map {f : Rq → Rq} (hf : ∀ r, (f r).like r) (pre : List Rq) (r : Rq) (suf : List Rq) : mayP (pre.map f) (f r) (suf.map f) = mayP pre r suf := by
  have e1 : ∀ L : List Rq, gb (L.map f) (f r) = gb L r := fun L => by
    unfold gb
    rw [List.any_map]
    congr 1
    funext g
    show ((f g).gr && ag (f g) (f r)) = _
    rw [(hf g).2.2.2, ag_like (hf g) (hf r)]
  have e2 : cvn (pre.map f) (f r) = cvn pre r := by
    unfold cvn
    rw [List.any_map]
    congr 1
    funext g
    exact cg_like (hf g) (hf r)
  have e3 : wb (pre.map f) (f r) = wb pre r := by
    unfold wb
    rw [List.any_map]
    congr 1
    funext g
    show (!(f g).gr && (ag (f g) (f r) || ag (f r) (f g))) = _
    rw [(hf g).2.2.2, ag_like (hf g) (hf r), ag_like (hf r) (hf g)]
  unfold mayP
  rw [e1, e1, e2, e3]
theorem map_split {f : Rq → Rq} : ∀ {L pre suf : List Rq} {r : Rq}, L.map f = pre ++ r :: suf → ∃ pre' r' suf', L = pre' ++ r' :: suf' ∧ pre = pre'.map f ∧ r = f r' ∧ suf = suf'.map f := by
  intro L pre suf r h
  obtain ⟨l1, l2, e, e1, e2⟩ := List.map_eq_append_iff.1 h
  obtain ⟨a, l3, e3, e4, e5⟩ := List.map_eq_cons_iff.1 e2
  exact ⟨l1, a, l3, by rw [e, e3], e1.symm, e4.symm, e5.symm⟩
theorem TInv.map {L : List Rq} (h : TInv L) {f : Rq → Rq} (hf : ∀ r, (f r).like r) : TInv (L.map f) := by
  refine ⟨fun r hm => ?_, ?_, fun pre r suf e hg => ?_, ?_⟩
  · obtain ⟨r', hr', rfl⟩ := List.mem_map.1 hm
    obtain ⟨e1, e2, e3, _⟩ := hf r'
    rw [e1, e2, e3]; exact h.right r' hr'
  · rw [List.pairwise_map]
    refine h.odds.imp (fun {a b} hab ga gb' => ?_)
    rw [(hf a).2.2.2] at ga
    rw [(hf b).2.2.2] at gb'
    rw [ag_like (hf a) (hf b), ag_like (hf b) (hf a)]
    exact hab ga gb'
  · obtain ⟨pre', r', suf', e', rfl, rfl, rfl⟩ := map_split e
    rw [mayP_map hf]
    exact h.ready pre' r' suf' e' (by rw [← (hf r').2.2.2]; exact hg)
  · rw [List.pairwise_map]
    refine h.one.imp (fun {a b} hab ga gb' => ?_)
    rw [(hf a).2.2.2] at ga
    rw [(hf b).2.2.2] at gb'
    rw [(hf a).1, (hf b).1]
    exact hab ga gb'
end Go.Proofs.YtmldpbgdjlblmaaDoor

/- Objects: the document's Meet and Within are the program's. -/
import Derived.Test.YtmldpbgdjlblmabDoorM10H
namespace Go.Proofs.YtmldpbgdjlblmabDoor
open Go.RowKit Go.Joins
set_option linter.unusedVariables false
set_option linter.unusedSimpArgs false

theorem pl_low {o : Ob} (h : pl o = true) (hs : o.sp < 2) : o.lo.toList = [] ∧ o.hi.toList = [] ∧ o.en = false := by
  obtain ⟨sp, tb, lo, hi, en⟩ := o
  simp only at hs ⊢
  by_cases h0 : sp = 0
  · subst h0
    simp [pl, em] at h
    exact ⟨h.1.1.2, h.1.2, h.2⟩
  · by_cases h1 : sp = 1
    · subst h1
      cases ht : em tb
      · simp [pl, em] at ht h
        exact ⟨h.2.1.1, h.2.1.2, h.2.2⟩
      · simp [pl, ht] at h
    · cases ht : em tb
      · simp [pl, ht, h0, h1, hs] at h
      · simp [pl, ht, h0] at h
theorem low_all {a b : Ob} (h : bs a b = true) (hs : a.sp < 2) : mt a b = true ∧ wi a b = true := by
  have hb := h
  simp only [bs, Bool.and_eq_true, decide_eq_true_eq] at hb
  obtain ⟨⟨⟨e1, e2⟩, pa⟩, pb⟩ := hb
  obtain ⟨a1, a2, a3⟩ := pl_low pa hs
  obtain ⟨b1, b2, b3⟩ := pl_low pb (e1 ▸ hs)
  constructor
  · simp only [mt, h, rch, lb, a1, a2, a3, b1, b2, b3]; rfl
  · simp only [wi, h, rch, lb, a1, a2, a3, b1, b2, b3]; rfl
theorem meet_is {a b : Ob} {t : Bool} (h : mt a b = t) (w : World) :
    Calls Tryd.prog 46 #[a.v, b.v] w fun e w' => e = .returned (.bool t) ∧ Below w.heap.size w w' := h ▸ meet_any a b w
theorem within_is {a b : Ob} {t : Bool} (h : wi a b = t) (w : World) :
    Calls Tryd.prog 36 #[a.v, b.v] w fun e w' => e = .returned (.bool t) ∧ Below w.heap.size w w' := h ▸ within_any a b w
end Go.Proofs.YtmldpbgdjlblmabDoor

/- Objects: the document's Meet and Within are the program's. -/
import Derived.Test.YtmldpbgdjlblmaaDoorM10H
namespace Go.Proofs.YtmldpbgdjlblmaaDoor
open Go.RowKit Go.Joins
set_option linter.unusedVariables false
set_option linter.unusedSimpArgs false

theorem pl_low {o : Ob} (h : pl o = true) (hs : o.sp < 2) : o.lo.toList = [] ∧ o.hi.toList = [] ∧ o.en = false := by
  obtain ⟨sp, tb, lo, hi, en⟩ := o
  simp only at hs ⊢
  by_cases h0 : sp = 0
  · subst h0
    simp [pl, em] at h
    exact ⟨h.1.1.2, h.1.2, h.2⟩
  · by_cases h1 : sp = 1
    · subst h1
      cases ht : em tb
      · simp [pl, em] at ht h
        exact ⟨h.2.1.1, h.2.1.2, h.2.2⟩
      · simp [pl, ht] at h
    · cases ht : em tb
      · simp [pl, ht, h0, h1, hs] at h
      · simp [pl, ht, h0] at h
theorem low_all {a b : Ob} (h : bs a b = true) (hs : a.sp < 2) : mt a b = true ∧ wi a b = true := by
  have hb := h
  simp only [bs, Bool.and_eq_true, decide_eq_true_eq] at hb
  obtain ⟨⟨⟨e1, e2⟩, pa⟩, pb⟩ := hb
  obtain ⟨a1, a2, a3⟩ := pl_low pa hs
  obtain ⟨b1, b2, b3⟩ := pl_low pb (e1 ▸ hs)
  constructor
  · simp only [mt, h, rch, lb, a1, a2, a3, b1, b2, b3]; rfl
  · simp only [wi, h, rch, lb, a1, a2, a3, b1, b2, b3]; rfl
theorem rmeet_any (a b : Ob) (w : World) :
    Calls Tryd.prog 30 #[a.v, b.v] w fun e w' => e = .returned (.bool (mt a b)) ∧ Below w.heap.size w w' := by
  obtain ⟨sa, ta, la, ua, na⟩ := a
  obtain ⟨sb, tb, lb', ub, nb⟩ := b
  cases h : bs ⟨sa, ta, la, ua, na⟩ ⟨sb, tb, lb', ub, nb⟩ with
  | false =>
    rw [show mt ⟨sa, ta, la, ua, na⟩ ⟨sb, tb, lb', ub, nb⟩ = false by simp only [mt, h]; rfl]
    exact rmeet_n w h
  | true =>
    by_cases hs : sa < 2
    · rw [(low_all h hs).1]
      exact rmeet_l w h hs
    · cases na <;> cases nb <;> cases hp : (Op.bytesLess la.toList ub.toList || la.toList == ub.toList) <;> cases hq : (Op.bytesLess lb'.toList ua.toList || lb'.toList == ua.toList)
      · rw [show mt ⟨sa, ta, la, ua, false⟩ ⟨sb, tb, lb', ub, false⟩ = false by simp only [mt, h, rch, lb, hp, hq]; rfl]
        exact rmeet_ffff w h hs hp hq
      · rw [show mt ⟨sa, ta, la, ua, false⟩ ⟨sb, tb, lb', ub, false⟩ = false by simp only [mt, h, rch, lb, hp, hq]; rfl]
        exact rmeet_ffft w h hs hp hq
      · rw [show mt ⟨sa, ta, la, ua, false⟩ ⟨sb, tb, lb', ub, false⟩ = false by simp only [mt, h, rch, lb, hp, hq]; rfl]
        exact rmeet_fftf w h hs hp hq
      · rw [show mt ⟨sa, ta, la, ua, false⟩ ⟨sb, tb, lb', ub, false⟩ = true by simp only [mt, h, rch, lb, hp, hq]; rfl]
        exact rmeet_fftt w h hs hp hq
      · rw [show mt ⟨sa, ta, la, ua, false⟩ ⟨sb, tb, lb', ub, true⟩ = false by simp only [mt, h, rch, lb, hp, hq]; rfl]
        exact rmeet_ftff w h hs hp hq
      · rw [show mt ⟨sa, ta, la, ua, false⟩ ⟨sb, tb, lb', ub, true⟩ = true by simp only [mt, h, rch, lb, hp, hq]; rfl]
        exact rmeet_ftft w h hs hp hq
      · rw [show mt ⟨sa, ta, la, ua, false⟩ ⟨sb, tb, lb', ub, true⟩ = false by simp only [mt, h, rch, lb, hp, hq]; rfl]
        exact rmeet_fttf w h hs hp hq
      · rw [show mt ⟨sa, ta, la, ua, false⟩ ⟨sb, tb, lb', ub, true⟩ = true by simp only [mt, h, rch, lb, hp, hq]; rfl]
        exact rmeet_fttt w h hs hp hq
      · rw [show mt ⟨sa, ta, la, ua, true⟩ ⟨sb, tb, lb', ub, false⟩ = false by simp only [mt, h, rch, lb, hp, hq]; rfl]
        exact rmeet_tfff w h hs hp hq
      · rw [show mt ⟨sa, ta, la, ua, true⟩ ⟨sb, tb, lb', ub, false⟩ = false by simp only [mt, h, rch, lb, hp, hq]; rfl]
        exact rmeet_tfft w h hs hp hq
      · rw [show mt ⟨sa, ta, la, ua, true⟩ ⟨sb, tb, lb', ub, false⟩ = true by simp only [mt, h, rch, lb, hp, hq]; rfl]
        exact rmeet_tftf w h hs hp hq
      · rw [show mt ⟨sa, ta, la, ua, true⟩ ⟨sb, tb, lb', ub, false⟩ = true by simp only [mt, h, rch, lb, hp, hq]; rfl]
        exact rmeet_tftt w h hs hp hq
      · rw [show mt ⟨sa, ta, la, ua, true⟩ ⟨sb, tb, lb', ub, true⟩ = true by simp only [mt, h, rch, lb, hp, hq]; rfl]
        exact rmeet_ttff w h hs hp hq
      · rw [show mt ⟨sa, ta, la, ua, true⟩ ⟨sb, tb, lb', ub, true⟩ = true by simp only [mt, h, rch, lb, hp, hq]; rfl]
        exact rmeet_ttft w h hs hp hq
      · rw [show mt ⟨sa, ta, la, ua, true⟩ ⟨sb, tb, lb', ub, true⟩ = true by simp only [mt, h, rch, lb, hp, hq]; rfl]
        exact rmeet_tttf w h hs hp hq
      · rw [show mt ⟨sa, ta, la, ua, true⟩ ⟨sb, tb, lb', ub, true⟩ = true by simp only [mt, h, rch, lb, hp, hq]; rfl]
        exact rmeet_tttt w h hs hp hq
theorem rwithin_any (a b : Ob) (w : World) :
    Calls Tryd.prog 56 #[a.v, b.v] w fun e w' => e = .returned (.bool (wi a b)) ∧ Below w.heap.size w w' := by
  obtain ⟨sa, ta, la, ua, na⟩ := a
  obtain ⟨sb, tb, lb', ub, nb⟩ := b
  cases h : bs ⟨sa, ta, la, ua, na⟩ ⟨sb, tb, lb', ub, nb⟩ with
  | false =>
    rw [show wi ⟨sa, ta, la, ua, na⟩ ⟨sb, tb, lb', ub, nb⟩ = false by simp only [wi, h]; rfl]
    exact rwithin_n w h
  | true =>
    by_cases hs : sa < 2
    · rw [(low_all h hs).2]
      exact rwithin_l w h hs
    · cases na <;> cases nb <;> cases hp : (Op.bytesLess la.toList lb'.toList) <;> cases hq : (Op.bytesLess ua.toList ub.toList || ua.toList == ub.toList)
      · rw [show wi ⟨sa, ta, la, ua, false⟩ ⟨sb, tb, lb', ub, false⟩ = false by simp only [wi, h, rch, lb, hp, hq]; rfl]
        exact rwithin_ffff w h hs hp hq
      · rw [show wi ⟨sa, ta, la, ua, false⟩ ⟨sb, tb, lb', ub, false⟩ = true by simp only [wi, h, rch, lb, hp, hq]; rfl]
        exact rwithin_ffft w h hs hp hq
      · rw [show wi ⟨sa, ta, la, ua, false⟩ ⟨sb, tb, lb', ub, false⟩ = false by simp only [wi, h, rch, lb, hp, hq]; rfl]
        exact rwithin_fftf w h hs hp hq
      · rw [show wi ⟨sa, ta, la, ua, false⟩ ⟨sb, tb, lb', ub, false⟩ = false by simp only [wi, h, rch, lb, hp, hq]; rfl]
        exact rwithin_fftt w h hs hp hq
      · rw [show wi ⟨sa, ta, la, ua, false⟩ ⟨sb, tb, lb', ub, true⟩ = true by simp only [wi, h, rch, lb, hp, hq]; rfl]
        exact rwithin_ftff w h hs hp hq
      · rw [show wi ⟨sa, ta, la, ua, false⟩ ⟨sb, tb, lb', ub, true⟩ = true by simp only [wi, h, rch, lb, hp, hq]; rfl]
        exact rwithin_ftft w h hs hp hq
      · rw [show wi ⟨sa, ta, la, ua, false⟩ ⟨sb, tb, lb', ub, true⟩ = false by simp only [wi, h, rch, lb, hp, hq]; rfl]
        exact rwithin_fttf w h hs hp hq
      · rw [show wi ⟨sa, ta, la, ua, false⟩ ⟨sb, tb, lb', ub, true⟩ = false by simp only [wi, h, rch, lb, hp, hq]; rfl]
        exact rwithin_fttt w h hs hp hq
      · rw [show wi ⟨sa, ta, la, ua, true⟩ ⟨sb, tb, lb', ub, false⟩ = false by simp only [wi, h, rch, lb, hp, hq]; rfl]
        exact rwithin_tfff w h hs hp hq
      · rw [show wi ⟨sa, ta, la, ua, true⟩ ⟨sb, tb, lb', ub, false⟩ = false by simp only [wi, h, rch, lb, hp, hq]; rfl]
        exact rwithin_tfft w h hs hp hq
      · rw [show wi ⟨sa, ta, la, ua, true⟩ ⟨sb, tb, lb', ub, false⟩ = false by simp only [wi, h, rch, lb, hp, hq]; rfl]
        exact rwithin_tftf w h hs hp hq
      · rw [show wi ⟨sa, ta, la, ua, true⟩ ⟨sb, tb, lb', ub, false⟩ = false by simp only [wi, h, rch, lb, hp, hq]; rfl]
        exact rwithin_tftt w h hs hp hq
      · rw [show wi ⟨sa, ta, la, ua, true⟩ ⟨sb, tb, lb', ub, true⟩ = true by simp only [wi, h, rch, lb, hp, hq]; rfl]
        exact rwithin_ttff w h hs hp hq
      · rw [show wi ⟨sa, ta, la, ua, true⟩ ⟨sb, tb, lb', ub, true⟩ = true by simp only [wi, h, rch, lb, hp, hq]; rfl]
        exact rwithin_ttft w h hs hp hq
      · rw [show wi ⟨sa, ta, la, ua, true⟩ ⟨sb, tb, lb', ub, true⟩ = false by simp only [wi, h, rch, lb, hp, hq]; rfl]
        exact rwithin_tttf w h hs hp hq
      · rw [show wi ⟨sa, ta, la, ua, true⟩ ⟨sb, tb, lb', ub, true⟩ = false by simp only [wi, h, rch, lb, hp, hq]; rfl]
        exact rwithin_tttt w h hs hp hq
theorem meet_is {a b : Ob} {t : Bool} (h : mt a b = t) (w : World) :
    Calls Tryd.prog 80 #[a.v, b.v] w fun e w' => e = .returned (.bool t) ∧ Below w.heap.size w w' := h ▸ meet_any a b w
theorem within_is {a b : Ob} {t : Bool} (h : wi a b = t) (w : World) :
    Calls Tryd.prog 71 #[a.v, b.v] w fun e w' => e = .returned (.bool t) ∧ Below w.heap.size w w' := h ▸ within_any a b w
theorem rmeet_is {a b : Ob} {t : Bool} (h : mt a b = t) (w : World) :
    Calls Tryd.prog 30 #[a.v, b.v] w fun e w' => e = .returned (.bool t) ∧ Below w.heap.size w w' := h ▸ rmeet_any a b w
theorem rwithin_is {a b : Ob} {t : Bool} (h : wi a b = t) (w : World) :
    Calls Tryd.prog 56 #[a.v, b.v] w fun e w' => e = .returned (.bool t) ∧ Below w.heap.size w w' := h ▸ rwithin_any a b w
end Go.Proofs.YtmldpbgdjlblmaaDoor

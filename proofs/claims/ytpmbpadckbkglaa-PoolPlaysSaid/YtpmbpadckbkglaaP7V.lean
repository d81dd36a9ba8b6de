/- The pool: Flush. -/
import Derived.Test.YtpmbpadckbkglaaP7P
namespace Go.Proofs.Ytpmbpadckbkglaa
open Go.RowKit Go.Maps
set_option linter.unusedVariables false
set_option linter.unusedSimpArgs false

/-- A pool whose pages l are clean. -/
def PS.cleanL (P : PS) (l : List Int) : PS := { P with fr := fun k => if k ∈ l then { P.fr k with dirty := false } else P.fr k }
/-- A disk, the dirty ones of the pages l written. -/
def DS.cleanL (D : DS) (P : PS) : List Int → DS
  | [] => D
  | k :: l => (D.cleaned P k).cleanL P l
theorem cleanL_snoc (D : DS) (P : PS) (l : List Int) (k : Int) : D.cleanL P (l ++ [k]) = (D.cleanL P l).cleaned P k := by
  induction l generalizing D with
  | nil => rfl
  | cons x xs ih => show DS.cleanL _ P (xs ++ [k]) = _; rw [ih]; rfl
theorem cleanL_size (D : DS) (P : PS) (l : List Int) : (D.cleanL P l).size = D.size := by
  induction l generalizing D with
  | nil => rfl
  | cons x xs ih => show (DS.cleanL _ P xs).size = _; rw [ih, cleaned_size]
theorem cleanL_ws (D : DS) (P : PS) (l : List Int) : (D.cleanL P l).ws.length ≤ D.ws.length + 16 * l.length := by
  induction l generalizing D with
  | nil => simp [DS.cleanL]
  | cons x xs ih =>
    have h1 := ih (D.cleaned P x)
    have h2 := cleaned_ws D P x
    show (DS.cleanL _ P xs).ws.length ≤ _
    rw [List.length_cons]; omega
theorem cleaned_congr (D : DS) (P Q : PS) (k : Int) (h1 : Q.first = P.first) (h2 : Q.fr k = P.fr k) : D.cleaned Q k = D.cleaned P k := by
  unfold DS.cleaned; rw [h1, h2]
theorem POk.cleanL {P : PS} (h : POk P) (l : List Int) : POk (P.cleanL l) := by
  have hfr : ∀ k, ((P.cleanL l).fr k).bytes = (P.fr k).bytes ∧ ((P.cleanL l).fr k).pins = (P.fr k).pins ∧ ((P.cleanL l).fr k).mark = (P.fr k).mark ∧ ((P.cleanL l).fr k).used = (P.fr k).used := fun k => by
    unfold PS.cleanL; simp only []; split <;> exact ⟨rfl, rfl, rfl, rfl⟩
  refine ⟨h.rise, h.rng, h.first, h.pages, h.size, h.len, h.safe, h.uses, fun k hk => ?_, fun i hi j hj e => ?_⟩
  · obtain ⟨a, b, c, d⟩ := h.fr k hk
    obtain ⟨e1, e2, e3, e4⟩ := hfr k
    exact ⟨by rw [e1]; exact a, by rw [e2]; exact b, by rw [e3]; exact c, by rw [e4]; exact d⟩
  · exact h.apart i hi j hj (by rw [← (hfr i).2.2.2, ← (hfr j).2.2.2]; exact e)
theorem PS.cleanL_nil (P : PS) : P.cleanL [] = P := by unfold PS.cleanL; simp
theorem PS.cleanL_snoc (P : PS) (l : List Int) (k : Int) (hk : k ∉ l) : { P.cleanL l with fr := updA (P.cleanL l).fr k { (P.cleanL l).fr k with dirty := false } } = P.cleanL (l ++ [k]) := by
  unfold PS.cleanL
  simp only [PS.mk.injEq, true_and, and_true]
  funext j
  unfold updA
  by_cases e : j = k
  · subst e; simp [hk]
  · simp [e]
/-- What Flush comes to. -/
inductive FlushOut (base : Nat) (w : World) (F G : Nat → Prop) (p dp : Value) (n : Nat) (P : PS) (D : DS) (e : Ending) (w' : World) : Prop
  | behind (he : e = .returned (.int .i64 74)) (hx : ∃ k ∈ P.keys, beh P.safe (P.fr k) = true) (hb : Below w.heap.size w w')
  | ok (he : e = .returned (.int .i64 0)) (hx : ∀ k ∈ P.keys, beh P.safe (P.fr k) = false) (ht : PTo base w F G p dp n (P.cleanL P.keys) (D.cleanL P P.keys) w')
end Go.Proofs.Ytpmbpadckbkglaa

/- A statement's tokens at other places, and with a sign ; behind: the same tree (pure). -/
import Derived.Test.YtbkeaajnhalekaaGreatDoorP14MO
namespace Go.Proofs.YtbkeaajnhalekaaGreatDoor
set_option linter.unusedVariables false
set_option linter.unusedSimpArgs false

/-- The last token is no sign ;. -/
def NoEnd (ts : List Tok) : Prop := ∀ t, ts.getLast? = some t → ¬ (t.k = 3 ∧ t.s = [59])
theorem noEnd_tail (t : Tok) (q : List Tok) (h : NoEnd (t :: q)) : NoEnd q := fun x hx => by
  cases q with
  | nil => simp at hx
  | cons y q => exact h x (by rw [List.getLast?_cons_cons]; exact hx)
def exN : Ex := ⟨[], fun _ => True, fun _ _ _ => trivial⟩
def exE : Ex := ⟨[⟨3, [59], 0, 0⟩], NoEnd, noEnd_tail⟩
def exP : Ex := ⟨[⟨3, [41], 0, 0⟩], fun _ => True, fun _ _ _ => trivial⟩
theorem exN_inert : Inert true exN := ⟨Or.inl rfl⟩
theorem exE_inert : Inert true exE := ⟨Or.inr (Or.inl rfl)⟩
theorem exP_inert : Inert false exP := ⟨Or.inr (Or.inr ⟨rfl, rfl⟩)⟩
theorem sgF_cons (s : List UInt8) (t : Tok) (q : List Tok) : sgF s (t :: q) = if t.k == 3 && t.s == s then some (t.s, q) else none := by
  unfold sgF oneF
  simp
/-- What is left behind a statement. -/
def endF (r : List Tok) : List Tok := match sgF [59] r with | none => r | some (_, r2) => r2
theorem end_same {e : Ex} (hx : e = exN ∨ e = exE) {r r' : List Tok} (h : Sm e r r') : (endF r' = []) ↔ (endF r = []) := by
  unfold endF
  cases r with
  | nil =>
    have hl := h.eq
    rcases hx with rfl | rfl
    · have : r' = [] := by simpa [exN] using hl
      subst this; rfl
    · cases r' with
      | nil => simp [exE] at hl
      | cons t q =>
        simp only [exE, List.map_cons, List.map_nil, List.nil_append, List.cons.injEq, List.map_eq_nil_iff] at hl
        obtain ⟨h1, rfl⟩ := hl
        have g1 : t.k = 3 := congrArg Tok.k h1
        have g2 : t.s = [59] := congrArg Tok.s h1
        rw [sgF_cons]
        simp [g1, g2, sgF, oneF]
  | cons t q =>
    obtain ⟨t', q', rfl, h1, h2, h3, hq⟩ := h.cons
    rw [sgF_cons, sgF_cons, h1, h2]
    by_cases c : (t.k == 3 && t.s == [59]) = true
    · simp only [c, if_true]
      have hl := hq.len
      rcases hx with rfl | rfl
      · have : q'.length = q.length := hl
        rw [← List.length_eq_zero_iff, ← List.length_eq_zero_iff, this]
      · have : q'.length = q.length + 1 := hl
        constructor
        · intro h0; rw [h0] at this; simp at this
        · intro h0
          subst h0
          have := h.q t rfl
          simp only [Bool.and_eq_true, beq_iff_eq] at c
          exact absurd c this
    · simp only [c, if_false, Bool.false_eq_true]
      simp
theorem whl_same {e : Ex} (hx : e = exN ∨ e = exE) {l l' : List Tok} (h : Sm e l l') : whlF (recs (l'.length + 2)) l' = whlF (recs (l.length + 2)) l := by
  have he : Inert true e := by
    rcases hx with rfl | rfl
    · exact exN_inert
    · exact exE_inert
  have hl := h.len
  have hR := recs_bi he (l.length + 1) (l.length + 2) (l'.length + 2) (by omega) (by omega)
  unfold whlF
  rcases sttF_bi he hR l l' h (by omega) with ⟨g1, k1⟩ | ⟨x, r, r', g1, k1, h1, l1⟩
  · rw [g1, k1 rfl]
  · rw [g1, k1]
    have := end_same hx h1
    show (if endF r' = [] then some x else none) = if endF r = [] then some x else none
    by_cases c : endF r = []
    · rw [if_pos c, if_pos (this.2 c)]
    · rw [if_neg c, if_neg (fun h => c (this.1 h))]
/-- Two texts whose tokens are the same but for their places, and for a sign ; at the end: Parse comes to the same. -/
theorem pr_same {e : Ex} (hx : e = exN ∨ e = exE) {s s' : List UInt8} {l l' : List Tok} (hs : scF s = .ok l) (hs' : scF s' = .ok l') (h : Sm e l l') : prF s' = prF s := by
  unfold prF
  rw [hs, hs']
  simp only
  rw [whl_same hx h]
end Go.Proofs.YtbkeaajnhalekaaGreatDoor

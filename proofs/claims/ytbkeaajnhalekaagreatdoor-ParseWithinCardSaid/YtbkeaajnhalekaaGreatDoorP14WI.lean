/- An expression in parentheses (pure). -/
import Derived.Test.YtbkeaajnhalekaaGreatDoorP14MP
namespace Go.Proofs.YtbkeaajnhalekaaGreatDoor
set_option linter.unusedVariables false
set_option linter.unusedSimpArgs false

/-- The tree of a query's only condition. -/
def condF : Tr → Option Tr
  | .mk op _ _ [.mk op2 _ _ [_, _, .mk _ _ _ [c], _, _], _] => if op = [113, 117, 101, 114, 121] ∧ op2 = [115, 101, 108, 101, 99, 116] then some c else none
  | _ => none
/-- Nothing stands behind it. -/
def bareF : Tr → Prop
  | .mk _ _ _ [.mk _ _ _ [_, _, _, g, h], o] => g.L = [] ∧ h.L = [] ∧ o.L = []
  | _ => False
theorem chN_top {I : Ps Tr} {K : Lk} {P : List UInt8 → Prop} (hK : ∀ ts op m r, K ts = some ((op, m), r) → P op) : ∀ (n : Nat) (a : Tr) {ts r : List Tok} {t : Tr}, chN I K n a ts = some (t, r) → (t = a ∧ r = ts ∧ K ts = none) ∨ P t.op
  | 0, _, _, _, _, h => by simp [chN] at h
  | n + 1, a, ts, r, t, h => by
    unfold chN at h
    cases hk : K ts with
    | none =>
      simp only [hk, Option.some.injEq, Prod.mk.injEq] at h
      obtain ⟨rfl, rfl⟩ := h
      exact Or.inl ⟨rfl, rfl, rfl⟩
    | some p =>
      obtain ⟨⟨op, m⟩, r1⟩ := p
      simp only [hk] at h
      cases hi : I r1 with
      | none => simp only [hi] at h; cases h
      | some p2 =>
        obtain ⟨x, r2⟩ := p2
        simp only [hi] at h
        rcases chN_top hK n _ h with ⟨rfl, _, _⟩ | h
        · exact Or.inr (hK _ _ _ _ hk)
        · exact Or.inr h
theorem setLk_op {of : List (List UInt8)} : ∀ ts op m r, setLk of ts = some ((op, m), r) → op ∈ of := by
  intro ts op m r h
  unfold setLk at h
  cases ts with
  | nil => simp [oneF] at h
  | cons t q =>
    unfold oneF at h
    by_cases c : (t.k == 0 && of.contains t.s) = true
    · simp only [c, if_true, Option.some.injEq, Prod.mk.injEq] at h
      simp only [Bool.and_eq_true] at c
      obtain ⟨⟨rfl, _⟩, _⟩ := h
      simpa using c.2
    · simp only [c, if_false, Bool.false_eq_true] at h; cases h
theorem lsN_ne {I : Ps Tr} : ∀ (n : Nat) (a : List Tr) {ts r : List Tok} {l : List Tr}, a ≠ [] → lsN I n a ts = some (l, r) → l ≠ []
  | 0, _, _, _, _, _, h => by simp [lsN] at h
  | n + 1, a, ts, r, l, ha, h => by
    unfold lsN at h
    cases hk : sgF [44] ts with
    | none =>
      simp only [hk, Option.some.injEq, Prod.mk.injEq] at h
      obtain ⟨rfl, rfl⟩ := h
      exact ha
    | some p =>
      obtain ⟨_, r1⟩ := p
      simp only [hk] at h
      cases hi : I r1 with
      | none => simp only [hi] at h; cases h
      | some p2 =>
        obtain ⟨x, r2⟩ := p2
        simp only [hi] at h
        exact lsN_ne n _ (by simp) h
theorem lsF_ne {I : Ps Tr} {ts r : List Tok} {l : List Tr} (h : lsF I ts = some (l, r)) : l ≠ [] := by
  unfold lsF at h
  cases hi : I ts with
  | none => simp only [hi] at h; cases h
  | some p2 =>
    obtain ⟨x, r2⟩ := p2
    simp only [hi] at h
    exact lsN_ne _ _ (by simp) h
/-- The five tokens ahead of the expression. -/
def p5 (lE : List Tok) : List Tok := ⟨0, [115, 101, 108, 101, 99, 116], 0, 0⟩ :: ⟨0, [120], 0, 7⟩ :: ⟨0, [102, 114, 111, 109], 0, 9⟩ :: ⟨0, [116], 0, 14⟩ :: ⟨0, [119, 104, 101, 114, 101], 0, 16⟩ :: lE
abbrev selT (c g h : Tr) : Tr := .mk [115, 101, 108, 101, 99, 116] [] 0 [nd [105, 116, 101, 109, 115] [] [nd [105, 116, 101, 109] [] [nd [99, 111, 108] [120] []]], nd [102, 114, 111, 109] [] [nd [116, 97, 98, 108, 101] [116] [nd [97, 115] [116] []]], nd [119, 104, 101, 114, 101] [] [c], g, h]
def restF (n : Nat) (c : Tr) (r4 : List Tok) : Option (Tr × List Tok) := match groupF r4 with
  | none => none
  | some (g, r5) => match clsF (recs n) [104, 97, 118, 105, 110, 103] r5 with
    | none => none
    | some (h, r6) => some (selT c g h, r6)
theorem sel_eval (n : Nat) (lE : List Tok) : simF (recs (n + 1)) (p5 lE) = match exprF (recs n) lE with
  | none => none
  | some (c, r4) => restF (n + 1) c r4 := by
  have h : simF (recs (n + 1)) (p5 lE) = match clsF (recs (n + 1)) [119, 104, 101, 114, 101] (⟨0, [119, 104, 101, 114, 101], 0, 16⟩ :: lE) with
    | none => none
    | some (wh, r4) => match groupF r4 with
      | none => none
      | some (g, r5) => match clsF (recs (n + 1)) [104, 97, 118, 105, 110, 103] r5 with
        | none => none
        | some (h, r6) => some (.mk [115, 101, 108, 101, 99, 116] [] 0 [nd [105, 116, 101, 109, 115] [] [nd [105, 116, 101, 109] [] [nd [99, 111, 108] [120] []]], nd [102, 114, 111, 109] [] [nd [116, 97, 98, 108, 101] [116] [nd [97, 115] [116] []]], wh, g, h], r6) := by rfl
  rw [h]
  have h2 : clsF (recs (n + 1)) [119, 104, 101, 114, 101] (⟨0, [119, 104, 101, 114, 101], 0, 16⟩ :: lE) = match exprF (recs n) lE with
    | none => none
    | some (e, r) => some (nd [119, 104, 101, 114, 101] [] [e], r) := by rfl
  rw [h2]
  cases exprF (recs n) lE with
  | none => rfl
  | some p => rfl
theorem stt_eval (n : Nat) (lE : List Tok) : sttF (recs (n + 2)) (p5 lE) = match bodF (recs (n + 1)) (p5 lE) with
  | none => none
  | some (b, r) => if tkB [[111, 114, 100, 101, 114], [98, 121]] r then match lsF keyF (tkR [[111, 114, 100, 101, 114], [98, 121]] r) with
      | none => none
      | some (l, r2) => some (nd [113, 117, 101, 114, 121] [] [b, nd [111, 114, 100, 101, 114] [] l], r2)
    else some (nd [113, 117, 101, 114, 121] [] [b, nd [111, 114, 100, 101, 114] [] []], r) := by rfl
theorem whl_eq (R : Rc) (ts : List Tok) : whlF R ts = match sttF R ts with
  | none => none
  | some (t, r) => if endF r = [] then some t else none := rfl
/-- What the expression of a query came to. -/
theorem top_cond {n : Nat} {lE : List Tok} {a x : Tr} (h : whlF (recs (n + 2)) (p5 lE) = some a) (hx : condF a = some x) : ∃ r4, exprF (recs n) lE = some (x, r4) ∧ (bareF a → endF r4 = []) := by
  rw [whl_eq, stt_eval] at h
  have hb : bodF (recs (n + 1)) (p5 lE) = match trmF (recs (n + 1)) (p5 lE) with
    | none => none
    | some (x, r) => chN (trmF (recs (n + 1))) (setLk [[117, 110, 105, 111, 110], [101, 120, 99, 101, 112, 116]]) (r.length + 1) x r := rfl
  have ht : trmF (recs (n + 1)) (p5 lE) = match simF (recs (n + 1)) (p5 lE) with
    | none => none
    | some (x, r) => chN (simF (recs (n + 1))) (setLk [[105, 110, 116, 101, 114, 115, 101, 99, 116]]) (r.length + 1) x r := rfl
  rw [sel_eval] at ht
  cases he : exprF (recs n) lE with
  | none => simp only [he] at ht; rw [ht] at hb; simp only at hb; rw [hb] at h; simp at h
  | some p =>
    obtain ⟨c, r4⟩ := p
    refine ⟨r4, ?_⟩
    simp only [he] at ht
    cases hr : restF (n + 1) c r4 with
    | none => simp only [hr] at ht; rw [ht] at hb; simp only at hb; rw [hb] at h; simp at h
    | some p =>
      obtain ⟨s0, r6⟩ := p
      simp only [hr] at ht
      cases ht1 : chN (simF (recs (n + 1))) (setLk [[105, 110, 116, 101, 114, 115, 101, 99, 116]]) (r6.length + 1) s0 r6 with
      | none => rw [ht1] at ht; rw [ht] at hb; simp only at hb; rw [hb] at h; simp at h
      | some p =>
        obtain ⟨t1, q1⟩ := p
        rw [ht1] at ht
        rw [ht] at hb
        simp only at hb
        cases hb1 : chN (trmF (recs (n + 1))) (setLk [[117, 110, 105, 111, 110], [101, 120, 99, 101, 112, 116]]) (q1.length + 1) t1 q1 with
        | none => rw [hb1] at hb; rw [hb] at h; simp at h
        | some p =>
          obtain ⟨t2, q2⟩ := p
          rw [hb1] at hb
          rw [hb] at h
          simp only at h
          have hord : ∃ o q3, a = nd [113, 117, 101, 114, 121] [] [t2, o] ∧ (o.L = [] → q3 = q2) ∧ endF q3 = [] := by
            by_cases co : tkB [[111, 114, 100, 101, 114], [98, 121]] q2 = true
            · simp only [co, if_true] at h
              cases hl : lsF keyF (tkR [[111, 114, 100, 101, 114], [98, 121]] q2) with
              | none => simp only [hl] at h; cases h
              | some p =>
                obtain ⟨l, q3⟩ := p
                simp only [hl] at h
                have hne := lsF_ne hl
                by_cases ce : endF q3 = []
                · rw [if_pos ce] at h
                  exact ⟨_, q3, (Option.some.inj h).symm, fun h0 => absurd h0 hne, ce⟩
                · rw [if_neg ce] at h
                  cases h
            · simp only [co, if_false, Bool.false_eq_true] at h
              by_cases ce : endF q2 = []
              · rw [if_pos ce] at h
                exact ⟨_, q2, (Option.some.inj h).symm, fun _ => rfl, ce⟩
              · rw [if_neg ce] at h
                cases h
          obtain ⟨o, q3, rfl, ho, he3⟩ := hord
          have hop : t2.op = [115, 101, 108, 101, 99, 116] := by
            unfold condF at hx
            split at hx
            · rename_i heq
              simp only [Tr.mk.injEq, List.cons.injEq] at heq
              obtain ⟨_, _, _, h1, _⟩ := heq
              rw [h1]
              split at hx
              · rename_i h2; exact h2.2
              · cases hx
            · cases hx
          rcases chN_top (P := fun op => op ∈ [[117, 110, 105, 111, 110], [101, 120, 99, 101, 112, 116]]) setLk_op _ _ hb1 with ⟨rfl, rfl, _⟩ | hP
          · rcases chN_top (P := fun op => op ∈ [[105, 110, 116, 101, 114, 115, 101, 99, 116]]) setLk_op _ _ ht1 with ⟨rfl, rfl, _⟩ | hP
            · unfold restF at hr
              cases hg : groupF r4 with
              | none => simp only [hg] at hr; cases hr
              | some p =>
                obtain ⟨g, r5⟩ := p
                simp only [hg] at hr
                cases hh : clsF (recs (n + 1)) [104, 97, 118, 105, 110, 103] r5 with
                | none => simp only [hh] at hr; cases hr
                | some p =>
                  obtain ⟨hv, r6'⟩ := p
                  simp only [hh, Option.some.injEq, Prod.mk.injEq] at hr
                  obtain ⟨rfl, rfl⟩ := hr
                  have hxc : condF (nd [113, 117, 101, 114, 121] [] [selT c g hv, o]) = some c := rfl
                  rw [hxc] at hx
                  obtain rfl := Option.some.inj hx
                  refine ⟨rfl, fun hbare => ?_⟩
                  obtain ⟨b1, b2, b3⟩ : g.L = [] ∧ hv.L = [] ∧ o.L = [] := hbare
                  have e1 : r5 = r4 := by
                    unfold groupF at hg
                    by_cases cg : tkB [[103, 114, 111, 117, 112], [98, 121]] r4 = true
                    · simp only [cg, if_true] at hg
                      cases hl : lsF colF (tkR [[103, 114, 111, 117, 112], [98, 121]] r4) with
                      | none => simp only [hl] at hg; cases hg
                      | some p =>
                        obtain ⟨l, _⟩ := p
                        simp only [hl, Option.some.injEq, Prod.mk.injEq] at hg
                        rw [← hg.1] at b1
                        exact absurd b1 (lsF_ne hl)
                    · simp only [cg, if_false, Bool.false_eq_true, Option.some.injEq, Prod.mk.injEq] at hg
                      exact hg.2.symm
                  have e2 : r6' = r5 := by
                    unfold clsF at hh
                    by_cases cg : tkB [[104, 97, 118, 105, 110, 103]] r5 = true
                    · simp only [cg, if_true] at hh
                      cases hl : (recs (n + 1)).expr (tkR [[104, 97, 118, 105, 110, 103]] r5) with
                      | none => simp only [hl] at hh; cases hh
                      | some p =>
                        obtain ⟨l, _⟩ := p
                        simp only [hl, Option.some.injEq, Prod.mk.injEq] at hh
                        rw [← hh.1] at b2
                        cases b2
                    · simp only [cg, if_false, Bool.false_eq_true, Option.some.injEq, Prod.mk.injEq] at hh
                      exact hh.2.symm
                  rw [ho b3, e2, e1] at he3
                  exact he3
            · rw [hop] at hP
              exact absurd hP (by decide)
          · rw [hop] at hP
            exact absurd hP (by decide)
end Go.Proofs.YtbkeaajnhalekaaGreatDoor

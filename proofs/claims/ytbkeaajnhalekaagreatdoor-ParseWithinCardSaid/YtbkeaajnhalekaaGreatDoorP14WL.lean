/- What a query of our text comes to: its form (pure). -/
import Derived.Test.YtbkeaajnhalekaaGreatDoorP14WK
namespace Go.Proofs.YtbkeaajnhalekaaGreatDoor
set_option linter.unusedVariables false
set_option linter.unusedSimpArgs false

theorem top_form {n : Nat} {lE : List Tok} {a : Tr} (h : whlF (recs (n + 2)) (p5 lE) = some a) : ∃ b o, a = nd [113, 117, 101, 114, 121] [] [b, o] ∧ ((b.op == [115, 101, 108, 101, 99, 116]) = false ∨ ∃ c g hv, b = selT c g hv) := by
  rw [whl_eq, stt_eval] at h
  have hb : bodF (recs (n + 1)) (p5 lE) = match trmF (recs (n + 1)) (p5 lE) with
    | none => none
    | some (x, r) => chN (trmF (recs (n + 1))) (setLk [[117, 110, 105, 111, 110], [101, 120, 99, 101, 112, 116]]) (r.length + 1) x r := rfl
  have ht : trmF (recs (n + 1)) (p5 lE) = match simF (recs (n + 1)) (p5 lE) with
    | none => none
    | some (x, r) => chN (simF (recs (n + 1))) (setLk [[105, 110, 116, 101, 114, 115, 101, 99, 116]]) (r.length + 1) x r := rfl
  rw [sel_eval] at ht
  cases he : exprF (recs n) lE with
  | none => simp only [he] at ht; rw [ht] at hb; simp only at hb; rw [hb] at h; simp at h
  | some p =>
    obtain ⟨c, r4⟩ := p
    simp only [he] at ht
    cases hr : restF (n + 1) c r4 with
    | none => simp only [hr] at ht; rw [ht] at hb; simp only at hb; rw [hb] at h; simp at h
    | some p =>
      obtain ⟨s0, r6⟩ := p
      simp only [hr] at ht
      cases ht1 : chN (simF (recs (n + 1))) (setLk [[105, 110, 116, 101, 114, 115, 101, 99, 116]]) (r6.length + 1) s0 r6 with
      | none => rw [ht1] at ht; rw [ht] at hb; simp only at hb; rw [hb] at h; simp at h
      | some p =>
        obtain ⟨t1, q1⟩ := p
        rw [ht1] at ht
        rw [ht] at hb
        simp only at hb
        cases hb1 : chN (trmF (recs (n + 1))) (setLk [[117, 110, 105, 111, 110], [101, 120, 99, 101, 112, 116]]) (q1.length + 1) t1 q1 with
        | none => rw [hb1] at hb; rw [hb] at h; simp at h
        | some p =>
          obtain ⟨t2, q2⟩ := p
          rw [hb1] at hb
          rw [hb] at h
          simp only at h
          have hord : ∃ o q3, a = nd [113, 117, 101, 114, 121] [] [t2, o] ∧ (o.L = [] → q3 = q2) ∧ endF q3 = [] := by
            by_cases co : tkB [[111, 114, 100, 101, 114], [98, 121]] q2 = true
            · simp only [co, if_true] at h
              cases hl : lsF keyF (tkR [[111, 114, 100, 101, 114], [98, 121]] q2) with
              | none => simp only [hl] at h; cases h
              | some p =>
                obtain ⟨l, q3⟩ := p
                simp only [hl] at h
                have hne := lsF_ne hl
                by_cases ce : endF q3 = []
                · rw [if_pos ce] at h
                  exact ⟨_, q3, (Option.some.inj h).symm, fun h0 => absurd h0 hne, ce⟩
                · rw [if_neg ce] at h
                  cases h
            · simp only [co, if_false, Bool.false_eq_true] at h
              by_cases ce : endF q2 = []
              · rw [if_pos ce] at h
                exact ⟨_, q2, (Option.some.inj h).symm, fun _ => rfl, ce⟩
              · rw [if_neg ce] at h
                cases h
          obtain ⟨o, q3, rfl, ho, he3⟩ := hord
          refine ⟨t2, o, rfl, ?_⟩
          rcases chN_top (P := fun op => op ∈ [[117, 110, 105, 111, 110], [101, 120, 99, 101, 112, 116]]) setLk_op _ _ hb1 with ⟨rfl, rfl, _⟩ | hP
          · rcases chN_top (P := fun op => op ∈ [[105, 110, 116, 101, 114, 115, 101, 99, 116]]) setLk_op _ _ ht1 with ⟨rfl, rfl, _⟩ | hP
            · unfold restF at hr
              cases hg : groupF r4 with
              | none => simp only [hg] at hr; cases hr
              | some p =>
                obtain ⟨g, r5⟩ := p
                simp only [hg] at hr
                cases hh : clsF (recs (n + 1)) [104, 97, 118, 105, 110, 103] r5 with
                | none => simp only [hh] at hr; cases hr
                | some p =>
                  obtain ⟨hv, r6'⟩ := p
                  simp only [hh, Option.some.injEq, Prod.mk.injEq] at hr
                  obtain ⟨rfl, rfl⟩ := hr
                  exact Or.inr ⟨c, g, hv, rfl⟩
            · left
              simp only [List.mem_cons, List.not_mem_nil, or_false] at hP
              rw [hP]; rfl
          · left
            simp only [List.mem_cons, List.not_mem_nil, or_false] at hP
            rcases hP with hP | hP <;> rw [hP] <;> rfl
theorem pr_form {T : List UInt8} {a : Tr} (h : prF (P1 ++ T) = .ok a) : ∃ b o, a = nd [113, 117, 101, 114, 121] [] [b, o] ∧ ((b.op == [115, 101, 108, 101, 99, 116]) = false ∨ ∃ c g hv, b = selT c g hv) := by
  obtain ⟨l, tA, wA⟩ := pr_ok h
  obtain ⟨lE, rfl, _⟩ := p1_tk tA
  have h2 : whlF (recs (lE.length + 5 + 2)) (p5 lE) = some a := by rw [← p5_len]; exact wA
  exact top_form h2
theorem within_sel {E : List UInt8} {x g h o y g2 h2 o2 z g3 h3 o3 : Tr} (ha : prF (P1 ++ E) = .ok (nd [113, 117, 101, 114, 121] [] [selT x g h, o])) (hb : prF (P1 ++ 40 :: (E ++ [10, 41])) = .ok (nd [113, 117, 101, 114, 121] [] [selT y g2 h2, o2])) (hc : prF (P1 ++ 40 :: 32 :: 40 :: (E ++ [10, 41, 32, 41, 32])) = .ok (nd [113, 117, 101, 114, 121] [] [selT z g3 h3, o3]))
    (h1 : g.L = []) (h4 : h.L = []) (h5 : o.L = []) : y = x ∧ z = x := within_pr ha hb hc rfl rfl rfl ⟨h1, h4, h5⟩
end Go.Proofs.YtbkeaajnhalekaaGreatDoor

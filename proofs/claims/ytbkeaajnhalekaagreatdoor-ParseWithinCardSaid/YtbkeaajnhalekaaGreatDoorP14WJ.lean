/- An expression in parentheses comes to what it comes to without (pure). -/
import Derived.Test.YtbkeaajnhalekaaGreatDoorP14WI
namespace Go.Proofs.YtbkeaajnhalekaaGreatDoor
set_option linter.unusedVariables false
set_option linter.unusedSimpArgs false

theorem chF_stop {I : Ps Tr} {K : Lk} {ts r : List Tok} {x : Tr} (h : I ts = some (x, r)) (hK : K r = none) : chF I K ts = some (x, r) := by
  unfold chF; simp only [h]; unfold chN; simp only [hK]
theorem chF_none {I : Ps Tr} {K : Lk} {ts : List Tok} (h : I ts = none) : chF I K ts = none := by
  unfold chF; simp only [h]
/-- Nothing there goes on with an expression. -/
structure Stops (r : List Tok) : Prop where
  k1 : sgLk [[42], [47]] r = none
  k2 : sgLk [[43], [45], [124, 124]] r = none
  k3 : oneF 3 [[61], [60, 62], [60], [60, 61], [62], [62, 61]] r = none
  k4 : tkB [[105, 115]] r = false
  k5 : tkB [[110, 111, 116]] r = false
  k6 : tkB [[98, 101, 116, 119, 101, 101, 110]] r = false
  k7 : tkB [[108, 105, 107, 101]] r = false
  k8 : tkB [[105, 110]] r = false
  k9 : wdLk [97, 110, 100] r = none
  k10 : wdLk [111, 114] r = none
theorem up_stop {R : Rc} {ts r : List Tok} {x : Tr} (hs : Stops r) (hn : tkB [[110, 111, 116]] ts = false) (h : facF R ts = some (x, r)) : exprF R ts = some (x, r) := by
  have h1 : proF R ts = some (x, r) := chF_stop h hs.k1
  have h2 : sumF R ts = some (x, r) := chF_stop h1 hs.k2
  have h3 : tstF R ts = some (x, r) := by
    unfold tstF wtF
    simp only [h2, hs.k3, hs.k4, hs.k5, tkR_no hs.k5, hs.k6, hs.k7, hs.k8, if_false, Bool.false_eq_true]
  have h4 : negF R ts = some (x, r) := by
    unfold negF
    simp only [hn, if_false, Bool.false_eq_true, h3]
  have h5 : conF R ts = some (x, r) := chF_stop h4 hs.k9
  exact chF_stop h5 hs.k10
theorem up_none {R : Rc} {ts : List Tok} (hn : tkB [[110, 111, 116]] ts = false) (h : facF R ts = none) : exprF R ts = none := by
  have h1 : proF R ts = none := chF_none h
  have h2 : sumF R ts = none := chF_none h1
  have h3 : tstF R ts = none := by
    unfold tstF
    simp only [h2]
  have h4 : negF R ts = none := by
    unfold negF
    simp only [hn, if_false, Bool.false_eq_true, h3]
  exact chF_none (chF_none h4)
theorem stops_nil : Stops [] := ⟨rfl, rfl, rfl, rfl, rfl, rfl, rfl, rfl, rfl, rfl⟩
/-- What ends an expression, and a body. -/
theorem stops_end {t : Tok} (q : List Tok) (h : (t.k = 3 ∧ t.s = [41]) ∨ (t.k = 0 ∧ (t.s = [105, 110, 116, 101, 114, 115, 101, 99, 116] ∨ t.s = [117, 110, 105, 111, 110] ∨ t.s = [101, 120, 99, 101, 112, 116]))) : Stops (t :: q) := by
  obtain ⟨k, s, n, p⟩ := t
  simp only at h
  rcases h with ⟨rfl, rfl⟩ | ⟨rfl, rfl | rfl | rfl⟩ <;> exact ⟨rfl, rfl, rfl, rfl, rfl, rfl, rfl, rfl, rfl, rfl⟩
theorem expr_sel (R : Rc) (v : Int) (p : Nat) (q : List Tok) : exprF R (⟨0, [115, 101, 108, 101, 99, 116], v, p⟩ :: q) = none := by rfl
theorem expr_nil (R : Rc) : exprF R [] = none := by rfl
abbrev opT (p : Nat) : Tok := ⟨3, [40], 0, p⟩
theorem fac_op (R : Rc) (v : Int) (p : Nat) (q : List Tok) : facF R (⟨3, [40], v, p⟩ :: q) = if opnB (⟨3, [40], v, p⟩ :: q) then match parF R.body (⟨3, [40], v, p⟩ :: q) with
    | none => none
    | some (b, r2) => some (nd [115, 99, 97, 108, 97, 114] [] [b], r2)
  else parF R.expr (⟨3, [40], v, p⟩ :: q) := rfl
theorem par_op {α : Type} (I : Ps α) (v : Int) (p : Nat) (q : List Tok) : parF I (⟨3, [40], v, p⟩ :: q) = match I q with
    | none => none
    | some (x, r2) => match sgF [41] r2 with
      | none => none
      | some (_, r3) => some (x, r3) := rfl
theorem opn_op (v : Int) (p : Nat) (q : List Tok) : opnN (⟨3, [40], v, p⟩ :: q) = opnN q + 1 := rfl
theorem shut_exP {r r' : List Tok} (h : Sm exP r r') : r = [] → ∃ t, r' = [t] ∧ t.k = 3 ∧ t.s = [41] := by
  intro h0
  subst h0
  have hl := h.eq
  cases r' with
  | nil => simp [exP] at hl
  | cons t q =>
    simp only [exP, List.map_cons, List.map_nil, List.nil_append, List.cons.injEq, List.map_eq_nil_iff] at hl
    obtain ⟨h1, rfl⟩ := hl
    exact ⟨t, rfl, congrArg Tok.k h1, congrArg Tok.s h1⟩
theorem sg_yes {t : Tok} (q : List Tok) (h : t.k = 3 ∧ t.s = [41]) : sgF [41] (t :: q) = some ([41], q) := by
  rw [sgF_cons]; simp [h.1, h.2]
theorem sg_no {t : Tok} (q : List Tok) (h : ¬ (t.k = 3 ∧ t.s = [41])) : sgF [41] (t :: q) = none := by
  rw [sgF_cons]
  rw [if_neg]
  simpa using h
theorem setLk_none {of : List (List UInt8)} {t : Tok} (q : List Tok) (h : ¬ (t.k = 0 ∧ t.s ∈ of)) : setLk of (t :: q) = none := by
  have h2 : oneF 0 of (t :: q) = none := by
    unfold oneF
    simp only
    rw [if_neg]
    simpa using h
  unfold setLk
  rw [h2]
theorem end_cons {t : Tok} {q : List Tok} (h : endF (t :: q) = []) : t.k = 3 ∧ t.s = [59] ∧ q = [] := by
  unfold endF at h
  rw [sgF_cons] at h
  by_cases c : (t.k == 3 && t.s == [59]) = true
  · simp only [c, if_true] at h
    simp only [Bool.and_eq_true, beq_iff_eq] at c
    exact ⟨c.1, c.2, h⟩
  · simp only [c, if_false, Bool.false_eq_true] at h
    cases h
theorem within {n n2 : Nat} {lE lE' rE : List Tok} {x : Tr} {p : Nat} (hs : Sm exP lE lE') (hn : lE.length ≤ n) (hn2 : lE.length + 1 ≤ n2) (h : exprF (recs n) lE = some (x, rE)) (hend : endF rE = []) :
    exprF (recs n2) (opT p :: lE') = none ∨ exprF (recs n2) (opT p :: lE') = some (x, []) := by
  cases lE with
  | nil => rw [expr_nil] at h; cases h
  | cons t q =>
    obtain ⟨m2, rfl⟩ : ∃ m, n2 = m + 2 := ⟨n2 - 2, by simp at hn2; omega⟩
    have hR := recs_bi exP_inert (t :: q).length n (m2 + 1) hn (by omega)
    have hop : opnN (opT p :: lE') = opnN (t :: q) + 1 := by rw [opn_op, opnN_sm exP_inert hs]
    have hob : opnB (opT p :: lE') = sdB (opnN (t :: q)) 0 [115, 101, 108, 101, 99, 116] (t :: q) := by
      unfold opnB
      rw [hop]
      show (decide (0 < opnN (t :: q) + 1) && sdB (opnN (t :: q)) 0 [115, 101, 108, 101, 99, 116] lE') = _
      rw [sdB_sm exP_inert 0 _ (Or.inl (by decide)) _ hs]
      simp
    have hf := fac_op (recs (m2 + 2)) 0 p lE'
    by_cases hb : sdB (opnN (t :: q)) 0 [115, 101, 108, 101, 99, 116] (t :: q) = true
    · -- a body
      rw [hob, hb] at hf
      simp only [if_true, par_op] at hf
      by_cases ht : t.k = 3 ∧ t.s = [40]
      · obtain ⟨k, s, v, pl⟩ := t
        simp only at ht
        obtain ⟨rfl, rfl⟩ := ht
        have hb1 : opnB (⟨3, [40], v, pl⟩ :: q) = true := by
          unfold opnB
          rw [hb, opn_op]; simp
        have hf1 := fac_op (recs n) v pl q
        rw [hb1] at hf1
        simp only [if_true] at hf1
        cases hpb : parF (recs n).body (⟨3, [40], v, pl⟩ :: q) with
        | none =>
          rw [hpb] at hf1
          rw [up_none rfl hf1] at h
          cases h
        | some pr =>
          obtain ⟨b0, r0⟩ := pr
          rw [hpb] at hf1
          simp only at hf1
          rcases parF_bi exP_inert hR.body _ _ hs (by omega) with ⟨g1, _⟩ | ⟨b0', r0', r0'', g1, g2, hs0, _⟩
          · rw [hpb] at g1; cases g1
          · rw [hpb] at g1
            cases g1
            obtain ⟨t', q', rfl, e1, e2, _, _⟩ := hs.cons
            have hsim : simF (recs (m2 + 1)) (t' :: q') = some (b0, r0'') := by
              unfold simF
              have : sdB 0 3 [40] (t' :: q') = true := by simp [sdB, e1, e2]
              rw [this]
              simp only [if_true]
              exact g2
            have hbod : (recs (m2 + 2)).body (t' :: q') = bodF (recs (m2 + 1)) (t' :: q') := rfl
            rw [hbod] at hf
            cases r0 with
            | nil =>
              obtain ⟨t9, rfl, h9⟩ := shut_exP hs0 rfl
              have hbd : bodF (recs (m2 + 1)) (t' :: q') = some (b0, [t9]) := chF_stop (chF_stop hsim (setLk_none _ (by rw [h9.1]; simp))) (setLk_none _ (by rw [h9.1]; simp))
              rw [hbd] at hf
              simp only [sg_yes [] h9] at hf
              have hx := up_stop stops_nil rfl hf1
              rw [hx] at h
              cases h
              exact Or.inr (up_stop stops_nil rfl hf)
            | cons t0 q0 =>
              obtain ⟨t9, q9, rfl, f1, f2, _, _⟩ := hs0.cons
              left
              by_cases hst : (t0.k = 3 ∧ t0.s = [41]) ∨ (t0.k = 0 ∧ (t0.s = [105, 110, 116, 101, 114, 115, 101, 99, 116] ∨ t0.s = [117, 110, 105, 111, 110] ∨ t0.s = [101, 120, 99, 101, 112, 116]))
              · have hx := up_stop (stops_end q0 hst) rfl hf1
                rw [hx] at h
                cases h
                obtain ⟨z1, z2, _⟩ := end_cons hend
                rcases hst with ⟨_, hst⟩ | ⟨hst, _⟩
                · rw [z2] at hst; exact absurd hst (by decide)
                · rw [z1] at hst; exact absurd hst (by decide)
              · have hbd : bodF (recs (m2 + 1)) (t' :: q') = some (b0, t9 :: q9) := by
                  refine chF_stop (chF_stop hsim (setLk_none _ ?_)) (setLk_none _ ?_)
                  · rw [f1, f2]
                    intro hh
                    exact hst (Or.inr ⟨hh.1, Or.inl (by simpa using hh.2)⟩)
                  · rw [f1, f2]
                    intro hh
                    exact hst (Or.inr ⟨hh.1, Or.inr (by simpa using hh.2)⟩)
                rw [hbd] at hf
                simp only [sg_no q9 (show ¬ (t9.k = 3 ∧ t9.s = [41]) by rw [f1, f2]; exact fun hh => hst (Or.inl hh))] at hf
                exact up_none rfl hf
      · have h0 : opnN (t :: q) = 0 := by
          unfold opnN
          rw [List.takeWhile_cons, if_neg (by simpa using ht)]
          rfl
        rw [h0] at hb
        obtain ⟨k, s, v, pl⟩ := t
        simp only [sdB, List.drop_zero, Bool.and_eq_true, beq_iff_eq] at hb
        obtain ⟨rfl, rfl⟩ := hb
        rw [expr_sel] at h
        cases h
    · rw [hob] at hf
      simp only [hb, if_false, Bool.false_eq_true, par_op] at hf
      have hex : (recs (m2 + 2)).expr lE' = exprF (recs (m2 + 1)) lE' := rfl
      rw [hex] at hf
      rcases exprF_bi exP_inert hR _ _ hs (by omega) with ⟨g1, _⟩ | ⟨x', r1, r1', g1, g2, hs1, _⟩
      · rw [h] at g1; cases g1
      · rw [h] at g1
        cases g1
        rw [g2] at hf
        simp only at hf
        cases rE with
        | nil =>
          obtain ⟨t9, rfl, h9⟩ := shut_exP hs1 rfl
          simp only [sg_yes [] h9] at hf
          exact Or.inr (up_stop stops_nil rfl hf)
        | cons t0 q0 =>
          obtain ⟨t9, q9, rfl, f1, f2, _, _⟩ := hs1.cons
          obtain ⟨z1, z2, _⟩ := end_cons hend
          simp only [sg_no q9 (show ¬ (t9.k = 3 ∧ t9.s = [41]) by rw [f2, z2]; exact fun hh => absurd hh.2 (by decide))] at hf
          exact Or.inl (up_none rfl hf)
end Go.Proofs.YtbkeaajnhalekaaGreatDoor

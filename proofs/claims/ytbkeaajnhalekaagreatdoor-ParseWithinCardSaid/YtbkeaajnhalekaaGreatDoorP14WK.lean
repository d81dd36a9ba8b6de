/- ParseWithin's law, of texts (pure). -/
import Derived.Test.YtbkeaajnhalekaaGreatDoorP14WJ
import Derived.Test.YtbkeaajnhalekaaGreatDoorP14LS
namespace Go.Proofs.YtbkeaajnhalekaaGreatDoor
set_option linter.unusedVariables false
set_option linter.unusedSimpArgs false

theorem TK.of {p f : Nat} {r : List UInt8} {l : List Tok} (hf : r.length ≤ f) (h : tkN f p r = .ok l) : TK p r l := fun g hg => by
  rw [tkN_fuel r.length g f p r (Nat.le_refl _) hg hf]; exact h
theorem TK.inv_tk {p n : Nat} {k v : Int} {s r q : List UInt8} {l : List Tok} (h : TK p r l) (hs : stp r = .tk k s v n) (hq : r.drop n = q) : ∃ l', l = ⟨k, s, v, p⟩ :: l' ∧ TK (p + n) q l' := by
  subst hq
  have h1 := stp_tk hs
  have h2 := h (r.length + 1) (by omega)
  have hne : r ≠ [] := fun e => by subst e; simp at h1; omega
  unfold tkN at h2
  rw [if_neg hne, hs] at h2
  simp only at h2
  cases h3 : tkN r.length (p + n) (r.drop n) with
  | error e => rw [h3] at h2; cases h2
  | ok l' =>
    rw [h3] at h2
    simp only [Except.ok.injEq] at h2
    exact ⟨l', h2.symm, TK.of (by rw [List.length_drop]; omega) h3⟩
theorem TK.inv_bl {p n : Nat} {r q : List UInt8} {l : List Tok} (h : TK p r l) (hs : stp r = .bl n) (hq : r.drop n = q) : TK (p + n) q l := by
  subst hq
  have h1 := stp_bl hs
  have h2 := h (r.length + 1) (by omega)
  have hne : r ≠ [] := fun e => by subst e; simp at h1; omega
  unfold tkN at h2
  rw [if_neg hne, hs] at h2
  exact TK.of (by rw [List.length_drop]; omega) h2
theorem TK.one {p : Nat} {r : List UInt8} {l m : List Tok} (h : TK p r l) (h2 : TK p r m) : l = m := by
  have := (h r.length (Nat.le_refl _)).symm.trans (h2 r.length (Nat.le_refl _))
  exact Except.ok.inj this
theorem TK.sh {p : Nat} {r : List UInt8} {l : List Tok} (h : TK p r l) (d : Nat) : TK (p + d) r (l.map (Tok.sh d)) := fun f hf => by
  rw [tkN_pos, h f hf]; rfl
theorem TK.join {p : Nat} {a b : List UInt8} {l m : List Tok} (h : TK p a l) (hb : TK (p + a.length + 1) b m) : TK p (a ++ 10 :: b) (l ++ m) := fun f hf => by
  have hl : (a ++ 10 :: b).length = a.length + b.length + 1 := by simp; omega
  rw [tkN_join a.length a b a.length f p l (Nat.le_refl _) (Nat.le_refl _) (by omega) (h _ (Nat.le_refl _))]
  have : TK (p + a.length) (10 :: b) m := TK.blx (by decide) hb
  rw [this f (by simp; omega)]
  rfl
/-- The text ahead of the expression. -/
def P1 : List UInt8 := [115, 101, 108, 101, 99, 116, 32, 120, 32, 102, 114, 111, 109, 32, 116, 32, 119, 104, 101, 114, 101, 32]
theorem p1_tk {E : List UInt8} {l : List Tok} (h : TK 0 (P1 ++ E) l) : ∃ lE, l = p5 lE ∧ TK 22 E lE := by
  obtain ⟨l1, e1, h1⟩ := h.inv_tk (k := 0) (s := [115, 101, 108, 101, 99, 116]) (v := 0) (n := 6) (q := 32 :: ([120, 32, 102, 114, 111, 109, 32, 116, 32, 119, 104, 101, 114, 101, 32] ++ E)) (by rfl) (by rfl)
  have h2 := h1.inv_bl (stp_32 _) (n := 1) (q := [120, 32, 102, 114, 111, 109, 32, 116, 32, 119, 104, 101, 114, 101, 32] ++ E) (by rfl)
  obtain ⟨l2, e2, h3⟩ := h2.inv_tk (k := 0) (s := [120]) (v := 0) (n := 1) (q := 32 :: ([102, 114, 111, 109, 32, 116, 32, 119, 104, 101, 114, 101, 32] ++ E)) (by rfl) (by rfl)
  have h4 := h3.inv_bl (stp_32 _) (n := 1) (q := [102, 114, 111, 109, 32, 116, 32, 119, 104, 101, 114, 101, 32] ++ E) (by rfl)
  obtain ⟨l3, e3, h5⟩ := h4.inv_tk (k := 0) (s := [102, 114, 111, 109]) (v := 0) (n := 4) (q := 32 :: ([116, 32, 119, 104, 101, 114, 101, 32] ++ E)) (by rfl) (by rfl)
  have h6 := h5.inv_bl (stp_32 _) (n := 1) (q := [116, 32, 119, 104, 101, 114, 101, 32] ++ E) (by rfl)
  obtain ⟨l4, e4, h7⟩ := h6.inv_tk (k := 0) (s := [116]) (v := 0) (n := 1) (q := 32 :: ([119, 104, 101, 114, 101, 32] ++ E)) (by rfl) (by rfl)
  have h8 := h7.inv_bl (stp_32 _) (n := 1) (q := [119, 104, 101, 114, 101, 32] ++ E) (by rfl)
  obtain ⟨l5, e5, h9⟩ := h8.inv_tk (k := 0) (s := [119, 104, 101, 114, 101]) (v := 0) (n := 5) (q := 32 :: E) (by rfl) (by rfl)
  have h10 := h9.inv_bl (stp_32 _) (n := 1) (q := E) (by rfl)
  subst e1 e2 e3 e4 e5
  exact ⟨l5, rfl, h10⟩
theorem pr_ok {s : List UInt8} {t : Tr} (h : prF s = .ok t) : ∃ l, TK 0 s l ∧ whlF (recs (l.length + 2)) l = some t := by
  unfold prF at h
  cases hs : scF s with
  | error e => rw [hs] at h; cases h
  | ok l =>
    rw [hs] at h
    simp only at h
    obtain ⟨_, h2, _⟩ := scF_ok.1 hs
    refine ⟨l, TK.of (Nat.le_refl _) h2, ?_⟩
    cases hw : whlF (recs (l.length + 2)) l with
    | none => rw [hw] at h; cases h
    | some t' =>
      rw [hw] at h
      simp only at h
      split at h
      · cases h
      · cases h; rfl
theorem stp_op (b : List UInt8) : stp (40 :: b) = .tk 3 [40] 0 1 := by cases b <;> rfl
theorem stp_sh (b : List UInt8) : stp (41 :: b) = .tk 3 [41] 0 1 := by cases b <;> rfl
theorem st_sh (d : Nat) (l : List Tok) : (l.map (Tok.sh d)).map Tok.st = l.map Tok.st := by
  rw [List.map_map]; rfl
theorem top_cond2 {N : Nat} (n : Nat) {lE : List Tok} {a x : Tr} (h : whlF (recs N) (p5 lE) = some a) (hN : N = n + 2) (hx : condF a = some x) : ∃ r4, exprF (recs n) lE = some (x, r4) ∧ (bareF a → endF r4 = []) := by
  subst hN
  exact top_cond h hx
theorem p5_len (l : List Tok) : (p5 l).length = l.length + 5 := rfl
theorem within_pr {E : List UInt8} {a b c x y z : Tr} (ha : prF (P1 ++ E) = .ok a) (hb : prF (P1 ++ 40 :: (E ++ [10, 41])) = .ok b) (hc : prF (P1 ++ 40 :: 32 :: 40 :: (E ++ [10, 41, 32, 41, 32])) = .ok c)
    (hx : condF a = some x) (hy : condF b = some y) (hz : condF c = some z) (hbare : bareF a) : y = x ∧ z = x := by
  obtain ⟨lA, tA, wA⟩ := pr_ok ha
  obtain ⟨lB0, tB0, wB⟩ := pr_ok hb
  obtain ⟨lC0, tC0, wC⟩ := pr_ok hc
  obtain ⟨lE, eA0, tE⟩ := p1_tk tA
  obtain ⟨lB1, eB1, tB1⟩ := p1_tk tB0
  obtain ⟨lC1, eC1, tC1⟩ := p1_tk tC0
  obtain ⟨lB, eB2, tB⟩ := tB1.inv_tk (stp_op _) (q := E ++ [10, 41]) rfl
  obtain ⟨lC2, eC2, tC2⟩ := tC1.inv_tk (stp_op _) (q := 32 :: 40 :: (E ++ [10, 41, 32, 41, 32])) rfl
  have tC3 := tC2.inv_bl (stp_32 _) (q := 40 :: (E ++ [10, 41, 32, 41, 32])) rfl
  obtain ⟨lC, eC4, tC⟩ := tC3.inv_tk (stp_op _) (q := E ++ [10, 41, 32, 41, 32]) rfl
  subst eA0 eB1 eC1 eB2 eC2 eC4
  have hB : ∃ q, lB = lE.map (Tok.sh 1) ++ [⟨3, [41], 0, q⟩] := ⟨_, tB.one (TK.join (tE.sh 1) (TK.tk (stp_sh _) rfl (TK.nil _)))⟩
  have hC : ∃ q q2, lC = lE.map (Tok.sh 3) ++ [⟨3, [41], 0, q⟩, ⟨3, [41], 0, q2⟩] := ⟨_, _, tC.one (TK.join (tE.sh 3) (TK.tk (stp_sh _) rfl (TK.blx (by decide) (TK.tk (stp_sh _) rfl (TK.blx (by decide) (TK.nil _))))))⟩
  obtain ⟨q1, rfl⟩ := hB
  obtain ⟨q2, q3, rfl⟩ := hC
  have sB : Sm exP lE (lE.map (Tok.sh 1) ++ [⟨3, [41], 0, q1⟩]) := ⟨by rw [List.map_append, st_sh]; rfl, trivial⟩
  have sC : Sm exP (opT 22 :: (lE.map (Tok.sh 1) ++ [⟨3, [41], 0, q1⟩])) (opT 24 :: (lE.map (Tok.sh 3) ++ [⟨3, [41], 0, q2⟩, ⟨3, [41], 0, q3⟩])) := ⟨by
    simp only [List.map_cons, List.map_append, st_sh, List.cons_append, List.append_assoc, List.map_nil, List.nil_append]
    rfl, trivial⟩
  obtain ⟨rE, eA, hE⟩ := top_cond2 (lE.length + 5) wA (by rw [p5_len]) hx
  have hE := hE hbare
  have eB0 := top_cond2 ((opT 22 :: (lE.map (Tok.sh 1) ++ [⟨3, [41], 0, q1⟩])).length + 5) wB (by rw [p5_len]) hy
  have eC0 := top_cond2 ((opT 22 :: opT 24 :: (lE.map (Tok.sh 3) ++ [⟨3, [41], 0, q2⟩, ⟨3, [41], 0, q3⟩])).length + 5) wC (by rw [p5_len]) hz
  obtain ⟨rB, eB, _⟩ := eB0
  obtain ⟨rC, eC, _⟩ := eC0
  rcases within (p := 22) (n2 := (opT 22 :: (lE.map (Tok.sh 1) ++ [⟨3, [41], 0, q1⟩])).length + 5) sB (by omega) (by simp) eA hE with h | h
  · rw [h] at eB; cases eB
  · have hyx := h.symm.trans eB
    simp only [Option.some.injEq, Prod.mk.injEq] at hyx
    obtain ⟨rfl, _⟩ := hyx
    refine ⟨rfl, ?_⟩
    rcases within (p := 22) (n2 := (opT 22 :: opT 24 :: (lE.map (Tok.sh 3) ++ [⟨3, [41], 0, q2⟩, ⟨3, [41], 0, q3⟩])).length + 5) sC (by simp) (by simp) h rfl with h2 | h2
    · rw [h2] at eC; cases eC
    · have hzx := h2.symm.trans eC
      simp only [Option.some.injEq, Prod.mk.injEq] at hzx
      exact hzx.1.symm
end Go.Proofs.YtbkeaajnhalekaaGreatDoor

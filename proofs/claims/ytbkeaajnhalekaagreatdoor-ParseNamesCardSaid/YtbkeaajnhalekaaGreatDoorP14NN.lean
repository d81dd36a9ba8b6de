/- A word where a name may stand: the other three texts (pure). -/
import Derived.Test.YtbkeaajnhalekaaGreatDoorP14WJ
import Derived.Test.YtbkeaajnhalekaaGreatDoorP14NM
namespace Go.Proofs.YtbkeaajnhalekaaGreatDoor
set_option linter.unusedVariables false
set_option linter.unusedSimpArgs false

/-- Does Parse come to a tree? -/
theorem pr_tok {s : List UInt8} {l : List Tok} (hs : scF s = .ok l) : prF s = match whlF (recs (l.length + 2)) l with
    | none => .error 1
    | some t => if 24 < t.wd then .error 5 else .ok t := by
  unfold prF
  simp only [hs]
  cases whlF (recs (l.length + 2)) l <;> rfl
theorem tk_crt {w : List UInt8} (h : Wo w) : scF ([99, 114, 101, 97, 116, 101, 32, 116, 97, 98, 108, 101, 32, 116, 32, 40] ++ (w ++ [32, 105, 110, 116, 41])) = .ok [⟨0, [99, 114, 101, 97, 116, 101], 0, 0⟩, ⟨0, [116, 97, 98, 108, 101], 0, 7⟩, ⟨0, [116], 0, 13⟩, ⟨3, [40], 0, 15⟩, ⟨0, w, 0, 16⟩, ⟨0, [105, 110, 116], 0, 16 + w.length + 1⟩, ⟨3, [41], 0, 16 + w.length + 1 + 3⟩] := by
  refine TK.scF (TK.tk (n := 6) (q := 32 :: ([116, 97, 98, 108, 101, 32, 116, 32, 40] ++ (w ++ [32, 105, 110, 116, 41]))) (by rfl) (by rfl) (TK.bl (stp_32 _) (q := [116, 97, 98, 108, 101, 32, 116, 32, 40] ++ (w ++ [32, 105, 110, 116, 41])) (by rfl) ?_)) (by have := h.len; simp; omega) (by simp)
  refine TK.tk (n := 5) (q := 32 :: ([116, 32, 40] ++ (w ++ [32, 105, 110, 116, 41]))) (by rfl) (by rfl) (TK.bl (stp_32 _) (q := [116, 32, 40] ++ (w ++ [32, 105, 110, 116, 41])) (by rfl) ?_)
  refine TK.tk (n := 1) (q := 32 :: ([40] ++ (w ++ [32, 105, 110, 116, 41]))) (by rfl) (by rfl) (TK.bl (stp_32 _) (q := [40] ++ (w ++ [32, 105, 110, 116, 41])) (by rfl) ?_)
  refine TK.tk (n := 1) (q := w ++ [32, 105, 110, 116, 41]) (by cases w <;> rfl) (by rfl) ?_
  refine TK.tk (h.stpB (by decide) _) (q := [32, 105, 110, 116, 41]) (List.drop_left) (TK.bl (stp_32 _) (q := [105, 110, 116, 41]) (by rfl) ?_)
  exact TK.tk (n := 3) (q := [41]) (by rfl) (by rfl) (TK.tk (n := 1) (q := []) (by rfl) (by rfl) (TK.nil _))
theorem eleF_w (R : Rc) {w : List UInt8} (p : Nat) (r : List Tok) (h1 : (w == [112, 114, 105, 109, 97, 114, 121]) = false) (h2 : (w == [117, 110, 105, 113, 117, 101]) = false) (h3 : (w == [99, 104, 101, 99, 107]) = false) (h4 : (w == [102, 111, 114, 101, 105, 103, 110]) = false) : eleF R (⟨0, w, 0, p⟩ :: r) = cofF R (⟨0, w, 0, p⟩ :: r) := by
  unfold eleF tkB
  simp only [h1, h2, h3, h4, Bool.and_false, Bool.false_and, if_false, Bool.false_eq_true]
theorem pr_crt {w : List UInt8} (h : Wo w) (h1 : (w == [112, 114, 105, 109, 97, 114, 121]) = false) (h2 : (w == [117, 110, 105, 113, 117, 101]) = false) (h3 : (w == [99, 104, 101, 99, 107]) = false) (h4 : (w == [102, 111, 114, 101, 105, 103, 110]) = false) : prF ([99, 114, 101, 97, 116, 101, 32, 116, 97, 98, 108, 101, 32, 116, 32, 40] ++ (w ++ [32, 105, 110, 116, 41])) = if resL.contains w then .error 1 else .ok (nd [99, 114, 101, 97, 116, 101, 32, 116, 97, 98, 108, 101] [116] [nd [99, 111, 108, 117, 109, 110] w [nd [116, 121, 112, 101] [105, 110, 116, 101, 103, 101, 114] []]]) := by
  rw [pr_tok (tk_crt h)]
  generalize 16 + w.length + 1 + 3 = p3
  generalize 16 + w.length + 1 = p2
  have hc : cofF (recs 9) [⟨0, w, 0, 16⟩, ⟨0, [105, 110, 116], 0, p2⟩, ⟨3, [41], 0, p3⟩] = if resL.contains w then none else some (nd [99, 111, 108, 117, 109, 110] w [nd [116, 121, 112, 101] [105, 110, 116, 101, 103, 101, 114] []], [⟨3, [41], 0, p3⟩]) := by
    unfold cofF
    rw [nameF_w]
    cases resL.contains w with
    | true => rfl
    | false => rfl
  have he := eleF_w (recs 9) 16 [⟨0, [105, 110, 116], 0, p2⟩, ⟨3, [41], 0, p3⟩] h1 h2 h3 h4
  rw [hc] at he
  have e : sttF (recs 9) [⟨0, [99, 114, 101, 97, 116, 101], 0, 0⟩, ⟨0, [116, 97, 98, 108, 101], 0, 7⟩, ⟨0, [116], 0, 13⟩, ⟨3, [40], 0, 15⟩, ⟨0, w, 0, 16⟩, ⟨0, [105, 110, 116], 0, p2⟩, ⟨3, [41], 0, p3⟩] = match parF (lsF (eleF (recs 9))) [⟨3, [40], 0, 15⟩, ⟨0, w, 0, 16⟩, ⟨0, [105, 110, 116], 0, p2⟩, ⟨3, [41], 0, p3⟩] with
    | none => none
    | some (l, r2) => some (nd [99, 114, 101, 97, 116, 101, 32, 116, 97, 98, 108, 101] [116] l, r2) := rfl
  show (match whlF (recs 9) _ with | none => Except.error 1 | some t => if 24 < t.wd then .error 5 else .ok t) = _
  rw [whl_eq, e, par_op]
  unfold lsF
  rw [he]
  cases resL.contains w with
  | true => rfl
  | false => rfl
theorem stops_from (n : Int) (p : Nat) (q : List Tok) : Stops (⟨0, [102, 114, 111, 109], n, p⟩ :: q) := ⟨rfl, rfl, rfl, rfl, rfl, rfl, rfl, rfl, rfl, rfl⟩
/-- A query of one item, of a table t. -/
theorem item_none {n : Nat} {ts : List Tok} (hd : distF ts = (0, ts)) (hi : itmF (recs (n + 1)) ts = none) : whlF (recs (n + 2)) (⟨0, [115, 101, 108, 101, 99, 116], 0, 0⟩ :: ts) = none := by
  have h1 : selF (recs (n + 1)) ts = none := by
    unfold selF lsF
    rw [hd]
    simp only [hi]
  have h2 : simF (recs (n + 1)) (⟨0, [115, 101, 108, 101, 99, 116], 0, 0⟩ :: ts) = none := h1
  have h3 : bodF (recs (n + 1)) (⟨0, [115, 101, 108, 101, 99, 116], 0, 0⟩ :: ts) = none := chF_none (chF_none h2)
  have h4 : qryF (recs (n + 2)) (⟨0, [115, 101, 108, 101, 99, 116], 0, 0⟩ :: ts) = none := by
    unfold qryF
    rw [show (recs (n + 2)).body (⟨0, [115, 101, 108, 101, 99, 116], 0, 0⟩ :: ts) = bodF (recs (n + 1)) (⟨0, [115, 101, 108, 101, 99, 116], 0, 0⟩ :: ts) from rfl, h3]
  have h5 : sttF (recs (n + 2)) (⟨0, [115, 101, 108, 101, 99, 116], 0, 0⟩ :: ts) = qryF (recs (n + 2)) (⟨0, [115, 101, 108, 101, 99, 116], 0, 0⟩ :: ts) := rfl
  rw [whl_eq, h5, h4]
theorem item_some {n : Nat} {ts : List Tok} {it : Tr} {s : List UInt8} {p1 p2 : Nat} {q : List Tok} {al : List UInt8} (hd : distF ts = (0, ts)) (hi : itmF (recs (n + 1)) ts = some (it, ⟨0, [102, 114, 111, 109], 0, p1⟩ :: ⟨0, [116], 0, p2⟩ :: q)) (ha : aliasF q = some (al, [])) : ∃ t, whlF (recs (n + 2)) (⟨0, [115, 101, 108, 101, 99, 116], 0, 0⟩ :: ts) = some t ∧ t.wd = (nd [113, 117, 101, 114, 121] [] [.mk [115, 101, 108, 101, 99, 116] [] 0 [nd [105, 116, 101, 109, 115] [] [it], nd [102, 114, 111, 109] [] [nd [116, 97, 98, 108, 101] [116] [nd [97, 115] [116] []]], nd [119, 104, 101, 114, 101] [] [], nd [103, 114, 111, 117, 112] [] [], nd [104, 97, 118, 105, 110, 103] [] []], nd [111, 114, 100, 101, 114] [] []]).wd := by
  have hl : lsF (itmF (recs (n + 1))) ts = some ([it], ⟨0, [102, 114, 111, 109], 0, p1⟩ :: ⟨0, [116], 0, p2⟩ :: q) := by
    unfold lsF
    rw [hi]
    rfl
  have hj : jdF (recs (n + 1)) (⟨0, [116], 0, p2⟩ :: q) = some (nd [116, 97, 98, 108, 101] [116] [nd [97, 115] (if al == [] then [116] else al) []], []) := by
    have : jdF (recs (n + 1)) (⟨0, [116], 0, p2⟩ :: q) = match aliasF q with
      | none => none
      | some (a, r2) => some (nd [116, 97, 98, 108, 101] [116] [nd [97, 115] (if a == [] then [116] else a) []], r2) := rfl
    rw [this, ha]
  have ht : lsF (tabF (recs (n + 1))) (⟨0, [116], 0, p2⟩ :: q) = some ([nd [116, 97, 98, 108, 101] [116] [nd [97, 115] (if al == [] then [116] else al) []]], []) := by
    unfold lsF tabF
    rw [hj]
    rfl
  generalize hT : nd [116, 97, 98, 108, 101] [116] [nd [97, 115] (if al == [] then [116] else al) []] = T at ht
  have hw : T.wd = 2 := by rw [← hT]; rfl
  have h1 : selF (recs (n + 1)) ts = some (.mk [115, 101, 108, 101, 99, 116] [] 0 [nd [105, 116, 101, 109, 115] [] [it], nd [102, 114, 111, 109] [] [T], nd [119, 104, 101, 114, 101] [] [], nd [103, 114, 111, 117, 112] [] [], nd [104, 97, 118, 105, 110, 103] [] []], []) := by
    unfold selF
    rw [hd]
    simp only [hl]
    have : needF [[102, 114, 111, 109]] (⟨0, [102, 114, 111, 109], 0, p1⟩ :: ⟨0, [116], 0, p2⟩ :: q) = some (⟨0, [116], 0, p2⟩ :: q) := rfl
    rw [this]
    simp only [ht]
    rfl
  have h2 : simF (recs (n + 1)) (⟨0, [115, 101, 108, 101, 99, 116], 0, 0⟩ :: ts) = _ := h1
  have h3 := chF_stop (K := setLk [[117, 110, 105, 111, 110], [101, 120, 99, 101, 112, 116]]) (I := trmF (recs (n + 1))) (chF_stop (K := setLk [[105, 110, 116, 101, 114, 115, 101, 99, 116]]) h2 rfl) rfl
  have h4 : sttF (recs (n + 2)) (⟨0, [115, 101, 108, 101, 99, 116], 0, 0⟩ :: ts) = qryF (recs (n + 2)) (⟨0, [115, 101, 108, 101, 99, 116], 0, 0⟩ :: ts) := rfl
  have h5 : (recs (n + 2)).body (⟨0, [115, 101, 108, 101, 99, 116], 0, 0⟩ :: ts) = chF (trmF (recs (n + 1))) (setLk [[117, 110, 105, 111, 110], [101, 120, 99, 101, 112, 116]]) (⟨0, [115, 101, 108, 101, 99, 116], 0, 0⟩ :: ts) := rfl
  rw [whl_eq, h4]
  unfold qryF
  rw [h5, h3]
  refine ⟨_, rfl, ?_⟩
  have hw2 : (nd [116, 97, 98, 108, 101] [116] [nd [97, 115] [116] []]).wd = 2 := rfl
  generalize nd [116, 97, 98, 108, 101] [116] [nd [97, 115] [116] []] = T2 at hw2
  simp only [Tr.wd, wdL, hw, hw2]
theorem tk_dot {w : List UInt8} (h : Wo w) : scF ([115, 101, 108, 101, 99, 116, 32, 120, 46] ++ (w ++ [32, 102, 114, 111, 109, 32, 116, 32, 120])) = .ok [⟨0, [115, 101, 108, 101, 99, 116], 0, 0⟩, ⟨0, [120], 0, 7⟩, ⟨3, [46], 0, 8⟩, ⟨0, w, 0, 9⟩, ⟨0, [102, 114, 111, 109], 0, 9 + w.length + 1⟩, ⟨0, [116], 0, 9 + w.length + 1 + 4 + 1⟩, ⟨0, [120], 0, 9 + w.length + 1 + 4 + 1 + 1 + 1⟩] := by
  refine TK.scF (TK.tk (n := 6) (q := 32 :: ([120, 46] ++ (w ++ [32, 102, 114, 111, 109, 32, 116, 32, 120]))) (by rfl) (by rfl) (TK.bl (stp_32 _) (q := [120, 46] ++ (w ++ [32, 102, 114, 111, 109, 32, 116, 32, 120])) (by rfl) ?_)) (by have := h.len; simp; omega) (by simp)
  refine TK.tk (n := 1) (q := 46 :: (w ++ [32, 102, 114, 111, 109, 32, 116, 32, 120])) (by rfl) (by rfl) ?_
  refine TK.tk (n := 1) (q := w ++ [32, 102, 114, 111, 109, 32, 116, 32, 120]) (by cases w <;> rfl) (by rfl) ?_
  refine TK.tk (h.stpB (by decide) _) (q := [32, 102, 114, 111, 109, 32, 116, 32, 120]) (List.drop_left) (TK.bl (stp_32 _) (q := [102, 114, 111, 109, 32, 116, 32, 120]) (by rfl) ?_)
  refine TK.tk (n := 4) (q := [32, 116, 32, 120]) (by rfl) (by rfl) (TK.bl (stp_32 _) (q := [116, 32, 120]) (by rfl) ?_)
  exact TK.tk (n := 1) (q := [32, 120]) (by rfl) (by rfl) (TK.bl (stp_32 _) (q := [120]) (by rfl) (TK.tk (n := 1) (q := []) (by rfl) (by rfl) (TK.nil _)))
theorem pr_dot {w : List UInt8} (h : Wo w) : (resL.contains w = true → prF ([115, 101, 108, 101, 99, 116, 32, 120, 46] ++ (w ++ [32, 102, 114, 111, 109, 32, 116, 32, 120])) = .error 1) ∧ (resL.contains w = false → ∃ t, prF ([115, 101, 108, 101, 99, 116, 32, 120, 46] ++ (w ++ [32, 102, 114, 111, 109, 32, 116, 32, 120])) = .ok t) := by
  rw [pr_tok (tk_dot h)]
  generalize 9 + w.length + 1 + 4 + 1 + 1 + 1 = p5
  generalize 9 + w.length + 1 + 4 + 1 = p4
  generalize 9 + w.length + 1 = p3
  have hf : facF (recs 7) [⟨0, [120], 0, 7⟩, ⟨3, [46], 0, 8⟩, ⟨0, w, 0, 9⟩, ⟨0, [102, 114, 111, 109], 0, p3⟩, ⟨0, [116], 0, p4⟩, ⟨0, [120], 0, p5⟩] = match nameF [⟨0, w, 0, 9⟩, ⟨0, [102, 114, 111, 109], 0, p3⟩, ⟨0, [116], 0, p4⟩, ⟨0, [120], 0, p5⟩] with
    | none => none
    | some (c, r3) => some (nd [99, 111, 108] c [nd [111, 102] [120] []], r3) := rfl
  rw [nameF_w] at hf
  have hi : itmF (recs 8) [⟨0, [120], 0, 7⟩, ⟨3, [46], 0, 8⟩, ⟨0, w, 0, 9⟩, ⟨0, [102, 114, 111, 109], 0, p3⟩, ⟨0, [116], 0, p4⟩, ⟨0, [120], 0, p5⟩] = match exprF (recs 7) [⟨0, [120], 0, 7⟩, ⟨3, [46], 0, 8⟩, ⟨0, w, 0, 9⟩, ⟨0, [102, 114, 111, 109], 0, p3⟩, ⟨0, [116], 0, p4⟩, ⟨0, [120], 0, p5⟩] with
      | none => none
      | some (e, r) => match aliasF r with
        | none => none
        | some (a, r2) => some (nd [105, 116, 101, 109] a [e], r2) := rfl
  constructor
  · intro hc
    rw [hc] at hf
    rw [up_none rfl hf] at hi
    show (match whlF (recs 9) _ with | none => Except.error 1 | some t => if 24 < t.wd then .error 5 else .ok t) = _
    rw [item_none (n := 7) rfl hi]
  · intro hc
    rw [hc] at hf
    rw [up_stop (stops_from _ _ _) rfl hf] at hi
    obtain ⟨t, ht, hw⟩ := item_some (n := 7) (s := []) rfl hi (al := [120]) rfl
    refine ⟨t, ?_⟩
    show (match whlF (recs 9) _ with | none => Except.error 1 | some t => if 24 < t.wd then .error 5 else .ok t) = _
    rw [ht]
    simp only
    rw [if_neg]
    rw [hw]
    exact (show ¬ (24 : Int) < 6 by decide)
theorem tk_as {w : List UInt8} (h : Wo w) : scF ([115, 101, 108, 101, 99, 116, 32, 97, 32, 97, 115, 32] ++ (w ++ [32, 102, 114, 111, 109, 32, 116])) = .ok [⟨0, [115, 101, 108, 101, 99, 116], 0, 0⟩, ⟨0, [97], 0, 7⟩, ⟨0, [97, 115], 0, 9⟩, ⟨0, w, 0, 12⟩, ⟨0, [102, 114, 111, 109], 0, 12 + w.length + 1⟩, ⟨0, [116], 0, 12 + w.length + 1 + 4 + 1⟩] := by
  refine TK.scF (TK.tk (n := 6) (q := 32 :: ([97, 32, 97, 115, 32] ++ (w ++ [32, 102, 114, 111, 109, 32, 116]))) (by rfl) (by rfl) (TK.bl (stp_32 _) (q := [97, 32, 97, 115, 32] ++ (w ++ [32, 102, 114, 111, 109, 32, 116])) (by rfl) ?_)) (by have := h.len; simp; omega) (by simp)
  refine TK.tk (n := 1) (q := 32 :: ([97, 115, 32] ++ (w ++ [32, 102, 114, 111, 109, 32, 116]))) (by rfl) (by rfl) (TK.bl (stp_32 _) (q := [97, 115, 32] ++ (w ++ [32, 102, 114, 111, 109, 32, 116])) (by rfl) ?_)
  refine TK.tk (n := 2) (q := 32 :: (w ++ [32, 102, 114, 111, 109, 32, 116])) (by rfl) (by rfl) (TK.bl (stp_32 _) (q := w ++ [32, 102, 114, 111, 109, 32, 116]) (by rfl) ?_)
  refine TK.tk (h.stpB (by decide) _) (q := [32, 102, 114, 111, 109, 32, 116]) (List.drop_left) (TK.bl (stp_32 _) (q := [102, 114, 111, 109, 32, 116]) (by rfl) ?_)
  exact TK.tk (n := 4) (q := [32, 116]) (by rfl) (by rfl) (TK.bl (stp_32 _) (q := [116]) (by rfl) (TK.tk (n := 1) (q := []) (by rfl) (by rfl) (TK.nil _)))
theorem pr_as {w : List UInt8} (h : Wo w) : (resL.contains w = true → prF ([115, 101, 108, 101, 99, 116, 32, 97, 32, 97, 115, 32] ++ (w ++ [32, 102, 114, 111, 109, 32, 116])) = .error 1) ∧ (resL.contains w = false → ∃ t, prF ([115, 101, 108, 101, 99, 116, 32, 97, 32, 97, 115, 32] ++ (w ++ [32, 102, 114, 111, 109, 32, 116])) = .ok t) := by
  rw [pr_tok (tk_as h)]
  generalize 12 + w.length + 1 + 4 + 1 = p4
  generalize 12 + w.length + 1 = p3
  have hi : itmF (recs 7) [⟨0, [97], 0, 7⟩, ⟨0, [97, 115], 0, 9⟩, ⟨0, w, 0, 12⟩, ⟨0, [102, 114, 111, 109], 0, p3⟩, ⟨0, [116], 0, p4⟩] = match nameF [⟨0, w, 0, 12⟩, ⟨0, [102, 114, 111, 109], 0, p3⟩, ⟨0, [116], 0, p4⟩] with
      | none => none
      | some (a, r2) => some (nd [105, 116, 101, 109] a [nd [99, 111, 108] [97] []], r2) := rfl
  rw [nameF_w] at hi
  constructor
  · intro hc
    rw [hc] at hi
    show (match whlF (recs 8) _ with | none => Except.error 1 | some t => if 24 < t.wd then .error 5 else .ok t) = _
    rw [item_none (n := 6) rfl hi]
  · intro hc
    rw [hc] at hi
    obtain ⟨t, ht, hw⟩ := item_some (n := 6) (s := []) rfl hi (al := []) rfl
    refine ⟨t, ?_⟩
    show (match whlF (recs 8) _ with | none => Except.error 1 | some t => if 24 < t.wd then .error 5 else .ok t) = _
    rw [ht]
    simp only
    rw [if_neg]
    rw [hw]
    exact (show ¬ (24 : Int) < 5 by decide)
end Go.Proofs.YtbkeaajnhalekaaGreatDoor

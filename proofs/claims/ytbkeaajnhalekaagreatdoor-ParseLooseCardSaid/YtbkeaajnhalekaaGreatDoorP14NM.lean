/- Texts with a word of small letters in them: their tokens. -/
import Derived.Test.YtbkeaajnhalekaaGreatDoorM14G
import Derived.Test.YtbkeaajnhalekaaGreatDoorL13Q
namespace Go.Proofs.YtbkeaajnhalekaaGreatDoor
open Go.RowKit
set_option linter.unusedVariables false
set_option linter.unusedSimpArgs false

/-- A text's tokens, from a place on. -/
def TK (p : Nat) (r : List UInt8) (l : List Tok) : Prop := ∀ f, r.length ≤ f → tkN f p r = .ok l
theorem TK.nil (p : Nat) : TK p [] [] := fun f _ => by
  cases f with
  | zero => rfl
  | succ f => rfl
theorem TK.bl {p n : Nat} {r q : List UInt8} {l : List Tok} (hs : stp r = .bl n) (hq : r.drop n = q) (h : TK (p + n) q l) : TK p r l := fun f hf => by
  subst hq
  have h1 := stp_bl hs
  cases f with
  | zero => omega
  | succ f =>
    have hne : r ≠ [] := fun e => by subst e; simp at h1; omega
    unfold tkN
    rw [if_neg hne, hs]
    exact h f (by rw [List.length_drop]; omega)
theorem TK.tk {p n : Nat} {k v : Int} {s r q : List UInt8} {l : List Tok} (hs : stp r = .tk k s v n) (hq : r.drop n = q) (h : TK (p + n) q l) : TK p r (⟨k, s, v, p⟩ :: l) := fun f hf => by
  subst hq
  have h1 := stp_tk hs
  cases f with
  | zero => omega
  | succ f =>
    have hne : r ≠ [] := fun e => by subst e; simp at h1; omega
    unfold tkN
    rw [if_neg hne, hs]
    simp only [h f (by rw [List.length_drop]; omega)]
theorem TK.scF {s : List UInt8} {l : List Tok} (h : TK 0 s l) (h1 : s.length ≤ 2000) (h2 : l.length ≤ 600) : Go.Proofs.YtbkeaajnhalekaaGreatDoor.scF s = .ok l := scF_ok.2 ⟨h1, h _ (Nat.le_refl _), h2⟩
/-- A word of small letters. -/
structure Wo (w : List UInt8) : Prop where
  lt : ∀ c ∈ w, 97 ≤ c ∧ c ≤ 122
  pos : 0 < w.length
  len : w.length ≤ 20
theorem lt_small {c : UInt8} (h : 97 ≤ c ∧ c ≤ 122) : isLt c = true ∧ isWd c = true ∧ lowc c = c := by
  have : ∀ n : Fin 256, (97 ≤ UInt8.ofNat n.val ∧ UInt8.ofNat n.val ≤ 122) → isLt (UInt8.ofNat n.val) = true ∧ isWd (UInt8.ofNat n.val) = true ∧ lowc (UInt8.ofNat n.val) = UInt8.ofNat n.val := by decide +kernel
  have h2 := this ⟨c.toNat, c.toNat_lt⟩
  simp only [UInt8.ofNat_toNat] at h2
  exact h2 h
theorem tw_full {p : UInt8 → Bool} : ∀ (w : List UInt8), (∀ c ∈ w, p c = true) → w.takeWhile p = w
  | [], _ => rfl
  | c :: w, h => by
    rw [List.takeWhile_cons, h c List.mem_cons_self]
    simp only [if_true]
    rw [tw_full w (fun x hx => h x (List.mem_cons_of_mem _ hx))]
theorem map_low {w : List UInt8} (h : ∀ c ∈ w, lowc c = c) : w.map lowc = w := by
  rw [List.map_congr_left h]; simp
theorem Wo.stp {w : List UInt8} (h : Wo w) : Go.Proofs.YtbkeaajnhalekaaGreatDoor.stp w = .tk 0 w 0 w.length := by
  obtain ⟨hl, hp, hn⟩ := h
  cases w with
  | nil => simp at hp
  | cons c q =>
    have hc := lt_small (hl c List.mem_cons_self)
    obtain ⟨q1, q2, q3, q4⟩ := lt_parts hc.1
    unfold Go.Proofs.YtbkeaajnhalekaaGreatDoor.stp
    rw [blN_no q1 q4, if_neg (by omega)]
    simp only [hc.1, if_true]
    unfold wdS
    rw [tw_full _ (fun x hx => (lt_small (hl x hx)).2.1), if_neg (by omega), map_low (fun x hx => (lt_small (hl x hx)).2.2)]
theorem Wo.stpB {w : List UInt8} (h : Wo w) {x : UInt8} (hx : isWd x = false) (b : List UInt8) : Go.Proofs.YtbkeaajnhalekaaGreatDoor.stp (w ++ x :: b) = .tk 0 w 0 w.length := by
  obtain ⟨hl, hp, hn⟩ := h
  cases w with
  | nil => simp at hp
  | cons c q =>
    have hc := lt_small (hl c List.mem_cons_self)
    obtain ⟨q1, q2, q3, q4⟩ := lt_parts hc.1
    have ht := (tw_all (c :: q) x b (fun y hy => (lt_small (hl y hy)).2.1) hx).1
    rw [List.cons_append] at ht ⊢
    unfold Go.Proofs.YtbkeaajnhalekaaGreatDoor.stp
    rw [blN_no q1 q4, if_neg (by omega)]
    simp only [hc.1, if_true]
    unfold wdS
    rw [ht, if_neg (by omega), map_low (fun x hx => (lt_small (hl x hx)).2.2)]
theorem nameF_w (w : List UInt8) (p : Nat) (r : List Tok) : nameF (⟨0, w, 0, p⟩ :: r) = if resL.contains w then none else some (w, r) := by
  unfold nameF takF
  simp
/-- The six texts' tokens. -/
theorem tk_save {w : List UInt8} (h : Wo w) : scF ([115, 97, 118, 101, 112, 111, 105, 110, 116, 32] ++ w) = .ok [⟨0, [115, 97, 118, 101, 112, 111, 105, 110, 116], 0, 0⟩, ⟨0, w, 0, 10⟩] :=
  TK.scF (TK.tk (n := 9) (q := 32 :: w) (by rfl) (by rfl) (TK.bl (stp_32 w) (by rfl) (TK.tk h.stp (List.drop_length) (TK.nil _)))) (by have := h.len; simp; omega) (by simp)
theorem pr_save {w : List UInt8} (h : Wo w) : prF ([115, 97, 118, 101, 112, 111, 105, 110, 116, 32] ++ w) = if resL.contains w then .error 1 else .ok (nd [115, 97, 118, 101, 112, 111, 105, 110, 116] w []) := by
  unfold prF
  rw [tk_save h]
  have e : whlF (recs 4) [⟨0, [115, 97, 118, 101, 112, 111, 105, 110, 116], 0, 0⟩, ⟨0, w, 0, 10⟩] = match nameF [⟨0, w, 0, 10⟩] with
    | none => none
    | some (s, r) => if (match sgF [59] r with | none => r | some (_, r2) => r2) = [] then some (nd [115, 97, 118, 101, 112, 111, 105, 110, 116] s []) else none := by
    show (match nmdF [115, 97, 118, 101, 112, 111, 105, 110, 116] [⟨0, w, 0, 10⟩] with
      | none => none
      | some (t, r) => if (match sgF [59] r with | none => r | some (_, r2) => r2) = [] then some t else none) = _
    unfold nmdF
    cases nameF [⟨0, w, 0, 10⟩] with
    | none => rfl
    | some p => rfl
  show (match whlF (recs 4) [⟨0, [115, 97, 118, 101, 112, 111, 105, 110, 116], 0, 0⟩, ⟨0, w, 0, 10⟩] with | none => Except.error 1 | some t => if 24 < t.wd then .error 5 else .ok t) = _
  rw [e, nameF_w]
  cases resL.contains w with
  | true => rfl
  | false => rfl
theorem tk_close {w : List UInt8} (h : Wo w) : scF ([99, 108, 111, 115, 101, 32] ++ w) = .ok [⟨0, [99, 108, 111, 115, 101], 0, 0⟩, ⟨0, w, 0, 6⟩] :=
  TK.scF (TK.tk (n := 5) (q := 32 :: w) (by rfl) (by rfl) (TK.bl (n := 1) (q := w) (by rfl) (by rfl) (TK.tk h.stp (List.drop_length) (TK.nil _)))) (by have := h.len; simp; omega) (by simp)
theorem pr_close {w : List UInt8} (h : Wo w) : prF ([99, 108, 111, 115, 101, 32] ++ w) = if resL.contains w then .error 1 else .ok (nd [99, 108, 111, 115, 101] w []) := by
  unfold prF
  rw [tk_close h]
  have e : whlF (recs 4) [⟨0, [99, 108, 111, 115, 101], 0, 0⟩, ⟨0, w, 0, 6⟩] = match nameF [⟨0, w, 0, 6⟩] with
    | none => none
    | some (s, r) => if (match sgF [59] r with | none => r | some (_, r2) => r2) = [] then some (nd [99, 108, 111, 115, 101] s []) else none := by
    show (match nmdF [99, 108, 111, 115, 101] [⟨0, w, 0, 6⟩] with
      | none => none
      | some (t, r) => if (match sgF [59] r with | none => r | some (_, r2) => r2) = [] then some t else none) = _
    unfold nmdF
    cases nameF [⟨0, w, 0, 6⟩] with
    | none => rfl
    | some p => rfl
  show (match whlF (recs 4) [⟨0, [99, 108, 111, 115, 101], 0, 0⟩, ⟨0, w, 0, 6⟩] with | none => Except.error 1 | some t => if 24 < t.wd then .error 5 else .ok t) = _
  rw [e, nameF_w]
  cases resL.contains w with
  | true => rfl
  | false => rfl
theorem tk_drop {w : List UInt8} (h : Wo w) : scF ([100, 114, 111, 112, 32, 116, 97, 98, 108, 101, 32] ++ w) = .ok [⟨0, [100, 114, 111, 112], 0, 0⟩, ⟨0, [116, 97, 98, 108, 101], 0, 5⟩, ⟨0, w, 0, 11⟩] :=
  TK.scF (TK.tk (n := 4) (q := (32 :: 116 :: 97 :: 98 :: 108 :: 101 :: 32 :: w)) (by rfl) (by rfl) (TK.bl (n := 1) (q := (116 :: 97 :: 98 :: 108 :: 101 :: 32 :: w)) (by rfl) (by rfl) (TK.tk (n := 5) (q := 32 :: w) (by rfl) (by rfl) (TK.bl (n := 1) (q := w) (by rfl) (by rfl) (TK.tk h.stp (List.drop_length) (TK.nil _)))))) (by have := h.len; simp; omega) (by simp)
theorem pr_drop {w : List UInt8} (h : Wo w) : prF ([100, 114, 111, 112, 32, 116, 97, 98, 108, 101, 32] ++ w) = if resL.contains w then .error 1 else .ok (nd [100, 114, 111, 112, 32, 116, 97, 98, 108, 101] w []) := by
  unfold prF
  rw [tk_drop h]
  have e : whlF (recs 5) [⟨0, [100, 114, 111, 112], 0, 0⟩, ⟨0, [116, 97, 98, 108, 101], 0, 5⟩, ⟨0, w, 0, 11⟩] = match nameF [⟨0, w, 0, 11⟩] with
    | none => none
    | some (s, r) => if (match sgF [59] r with | none => r | some (_, r2) => r2) = [] then some (nd [100, 114, 111, 112, 32, 116, 97, 98, 108, 101] s []) else none := by
    show (match nmdF [100, 114, 111, 112, 32, 116, 97, 98, 108, 101] [⟨0, w, 0, 11⟩] with
      | none => none
      | some (t, r) => if (match sgF [59] r with | none => r | some (_, r2) => r2) = [] then some t else none) = _
    unfold nmdF
    cases nameF [⟨0, w, 0, 11⟩] with
    | none => rfl
    | some p => rfl
  show (match whlF (recs 5) [⟨0, [100, 114, 111, 112], 0, 0⟩, ⟨0, [116, 97, 98, 108, 101], 0, 5⟩, ⟨0, w, 0, 11⟩] with | none => Except.error 1 | some t => if 24 < t.wd then .error 5 else .ok t) = _
  rw [e, nameF_w]
  cases resL.contains w with
  | true => rfl
  | false => rfl
end Go.Proofs.YtbkeaajnhalekaaGreatDoor

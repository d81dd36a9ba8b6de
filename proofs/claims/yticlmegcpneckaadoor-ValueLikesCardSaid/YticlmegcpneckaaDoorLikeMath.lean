/- Plain mathematics of patterns: what following a pattern means on lists of bytes, and what a search that goes back to the last percent sign alone keeps. -/
import Derived.WalkKit
namespace Go.Proofs.YticlmegcpneckaaDoor
set_option linter.unusedVariables false

/-- Does a list of bytes follow a pattern whose head is a percent sign, given which rests follow the pattern's rest? -/
def someTail (f : List UInt8 → Bool) : List UInt8 → Bool
  | [] => f []
  | x :: t => f (x :: t) || someTail f t
/-- Does a list of bytes follow a pattern? (37: any bytes; 95: any one byte.) -/
def likeL : List UInt8 → List UInt8 → Bool
  | [], t => t.isEmpty
  | c :: p, t => if c = 37 then someTail (likeL p) t else
      match t with
      | [] => false
      | x :: t' => (c == 95 || c == x) && likeL p t'

theorem someTail_iff (f : List UInt8 → Bool) (t : List UInt8) : someTail f t = true ↔ ∃ j, j ≤ t.length ∧ f (t.drop j) = true := by
  induction t with
  | nil => simp [someTail]
  | cons x t ih =>
    simp only [someTail, Bool.or_eq_true, ih]
    constructor
    · rintro (h | ⟨j, hj, h⟩)
      · exact ⟨0, by simp, by simpa using h⟩
      · exact ⟨j + 1, by simp; omega, by simpa using h⟩
    · rintro ⟨j, hj, h⟩
      cases j with
      | zero => left; simpa using h
      | succ j => right; exact ⟨j, by simp at hj; omega, by simpa using h⟩
theorem like_pct (p t : List UInt8) : likeL (37 :: p) t = true ↔ ∃ j, j ≤ t.length ∧ likeL p (t.drop j) = true := by
  simp only [likeL, if_true]
  exact someTail_iff _ _
theorem like_one {c : UInt8} (hc : c ≠ 37) (p t : List UInt8) : likeL (c :: p) t = true ↔ ∃ x t', t = x :: t' ∧ (c = 95 ∨ c = x) ∧ likeL p t' = true := by
  simp only [likeL, if_neg hc]
  cases t with
  | nil => simp
  | cons x t' =>
    simp only [Bool.and_eq_true, Bool.or_eq_true, beq_iff_eq]
    constructor
    · exact fun h => ⟨x, t', rfl, h⟩
    · rintro ⟨y, t2, e, h⟩
      injection e with e1 e2
      subst e1 e2
      exact h
/-- A piece of a pattern without percent signs takes just its length. -/
theorem like_seg (seg q t : List UInt8) (hs : ∀ c ∈ seg, c ≠ 37) (h : likeL (seg ++ q) t = true) : seg.length ≤ t.length ∧ likeL q (t.drop seg.length) = true := by
  induction seg generalizing t with
  | nil => simpa using h
  | cons c seg ih =>
    rw [List.cons_append, like_one (hs c (by simp))] at h
    obtain ⟨x, t', rfl, _, h⟩ := h
    have := ih t' (fun c hc => hs c (by simp [hc])) h
    simpa using this
/-- The state of the search: 'at' bytes of the text and 'part' of the pattern are behind it. -/
def LikeInv (t p : List UInt8) (at_ part : Nat) (back : Option (Nat × Nat)) : Prop :=
  at_ ≤ t.length ∧ part ≤ p.length ∧
  match back with
  | none => (likeL p t = true ↔ likeL (p.drop part) (t.drop at_) = true)
  | some (b, fr) => b ≤ part ∧ fr ≤ at_ ∧ at_ - fr = part - b ∧ (∀ c ∈ (p.drop b).take (part - b), c ≠ 37) ∧
      (likeL p t = true ↔ likeL (p.drop part) (t.drop at_) = true ∨ ∃ j, fr < j ∧ j ≤ t.length ∧ likeL (p.drop b) (t.drop j) = true)

theorem drop_split (p : List UInt8) (b part : Nat) (h : b ≤ part) (hp : part ≤ p.length) : p.drop b = (p.drop b).take (part - b) ++ p.drop part := by
  have h1 := (List.take_append_drop (part - b) (p.drop b)).symm
  rw [List.drop_drop] at h1
  have h2 : b + (part - b) = part := by omega
  rw [h2] at h1
  exact h1
theorem drop_cons (p : List UInt8) (part : Nat) (h : part < p.length) : p.drop part = p[part] :: p.drop (part + 1) := List.drop_eq_getElem_cons h

theorem inv_start (t p : List UInt8) : LikeInv t p 0 0 none := ⟨by simp, by simp, by simp⟩

theorem inv_pct {t p : List UInt8} {at_ part : Nat} {back : Option (Nat × Nat)} (h : LikeInv t p at_ part back) (hp : part < p.length) (hc : p[part] = 37) :
    LikeInv t p at_ (part + 1) (some (part + 1, at_)) := by
  obtain ⟨h1, h2, h3⟩ := h
  have hd := drop_cons p part hp
  rw [hc] at hd
  refine ⟨h1, hp, Nat.le_refl _, Nat.le_refl _, by omega, by simp, ?_⟩
  have key : likeL p t = true ↔ likeL (p.drop part) (t.drop at_) = true := by
    cases back with
    | none => exact h3
    | some bf =>
      obtain ⟨b, fr⟩ := bf
      obtain ⟨g1, g2, g3, g4, g5⟩ := h3
      rw [g5]
      refine ⟨?_, Or.inl⟩
      rintro (h | ⟨j, hj, hjl, h⟩)
      · exact h
      · rw [drop_split p b part g1 h2] at h
        obtain ⟨k1, k2⟩ := like_seg _ _ _ g4 h
        rw [List.length_take, List.length_drop] at k1 k2
        rw [hd, like_pct] at k2 ⊢
        obtain ⟨i, hi, k2⟩ := k2
        simp only [List.length_drop, List.drop_drop] at hi k1 k2 ⊢
        refine ⟨j + min (part - b) (p.length - b) + i - at_, by omega, ?_⟩
        rw [show at_ + (j + min (part - b) (p.length - b) + i - at_) = j + min (part - b) (p.length - b) + i by omega]
        exact k2
  rw [key, hd, like_pct]
  simp only [List.length_drop, List.drop_drop]
  constructor
  · rintro ⟨j, hj, h⟩
    cases j with
    | zero => left; simpa using h
    | succ j => right; exact ⟨at_ + (j + 1), by omega, by omega, h⟩
  · rintro (h | ⟨j, hj, hl, h⟩)
    · exact ⟨0, by omega, by simpa using h⟩
    · exact ⟨j - at_, by omega, by rw [show at_ + (j - at_) = j by omega]; exact h⟩

theorem inv_step {t p : List UInt8} {at_ part : Nat} {back : Option (Nat × Nat)} (h : LikeInv t p at_ part back) (hp : part < p.length) (ht : at_ < t.length) (hc : p[part] ≠ 37) (hm : p[part] = 95 ∨ p[part] = t[at_]) :
    LikeInv t p (at_ + 1) (part + 1) back := by
  obtain ⟨h1, h2, h3⟩ := h
  have hd := drop_cons p part hp
  have hdt := drop_cons t at_ ht
  have e : likeL (p.drop part) (t.drop at_) = true ↔ likeL (p.drop (part + 1)) (t.drop (at_ + 1)) = true := by
    rw [hd, hdt, like_one hc]
    constructor
    · rintro ⟨x, t', ht', _, h⟩
      injection ht' with _ ht'
      rw [ht']; exact h
    · exact fun h => ⟨_, _, rfl, hm, h⟩
  refine ⟨ht, hp, ?_⟩
  cases back with
  | none => exact h3.trans e
  | some bf =>
    obtain ⟨b, fr⟩ := bf
    obtain ⟨g1, g2, g3, g4, g5⟩ := h3
    refine ⟨by omega, by omega, by omega, ?_, g5.trans (or_congr_left e)⟩
    intro c hcm
    rw [show part + 1 - b = (part - b) + 1 by omega] at hcm
    have hlt : part - b < (p.drop b).length := by simp; omega
    rw [List.take_succ_eq_append_getElem hlt, List.mem_append] at hcm
    rcases hcm with hcm | hcm
    · exact g4 c hcm
    · simp at hcm
      rw [hcm]
      have : b + (part - b) = part := by omega
      simpa [this] using hc

/-- No way on: the pattern's next part is there and does not fit, or there is none. -/
def Stuck (t p : List UInt8) (at_ part : Nat) : Prop := ∀ hp : part < p.length, p[part] ≠ 37 ∧ ∀ ht : at_ < t.length, ¬ (p[part] = 95 ∨ p[part] = t[at_])
theorem stuck_not {t p : List UInt8} {at_ part : Nat} (ht : at_ < t.length) (hs : Stuck t p at_ part) : ¬ likeL (p.drop part) (t.drop at_) = true := by
  intro h
  have hdt := drop_cons t at_ ht
  by_cases hp : part < p.length
  · obtain ⟨g1, g2⟩ := hs hp
    rw [drop_cons p part hp, hdt, like_one g1] at h
    obtain ⟨x, t', ht', hm, _⟩ := h
    injection ht' with hx _
    rw [← hx] at hm
    exact g2 ht hm
  · rw [List.drop_eq_nil_of_le (by omega), hdt] at h
    simp [likeL] at h
    omega
theorem inv_back {t p : List UInt8} {at_ part b fr : Nat} (h : LikeInv t p at_ part (some (b, fr))) (ht : at_ < t.length) (hs : Stuck t p at_ part) :
    LikeInv t p (fr + 1) b (some (b, fr + 1)) := by
  obtain ⟨h1, h2, g1, g2, g3, g4, g5⟩ := h
  have hn := stuck_not ht hs
  refine ⟨by omega, by omega, Nat.le_refl _, Nat.le_refl _, by omega, by simp, ?_⟩
  rw [g5]
  constructor
  · rintro (h | ⟨j, hj, hl, h⟩)
    · exact absurd h hn
    · by_cases e : j = fr + 1
      · left; rw [← e]; exact h
      · right; exact ⟨j, by omega, hl, h⟩
  · rintro (h | ⟨j, hj, hl, h⟩)
    · right; exact ⟨fr + 1, by omega, by omega, h⟩
    · right; exact ⟨j, by omega, hl, h⟩
theorem inv_false {t p : List UInt8} {at_ part : Nat} (h : LikeInv t p at_ part none) (ht : at_ < t.length) (hs : Stuck t p at_ part) : likeL p t = false := by
  obtain ⟨_, _, h3⟩ := h
  have hn := stuck_not ht hs
  cases e : likeL p t with
  | false => rfl
  | true => exact absurd (h3.1 e) hn
theorem like_nil (p : List UInt8) : likeL p [] = p.all (· == 37) := by
  induction p with
  | nil => rfl
  | cons c p ih =>
    by_cases hc : c = 37
    · subst hc
      simp [likeL, someTail, ih]
    · simp [likeL, hc]
theorem inv_end {t p : List UInt8} {at_ part : Nat} {back : Option (Nat × Nat)} (h : LikeInv t p at_ part back) (ht : ¬ at_ < t.length) : likeL p t = (p.drop part).all (· == 37) := by
  obtain ⟨h1, h2, h3⟩ := h
  have e : t.drop at_ = [] := List.drop_eq_nil_of_le (by omega)
  have key : likeL p t = true ↔ likeL (p.drop part) (t.drop at_) = true := by
    cases back with
    | none => exact h3
    | some bf =>
      obtain ⟨b, fr⟩ := bf
      obtain ⟨g1, g2, g3, g4, g5⟩ := h3
      rw [g5]
      refine ⟨?_, Or.inl⟩
      rintro (h | ⟨j, hj, hjl, h⟩)
      · exact h
      · exfalso
        rw [drop_split p b part g1 h2] at h
        obtain ⟨k1, k2⟩ := like_seg _ _ _ g4 h
        rw [List.length_take, List.length_drop, List.length_drop] at k1
        omega
  rw [e, like_nil] at key
  exact Bool.eq_iff_iff.2 key
end Go.Proofs.YticlmegcpneckaaDoor

/- Objects within and beside one another, as keys stand; pure. -/
import Derived.Test.YtmldpbgdjlblmaaDoorM10F
namespace Go.Proofs.YtmldpbgdjlblmaaDoor
open Go.RowKit
set_option linter.unusedVariables false
set_option linter.unusedSimpArgs false

/-- Is a key below another? -/
def kl (a b : ByteArray) : Bool := Op.bytesLess a.toList b.toList
theorem bl_irrefl : ∀ l : List UInt8, Op.bytesLess l l = false
  | [] => rfl
  | a :: x => by simp [Op.bytesLess, bl_irrefl x]
theorem bl_trans : ∀ a b c : List UInt8, Op.bytesLess a b = true → Op.bytesLess b c = true → Op.bytesLess a c = true
  | _, [], _, h, _ => by simp [Op.bytesLess] at h
  | _, _ :: _, [], _, h => by simp [Op.bytesLess] at h
  | [], b :: y, c :: z, _, _ => by simp [Op.bytesLess]
  | a :: x, b :: y, c :: z, h1, h2 => by
    simp only [Op.bytesLess, Bool.or_eq_true, Bool.and_eq_true, decide_eq_true_eq, beq_iff_eq] at h1 h2 ⊢
    rcases h1 with h1 | ⟨rfl, h1⟩
    · rcases h2 with h2 | ⟨rfl, h2⟩
      · exact Or.inl (by have h3 := UInt8.lt_iff_toNat_lt.1 h1; have h4 := UInt8.lt_iff_toNat_lt.1 h2; exact UInt8.lt_iff_toNat_lt.2 (by omega))
      · exact Or.inl h1
    · rcases h2 with h2 | ⟨rfl, h2⟩
      · exact Or.inl h2
      · exact Or.inr ⟨rfl, bl_trans x y z h1 h2⟩
theorem bl_total : ∀ a b : List UInt8, Op.bytesLess a b = false → Op.bytesLess b a = false → a = b
  | [], [], _, _ => rfl
  | [], _ :: _, h, _ => by simp [Op.bytesLess] at h
  | _ :: _, [], _, h => by simp [Op.bytesLess] at h
  | a :: x, b :: y, h1, h2 => by
    simp only [Op.bytesLess, Bool.or_eq_false_iff, Bool.and_eq_false_iff, decide_eq_false_iff_not, beq_eq_false_iff_ne] at h1 h2
    have e : a = b := by
      have h3 : ¬ a.toNat < b.toNat := fun h => h1.1 (UInt8.lt_iff_toNat_lt.2 h)
      have h4 : ¬ b.toNat < a.toNat := fun h => h2.1 (UInt8.lt_iff_toNat_lt.2 h)
      exact UInt8.toNat_inj.1 (by omega)
    subst e
    rw [bl_total x y (by simpa using h1.2) (by simpa using h2.2)]
theorem kl_irrefl (a : ByteArray) : kl a a = false := bl_irrefl _
theorem kl_trans {a b c : ByteArray} (h : kl a b = true) (k : kl b c = true) : kl a c = true := bl_trans _ _ _ h k
theorem kl_eq {a b : ByteArray} (h : kl a b = false) (k : kl b a = false) : a = b := by
  have := bl_total _ _ h k
  rw [ByteArray.toList_eq, ByteArray.toList_eq] at this
  cases a; cases b
  simpa using this
theorem kl_asymm {a b : ByteArray} (h : kl a b = true) : kl b a = false := by
  cases hk : kl b a with
  | false => rfl
  | true => have := kl_trans h hk; rw [kl_irrefl] at this; cases this
theorem kl_lt_le {a b c : ByteArray} (h : kl a b = true) (k : kl c b = false) : kl a c = true := by
  cases hk : kl b c with
  | true => exact kl_trans h hk
  | false => rw [← kl_eq hk k]; exact h
theorem kl_le_lt {a b c : ByteArray} (h : kl b a = false) (k : kl b c = true) : kl a c = true := by
  cases hk : kl a b with
  | true => exact kl_trans hk k
  | false => rw [kl_eq hk h]; exact k
theorem kl_le_le {a b c : ByteArray} (h : kl b a = false) (k : kl c b = false) : kl c a = false := by
  cases hk : kl c a with
  | false => rfl
  | true => rw [kl_lt_le hk h] at k; cases k
theorem kl_empty (a : ByteArray) : kl a ByteArray.empty = false := by
  unfold kl
  rw [show ByteArray.empty.toList = [] from by rw [ByteArray.toList_eq]; rfl]
  cases a.toList <;> rfl

theorem gt_kl (a b : ByteArray) : (!(Op.bytesLess a.toList b.toList || a.toList == b.toList)) = kl b a := by
  by_cases e : a = b
  · subst e
    rw [kl_irrefl]; simp
  · have h2 : (a.toList == b.toList) = false := by
      rw [beq_eq_false_iff_ne]
      intro h
      apply e
      rw [ByteArray.toList_eq, ByteArray.toList_eq] at h
      cases a; cases b
      simpa using h
    rw [h2, Bool.or_false]
    show (!kl a b) = kl b a
    cases h : kl a b with
    | true => rw [kl_asymm h]; rfl
    | false =>
      cases h' : kl b a with
      | true => rfl
      | false => exact absurd (kl_eq h h') e
theorem lb_kl (a b : ByteArray) : lb a b = !kl b a := by
  rw [← gt_kl a b, Bool.not_not]; rfl
theorem tl_eq {a b : ByteArray} (h : a.toList = b.toList) : a = b := by
  rw [ByteArray.toList_eq, ByteArray.toList_eq] at h
  cases a; cases b
  simpa using h
theorem bs_iff {a b : Ob} : bs a b = true ↔ a.sp = b.sp ∧ a.tb = b.tb ∧ pl a = true ∧ pl b = true := by
  simp only [bs, Bool.and_eq_true, decide_eq_true_eq]
  constructor
  · rintro ⟨⟨⟨h1, h2⟩, h3⟩, h4⟩
    exact ⟨h1, tl_eq h2, h3, h4⟩
  · rintro ⟨h1, h2, h3, h4⟩
    exact ⟨⟨⟨h1, by rw [h2]⟩, h3⟩, h4⟩
theorem rch_iff {o : Ob} {k : ByteArray} : rch o k = true ↔ o.en = true ∨ kl o.hi k = false := by
  rw [rch, lb_kl]
  simp
theorem mt_iff {a b : Ob} : mt a b = true ↔ bs a b = true ∧ rch a b.lo = true ∧ rch b a.lo = true := by
  simp [mt, and_assoc]
theorem wi_iff {a b : Ob} : wi a b = true ↔ bs a b = true ∧ kl a.lo b.lo = false ∧ (a.en = true → b.en = true) ∧ (a.en = false → rch b a.hi = true) := by
  cases h : a.en <;> simp [wi, h, kl, and_assoc]
theorem wi_trans {a b c : Ob} (h1 : wi a b = true) (h2 : wi b c = true) : wi a c = true := by
  rw [wi_iff] at h1 h2 ⊢
  obtain ⟨x1, x2, x3, x4⟩ := h1
  obtain ⟨y1, y2, y3, y4⟩ := h2
  rw [bs_iff] at x1 y1
  refine ⟨bs_iff.2 ⟨x1.1.trans y1.1, x1.2.1.trans y1.2.1, x1.2.2.1, y1.2.2.2⟩, kl_le_le y2 x2, fun h => y3 (x3 h), fun h => ?_⟩
  have z := x4 h
  rw [rch_iff] at z ⊢
  rcases z with z | z
  · exact Or.inl (y3 z)
  · cases hb : b.en with
    | true => exact Or.inl (y3 hb)
    | false =>
      have u := y4 hb
      rw [rch_iff] at u
      rcases u with u | u
      · exact Or.inl u
      · exact Or.inr (kl_le_le z u)
theorem wi_meet {a b c : Ob} (h1 : wi a b = true) (h2 : mt a c = true) : mt b c = true := by
  rw [wi_iff] at h1
  rw [mt_iff] at h2 ⊢
  obtain ⟨x1, x2, x3, x4⟩ := h1
  obtain ⟨y1, y2, y3⟩ := h2
  rw [bs_iff] at x1 y1
  refine ⟨bs_iff.2 ⟨x1.1.symm.trans y1.1, x1.2.1.symm.trans y1.2.1, x1.2.2.2, y1.2.2.2⟩, ?_, ?_⟩
  · rw [rch_iff] at y2 ⊢
    cases ha : a.en with
    | true => exact Or.inl (x3 ha)
    | false =>
      have u := x4 ha
      rw [rch_iff] at u
      rcases u with u | u
      · exact Or.inl u
      · rcases y2 with y2 | y2
        · rw [ha] at y2; cases y2
        · exact Or.inr (kl_le_le y2 u)
  · rw [rch_iff] at y3 ⊢
    rcases y3 with y3 | y3
    · exact Or.inl y3
    · exact Or.inr (kl_le_le x2 y3)
theorem pl_end {o : Ob} (h : pl o = true) (he : o.en = true) : o.hi.toList = [] := by
  obtain ⟨sp, tb, lo, hi, en⟩ := o
  simp only at he ⊢
  subst he
  simp only [pl] at h
  split at h
  · simp at h
  · split at h
    · cases h
    · split at h
      · simp at h
      · split at h
        · cases h
        · simpa [em] using h
theorem wi_anti {a b : Ob} (h1 : wi a b = true) (h2 : wi b a = true) : a = b := by
  rw [wi_iff] at h1 h2
  obtain ⟨x1, x2, x3, x4⟩ := h1
  obtain ⟨y1, y2, y3, y4⟩ := h2
  rw [bs_iff] at x1
  have e1 := x1.1
  have e2 := x1.2.1
  have e3 := kl_eq x2 y2
  have e5 : a.en = b.en := by
    cases ha : a.en with
    | true => exact (x3 ha).symm
    | false =>
      cases hb : b.en with
      | true => rw [y3 hb] at ha; cases ha
      | false => rfl
  have e4 : a.hi = b.hi := by
    cases ha : a.en with
    | true => exact tl_eq ((pl_end x1.2.2.1 ha).trans (pl_end x1.2.2.2 (e5 ▸ ha)).symm)
    | false =>
      have u := x4 ha
      have v := y4 (e5 ▸ ha)
      rw [rch_iff] at u v
      rcases u with u | u
      · rw [← e5, ha] at u; cases u
      · rcases v with v | v
        · rw [ha] at v; cases v
        · exact kl_eq v u
  obtain ⟨sa, ta, la, ua, na⟩ := a
  obtain ⟨sb, tb, lb', ub, nb⟩ := b
  simp only at e1 e2 e3 e4 e5
  subst e1 e2 e3 e4 e5
  rfl
theorem pl_keys {o : Ob} (h : pl o = true) : o.en = true ∨ kl o.hi o.lo = false := by
  obtain ⟨sp, tb, lo, hi, en⟩ := o
  simp only
  cases en
  · right
    simp only [pl] at h
    have nil : lo.toList = [] → kl hi lo = false := fun e => by
      simp only [kl, e]
      cases hi.toList <;> rfl
    split at h
    · simp [em] at h
      exact nil h.1.2
    · split at h
      · cases h
      · split at h
        · simp [em] at h
          exact nil h.1
        · split at h
          · cases h
          · simpa [lb_kl] using h
  · exact Or.inl rfl
theorem self_all {a : Ob} (h : pl a = true) : mt a a = true ∧ wi a a = true := by
  have hb : bs a a = true := bs_iff.2 ⟨rfl, rfl, h, h⟩
  have hr : rch a a.lo = true := rch_iff.2 (pl_keys h)
  exact ⟨mt_iff.2 ⟨hb, hr, hr⟩, wi_iff.2 ⟨hb, kl_irrefl _, id, fun _ => rch_iff.2 (Or.inr (kl_irrefl _))⟩⟩
theorem bs_symm (a b : Ob) : bs a b = bs b a := by
  cases h : bs a b <;> cases k : bs b a <;> try rfl
  · rw [bs_iff] at k
    rw [bs_iff.2 ⟨k.1.symm, k.2.1.symm, k.2.2.2, k.2.2.1⟩] at h
    cases h
  · rw [bs_iff] at h
    rw [bs_iff.2 ⟨h.1.symm, h.2.1.symm, h.2.2.2, h.2.2.1⟩] at k
    cases k
theorem mt_symm (a b : Ob) : mt a b = mt b a := by
  rw [mt, mt, bs_symm a b, Bool.and_assoc, Bool.and_assoc, Bool.and_comm (rch a b.lo)]
theorem key_both {p a b : Ob} (hp : p.en = false) (he : p.hi = p.lo) (h1 : wi p a = true) (h2 : wi p b = true) : mt a b = true := by
  rw [wi_iff] at h1 h2
  rw [mt_iff]
  obtain ⟨x1, x2, x3, x4⟩ := h1
  obtain ⟨y1, y2, y3, y4⟩ := h2
  have u := x4 hp
  have v := y4 hp
  rw [he, rch_iff] at u v
  rw [bs_iff] at x1 y1
  refine ⟨bs_iff.2 ⟨x1.1.symm.trans y1.1, x1.2.1.symm.trans y1.2.1, x1.2.2.2, y1.2.2.2⟩, ?_, ?_⟩
  · rw [rch_iff]
    rcases u with u | u
    · exact Or.inl u
    · exact Or.inr (kl_le_le y2 u)
  · rw [rch_iff]
    rcases v with v | v
    · exact Or.inl v
    · exact Or.inr (kl_le_le x2 v)
theorem key_meet {p a : Ob} (hp : p.en = false) (he : p.hi = p.lo) : wi p a = mt p a := by
  simp only [wi, mt, hp, he]
  have : rch p a.lo = !Op.bytesLess p.lo.toList a.lo.toList := by
    rw [rch, hp, lb_kl, he]; rfl
  rw [this]
  simp
end Go.Proofs.YtmldpbgdjlblmaaDoor

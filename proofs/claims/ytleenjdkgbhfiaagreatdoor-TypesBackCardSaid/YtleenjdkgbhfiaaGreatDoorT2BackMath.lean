/- Plain mathematics of there and back: a number's digits with blanks behind them are read as the number; so are the words of truth values. -/
import Derived.Test.YtleenjdkgbhfiaaGreatDoorT2Name
namespace Go.Proofs.YtleenjdkgbhfiaaGreatDoor
open Go.RowKit
set_option linter.unusedVariables false

theorem digV_snoc (acc : Nat) (l : List UInt8) (c : UInt8) : digV acc (l ++ [c]) = digV acc l * 10 + (c.toNat - 48) := by
  unfold digV
  rw [List.foldl_append, List.foldl_cons, List.foldl_nil]
theorem dig_toNat {d : Nat} (h : d < 10) : (UInt8.ofNat (48 + d)).toNat = 48 + d := by
  simp
  omega
theorem dec_digs (u : Nat) : (Lib.decDigits u).all isDig = true ∧ digV 0 (Lib.decDigits u) = u := by
  induction u using Nat.strongRecOn with
  | _ u ih =>
    by_cases h : u < 10
    · rw [Lib.decDigits_one h]
      have e := dig_toNat h
      refine ⟨?_, ?_⟩
      · rw [List.all_cons, List.all_nil, isDig, e]
        simp
        omega
      · rw [digV_cons, digV_nil, e]
        omega
    · rw [Lib.decDigits, dif_neg h]
      obtain ⟨h1, h2⟩ := ih (u / 10) (by omega)
      have e := dig_toNat (d := u % 10) (by omega)
      refine ⟨?_, ?_⟩
      · rw [List.all_append, h1, List.all_cons, List.all_nil, isDig, e]
        simp
        omega
      · rw [digV_snoc, h2, e]
        omega
theorem dec_ne (u : Nat) : ∃ c r, Lib.decDigits u = c :: r ∧ isDig c = true := by
  have h := (dec_digs u).1
  cases hd : Lib.decDigits u with
  | nil =>
    have := Lib.decDigits_length u
    rw [hd] at this
    have := Lib.nDigits_pos u
    simp at *
    omega
  | cons c r =>
    rw [hd, List.all_cons, Bool.and_eq_true] at h
    exact ⟨c, r, rfl, h.1⟩
theorem isDig_iff {c : UInt8} : isDig c = true ↔ 48 ≤ c.toNat ∧ c.toNat ≤ 57 := by simp [isDig]
theorem itoa_reads {n : Int} (h : -9223372036854775808 ≤ n ∧ n ≤ 9223372036854775807) : isNumL (Lib.itoa n) = true ∧ numV (Lib.itoa n) = n := by
  have hl := itoa_len h
  unfold Lib.itoa at hl ⊢
  by_cases h0 : n < 0
  · rw [if_pos h0] at hl ⊢
    have hu : unsign (45 :: Lib.decDigits n.natAbs) = Lib.decDigits n.natAbs := by
      rw [unsign, if_pos (Or.inr (by decide))]
    have hm : isMinus (45 :: Lib.decDigits n.natAbs) = true := rfl
    obtain ⟨c, r, hd, _⟩ := dec_ne n.natAbs
    refine ⟨?_, ?_⟩
    · rw [isNumL, hu, (dec_digs _).1, Bool.and_true]
      rw [List.length_cons] at hl
      have : 1 ≤ (Lib.decDigits n.natAbs).length := by rw [hd]; simp
      simp
      omega
    · rw [numV, hm, if_pos rfl, hu, (dec_digs _).2]
      omega
  · rw [if_neg h0] at hl ⊢
    obtain ⟨c, r, hd, hc⟩ := dec_ne n.toNat
    have hc2 := isDig_iff.1 hc
    have hu : unsign (Lib.decDigits n.toNat) = Lib.decDigits n.toNat := by
      rw [hd, unsign, if_neg (by omega)]
    have hm : isMinus (Lib.decDigits n.toNat) = false := by
      rw [hd, isMinus]
      simp
      intro e
      rw [e] at hc2
      revert hc2
      decide
    refine ⟨?_, ?_⟩
    · rw [isNumL, hu, (dec_digs _).1, Bool.and_true]
      have : 1 ≤ (Lib.decDigits n.toNat).length := by rw [hd]; simp
      simp
      omega
    · rw [numV, hm, hu, (dec_digs _).2]
      simp
      omega
theorem drop_rep (j : Nat) (l : List UInt8) : (List.replicate j 32 ++ l).dropWhile (· == 32) = l.dropWhile (· == 32) := by
  induction j with
  | zero => simp
  | succ j ih => rw [List.replicate_succ, List.cons_append, List.dropWhile_cons_of_pos (by rfl), ih]
theorem drop_no {l : List UInt8} (h : ∀ c ∈ l, c ≠ 32) : l.dropWhile (· == 32) = l := by
  cases l with
  | nil => rfl
  | cons c r => rw [List.dropWhile_cons_of_neg]; simpa using h c (by simp)
theorem trim_pad {l : List UInt8} (h : ∀ c ∈ l, c ≠ 32) (j : Nat) : Lib.trimB (l ++ List.replicate j 32) 32 = l := by
  unfold Lib.trimB Lib.trimLeftB Lib.trimRightB
  have hr : ∀ c ∈ l.reverse, c ≠ 32 := fun c hc => h c (List.mem_reverse.1 hc)
  have e : (l ++ List.replicate j (32 : UInt8)).reverse.dropWhile (· == 32) = l.reverse := by
    rw [List.reverse_append, List.reverse_replicate, drop_rep, drop_no hr]
  rw [e, List.reverse_reverse, drop_no h]
theorem itoa_no (n : Int) : ∀ c ∈ Lib.itoa n, c ≠ 32 := by
  intro c hc
  unfold Lib.itoa at hc
  split at hc
  · rcases List.mem_cons.1 hc with rfl | hc
    · decide
    · have := isDig_iff.1 (List.all_eq_true.1 (dec_digs _).1 c hc)
      intro e
      subst e
      revert this
      decide
  · have := isDig_iff.1 (List.all_eq_true.1 (dec_digs _).1 c hc)
    intro e
    subst e
    revert this
    decide
theorem word_no (b : Bool) : ∀ c ∈ wordB b, c ≠ 32 := by
  cases b <;> decide
/-- What a text with room holds is read again, whatever blanks stand behind it. -/
theorem trim_padL {l : List UInt8} (h : ∀ c ∈ l, c ≠ 32) (b z : Int) : Lib.trimB (padL l b z) 32 = l := by
  unfold padL
  split
  · exact trim_pad h _
  · have := trim_pad h 0
    simpa using this
theorem back_num {n : Int} (h : -9223372036854775808 ≤ n ∧ n ≤ 9223372036854775807) (b z : Int) : readA (Lib.trimB (padL (Lib.itoa n) b z) 32) 3 = ansNum n := by
  obtain ⟨h1, h2⟩ := itoa_reads h
  rw [trim_padL (itoa_no n), readA, if_pos h1, h2, if_pos]
  simp [in64, fitsT, h]
theorem back_bool (x : Bool) (b z : Int) : truthA (Lib.trimB (padL (wordB x) b z) 32) = ansBool x := by
  rw [trim_padL (word_no x)]
  cases x
  · rw [truthA, if_pos (by decide)]
  · rw [truthA, if_neg (by decide), if_pos (by decide)]
end Go.Proofs.YtleenjdkgbhfiaaGreatDoor

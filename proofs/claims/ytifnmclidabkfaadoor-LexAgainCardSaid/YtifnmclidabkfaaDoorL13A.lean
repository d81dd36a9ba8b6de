/- The document's letter, digit, blank. -/
import Derived.Test.YtifnmclidabkfaaDoorL13P
import Derived.WalkKit
import Derived.WalkSpells
import Derived.WalkLawsBesides
import Derived.Deep.QuietTactic
import Derived.BigQuiet
import Derived.Deep.DeepCutAuto
import Derived.Deep.CutBlock
import Derived.Lib.Strings
namespace Go.Proofs.YtifnmclidabkfaaDoor
open Go.RowKit
set_option linter.unusedVariables false
set_option linter.unusedSimpArgs false

theorem Hid.mk' {P : Prop} (h : P) : Hid P := h
/-- Letters, digits and blanks by their numbers. -/
def ltI (x : Int) : Bool := (decide (97 ≤ x) && decide (x ≤ 122)) || (decide (65 ≤ x) && decide (x ≤ 90)) || decide (x = 95)
def dgI (x : Int) : Bool := decide (48 ≤ x) && decide (x ≤ 57)
def blI (x : Int) : Bool := decide (x = 9) || decide (x = 10) || decide (x = 13) || decide (x = 32)
theorem ltI_of (c : UInt8) : ltI c.toNat = isLt c := by
  have : ∀ n : Fin 256, ltI (UInt8.ofNat n.val).toNat = isLt (UInt8.ofNat n.val) := by decide +kernel
  have h := this ⟨c.toNat, c.toNat_lt⟩
  simpa only [UInt8.ofNat_toNat] using h
theorem dgI_of (c : UInt8) : dgI c.toNat = isDg c := by
  have : ∀ n : Fin 256, dgI (UInt8.ofNat n.val).toNat = isDg (UInt8.ofNat n.val) := by decide +kernel
  have h := this ⟨c.toNat, c.toNat_lt⟩
  simpa only [UInt8.ofNat_toNat] using h
theorem blI_of (c : UInt8) : blI c.toNat = isBl c := by
  have : ∀ n : Fin 256, blI (UInt8.ofNat n.val).toNat = isBl (UInt8.ofNat n.val) := by decide +kernel
  have h := this ⟨c.toNat, c.toNat_lt⟩
  simpa only [UInt8.ofNat_toNat] using h
/-- What is left of a text behind a place. -/
def rest (s : ByteArray) (i : Nat) : List UInt8 := s.data.toList.drop i
theorem rest_len (s : ByteArray) (i : Nat) : (rest s i).length = s.size - i := by simp [rest]
theorem rest_at (s : ByteArray) {i : Nat} (h : i < s.size) : rest s i = s[i] :: rest s (i + 1) := by
  unfold rest
  rw [List.drop_eq_getElem_cons (by simpa using h)]
  congr 1
theorem rest_end (s : ByteArray) {i : Nat} (h : s.size ≤ i) : rest s i = [] := by
  unfold rest
  exact List.drop_eq_nil_of_le (by simpa using h)
theorem tw_stop {p : UInt8 → Bool} (s : ByteArray) : ∀ (m i n : Nat), s.size - i ≤ m → i + n ≤ s.size → (∀ j, j < n → ∀ h : i + j < s.size, p s[i + j] = true) → (∀ h : i + n < s.size, p s[i + n] = false) → ((rest s i).takeWhile p).length = n := by
  intro m
  induction m with
  | zero =>
    intro i n hm hn _ _
    rw [rest_end s (by omega)]
    simp; omega
  | succ m ih =>
    intro i n hm hn h1 h2
    by_cases hi : i < s.size
    · rw [rest_at s hi, List.takeWhile_cons]
      cases n with
      | zero =>
        have := h2 (by simpa using hi)
        simp only [Nat.add_zero] at this
        rw [if_neg (by rw [this]; simp)]
        rfl
      | succ n =>
        have := h1 0 (by omega) (by simpa using hi)
        simp only [Nat.add_zero] at this
        rw [if_pos this, List.length_cons]
        congr 1
        refine ih (i + 1) n (by omega) (by omega) (fun j hj h => ?_) (fun h => ?_)
        · have := h1 (j + 1) (by omega) (by omega)
          simpa only [show i + (j + 1) = i + 1 + j by omega] using this
        · have := h2 (by omega)
          simpa only [show i + (n + 1) = i + 1 + n by omega] using this
    · rw [rest_end s (by omega)]
      simp; omega
theorem u8_eq {c : UInt8} {n : Nat} (hn : n < 256) : ((c.toNat : Int) = (n : Int)) ↔ c = UInt8.ofNat n := by
  constructor
  · intro h
    have h' : c.toNat = n := by omega
    rw [← h']; simp
  · rintro rfl
    simp; omega
end Go.Proofs.YtifnmclidabkfaaDoor

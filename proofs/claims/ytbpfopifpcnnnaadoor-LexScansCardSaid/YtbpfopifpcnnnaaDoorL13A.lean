/- The document's letter, digit, blank. -/
import Derived.Test.YtbpfopifpcnnnaaDoorL13P
import Derived.WalkKit
import Derived.WalkSpells
import Derived.WalkLawsBesides
import Derived.Deep.QuietTactic
import Derived.BigQuiet
import Derived.Deep.DeepCutAuto
import Derived.Deep.CutBlock
import Derived.Lib.Strings
namespace Go.Proofs.YtbpfopifpcnnnaaDoor
open Go.RowKit
set_option linter.unusedVariables false
set_option linter.unusedSimpArgs false

theorem Hid.mk' {P : Prop} (h : P) : Hid P := h
/-- Letters, digits and blanks by their numbers. -/
def ltI (x : Int) : Bool := (decide (97 ≤ x) && decide (x ≤ 122)) || (decide (65 ≤ x) && decide (x ≤ 90)) || decide (x = 95)
def dgI (x : Int) : Bool := decide (48 ≤ x) && decide (x ≤ 57)
def blI (x : Int) : Bool := decide (x = 9) || decide (x = 10) || decide (x = 13) || decide (x = 32)
theorem ltI_of (c : UInt8) : ltI c.toNat = isLt c := by
  have : ∀ n : Fin 256, ltI (UInt8.ofNat n.val).toNat = isLt (UInt8.ofNat n.val) := by decide +kernel
  have h := this ⟨c.toNat, c.toNat_lt⟩
  simpa only [UInt8.ofNat_toNat] using h
theorem dgI_of (c : UInt8) : dgI c.toNat = isDg c := by
  have : ∀ n : Fin 256, dgI (UInt8.ofNat n.val).toNat = isDg (UInt8.ofNat n.val) := by decide +kernel
  have h := this ⟨c.toNat, c.toNat_lt⟩
  simpa only [UInt8.ofNat_toNat] using h
theorem blI_of (c : UInt8) : blI c.toNat = isBl c := by
  have : ∀ n : Fin 256, blI (UInt8.ofNat n.val).toNat = isBl (UInt8.ofNat n.val) := by decide +kernel
  have h := this ⟨c.toNat, c.toNat_lt⟩
  simpa only [UInt8.ofNat_toNat] using h
theorem letter_ref (x : Int) (w : World) : Calls Tryd.prog 20 #[.int .u8 x] w fun e w' => e = .returned (.bool (ltI x)) ∧ w' = w := by
  by_cases h1 : 97 ≤ x <;> by_cases h2 : x ≤ 122 <;> by_cases h3 : 65 ≤ x <;> by_cases h4 : x ≤ 90 <;> by_cases h5 : x = 95
  all_goals first
    | omega
    | (have e5 : (x == 95) = decide (x = 95) := by by_cases h : x = 95 <;> simp [h]
       simp only [ltI, h1, h2, h3, h4, h5]
       go_enter Tryd.func20, Tryd.ntmps20
       go_wp2
       go_ret
       exact ⟨rfl, rfl⟩)
theorem digit_ref (x : Int) (w : World) : Calls Tryd.prog 21 #[.int .u8 x] w fun e w' => e = .returned (.bool (dgI x)) ∧ w' = w := by
  by_cases h1 : 48 ≤ x <;> by_cases h2 : x ≤ 57
  all_goals first
    | omega
    | (simp only [dgI, h1, h2]
       go_enter Tryd.func21, Tryd.ntmps21
       go_wp2
       go_ret
       exact ⟨rfl, rfl⟩)
/-- What is left of a text behind a place. -/
def rest (s : ByteArray) (i : Nat) : List UInt8 := s.data.toList.drop i
theorem rest_len (s : ByteArray) (i : Nat) : (rest s i).length = s.size - i := by simp [rest]
theorem rest_at (s : ByteArray) {i : Nat} (h : i < s.size) : rest s i = s[i] :: rest s (i + 1) := by
  unfold rest
  rw [List.drop_eq_getElem_cons (by simpa using h)]
  congr 1
theorem rest_end (s : ByteArray) {i : Nat} (h : s.size ≤ i) : rest s i = [] := by
  unfold rest
  exact List.drop_eq_nil_of_le (by simpa using h)
theorem tw_stop {p : UInt8 → Bool} (s : ByteArray) : ∀ (m i n : Nat), s.size - i ≤ m → i + n ≤ s.size → (∀ j, j < n → ∀ h : i + j < s.size, p s[i + j] = true) → (∀ h : i + n < s.size, p s[i + n] = false) → ((rest s i).takeWhile p).length = n := by
  intro m
  induction m with
  | zero =>
    intro i n hm hn _ _
    rw [rest_end s (by omega)]
    simp; omega
  | succ m ih =>
    intro i n hm hn h1 h2
    by_cases hi : i < s.size
    · rw [rest_at s hi, List.takeWhile_cons]
      cases n with
      | zero =>
        have := h2 (by simpa using hi)
        simp only [Nat.add_zero] at this
        rw [if_neg (by rw [this]; simp)]
        rfl
      | succ n =>
        have := h1 0 (by omega) (by simpa using hi)
        simp only [Nat.add_zero] at this
        rw [if_pos this, List.length_cons]
        congr 1
        refine ih (i + 1) n (by omega) (by omega) (fun j hj h => ?_) (fun h => ?_)
        · have := h1 (j + 1) (by omega) (by omega)
          simpa only [show i + (j + 1) = i + 1 + j by omega] using this
        · have := h2 (by omega)
          simpa only [show i + (n + 1) = i + 1 + n by omega] using this
    · rw [rest_end s (by omega)]
      simp; omega
theorem u8_eq {c : UInt8} {n : Nat} (hn : n < 256) : ((c.toNat : Int) = (n : Int)) ↔ c = UInt8.ofNat n := by
  constructor
  · intro h
    have h' : c.toNat = n := by omega
    rw [← h']; simp
  · rintro rfl
    simp; omega
set_option maxHeartbeats 2000000 in
theorem blank_ref (s : ByteArray) (hs : s.size ≤ 10000) {i : Nat} (hi : i < s.size) (w : World) : Calls Tryd.prog 19 #[.string s, .int .i64 i] w fun e w' => e = .returned (.int .i64 (blN (rest s i) : Nat)) ∧ w' = w := by
  have hi2 : (i : Int) < (s.size : Int) := by omega
  have hb := blI_of s[i]
  cases hbl : isBl s[i] with
  | true =>
    rw [hbl] at hb
    have hv : blN (rest s i) = 1 := by rw [rest_at s hi]; simp only [blN, hbl, if_true]
    rw [hv]
    generalize hx : (s[i].toNat : Int) = x at *
    have hc : x = 9 ∨ x = 10 ∨ x = 13 ∨ x = 32 := by
      simp only [blI, Bool.or_eq_true, decide_eq_true_eq] at hb
      omega
    rcases hc with rfl | rfl | rfl | rfl
    all_goals
      go_enter Tryd.func19, Tryd.ntmps19
      go_wp2
      go_ret
      exact ⟨rfl, rfl⟩
  | false =>
    rw [hbl] at hb
    have hx9 : ((s[i].toNat : Int) == 9) = false ∧ ((s[i].toNat : Int) == 10) = false ∧ ((s[i].toNat : Int) == 13) = false ∧ ((s[i].toNat : Int) == 32) = false := by
      simp only [blI, Bool.or_eq_false_iff, decide_eq_false_iff_not] at hb
      simp only [beq_eq_false_iff_ne]
      exact ⟨hb.1.1.1, hb.1.1.2, hb.1.2, hb.2⟩
    obtain ⟨x1, x2, x3, x4⟩ := hx9
    clear hb
    by_cases h45 : (s[i].toNat : Int) = 45
    · have e45 : s[i] = 45 := (u8_eq (n := 45) (by omega)).1 h45
      by_cases hi1 : i + 1 < s.size
      · have hi3 : ¬ (i : Int) + 1 ≥ (s.size : Int) := by omega
        have hi4 : (i : Int) + 1 < (s.size : Int) := by omega
        by_cases hj45 : (s[i + 1].toNat : Int) = 45
        · have f45 : s[i + 1] = 45 := (u8_eq (n := 45) (by omega)).1 hj45
          have hv : blN (rest s i) = 2 + ((rest s (i + 2)).takeWhile (· != 10)).length := by
            rw [rest_at s hi, rest_at s hi1]
            simp only [blN, hbl, e45, f45]
            rfl
          rw [hv]
          clear x1 x2 x3 x4 hbl
          have HT : Hid (∀ n : Nat, 2 ≤ n → i + n ≤ s.size → (∀ j, 2 ≤ j → j < n → ∀ h : i + j < s.size, ¬ (s[i + j].toNat : Int) = 10) → (∀ h : i + n < s.size, (s[i + n].toNat : Int) = 10) → 2 + ((rest s (i + 2)).takeWhile (· != 10)).length = n) := fun n h2 hn ha hz => by
            have hne : ∀ c : UInt8, ¬ (c.toNat : Int) = 10 → (c != 10) = true := fun c hc => by
              rw [bne_iff_ne]
              intro e
              exact hc (by rw [e]; rfl)
            have heq : ∀ c : UInt8, (c.toNat : Int) = 10 → (c != 10) = false := fun c hc => by
              have : c = 10 := (u8_eq (n := 10) (by omega)).1 hc
              rw [this]; rfl
            have := tw_stop (p := fun c => c != 10) s s.size (i + 2) (n - 2) (by omega) (by omega) (fun j hj h => by
              have := ha (j + 2) (by omega) (by omega) (by omega)
              refine hne _ ?_
              simpa only [show i + (j + 2) = i + 2 + j by omega] using this) (fun h => by
              have := hz (by omega)
              refine heq _ ?_
              simpa only [show i + n = i + 2 + (n - 2) by omega] using this)
            omega
          generalize 2 + ((rest s (i + 2)).takeWhile (· != 10)).length = N at *
          have HS1 : Hid (∀ k : Nat, i + k < s.size → True) := fun _ _ => trivial
          go_enter Tryd.func19, Tryd.ntmps19
          go_wp2
          go_loopw [6] (fun x wr => ∃ n : Nat, x = .int .i64 n ∧ 2 ≤ n ∧ i + n ≤ s.size ∧ Hid (∀ j, 2 ≤ j → j < n → ∀ h : i + j < s.size, ¬ (s[i + j].toNat : Int) = 10) ∧ wr = w) (fun x _ => s.size - (intOf x).toNat)
          case atStart => exact ⟨2, rfl, by omega, by omega, fun j h1 h2 => by omega, rfl⟩
          case round =>
            obtain ⟨n, rfl, hn2, hns, HA, rfl⟩ := hrel
            by_cases hlt : i + n < s.size
            · have tl : (i : Int) + (n : Int) < (s.size : Int) := by omega
              by_cases h10 : (s[i + n].toNat : Int) = 10
              · have HE := Go.Proofs.YtbpfopifpcnnnaaDoor.Hid.mk' (HT.out n hn2 hns HA.out (fun h => h10))
                obtain rfl := HE.out
                clear HT HE HA
                go_wp2
                go_ret
                exact ⟨rfl, rfl⟩
              · have HN : Hid (∀ j, 2 ≤ j → j < n + 1 → ∀ h : i + j < s.size, ¬ (s[i + j].toNat : Int) = 10) := fun j h1 h2 h => by
                  by_cases e : j = n
                  · subst e; exact h10
                  · exact HA.out j h1 (by omega) h
                have h10' : ((s[i + n].toNat : Int) == 10) = false := by simpa using h10
                clear HT HA
                go_wp2
                go_roundw
                case rel => exact ⟨n + 1, by go_num, by omega, by omega, HN, by first | rfl | trivial⟩
                case measure => simp [intOf]; omega
            · have tl : ¬ (i : Int) + (n : Int) < (s.size : Int) := by omega
              have HE := Go.Proofs.YtbpfopifpcnnnaaDoor.Hid.mk' (HT.out n hn2 hns HA.out (fun h => absurd h hlt))
              obtain rfl := HE.out
              clear HT HE HA
              go_wp2
              go_ret
              exact ⟨rfl, rfl⟩
        · have hj45' : ((s[i + 1].toNat : Int) == 45) = false := by simpa using hj45
          have hv : blN (rest s i) = 0 := by
            rw [rest_at s hi, rest_at s hi1]
            have : (s[i + 1] == 45) = false := by
              rw [beq_eq_false_iff_ne]
              intro e
              exact hj45 (by rw [e]; rfl)
            simp only [blN, hbl, this]
            simp
          rw [hv]
          generalize (s[i].toNat : Int) = x at *
          subst h45
          go_enter Tryd.func19, Tryd.ntmps19
          go_wp2
          go_ret
          exact ⟨rfl, rfl⟩
      · have hi3 : (i : Int) + 1 ≥ (s.size : Int) := by omega
        have hv : blN (rest s i) = 0 := by
          rw [rest_at s hi, rest_end s (i := i + 1) (by omega)]
          simp only [blN, hbl]
          simp
        rw [hv]
        generalize (s[i].toNat : Int) = x at *
        subst h45
        go_enter Tryd.func19, Tryd.ntmps19
        go_wp2
        go_ret
        exact ⟨rfl, rfl⟩
    · have h45' : ((s[i].toNat : Int) == 45) = false := by simpa using h45
      have hv : blN (rest s i) = 0 := by
        rw [rest_at s hi]
        refine blN_no hbl ?_
        rw [beq_eq_false_iff_ne]
        intro e
        exact h45 (by rw [e]; rfl)
      rw [hv]
      have n1 : ¬ (s[i].toNat : Int) = 9 := by rw [beq_eq_false_iff_ne] at x1; exact x1
      have n2 : ¬ (s[i].toNat : Int) = 10 := by rw [beq_eq_false_iff_ne] at x2; exact x2
      have n3 : ¬ (s[i].toNat : Int) = 13 := by rw [beq_eq_false_iff_ne] at x3; exact x3
      have n4 : ¬ (s[i].toNat : Int) = 32 := by rw [beq_eq_false_iff_ne] at x4; exact x4
      clear hv
      go_enter Tryd.func19, Tryd.ntmps19
      go_wp2
      go_ret
      exact ⟨rfl, rfl⟩
end Go.Proofs.YtbpfopifpcnnnaaDoor

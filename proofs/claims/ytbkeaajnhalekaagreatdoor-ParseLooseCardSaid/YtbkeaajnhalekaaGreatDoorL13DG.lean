/- How a number is written: the document's Digits, and spelled of any token. -/
import Derived.Test.YtbkeaajnhalekaaGreatDoorL13M
import Derived.Lib.ItoaNum
namespace Go.Proofs.YtbkeaajnhalekaaGreatDoor
open Go.RowKit
set_option linter.unusedVariables false
set_option linter.unusedSimpArgs false

theorem ret_s {u v : ByteArray} (h : u = v) : Ending.returned (.string u) = .returned (.string v) := by rw [h]
theorem nDigits_le : ∀ (k u : Nat), u < 10 ^ (k + 1) → Lib.nDigits u ≤ k + 1
  | 0, u, h => by rw [Lib.nDigits_small (by simpa using h)]; exact Nat.le_refl _
  | k + 1, u, h => by
    by_cases h10 : u < 10
    · rw [Lib.nDigits_small h10]; omega
    · rw [Lib.nDigits_big h10]
      have := nDigits_le k (u / 10) (by rw [Nat.pow_succ] at h; omega)
      omega
theorem itoa_len {n : Int} (h : -9223372036854775808 ≤ n ∧ n ≤ 9223372036854775807) : (Lib.itoa n).length ≤ 20 := by
  unfold Lib.itoa
  split
  · rw [List.length_cons, Lib.decDigits_length]
    have := nDigits_le 18 n.natAbs (by omega)
    omega
  · rw [Lib.decDigits_length]
    have := nDigits_le 18 n.toNat (by omega)
    omega
/-- A number's digits. -/
theorem dig_ext (d : Nat) (h : d < 10) : (⟨#[48, 49, 50, 51, 52, 53, 54, 55, 56, 57]⟩ : ByteArray).extract d (d + 1) = ⟨#[UInt8.ofNat (48 + d)]⟩ := by
  have : ∀ d : Fin 10, (⟨#[48, 49, 50, 51, 52, 53, 54, 55, 56, 57]⟩ : ByteArray).extract d.val (d.val + 1) = ⟨#[UInt8.ofNat (48 + d.val)]⟩ := by decide +kernel
  exact this ⟨d, h⟩
theorem dec_small {m : Nat} (h : m < 10) : Lib.decDigits m = [UInt8.ofNat (48 + m)] := Lib.decDigits_one h
theorem dec_big {m : Nat} (h : ¬ m < 10) : Lib.decDigits m = Lib.decDigits (m / 10) ++ [UInt8.ofNat (48 + m % 10)] := by rw [Lib.decDigits, dif_neg h]
theorem fig_end {U m : Nat} {sign u : ByteArray} (hD : Lib.decDigits U = Lib.decDigits m ++ u.data.toList) (h : m < 10) : sign ++ ((⟨#[48 + UInt8.ofNat (m % 10)]⟩ : ByteArray) ++ u) = sign ++ (⟨(Lib.decDigits U).toArray⟩ : ByteArray) := by
  rw [hD, dec_small h]
  congr 1
  apply ByteArray.ext
  simp [Nat.mod_eq_of_lt h]
set_option maxHeartbeats 1000000 in
theorem rfig_any (U : Nat) (sign : ByteArray) (w : World) (h : U ≤ 9223372036854775808) (hs : sign.size ≤ 1) :
    Calls Tryz.prog 50 #[.int .i64 (-(U : Int)), .string sign] w fun e w' => e = .returned (.string (sign ++ ⟨(Lib.decDigits U).toArray⟩)) ∧ Below w.heap.size w w' := by
  go_enter Tryz.func50, Tryz.ntmps50
  go_wp2
  go_loop [0, 5] (fun v s => ∃ (m : Nat) (u : ByteArray), v = .int .i64 (-(m : Int)) ∧ s = .string u ∧ m ≤ 9223372036854775808 ∧ u.size ≤ 100 - Lib.nDigits m ∧ Lib.decDigits U = Lib.decDigits m ++ u.data.toList) (fun v s => match v with | .int _ z => z.natAbs | _ => 0)
  case atStart => exact ⟨U, ⟨#[]⟩, rfl, rfl, h, Nat.zero_le _, by simp⟩
  case round =>
    obtain ⟨m, u, rfl, rfl, hm, hu, hD⟩ := hrel
    have HD : Hid _ := hD
    clear hD
    have hdx := dig_ext (m % 10) (by omega)
    have hr : (-(m : Int)).tmod 10 = -((m % 10 : Nat) : Int) := by rw [Int.neg_tmod, Int.tmod_eq_emod_of_nonneg (by omega)]; omega
    have hq : (-(m : Int)).tdiv 10 = -((m / 10 : Nat) : Int) := by rw [Int.neg_tdiv, Int.tdiv_eq_ediv_of_nonneg (by omega)]; omega
    have hnd := nDigits_le 18 m (by omega)
    have huz : u.size ≤ 100 := by omega
    have HU : Hid _ := hu
    have HND : Hid _ := hnd
    clear hu hnd
    by_cases h0 : m < 10
    · go_wp2
      go_ret
      exact ⟨ret_s (fig_end HD.out h0), Below.refl _ _⟩
    · go_wp2
      refine ⟨⟨m / 10, _, by rw [Int.natCast_ediv]; rfl, rfl, by omega, ?_, ?_⟩, ?_⟩
      · have := HU.out
        have := HND.out
        rw [Lib.nDigits_big h0] at this
        rw [ByteArray.size_append]
        show 1 + u.size ≤ _
        have h3 := HU.out
        rw [Lib.nDigits_big h0] at h3
        omega
      · rw [HD.out, dec_big h0]
        simp
      · show (-((m : Int) / 10)).natAbs < (-(m : Int)).natAbs
        omega
set_option maxHeartbeats 1000000 in
theorem rdig_pos (U : Nat) (w : World) (h : U ≤ 9223372036854775807) :
    Calls Tryz.prog 32 #[.int .i64 U] w fun e w' => e = .returned (.string ((⟨#[]⟩ : ByteArray) ++ ⟨(Lib.decDigits U).toArray⟩)) ∧ Below w.heap.size w w' := by
  go_enter Tryz.func32, Tryz.ntmps32
  have e1 : (-(U : Int) - 1 + 1) = -(U : Int) := by omega
  go_wp2_with (go_at_call 50; refine (rfig_any U ⟨#[]⟩ _ (by omega) (by decide)).mono ?_; rintro e w1 ⟨rfl, hb⟩)
  go_ret
  exact ⟨rfl, hb⟩

/-- The figures of a number. -/
def dgF (v : Int) : List UInt8 := Lib.decDigits v.toNat
theorem val_snoc (l : List UInt8) (c : UInt8) : val (l ++ [c]) = 10 * val l + (c.toNat - 48) := by simp [val, List.foldl_append]
theorem fig_dg (d : Nat) (h : d < 10) : isDg (UInt8.ofNat (48 + d)) = true ∧ (UInt8.ofNat (48 + d)).toNat - 48 = d := by
  have : ∀ d : Fin 10, isDg (UInt8.ofNat (48 + d.val)) = true ∧ (UInt8.ofNat (48 + d.val)).toNat - 48 = d.val := by decide +kernel
  exact this ⟨d, h⟩
theorem dec_all : ∀ (k m : Nat), m ≤ k → (∀ c ∈ Lib.decDigits m, isDg c = true) ∧ Lib.decDigits m ≠ [] ∧ val (Lib.decDigits m) = m := by
  intro k
  induction k with
  | zero =>
    intro m hm
    obtain rfl : m = 0 := by omega
    rw [dec_small (by omega)]
    decide
  | succ k ih =>
    intro m hm
    by_cases h : m < 10
    · rw [dec_small h]
      obtain ⟨h1, h2⟩ := fig_dg m h
      refine ⟨by simpa using h1, by simp, ?_⟩
      show val ([] ++ [UInt8.ofNat (48 + m)]) = m
      rw [val_snoc]
      simpa [val] using h2
    · rw [dec_big h]
      obtain ⟨a, b, c⟩ := ih (m / 10) (by omega)
      obtain ⟨h1, h2⟩ := fig_dg (m % 10) (by omega)
      refine ⟨fun x hx => ?_, by simp, ?_⟩
      · rcases List.mem_append.1 hx with hx | hx
        · exact a x hx
        · rw [List.mem_singleton.1 hx]; exact h1
      · rw [val_snoc, c, h2]; omega
theorem digsF : Digs dgF := ⟨fun v _ _ => (dec_all _ v.toNat (Nat.le_refl _)).1, fun v _ _ => (dec_all _ v.toNat (Nat.le_refl _)).2.1, fun v _ _ => (dec_all _ v.toNat (Nat.le_refl _)).2.2⟩
theorem dgF_len {v : Int} (h1 : v ≤ 9223372036854775807) : (dgF v).length ≤ 20 := by
  unfold dgF
  rw [Lib.decDigits_length]
  have := nDigits_le 18 v.toNat (by omega)
  omega
/-- What kinds of tokens there are. -/
theorem good_kinds {k : Int} {s : List UInt8} {v : Int} (h : Good k s v) : ((k = 0 ∨ k = 3) ∧ s.length ≤ 32) ∨ (k = 1 ∧ 0 ≤ v ∧ v ≤ 9223372036854775807) ∨ (k = 2 ∧ s.length ≤ 400) := by
  obtain ⟨r, n, h⟩ := h
  cases r with
  | nil => simp [stp, blN] at h
  | cons c q =>
    unfold stp at h
    split at h
    · cases h
    · simp only at h
      split at h
      · unfold wdS at h
        split at h
        · cases h
        · rename_i hn
          injection h with e1 e2 e3 e4
          subst e1 e2
          exact Or.inl ⟨Or.inl rfl, by rw [List.length_map]; omega⟩
      · split at h
        · unfold nmS at h
          split at h
          · cases h
          · rename_i hv
            split at h
            · cases h
            · injection h with e1 e2 e3 e4
              exact Or.inr (Or.inl ⟨e1.symm, by omega, by omega⟩)
        · split at h
          · unfold txS at h
            split at h
            · cases h
            · split at h
              · split at h
                · cases h
                · rename_i hl
                  injection h with e1 e2 e3 e4
                  subst e2
                  exact Or.inr (Or.inr ⟨e1.symm, by omega⟩)
              · cases h
          · unfold sgS at h
            split at h
            · cases h
            · rename_i g hg
              injection h with e1 e2 e3 e4
              subst e2
              refine Or.inl ⟨Or.inr e1.symm, ?_⟩
              have hm := List.mem_of_find?_eq_some hg
              have : signs.all (fun g => decide (g.length ≤ 32)) = true := by decide
              simpa using List.all_eq_true.1 this g hm
theorem spl_len {k : Int} {s : List UInt8} {v : Int} (h : Good k s v) : (spl dgF k s v).length ≤ 900 := by
  unfold spl
  rcases good_kinds h with ⟨hk, hs⟩ | ⟨rfl, h0, h1⟩ | ⟨rfl, hs⟩
  · rw [if_neg (by omega), if_neg (by omega)]; omega
  · have := dgF_len h1
    simp; omega
  · have := dbl_len s
    simp; omega
end Go.Proofs.YtbkeaajnhalekaaGreatDoor

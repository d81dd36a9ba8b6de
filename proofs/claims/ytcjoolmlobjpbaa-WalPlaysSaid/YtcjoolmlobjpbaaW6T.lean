/- What the laws read of a region: rest. -/
import Derived.Test.YtcjoolmlobjpbaaW6R
namespace Go.Proofs.Ytcjoolmlobjpbaa
open Go.RowKit Go.Maps
set_option linter.unusedVariables false
set_option linter.unusedSimpArgs false

set_option maxHeartbeats 400000 in
theorem rest_any (v : Value) (xs : List UInt8) (p : Nat) (w : World) (h : Bytes w v xs) (hl : xs.length ≤ 1000000000) (hp : p ≤ xs.length) :
    Calls Try.prog 21 #[v, .int .i64 p] w fun e w' => e = .returned (.bool (zerosB (xs.drop p))) ∧ w' = w := by
  obtain ⟨ao, cap, rfl, hc, hx⟩ := h.form
  clear h
  go_enter Try.func21, Try.ntmps21
  go_wp2
  go_loop [5] (fun i => ∃ k : Nat, p ≤ k ∧ k ≤ xs.length ∧ i = .int .i64 k ∧ Hid (zerosB ((xs.drop p).take (k - p)) = true)) (fun i => xs.length - (intOf i).toNat)
  case atStart => exact ⟨p, Nat.le_refl _, hp, rfl, by show _ = _; simp [zerosB]⟩
  case round =>
    obtain ⟨k, hpk, hk, rfl, hz⟩ := hrel
    by_cases hlt : k < xs.length
    · obtain ⟨a, rfl, hx2⟩ := hx (by omega)
      have hcell := hx2 k (bv xs[k]) (by simp [hlt])
      have HS : Hid (zerosB ((xs.drop p).take (k + 1 - p)) = (xs[k] == 0)) := by
        show _ = _
        rw [zerosB_snoc xs p k hlt hpk, hz.out]; simp
      have HF : Hid (xs[k] ≠ 0 → zerosB (xs.drop p) = false) := by
        intro hne
        unfold zerosB
        rw [List.all_eq_false]
        refine ⟨xs[k], ?_, by simpa using hne⟩
        rw [List.mem_iff_getElem]
        exact ⟨k - p, by rw [List.length_drop]; omega, by rw [List.getElem_drop]; congr 1; omega⟩
      clear hx hx2
      generalize xs[k] = b at *
      unfold bv at hcell
      by_cases hb : b = 0
      · subst hb
        go_wp2
        go_round
        case rel => exact ⟨k + 1, by omega, by omega, by go_num, by show _ = _; rw [HS.out]; rfl⟩
        case measure => simp [intOf]; omega
      · have hb2 : b.toNat ≠ 0 := fun e => hb (UInt8.toNat_inj.1 e)
        have hb3 : ¬ ((b.toNat : Int) = 0) := by omega
        have hF := HF.out hb
        go_wp2
        go_ret
        exact ⟨rfl, rfl⟩
    · obtain rfl : k = xs.length := by omega
      have hz' : zerosB (xs.drop p) = true := by
        have := hz.out
        rwa [List.take_of_length_le (by rw [List.length_drop]; omega)] at this
      go_wp2
      go_ret
      exact ⟨rfl, rfl⟩
end Go.Proofs.Ytcjoolmlobjpbaa

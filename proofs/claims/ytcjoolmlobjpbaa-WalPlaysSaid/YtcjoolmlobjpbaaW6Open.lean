/- Bytes and truths as they are handed in, opened: where they lie, and that none is greater than the reach. -/
import Derived.Test.YtcjoolmlobjpbaaW6L
import Derived.ProofKit
import Derived.Deep.Slices
import Derived.Carry
import Derived.Lib.LaidTab
import Derived.Lib.SmallJoins
namespace Go.Proofs.Ytcjoolmlobjpbaa
open Go.RowKit Go.ChangeShapes Go.WideShapes Go.ChangeAt Go.Joins Go.Deep
set_option linter.unusedVariables false
set_option linter.unusedSimpArgs false

theorem laidOut : laidOutB Try.prog = true := by kernel_rfl
theorem bounds64 {x : Int} (h : (Lit.int .i64 x).wf = true) : -9223372036854775808 ≤ x ∧ x ≤ 9223372036854775807 := by
  simpa [Lit.wf, IntKind.min, IntKind.max, IntKind.signed, IntKind.bits] using h
theorem bounds8 {x : Int} (h : (Lit.int .u8 x).wf = true) : 0 ≤ x ∧ x ≤ 255 := by
  simpa [Lit.wf, IntKind.min, IntKind.max, IntKind.signed, IntKind.bits] using h
theorem weights_part {H : Type} {t : TypeId} {d : DataW H} {l : List (DataW H)} {n : Nat} (h : d ∈ l) (hn : n ∈ d.weights Try.prog t) : n ∈ DataW.weightsAll Try.prog t l := by
  induction l with
  | nil => cases h
  | cons x r ih =>
    simp only [DataW.weightsAll]
    cases List.mem_cons.1 h with
    | inl e => subst e; exact List.mem_append_left _ hn
    | inr e => exact List.mem_append_right _ (ih e)
theorem bytesU8 : Try.prog.bytesOf 5 = 1 := by kernel_rfl
theorem cellsU8 : Try.prog.cellsOf 5 = 1 := by kernel_rfl
theorem cellsBl : Try.prog.cellsOf 4 = 1 := by kernel_rfl
theorem trod_bytes {H : Type} {enc : TypeId × Value → H} {W : World} {fuel : Nat} {v : Value} {d : DataW H} {p : List MemPlace} {M : Nat}
    (hf' : DataW.trod enc Try.prog W 0 (fun _ => true) true fuel 36 [v] = some (d, p)) (hM : ∀ n ∈ d.weights Try.prog 36, n ≤ M) :
    ∃ xs : List UInt8, Bytes W v xs ∧ xs.length ≤ M := by
  rcases open_slice Try.underlying36 hf' with ⟨hc, _⟩ | ⟨a, len, cap, m, n, D, Pl, hc, _, hlc, hcm, hm, hx, hel⟩
  · exact ⟨[], Or.inl ⟨by simpa using hc, rfl⟩, Nat.zero_le _⟩
  · rw [cellsU8] at hel
    simp only [if_true] at hm
    subst hm
    have hd : d = .slice ((List.range len).map D) ((List.range (m - len)).map fun j => D (len + j)) := congrArg Prod.fst hx
    rw [hd] at hM
    simp only [DataW.weights, Try.underlying36, bytesU8] at hM
    have hlen : len ≤ M := by
      have := hM _ (List.mem_cons_self ..)
      simp only [List.length_map, List.length_range] at this
      omega
    have hall : ∀ i, i < len → ∃ c : UInt8, W.cell? (a.add i) = some (bv c) := fun i hi => by
      obtain ⟨cs', h1, h2⟩ := hel i (by omega)
      obtain ⟨z, rfl, _, wz⟩ := DataW.trod_int Try.underlying5 h2
      have hz := bounds8 wz
      unfold World.cells? at h1
      rw [if_pos (Nat.zero_le _)] at h1
      obtain ⟨b, hb, hc⟩ := Lib.mapM_at h1 0 0 (by simp)
      simp only [List.getElem?_cons_zero, Option.some.injEq] at hb
      subst hb
      refine ⟨UInt8.ofNat z.toNat, ?_⟩
      rw [Nat.mul_one, add_add, Nat.add_zero] at hc
      rw [hc]
      unfold bv
      rw [UInt8.toNat_ofNat']
      congr 2
      omega
    obtain ⟨X, hX⟩ := choose_lt hall
    refine ⟨(List.range len).map X, Or.inr ⟨a, m, by simpa using hc, by simpa using hlc, fun j hj => ?_⟩, by simpa using hlen⟩
    have hj' : j < len := by simpa using hj
    rw [hX j hj']
    simp
theorem trod_bools {H : Type} {enc : TypeId × Value → H} {W : World} {fuel : Nat} {v : Value} {d : DataW H} {p : List MemPlace}
    (hf' : DataW.trod enc Try.prog W 0 (fun _ => true) true fuel 37 [v] = some (d, p)) : ∃ ks : List Bool, Bools W v ks := by
  rcases open_slice Try.underlying37 hf' with ⟨hc, _⟩ | ⟨a, len, cap, m, n, D, Pl, hc, _, hlc, hcm, hm, hx, hel⟩
  · exact ⟨[], Or.inl ⟨by simpa using hc, rfl⟩⟩
  · rw [cellsBl] at hel
    simp only [if_true] at hm
    subst hm
    have hall : ∀ i, i < len → ∃ c : Bool, W.cell? (a.add i) = some (.bool c) := fun i hi => by
      obtain ⟨cs', h1, h2⟩ := hel i (by omega)
      obtain ⟨z, rfl, _⟩ := DataW.trod_bool Try.underlying4 h2
      unfold World.cells? at h1
      rw [if_pos (Nat.zero_le _)] at h1
      obtain ⟨b, hb, hc⟩ := Lib.mapM_at h1 0 0 (by simp)
      simp only [List.getElem?_cons_zero, Option.some.injEq] at hb
      subst hb
      refine ⟨z, ?_⟩
      rw [Nat.mul_one, add_add, Nat.add_zero] at hc
      exact hc
    obtain ⟨X, hX⟩ := choose_lt hall
    refine ⟨(List.range len).map X, Or.inr ⟨a, m, by simpa using hc, by simpa using hlc, fun j hj => ?_⟩⟩
    have hj' : j < len := by simpa using hj
    rw [hX j hj']
    simp
theorem open_bytes {H : Type} {enc : TypeId × Value → H} {W : World} {base : Nat} {v : Value} {d : DataW H} {p : List MemPlace} {M : Nat}
    (hv : Value.okWide Try.prog W .any base 36 v) (h : DataW.Trod enc Try.prog W 0 (fun _ => true) true 36 v d p) (hM : ∀ n ∈ d.weights Try.prog 36, n ≤ M) :
    ∃ xs : List UInt8, Bytes W v xs ∧ xs.length ≤ M := by
  obtain ⟨a0, len0, cap0, rfl⟩ := okWide_slice Try.underlying36 hv
  obtain ⟨fuel, hf⟩ := h
  exact trod_bytes (fuel := fuel) hf hM
theorem open_bools {H : Type} {enc : TypeId × Value → H} {W : World} {base : Nat} {v : Value} {d : DataW H} {p : List MemPlace}
    (hv : Value.okWide Try.prog W .any base 37 v) (h : DataW.Trod enc Try.prog W 0 (fun _ => true) true 37 v d p) :
    ∃ ks : List Bool, Bools W v ks := by
  obtain ⟨a0, len0, cap0, rfl⟩ := okWide_slice Try.underlying37 hv
  obtain ⟨fuel, hf⟩ := h
  exact trod_bools (fuel := fuel) hf

end Go.Proofs.Ytcjoolmlobjpbaa

/- Bytes as they are handed in, opened: where they lie, and that none is greater than the reach. -/
import Derived.Test.YtkmgahembhgloaaH8R
import Derived.ProofKit
import Derived.Deep.Slices
import Derived.Carry
import Derived.Lib.LaidTab
import Derived.Lib.SmallJoins
namespace Go.Proofs.Ytkmgahembhgloaa
open Go.RowKit Go.ChangeShapes Go.WideShapes Go.ChangeAt Go.Joins Go.Deep
set_option linter.unusedVariables false
set_option linter.unusedSimpArgs false

theorem laidOut : laidOutB Try.prog = true := by kernel_rfl
theorem bounds64 {x : Int} (h : (Lit.int .i64 x).wf = true) : -9223372036854775808 ≤ x ∧ x ≤ 9223372036854775807 := by
  simpa [Lit.wf, IntKind.min, IntKind.max, IntKind.signed, IntKind.bits] using h
theorem bounds8 {x : Int} (h : (Lit.int .u8 x).wf = true) : 0 ≤ x ∧ x ≤ 255 := by
  simpa [Lit.wf, IntKind.min, IntKind.max, IntKind.signed, IntKind.bits] using h
theorem weights_part {H : Type} {t : TypeId} {d : DataW H} {l : List (DataW H)} {n : Nat} (h : d ∈ l) (hn : n ∈ d.weights Try.prog t) : n ∈ DataW.weightsAll Try.prog t l := by
  induction l with
  | nil => cases h
  | cons x r ih =>
    simp only [DataW.weightsAll]
    cases List.mem_cons.1 h with
    | inl e => subst e; exact List.mem_append_left _ hn
    | inr e => exact List.mem_append_right _ (ih e)
theorem bytesU8 : Try.prog.bytesOf 5 = 1 := by kernel_rfl
theorem cellsU8 : Try.prog.cellsOf 5 = 1 := by kernel_rfl
theorem trod_bytes {H : Type} {enc : TypeId × Value → H} {W : World} {fuel : Nat} {v : Value} {d : DataW H} {p : List MemPlace} {M : Nat}
    (hf' : DataW.trod enc Try.prog W 0 (fun _ => true) true fuel 30 [v] = some (d, p)) (hM : ∀ n ∈ d.weights Try.prog 30, n ≤ M) :
    ∃ xs : List UInt8, Bytes W v xs ∧ xs.length ≤ M := by
  rcases open_slice Try.underlying30 hf' with ⟨hc, _⟩ | ⟨a, len, cap, m, n, D, Pl, hc, _, hlc, hcm, hm, hx, hel⟩
  · exact ⟨[], Or.inl ⟨by simpa using hc, rfl⟩, Nat.zero_le _⟩
  · rw [cellsU8] at hel
    simp only [if_true] at hm
    subst hm
    have hd : d = .slice ((List.range len).map D) ((List.range (m - len)).map fun j => D (len + j)) := congrArg Prod.fst hx
    rw [hd] at hM
    simp only [DataW.weights, Try.underlying30, bytesU8] at hM
    have hlen : len ≤ M := by
      have := hM _ (List.mem_cons_self ..)
      simp only [List.length_map, List.length_range] at this
      omega
    have hall : ∀ i, i < len → ∃ c : UInt8, W.cell? (a.add i) = some (bv c) := fun i hi => by
      obtain ⟨cs', h1, h2⟩ := hel i (by omega)
      obtain ⟨z, rfl, _, wz⟩ := DataW.trod_int Try.underlying5 h2
      have hz := bounds8 wz
      unfold World.cells? at h1
      rw [if_pos (Nat.zero_le _)] at h1
      obtain ⟨b, hb, hc⟩ := Lib.mapM_at h1 0 0 (by simp)
      simp only [List.getElem?_cons_zero, Option.some.injEq] at hb
      subst hb
      refine ⟨UInt8.ofNat z.toNat, ?_⟩
      rw [Nat.mul_one, add_add, Nat.add_zero] at hc
      rw [hc]
      unfold bv
      rw [UInt8.toNat_ofNat']
      congr 2
      omega
    obtain ⟨X, hX⟩ := choose_lt hall
    refine ⟨(List.range len).map X, Or.inr ⟨a, m, by simpa using hc, by simpa using hlc, fun j hj => ?_⟩, by simpa using hlen⟩
    have hj' : j < len := by simpa using hj
    rw [hX j hj']
    simp
set_option maxRecDepth 100000 in
theorem open_bytes {H : Type} {enc : TypeId × Value → H} {W : World} {base : Nat} {v : Value} {d : DataW H} {p : List MemPlace} {M : Nat}
    (hv : Value.okWide Try.prog W .any base 30 v) (h : DataW.Trod enc Try.prog W 0 (fun _ => true) true 30 v d p) (hM : ∀ n ∈ d.weights Try.prog 30, n ≤ M) :
    ∃ xs : List UInt8, Bytes W v xs ∧ xs.length ≤ M := by
  obtain ⟨a0, len0, cap0, rfl⟩ := okWide_slice Try.underlying30 hv
  obtain ⟨fuel, hf⟩ := h
  exact trod_bytes (fuel := fuel) hf hM
end Go.Proofs.Ytkmgahembhgloaa

/- Scripts and lists of texts as they are handed in, opened: where they lie. -/
import Derived.Test.YtfobcnmhghfanaaB9ZG
import Derived.ProofKit
import Derived.Deep.Slices
import Derived.Carry
import Derived.Lib.LaidTab
import Derived.Lib.SmallJoins
namespace Go.Proofs.Ytfobcnmhghfanaa
open Go.RowKit Go.ChangeShapes Go.WideShapes Go.ChangeAt Go.Joins Go.Deep
set_option linter.unusedVariables false
set_option linter.unusedSimpArgs false

theorem laidOut : laidOutB Try.prog = true := by kernel_rfl
theorem bounds64 {x : Int} (h : (Lit.int .i64 x).wf = true) : -9223372036854775808 ≤ x ∧ x ≤ 9223372036854775807 := by
  simpa [Lit.wf, IntKind.min, IntKind.max, IntKind.signed, IntKind.bits] using h
/-- A row of texts as it lies. -/
def RowS (w : World) (v : Value) (ss : List ByteArray) : Prop := ∃ ao cap, v = .slice ao ss.length cap ∧ ss.length ≤ cap ∧ (ss = [] ∨ ∃ g o, ao = some ⟨g, o, none⟩ ∧ ∀ k (h : k < ss.length), w.cell? ⟨g, o + k, none⟩ = some (.string ss[k]))
theorem cellsStr : Try.prog.cellsOf 9 = 1 := by kernel_rfl
set_option maxRecDepth 100000 in
theorem open_strs9 {H : Type} {enc : TypeId × Value → H} {W : World} {base : Nat} {v : Value} {d : DataW H} {p : List MemPlace}
    (hv : Value.okWide Try.prog W .any base 45 v) (h : DataW.Trod enc Try.prog W 0 (fun _ => true) true 45 v d p) : ∃ ss : List ByteArray, RowS W v ss := by
  obtain ⟨a0, len0, cap0, rfl⟩ := okWide_slice Try.underlying45 hv
  obtain ⟨fuel, hf⟩ := h
  have hf' : DataW.trod enc Try.prog W 0 (fun _ => true) true fuel 45 [.slice a0 len0 cap0] = some (d, p) := hf
  rcases open_slice Try.underlying45 hf' with ⟨hc, _⟩ | ⟨a, len, cap, m, n, D, Pl, hc, _, hlc, hcm, hm, hx, hel⟩
  · refine ⟨[], none, 0, ?_, by simp, Or.inl rfl⟩
    simpa using hc
  · rw [cellsStr] at hel
    simp only [if_true] at hm
    subst hm
    have hall : ∀ i, i < len → ∃ c : ByteArray, W.cell? (a.add i) = some (.string c) := fun i hi => by
      obtain ⟨cs', h1, h2⟩ := hel i (by omega)
      obtain ⟨z, rfl, _⟩ := DataW.trod_string Try.underlying9 h2
      unfold World.cells? at h1
      rw [if_pos (Nat.zero_le _)] at h1
      obtain ⟨b, hb, hc⟩ := Lib.mapM_at h1 0 0 (by simp)
      simp only [List.getElem?_cons_zero, Option.some.injEq] at hb
      subst hb
      rw [Nat.mul_one, add_add, Nat.add_zero] at hc
      exact ⟨z, hc⟩
    obtain ⟨X, hX⟩ := choose_lt hall
    refine ⟨(List.range len).map X, some a, m, by simpa using hc, by simpa using hlc, ?_⟩
    cases len with
    | zero => exact Or.inl rfl
    | succ len =>
      have hsp : a.spot = none := by
        have := World.cell?_spot (hX 0 (by omega))
        simpa [Addr.add] using this
      obtain ⟨g, o, sp⟩ := a
      simp only at hsp
      subst hsp
      refine Or.inr ⟨g, o, rfl, fun k hk => ?_⟩
      have hk' : k < len + 1 := by simpa using hk
      have := hX k hk'
      rw [Addr.add_mid] at this
      rw [this]
      simp
end Go.Proofs.Ytfobcnmhghfanaa

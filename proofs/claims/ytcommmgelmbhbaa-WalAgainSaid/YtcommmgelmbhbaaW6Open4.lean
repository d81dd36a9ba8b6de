/- What WalAgain is handed, opened. -/
import Derived.Test.YtcommmgelmbhbaaW6Open2
namespace Go.Proofs.Ytcommmgelmbhbaa
open Go.RowKit Go.ChangeShapes Go.WideShapes Go.ChangeAt Go.Joins Go.Deep
set_option linter.unusedVariables false
set_option linter.unusedSimpArgs false

theorem cellsTorn : Try.prog.cellsOf 56 = 6 := by kernel_rfl
theorem cellsCut : Try.prog.cellsOf 52 = 2 := by kernel_rfl
set_option maxRecDepth 100000 in
theorem trod_cut {H : Type} {enc : TypeId × Value → H} {W : World} {n : Nat} {c0 c1 : Value} {y : DataW H × List MemPlace}
    (h : DataW.trod enc Try.prog W 0 (fun _ => true) true n 52 [c0, c1] = some y) : ∃ (c : Int) (ao : Option Addr) (kn kc : Nat) (ks : List Bool), c0 = .int .i64 c ∧ c1 = .slice ao kn kc ∧ Bools W (.slice ao kn kc) ks ∧ -9223372036854775808 ≤ c ∧ c ≤ 9223372036854775807 := by
  obtain ⟨y0, y1, m, hx, hl, h0, h1⟩ := trod_struct2 Try.underlying52 h
  have k3 : Try.prog.cellsOf 3 = 1 := by kernel_rfl
  have k33 : Try.prog.cellsOf 37 = 1 := by kernel_rfl
  have h0' : DataW.trod enc Try.prog W 0 (fun _ => true) true m 3 [c0] = some y0 := by simpa [k3] using h0
  have h1' : DataW.trod enc Try.prog W 0 (fun _ => true) true m 37 [c1] = some y1 := by simpa [k33] using h1
  obtain ⟨k, e0, _, wk⟩ := DataW.trod_int Try.underlying3 h0'
  obtain ⟨ks, hK⟩ := trod_bools (d := y1.1) (p := y1.2) h1'
  obtain ⟨ao, kn, kc, hc⟩ := trod_oneS Try.underlying37 h1'
  simp at e0 hc
  subst e0 hc
  exact ⟨k, ao, kn, kc, ks, rfl, rfl, hK, bounds64 wk⟩
set_option maxRecDepth 100000 in
theorem open_torn {H : Type} {enc : TypeId × Value → H} {W : World} {base : Nat} {v : Value} {d : DataW H} {p : List MemPlace} {M : Nat} (hM2 : M ≤ 140737488355328)
    (hv : Value.okWide Try.prog W .any base 56 v) (h : DataW.Trod enc Try.prog W 0 (fun _ => true) true 56 v d p) (hM : ∀ n ∈ d.weights Try.prog 56, n ≤ M) :
    ∃ (ia ib ka kb : Option Addr) (ix iy cx cy k1n k1c k2n k2c : Nat) (c1 c2 : Int) (x y : List (List UInt8)) (ks1 ks2 : List Bool), v = .agg #[.slice ia ix cx, .slice ib iy cy, .int .i64 c1, .slice ka k1n k1c, .int .i64 c2, .slice kb k2n k2c] ∧ InRecs W.heap.size W (.slice ia ix cx) x ∧ InRecs W.heap.size W (.slice ib iy cy) y ∧ Bools W (.slice ka k1n k1c) ks1 ∧ Bools W (.slice kb k2n k2c) ks2 ∧ (-9223372036854775808 ≤ c1 ∧ c1 ≤ 9223372036854775807) ∧ (-9223372036854775808 ≤ c2 ∧ c2 ≤ 9223372036854775807) ∧ x.length ≤ M ∧ y.length ≤ M := by
  obtain ⟨cs, rfl, hsz⟩ := okWide_struct Try.underlying56 hv
  obtain ⟨fuel, hf⟩ := h
  have hf' : DataW.trod enc Try.prog W 0 (fun _ => true) true fuel 56 cs.toList = some (d, p) := hf
  obtain ⟨y0, y1, y2, y3, m, hx, hl, h0, h1, h2, h3⟩ := trod_struct4 Try.underlying56 hf'
  rw [cellsTorn] at hl
  obtain ⟨l, rfl⟩ : ∃ l : List Value, cs = l.toArray := ⟨cs.toList, by simp⟩
  simp only [List.toList_toArray] at hl h0 h1 h2 h3
  match l, hl with
  | [a0, a1, a2, a3, a4, a5], _ =>
    have kR : Try.prog.cellsOf 35 = 1 := by kernel_rfl
    have h0' : DataW.trod enc Try.prog W 0 (fun _ => true) true m 35 [a0] = some y0 := by simpa [kR] using h0
    have h1' : DataW.trod enc Try.prog W 0 (fun _ => true) true m 35 [a1] = some y1 := by simpa [kR] using h1
    have h2' : DataW.trod enc Try.prog W 0 (fun _ => true) true m 52 [a2, a3] = some y2 := by simpa [cellsCut] using h2
    have h3' : DataW.trod enc Try.prog W 0 (fun _ => true) true m 52 [a4, a5] = some y3 := by simpa [cellsCut] using h3
    clear h0 h1 h2 h3
    simp only [Prod.mk.injEq] at hx
    have hM0 : ∀ m ∈ y0.1.weights Try.prog 35, m ≤ M := fun m hm => hM m (by
      rw [hx.1]
      simp [DataW.weights, Try.underlying56, DataW.weightsEach, hm])
    have hM1 : ∀ m ∈ y1.1.weights Try.prog 35, m ≤ M := fun m hm => hM m (by
      rw [hx.1]
      simp [DataW.weights, Try.underlying56, DataW.weightsEach, hm])
    obtain ⟨x, hX, hxl⟩ := trod_recs hM2 (d := y0.1) (p := y0.2) h0' hM0
    obtain ⟨y, hY, hyl⟩ := trod_recs hM2 (d := y1.1) (p := y1.2) h1' hM1
    obtain ⟨ia, ix, cx, e0⟩ := trod_oneS Try.underlying35 h0'
    obtain ⟨ib, iy, cy, e1⟩ := trod_oneS Try.underlying35 h1'
    obtain ⟨c1, ka, k1n, k1c, ks1, r2, r3, hK1, hc1⟩ := trod_cut h2'
    obtain ⟨c2, kb, k2n, k2c, ks2, r4, r5, hK2, hc2⟩ := trod_cut h3'
    simp at e0 e1
    subst e0 e1 r2 r3 r4 r5
    exact ⟨ia, ib, ka, kb, ix, iy, cx, cy, k1n, k1c, k2n, k2c, c1, c2, x, y, ks1, ks2, rfl, hX, hY, hK1, hK2, hc1, hc2, hxl, hyl⟩
end Go.Proofs.Ytcommmgelmbhbaa

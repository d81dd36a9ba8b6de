/- A list of numbers as it is handed in, opened. -/
import Derived.Test.YtbkeaajnhalekaaGreatDoorP14PJ
import Derived.ProofKit
import Derived.Deep.Slices
import Derived.Lib.SmallJoins
namespace Go.Proofs.YtbkeaajnhalekaaGreatDoor
open Go.RowKit Go.ChangeShapes Go.WideShapes Go.ChangeAt Go.Joins Go.Deep
set_option linter.unusedVariables false
set_option linter.unusedSimpArgs false

/-- A row of numbers as it lies. -/
def RowI (w : World) (v : Value) (ss : List Int) : Prop := (∀ z ∈ ss, -9223372036854775808 ≤ z ∧ z ≤ 9223372036854775807) ∧ ∃ ao cap, v = .slice ao ss.length cap ∧ ss.length ≤ cap ∧ (ss = [] ∨ ∃ g o, ao = some ⟨g, o, none⟩ ∧ ∀ k (h : k < ss.length), w.cell? ⟨g, o + k, none⟩ = some (.int .i64 ss[k]))
theorem cellsInt14 : Tryz.prog.cellsOf 3 = 1 := by kernel_rfl
theorem addr_add0 (a : Addr) (i : Nat) : (a.add i).add 0 = a.add i := by simp [Addr.add]
theorem rowI_of {W : World} {a : Addr} {len m : Nat} {v : Value} (hc : v = .slice (some a) len m) (hlc : len ≤ m) (hall : ∀ i, i < len → ∃ c : Int, W.cell? (a.add i) = some (.int .i64 c) ∧ -9223372036854775808 ≤ c ∧ c ≤ 9223372036854775807) : ∃ ss : List Int, RowI W v ss := by
  obtain ⟨X, hX⟩ := choose_lt hall
  refine ⟨(List.range len).map X, fun z hz => ?_, some a, m, by simpa using hc, by simpa using hlc, ?_⟩
  · obtain ⟨i, hi, rfl⟩ := List.mem_map.1 hz
    exact (hX i (List.mem_range.1 hi)).2
  · cases len with
    | zero => exact Or.inl rfl
    | succ len =>
      have hsp : a.spot = none := by
        have := World.cell?_spot (hX 0 (by omega)).1
        simpa [Addr.add] using this
      obtain ⟨g, o, sp⟩ := a
      simp only at hsp
      subst hsp
      refine Or.inr ⟨g, o, rfl, fun k hk => ?_⟩
      have hk' : k < len + 1 := by simpa using hk
      have := (hX k hk').1
      rw [Addr.add_mid] at this
      rw [this]
      simp
set_option maxRecDepth 100000 in
theorem open_ints14 {H : Type} {enc : TypeId × Value → H} {W : World} {base : Nat} {v : Value} {d : DataW H} {p : List MemPlace}
    (hv : Value.okWide Tryz.prog W .any base 32 v) (h : DataW.Trod enc Tryz.prog W 0 (fun _ => true) true 32 v d p) : ∃ ss : List Int, RowI W v ss := by
  obtain ⟨a0, len0, cap0, rfl⟩ := okWide_slice Tryz.underlying32 hv
  obtain ⟨fuel, hf⟩ := h
  have hf' : DataW.trod enc Tryz.prog W 0 (fun _ => true) true fuel 32 [.slice a0 len0 cap0] = some (d, p) := hf
  rcases open_slice Tryz.underlying32 hf' with ⟨hc, _⟩ | ⟨a, len, cap, m, n, D, Pl, hc, _, hlc, hcm, hm, hx, hel⟩
  · refine ⟨[], fun z hz => by simp at hz, none, 0, ?_, by simp, Or.inl rfl⟩
    simpa using hc
  · rw [cellsInt14] at hel
    simp only [if_true] at hm
    subst hm
    refine rowI_of (by simpa using hc) hlc (fun i hi => ?_)
    obtain ⟨cs', h1, h2⟩ := hel i (by omega)
    obtain ⟨z, rfl, _, hz⟩ := DataW.trod_int Tryz.underlying3 h2
    unfold World.cells? at h1
    rw [if_pos (Nat.zero_le _)] at h1
    obtain ⟨b, hb, hc⟩ := Lib.mapM_at h1 0 0 (by simp)
    simp only [List.getElem?_cons_zero, Option.some.injEq] at hb
    subst hb
    rw [Nat.mul_one, addr_add0] at hc
    exact ⟨z, hc, bounds64 hz⟩
theorem RowI.keep {w w' : World} {v : Value} {ss : List Int} (h : RowI w v ss) (hb : Below w.heap.size w w') : RowI w' v ss := by
  obtain ⟨h0, ao, cap, hv, hc, h⟩ := h
  refine ⟨h0, ao, cap, hv, hc, ?_⟩
  rcases h with h | ⟨g, o, e, hk⟩
  · exact Or.inl h
  · refine Or.inr ⟨g, o, e, fun k hk' => ?_⟩
    exact (hb.cell (World.block_lt_of_cell? w _ (hk k hk'))).trans (hk k hk')
end Go.Proofs.YtbkeaajnhalekaaGreatDoor

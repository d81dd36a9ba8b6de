/- Lists of lists of records as they are handed in, opened. -/
import Derived.Test.YtcommmgelmbhbaaW6Open2
import Derived.Test.YtcommmgelmbhbaaWGWalk
namespace Go.Proofs.Ytcommmgelmbhbaa
open Go.RowKit Go.ChangeShapes Go.WideShapes Go.ChangeAt Go.Joins Go.Deep
set_option linter.unusedVariables false
set_option linter.unusedSimpArgs false

theorem cellsRs : Try.prog.cellsOf 35 = 1 := by kernel_rfl
theorem bytesRs : Try.prog.bytesOf 35 = 24 := by kernel_rfl
theorem open_recss {H : Type} {enc : TypeId × Value → H} {W : World} {base : Nat} {v : Value} {d : DataW H} {p : List MemPlace} {M : Nat} (hM2 : M ≤ 140737488355328)
    (hv : Value.okWide Try.prog W .any base 59 v) (h : DataW.Trod enc Try.prog W 0 (fun _ => true) true 59 v d p) (hM : ∀ n ∈ d.weights Try.prog 59, n ≤ M) :
    ∃ xs : List (List (List UInt8)), InParts W.heap.size W v xs ∧ xs.length ≤ M := by
  obtain ⟨a0, len0, cap0, rfl⟩ := okWide_slice Try.underlying59 hv
  obtain ⟨fuel, hf⟩ := h
  have hf' : DataW.trod enc Try.prog W 0 (fun _ => true) true fuel 59 [.slice a0 len0 cap0] = some (d, p) := hf
  rcases open_slice1 Try.underlying59 cellsRs hf' with ⟨hc, _⟩ | ⟨a, len, cap, m, n, V, D, Pl, hc, _, hlc, hcm, hm, hx, hel⟩
  · exact ⟨[], ⟨none, 0, by simpa using hc, Nat.le_refl _, fun k hk => by simp at hk⟩, Nat.zero_le _⟩
  · simp only [if_true] at hm
    subst hm
    have hd : d = .slice ((List.range len).map D) ((List.range (m - len)).map fun j => D (len + j)) := congrArg Prod.fst hx
    rw [hd] at hM
    simp only [DataW.weights, Try.underlying59, bytesRs] at hM
    have hlen : len ≤ M := by
      have := hM _ (List.mem_cons_self ..)
      simp only [List.length_map, List.length_range] at this
      omega
    have hall : ∀ i, i < len → ∃ r : List (List UInt8), InRecs W.heap.size W (V i) r ∧ r.length ≤ M := fun i hi => by
      obtain ⟨h1, h2⟩ := hel i (by omega)
      exact trod_recs hM2 h2 (fun k hk => hM _ (List.mem_cons_of_mem _ (List.mem_append_left _ (weights_part (List.mem_map.2 ⟨i, by simpa using hi, rfl⟩) hk))))
    obtain ⟨X, hX⟩ := choose_lt hall
    refine ⟨(List.range len).map X, ⟨some a, m, by simpa using hc, by simpa using hlc, fun k hk => ?_⟩, by simpa using hlen⟩
    have hk' : k < len := by simpa using hk
    obtain ⟨h1, h2⟩ := hel k (by omega)
    have hsp : a.spot = none := by
      have := World.cell?_spot (hel 0 (by omega)).1
      simpa [Addr.add] using this
    obtain ⟨g, o, sp⟩ := a
    simp only at hsp
    subst hsp
    obtain ⟨ao, n', c', hV⟩ := trod_oneS Try.underlying35 h2
    have hV' : V k = .slice ao n' c' := by simpa using hV
    have hlt := World.block_lt_of_cell? W _ h1
    rw [add_block] at hlt
    rw [Addr.add_mid, hV'] at h1
    have hb := hX k hk'
    rw [hV'] at hb
    exact ⟨g, o, ao, n', c', rfl, hlt, h1, by simpa using hb.1, by have := hb.2; simp; omega⟩
end Go.Proofs.Ytcommmgelmbhbaa

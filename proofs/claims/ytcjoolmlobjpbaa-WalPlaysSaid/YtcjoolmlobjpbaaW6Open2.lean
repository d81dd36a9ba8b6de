/- Lists of records, and what power does, as they are handed in, opened. -/
import Derived.Test.YtcjoolmlobjpbaaW6Open
import Derived.Test.YtcjoolmlobjpbaaW6P
import Derived.Lib.SmallJoins
namespace Go.Proofs.Ytcjoolmlobjpbaa
open Go.RowKit Go.ChangeShapes Go.WideShapes Go.ChangeAt Go.Joins Go.Deep
set_option linter.unusedVariables false
set_option linter.unusedSimpArgs false

theorem cellsBs : Try.prog.cellsOf 36 = 1 := by kernel_rfl
theorem bytesBs : Try.prog.bytesOf 36 = 24 := by kernel_rfl
theorem trod_oneS {H : Type} {enc : TypeId × Value → H} {W : World} {fuel : Nat} {cs : List Value} {t e : TypeId} {y : DataW H × List MemPlace} (hu : Try.prog.underlying t = some (.slice e)) (h : DataW.trod enc Try.prog W 0 (fun _ => true) true fuel t cs = some y) : ∃ ao n c, cs = [.slice ao n c] := by
  rcases open_slice hu h with ⟨hc, _⟩ | ⟨a, len, cap, m, n, D, Pl, hc, _⟩
  · exact ⟨_, _, _, hc⟩
  · exact ⟨_, _, _, hc⟩
theorem trod_recs {H : Type} {enc : TypeId × Value → H} {W : World} {fuel : Nat} {v : Value} {d : DataW H} {p : List MemPlace} {M : Nat} (hM2 : M ≤ 140737488355328)
    (hf' : DataW.trod enc Try.prog W 0 (fun _ => true) true fuel 35 [v] = some (d, p)) (hM : ∀ n ∈ d.weights Try.prog 35, n ≤ M) :
    ∃ xs : List (List UInt8), InRecs W.heap.size W v xs ∧ xs.length ≤ M := by
  rcases open_slice1 Try.underlying35 cellsBs hf' with ⟨hc, _⟩ | ⟨a, len, cap, m, n, V, D, Pl, hc, _, hlc, hcm, hm, hx, hel⟩
  · exact ⟨[], ⟨⟨none, 0, by simpa using hc, Nat.le_refl _, Or.inl rfl⟩, by simp⟩, Nat.zero_le _⟩
  · simp only [if_true] at hm
    subst hm
    have hd : d = .slice ((List.range len).map D) ((List.range (m - len)).map fun j => D (len + j)) := congrArg Prod.fst hx
    rw [hd] at hM
    simp only [DataW.weights, Try.underlying35, bytesBs] at hM
    have hlen : len ≤ M := by
      have := hM _ (List.mem_cons_self ..)
      simp only [List.length_map, List.length_range] at this
      omega
    have hall : ∀ i, i < len → ∃ r : List UInt8, Bytes W (V i) r ∧ r.length ≤ M := fun i hi => by
      obtain ⟨h1, h2⟩ := hel i (by omega)
      exact trod_bytes h2 (fun k hk => hM _ (List.mem_cons_of_mem _ (List.mem_append_left _ (weights_part (List.mem_map.2 ⟨i, by simpa using hi, rfl⟩) hk))))
    obtain ⟨X, hX⟩ := choose_lt hall
    refine ⟨(List.range len).map X, ⟨⟨some a, m, by simpa using hc, by simpa using hlc, ?_⟩, fun x hx => ?_⟩, by simpa using hlen⟩
    · cases len with
      | zero => exact Or.inl rfl
      | succ len =>
        have h00 := (hel 0 (by omega)).1
        have hsp : a.spot = none := by
          have := World.cell?_spot h00
          simpa [Addr.add] using this
        obtain ⟨g, o, sp⟩ := a
        simp only at hsp
        subst hsp
        refine Or.inr ⟨g, o, rfl, ?_, fun k hk => ?_⟩
        · have := World.block_lt_of_cell? W _ h00
          rwa [add_block] at this
        · have hk' : k < len + 1 := by simpa using hk
          have h1 := (hel k (by omega)).1
          rw [Addr.add_mid] at h1
          have hb := (hX k hk').1
          refine ⟨V k, h1, by simpa using hb, fun a n c e hne => ?_⟩
          have hpos : 0 < (X k).length := by
            rcases hXk : X k with _ | ⟨y, l⟩
            · exact absurd (by simpa using hXk) hne
            · simp
          exact hb.lt hpos a n c e
    · obtain ⟨i, hi, rfl⟩ := List.mem_map.1 hx
      have := (hX i (by simpa using hi)).2
      omega
theorem open_recs {H : Type} {enc : TypeId × Value → H} {W : World} {base : Nat} {v : Value} {d : DataW H} {p : List MemPlace} {M : Nat} (hM2 : M ≤ 140737488355328)
    (hv : Value.okWide Try.prog W .any base 35 v) (h : DataW.Trod enc Try.prog W 0 (fun _ => true) true 35 v d p) (hM : ∀ n ∈ d.weights Try.prog 35, n ≤ M) :
    ∃ xs : List (List UInt8), InRecs W.heap.size W v xs ∧ xs.length ≤ M := by
  obtain ⟨a0, len0, cap0, rfl⟩ := okWide_slice Try.underlying35 hv
  obtain ⟨fuel, hf⟩ := h
  exact trod_recs hM2 (fuel := fuel) hf hM
set_option maxRecDepth 100000 in
theorem open_cut {H : Type} {enc : TypeId × Value → H} {W : World} {base : Nat} {v : Value} {d : DataW H} {p : List MemPlace}
    (hv : Value.okWide Try.prog W .any base 52 v) (h : DataW.Trod enc Try.prog W 0 (fun _ => true) true 52 v d p) :
    ∃ (c : Int) (vk : Value) (ks : List Bool), v = .agg #[.int .i64 c, vk] ∧ Bools W vk ks ∧ -9223372036854775808 ≤ c ∧ c ≤ 9223372036854775807 := by
  obtain ⟨c0, c1, y0, y1, m, rfl, _, _, h0, h1⟩ := open_agg2 Try.underlying52 (by kernel_rfl) (by kernel_rfl) hv h
  obtain ⟨k, e0, _, wk⟩ := DataW.trod_int Try.underlying3 h0
  obtain ⟨ks, hK⟩ := trod_bools (d := y1.1) (p := y1.2) h1
  simp at e0
  subst e0
  exact ⟨k, c1, ks, rfl, hK, bounds64 wk⟩
end Go.Proofs.Ytcjoolmlobjpbaa

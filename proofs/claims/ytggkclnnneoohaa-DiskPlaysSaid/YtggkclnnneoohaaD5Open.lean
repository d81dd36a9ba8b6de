/- Scripts, truths and bytes as they are handed in, opened: where they lie, and that none is greater than the reach. -/
import Derived.Test.YtggkclnnneoohaaD5G
import Derived.ProofKit
import Derived.Deep.Slices
import Derived.Carry
import Derived.Lib.LaidTab
import Derived.Lib.SmallJoins
namespace Go.Proofs.Ytggkclnnneoohaa
open Go.RowKit Go.ChangeShapes Go.WideShapes Go.ChangeAt Go.Joins Go.Deep
set_option linter.unusedVariables false
set_option linter.unusedSimpArgs false

theorem laidOut : laidOutB Try.prog = true := by kernel_rfl
theorem bounds64 {x : Int} (h : (Lit.int .i64 x).wf = true) : -9223372036854775808 ≤ x ∧ x ≤ 9223372036854775807 := by
  simpa [Lit.wf, IntKind.min, IntKind.max, IntKind.signed, IntKind.bits] using h
theorem bounds8 {x : Int} (h : (Lit.int .u8 x).wf = true) : 0 ≤ x ∧ x ≤ 255 := by
  simpa [Lit.wf, IntKind.min, IntKind.max, IntKind.signed, IntKind.bits] using h
theorem weights_part {H : Type} {t : TypeId} {d : DataW H} {l : List (DataW H)} {n : Nat} (h : d ∈ l) (hn : n ∈ d.weights Try.prog t) : n ∈ DataW.weightsAll Try.prog t l := by
  induction l with
  | nil => cases h
  | cons x r ih =>
    simp only [DataW.weightsAll]
    cases List.mem_cons.1 h with
    | inl e => subst e; exact List.mem_append_left _ hn
    | inr e => exact List.mem_append_right _ (ih e)
theorem bytesU8 : Try.prog.bytesOf 5 = 1 := by kernel_rfl
theorem cellsU8 : Try.prog.cellsOf 5 = 1 := by kernel_rfl
theorem cellsBl : Try.prog.cellsOf 4 = 1 := by kernel_rfl
theorem trod_bytes {H : Type} {enc : TypeId × Value → H} {W : World} {fuel : Nat} {v : Value} {d : DataW H} {p : List MemPlace} {M : Nat}
    (hf' : DataW.trod enc Try.prog W 0 (fun _ => true) true fuel 32 [v] = some (d, p)) (hM : ∀ n ∈ d.weights Try.prog 32, n ≤ M) :
    ∃ xs : List UInt8, Bytes W v xs ∧ xs.length ≤ M := by
  rcases open_slice Try.underlying32 hf' with ⟨hc, _⟩ | ⟨a, len, cap, m, n, D, Pl, hc, _, hlc, hcm, hm, hx, hel⟩
  · exact ⟨[], Or.inl ⟨by simpa using hc, rfl⟩, Nat.zero_le _⟩
  · rw [cellsU8] at hel
    simp only [if_true] at hm
    subst hm
    have hd : d = .slice ((List.range len).map D) ((List.range (m - len)).map fun j => D (len + j)) := congrArg Prod.fst hx
    rw [hd] at hM
    simp only [DataW.weights, Try.underlying32, bytesU8] at hM
    have hlen : len ≤ M := by
      have := hM _ (List.mem_cons_self ..)
      simp only [List.length_map, List.length_range] at this
      omega
    have hall : ∀ i, i < len → ∃ c : UInt8, W.cell? (a.add i) = some (bv c) := fun i hi => by
      obtain ⟨cs', h1, h2⟩ := hel i (by omega)
      obtain ⟨z, rfl, _, wz⟩ := DataW.trod_int Try.underlying5 h2
      have hz := bounds8 wz
      unfold World.cells? at h1
      rw [if_pos (Nat.zero_le _)] at h1
      obtain ⟨b, hb, hc⟩ := Lib.mapM_at h1 0 0 (by simp)
      simp only [List.getElem?_cons_zero, Option.some.injEq] at hb
      subst hb
      refine ⟨UInt8.ofNat z.toNat, ?_⟩
      rw [Nat.mul_one, add_add, Nat.add_zero] at hc
      rw [hc]
      unfold bv
      rw [UInt8.toNat_ofNat']
      congr 2
      omega
    obtain ⟨X, hX⟩ := choose_lt hall
    refine ⟨(List.range len).map X, Or.inr ⟨a, m, by simpa using hc, by simpa using hlc, fun j hj => ?_⟩, by simpa using hlen⟩
    have hj' : j < len := by simpa using hj
    rw [hX j hj']
    simp
theorem trod_bools {H : Type} {enc : TypeId × Value → H} {W : World} {fuel : Nat} {v : Value} {d : DataW H} {p : List MemPlace}
    (hf' : DataW.trod enc Try.prog W 0 (fun _ => true) true fuel 33 [v] = some (d, p)) : ∃ ks : List Bool, Bools W v ks := by
  rcases open_slice Try.underlying33 hf' with ⟨hc, _⟩ | ⟨a, len, cap, m, n, D, Pl, hc, _, hlc, hcm, hm, hx, hel⟩
  · exact ⟨[], Or.inl ⟨by simpa using hc, rfl⟩⟩
  · rw [cellsBl] at hel
    simp only [if_true] at hm
    subst hm
    have hall : ∀ i, i < len → ∃ c : Bool, W.cell? (a.add i) = some (.bool c) := fun i hi => by
      obtain ⟨cs', h1, h2⟩ := hel i (by omega)
      obtain ⟨z, rfl, _⟩ := DataW.trod_bool Try.underlying4 h2
      unfold World.cells? at h1
      rw [if_pos (Nat.zero_le _)] at h1
      obtain ⟨b, hb, hc⟩ := Lib.mapM_at h1 0 0 (by simp)
      simp only [List.getElem?_cons_zero, Option.some.injEq] at hb
      subst hb
      refine ⟨z, ?_⟩
      rw [Nat.mul_one, add_add, Nat.add_zero] at hc
      exact hc
    obtain ⟨X, hX⟩ := choose_lt hall
    refine ⟨(List.range len).map X, Or.inr ⟨a, m, by simpa using hc, by simpa using hlc, fun j hj => ?_⟩⟩
    have hj' : j < len := by simpa using hj
    rw [hX j hj']
    simp
theorem open_bytes {H : Type} {enc : TypeId × Value → H} {W : World} {base : Nat} {v : Value} {d : DataW H} {p : List MemPlace} {M : Nat}
    (hv : Value.okWide Try.prog W .any base 32 v) (h : DataW.Trod enc Try.prog W 0 (fun _ => true) true 32 v d p) (hM : ∀ n ∈ d.weights Try.prog 32, n ≤ M) :
    ∃ xs : List UInt8, Bytes W v xs ∧ xs.length ≤ M := by
  obtain ⟨a0, len0, cap0, rfl⟩ := okWide_slice Try.underlying32 hv
  obtain ⟨fuel, hf⟩ := h
  exact trod_bytes (fuel := fuel) hf hM
theorem open_bools {H : Type} {enc : TypeId × Value → H} {W : World} {base : Nat} {v : Value} {d : DataW H} {p : List MemPlace}
    (hv : Value.okWide Try.prog W .any base 33 v) (h : DataW.Trod enc Try.prog W 0 (fun _ => true) true 33 v d p) :
    ∃ ks : List Bool, Bools W v ks := by
  obtain ⟨a0, len0, cap0, rfl⟩ := okWide_slice Try.underlying33 hv
  obtain ⟨fuel, hf⟩ := h
  exact trod_bools (fuel := fuel) hf

theorem cellsOps : Try.prog.cellsOf 35 = 4 := by kernel_rfl
theorem bytesOps : Try.prog.bytesOf 35 = 64 := by kernel_rfl
theorem trod_one {H : Type} {enc : TypeId × Value → H} {W : World} {fuel : Nat} {cs : List Value} {t : TypeId} {y : DataW H × List MemPlace} (hu : Try.prog.underlying t = some (.slice 5) ∨ Try.prog.underlying t = some (.slice 4)) (h : DataW.trod enc Try.prog W 0 (fun _ => true) true fuel t cs = some y) : ∃ c, cs = [c] := by
  rcases hu with hu | hu
  · rcases open_slice hu h with ⟨hc, _⟩ | ⟨a, len, cap, m, n, D, Pl, hc, _⟩
    · exact ⟨_, hc⟩
    · exact ⟨_, hc⟩
  · rcases open_slice hu h with ⟨hc, _⟩ | ⟨a, len, cap, m, n, D, Pl, hc, _⟩
    · exact ⟨_, hc⟩
    · exact ⟨_, hc⟩
set_option maxRecDepth 100000 in
theorem cells_Ops {H : Type} {enc : TypeId × Value → H} {W : World} {n : Nat} {cs : List Value} {d : DataW H} {pl : List MemPlace} {M : Nat}
    (h : DataW.trod enc Try.prog W 0 (fun _ => true) true n 35 cs = some (d, pl)) (hM : ∀ m ∈ d.weights Try.prog 35, m ≤ M) : ∃ x : OpV, cs = cellsO x ∧ OpOk M W x := by
  obtain ⟨y0, y1, y2, y3, m, hx, hl, h0, h1, h2, h3⟩ := trod_struct4 Try.underlying35 h
  rw [cellsOps] at hl
  match cs, hl with
  | [c0, c1, c2, c3], _ =>
    have k3 : Try.prog.cellsOf 3 = 1 := by kernel_rfl
    have k32 : Try.prog.cellsOf 32 = 1 := by kernel_rfl
    have k33 : Try.prog.cellsOf 33 = 1 := by kernel_rfl
    have h0' : DataW.trod enc Try.prog W 0 (fun _ => true) true m 3 [c0] = some y0 := by simpa [k3] using h0
    have h1' : DataW.trod enc Try.prog W 0 (fun _ => true) true m 3 [c1] = some y1 := by simpa [k3] using h1
    have h2' : DataW.trod enc Try.prog W 0 (fun _ => true) true m 32 [c2] = some y2 := by simpa [k32] using h2
    have h3' : DataW.trod enc Try.prog W 0 (fun _ => true) true m 33 [c3] = some y3 := by simpa [k33] using h3
    clear h0 h1 h2 h3
    obtain ⟨k, e0, _, wk⟩ := DataW.trod_int Try.underlying3 h0'
    obtain ⟨i, e1, _, wi⟩ := DataW.trod_int Try.underlying3 h1'
    simp only [Prod.mk.injEq] at hx
    have hM2 : ∀ m ∈ y2.1.weights Try.prog 32, m ≤ M := fun m hm => hM m (by
      rw [hx.1]
      simp [DataW.weights, Try.underlying35, DataW.weightsEach, hm])
    obtain ⟨b, hB, hbl⟩ := trod_bytes (d := y2.1) (p := y2.2) h2' hM2
    obtain ⟨ks, hK⟩ := trod_bools (d := y3.1) (p := y3.2) h3'
    simp at e0 e1
    subst e0 e1
    exact ⟨⟨k, i, c2, c3, b, ks⟩, rfl, bounds64 wk, bounds64 wi, hB, hK, hbl⟩
theorem open_Ops {H : Type} {enc : TypeId × Value → H} {W : World} {base : Nat} {v : Value} {d : DataW H} {p : List MemPlace} {M : Nat}
    (hv : Value.okWide Try.prog W .any base 22 v) (h : DataW.Trod enc Try.prog W 0 (fun _ => true) true 22 v d p) (hM : ∀ n ∈ d.weights Try.prog 22, n ≤ M) :
    ∃ rs : List OpV, OpsAt W v rs ∧ (∀ x ∈ rs, OpOk M W x) ∧ rs.length * 64 ≤ M := by
  obtain ⟨a0, len0, cap0, rfl⟩ := okWide_slice Try.underlying22 hv
  obtain ⟨fuel, hf⟩ := h
  have hf' : DataW.trod enc Try.prog W 0 (fun _ => true) true fuel 22 [.slice a0 len0 cap0] = some (d, p) := hf
  rcases open_slice Try.underlying22 hf' with ⟨hc, _⟩ | ⟨a, len, cap, m, n, D, Pl, hc, _, hlc, hcm, hm, hx, hel⟩
  · refine ⟨[], ⟨none, 0, ?_, by simp, Or.inl rfl⟩, (fun x hx => by cases hx), Nat.zero_le _⟩
    simpa using hc
  · rw [cellsOps] at hel
    simp only [if_true] at hm
    subst hm
    have hd : d = .slice ((List.range len).map D) ((List.range (m - len)).map fun j => D (len + j)) := congrArg Prod.fst hx
    rw [hd] at hM
    simp only [DataW.weights, Try.underlying22, bytesOps] at hM
    have hlen : len * 64 ≤ M := by
      have := hM _ (List.mem_cons_self ..)
      simp only [List.length_map, List.length_range] at this
      omega
    have hall : ∀ i, i < len → ∃ x : OpV, W.cells? 0 (a.add (i * 4)) 4 = some (cellsO x) ∧ OpOk M W x := fun i hi => by
      obtain ⟨cs', h1, h2⟩ := hel i (by omega)
      obtain ⟨x, rfl, hx1⟩ := cells_Ops h2 (fun m hm => hM _ (List.mem_cons_of_mem _ (List.mem_append_left _ (weights_part (List.mem_map.2 ⟨i, by simpa using hi, rfl⟩) hm))))
      exact ⟨x, h1, hx1⟩
    haveI : Inhabited OpV := ⟨⟨0, 0, .bool false, .bool false, [], []⟩⟩
    obtain ⟨X, hX⟩ := choose_lt hall
    have hcell : ∀ i, i < len → ∀ j u, (cellsO (X i))[j]? = some u → W.cell? ((a.add (i * 4)).add j) = some u := fun i hi j u hu => by
      have h1 := (hX i hi).1
      unfold World.cells? at h1
      rw [if_pos (Nat.zero_le _)] at h1
      have hj : j < 4 := (List.getElem?_eq_some_iff.1 hu).1
      obtain ⟨b, hb, hc⟩ := Lib.mapM_at h1 j j (by simp [hj])
      rw [hb] at hu
      rw [hc, hu]
    refine ⟨(List.range len).map X, ⟨some a, m, ?_, by simpa using hlc, ?_⟩, ?_, by simpa using hlen⟩
    · simpa using hc
    · cases len with
      | zero => exact Or.inl rfl
      | succ len =>
        have hsp : a.spot = none := by
          have := hcell 0 (by omega) 0 _ rfl
          have := World.cell?_spot this
          simpa [Addr.add] using this
        obtain ⟨g, o, sp⟩ := a
        simp only at hsp
        subst hsp
        refine Or.inr ⟨g, o, rfl, fun k hk j u hu => ?_⟩
        have hk' : k < len + 1 := by simpa using hk
        have := hcell k hk' j u (by simpa using hu)
        rw [Addr.add_mid, Addr.add_mid] at this
        exact this
    · intro x hx
      obtain ⟨i, hi, rfl⟩ := List.mem_map.1 hx
      exact (hX i (by simpa using hi)).2
end Go.Proofs.Ytggkclnnneoohaa

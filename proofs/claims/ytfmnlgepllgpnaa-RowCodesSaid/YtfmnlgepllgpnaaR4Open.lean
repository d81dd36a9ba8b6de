/- Rows of raw values, rows of values and lists of bytes as they are handed in, opened: where they lie, and that none is greater than the reach. -/
import Derived.Test.YtfmnlgepllgpnaaR4L
import Derived.ProofKit
import Derived.Deep.Slices
import Derived.Carry
import Derived.Lib.LaidTab
import Derived.Lib.SmallJoins
namespace Go.Proofs.Ytfmnlgepllgpnaa
open Go.RowKit Go.ChangeShapes Go.WideShapes Go.ChangeAt Go.Joins Go.Deep
set_option linter.unusedVariables false

theorem laidOut : laidOutB Try.prog = true := by kernel_rfl
theorem bounds64 {x : Int} (h : (Lit.int .i64 x).wf = true) : -9223372036854775808 ≤ x ∧ x ≤ 9223372036854775807 := by
  simpa [Lit.wf, IntKind.min, IntKind.max, IntKind.signed, IntKind.bits] using h
theorem bounds8 {x : Int} (h : (Lit.int .u8 x).wf = true) : 0 ≤ x ∧ x ≤ 255 := by
  simpa [Lit.wf, IntKind.min, IntKind.max, IntKind.signed, IntKind.bits] using h
theorem RawOk.wide {M N : Nat} {x : V4} (h : RawOk M x) (hM : M ≤ N) : RawOk N x := ⟨h.1, h.2.1, Nat.le_trans h.2.2 hM⟩
theorem weights_part {H : Type} {t : TypeId} {d : DataW H} {l : List (DataW H)} {n : Nat} (h : d ∈ l) (hn : n ∈ d.weights Try.prog t) : n ∈ DataW.weightsAll Try.prog t l := by
  induction l with
  | nil => cases h
  | cons x r ih =>
    simp only [DataW.weightsAll]
    cases List.mem_cons.1 h with
    | inl e => subst e; exact List.mem_append_left _ hn
    | inr e => exact List.mem_append_right _ (ih e)

theorem cellsRaws : Try.prog.cellsOf 44 = 4 := by kernel_rfl
theorem bytesRaws : Try.prog.bytesOf 44 = 40 := by kernel_rfl
set_option maxRecDepth 100000 in
theorem cells_Raws {H : Type} {enc : TypeId × Value → H} {W : World} {base : Nat} {sp : Nat → Bool} {held : Bool} {n : Nat} {cs : List Value} {d : DataW H} {pl : List MemPlace}
    (h : DataW.trod enc Try.prog W base sp held n 44 cs = some (d, pl)) : ∃ x : V4, cs = cellsV x ∧ (-9223372036854775808 ≤ x.1 ∧ x.1 ≤ 9223372036854775807) ∧ (-9223372036854775808 ≤ x.2.1 ∧ x.2.1 ≤ 9223372036854775807) ∧ x.2.2.1.length ∈ d.weights Try.prog 44 := by
  obtain ⟨y0, y1, y2, y3, m, hx, hl, h0, h1, h2, h3⟩ := trod_struct4 Try.underlying44 h
  rw [cellsRaws] at hl
  match cs, hl with
  | [c0, c1, c2, c3], _ =>
    have h0' : DataW.trod enc Try.prog W base sp held m 3 [c0] = some y0 := by
      have : Try.prog.cellsOf 3 = 1 := by kernel_rfl
      simpa [this] using h0
    have h1' : DataW.trod enc Try.prog W base sp held m 2 [c1] = some y1 := by
      have : Try.prog.cellsOf 2 = 1 := by kernel_rfl
      simpa [this] using h1
    have h2' : DataW.trod enc Try.prog W base sp held m 9 [c2] = some y2 := by
      have : Try.prog.cellsOf 9 = 1 := by kernel_rfl
      simpa [this] using h2
    have h3' : DataW.trod enc Try.prog W base sp held m 4 [c3] = some y3 := by
      have : Try.prog.cellsOf 4 = 1 := by kernel_rfl
      simpa [this] using h3
    clear h0 h1 h2 h3
    obtain ⟨k, e0, rfl, wk⟩ := DataW.trod_int Try.underlying3 h0'
    obtain ⟨n, e1, rfl, wn⟩ := DataW.trod_int Try.underlying2 h1'
    obtain ⟨s, e2, rfl, ws⟩ := DataW.trod_string Try.underlying9 h2'
    obtain ⟨b, e3, rfl⟩ := DataW.trod_bool Try.underlying4 h3'
    simp at e0 e1 e2 e3
    subst e0 e1 e2 e3
    simp only [Prod.mk.injEq] at hx
    refine ⟨(k, n, s.data.toList, b), by simp only [cellsV, str_back], bounds64 wk, bounds64 wn, ?_⟩
    rw [hx.1]
    simp [DataW.weights, Try.underlying44, DataW.weightsEach]
theorem open_Raws {H : Type} {enc : TypeId × Value → H} {W : World} {base : Nat} {v : Value} {d : DataW H} {p : List MemPlace} {M : Nat}
    (hv : Value.okWide Try.prog W .any base 22 v) (h : DataW.Trod enc Try.prog W 0 (fun _ => true) true 22 v d p) (hM : ∀ n ∈ d.weights Try.prog 22, n ≤ M) :
    ∃ rs : List V4, RowAt W v rs ∧ (∀ x ∈ rs, RawOk M x) ∧ rs.length * 40 ≤ M := by
  obtain ⟨a0, len0, cap0, rfl⟩ := okWide_slice Try.underlying22 hv
  obtain ⟨fuel, hf⟩ := h
  have hf' : DataW.trod enc Try.prog W 0 (fun _ => true) true fuel 22 [.slice a0 len0 cap0] = some (d, p) := hf
  rcases open_slice Try.underlying22 hf' with ⟨hc, _⟩ | ⟨a, len, cap, m, n, D, Pl, hc, _, hlc, hcm, hm, hx, hel⟩
  · refine ⟨[], ⟨none, 0, ?_, by simp, Or.inl rfl⟩, (fun x hx => by cases hx), Nat.zero_le _⟩
    simpa using hc
  · rw [cellsRaws] at hel
    simp only [if_true] at hm
    subst hm
    have hd : d = .slice ((List.range len).map D) ((List.range (m - len)).map fun j => D (len + j)) := congrArg Prod.fst hx
    rw [hd] at hM
    simp only [DataW.weights, Try.underlying22, bytesRaws] at hM
    have hlen : len * 40 ≤ M := by
      have := hM _ (List.mem_cons_self ..)
      simp only [List.length_map, List.length_range] at this
      omega
    have hall : ∀ i, i < len → ∃ x : V4, W.cells? 0 (a.add (i * 4)) 4 = some (cellsV x) ∧ RawOk M x := fun i hi => by
      obtain ⟨cs', h1, h2⟩ := hel i (by omega)
      obtain ⟨x, rfl, hx1, hx2, hx3⟩ := cells_Raws h2
      refine ⟨x, h1, hx1, hx2, hM _ (List.mem_cons_of_mem _ (List.mem_append_left _ ?_))⟩
      exact weights_part (List.mem_map.2 ⟨i, by simpa using hi, rfl⟩) hx3
    obtain ⟨X, hX⟩ := choose_lt hall
    have hcell : ∀ i, i < len → ∀ j u, (cellsV (X i))[j]? = some u → W.cell? ((a.add (i * 4)).add j) = some u := fun i hi j u hu => by
      have h1 := (hX i hi).1
      unfold World.cells? at h1
      rw [if_pos (Nat.zero_le _)] at h1
      have hj : j < 4 := by
        have := (List.getElem?_eq_some_iff.1 hu).1
        rwa [cellsV_len] at this
      obtain ⟨b, hb, hc⟩ := Lib.mapM_at h1 j j (by simp [hj])
      rw [hb] at hu
      rw [hc, hu]
    refine ⟨(List.range len).map X, ⟨some a, m, ?_, by simpa using hlc, ?_⟩, ?_, by simpa using hlen⟩
    · simpa using hc
    · cases len with
      | zero => exact Or.inl rfl
      | succ len =>
        have hsp : a.spot = none := by
          have := hcell 0 (by omega) 0 _ rfl
          have := World.cell?_spot this
          simpa [Addr.add] using this
        obtain ⟨g, o, sp⟩ := a
        simp only at hsp
        subst hsp
        refine Or.inr ⟨g, o, rfl, fun k hk j u hu => ?_⟩
        have hk' : k < len + 1 := by simpa using hk
        have := hcell k hk' j u (by simpa using hu)
        rw [Addr.add_mid, Addr.add_mid] at this
        exact this
    · intro x hx
      obtain ⟨i, hi, rfl⟩ := List.mem_map.1 hx
      exact (hX i (by simpa using hi)).2

theorem cellsVals : Try.prog.cellsOf 40 = 4 := by kernel_rfl
theorem bytesVals : Try.prog.bytesOf 40 = 40 := by kernel_rfl
set_option maxRecDepth 100000 in
theorem cells_Vals {H : Type} {enc : TypeId × Value → H} {W : World} {base : Nat} {sp : Nat → Bool} {held : Bool} {n : Nat} {cs : List Value} {d : DataW H} {pl : List MemPlace}
    (h : DataW.trod enc Try.prog W base sp held n 40 cs = some (d, pl)) : ∃ x : V4, cs = cellsV x ∧ (-9223372036854775808 ≤ x.1 ∧ x.1 ≤ 9223372036854775807) ∧ (-9223372036854775808 ≤ x.2.1 ∧ x.2.1 ≤ 9223372036854775807) ∧ x.2.2.1.length ∈ d.weights Try.prog 40 := by
  obtain ⟨y0, y1, y2, y3, m, hx, hl, h0, h1, h2, h3⟩ := trod_struct4 Try.underlying40 h
  rw [cellsVals] at hl
  match cs, hl with
  | [c0, c1, c2, c3], _ =>
    have h0' : DataW.trod enc Try.prog W base sp held m 38 [c0] = some y0 := by
      have : Try.prog.cellsOf 38 = 1 := by kernel_rfl
      simpa [this] using h0
    have h1' : DataW.trod enc Try.prog W base sp held m 2 [c1] = some y1 := by
      have : Try.prog.cellsOf 2 = 1 := by kernel_rfl
      simpa [this] using h1
    have h2' : DataW.trod enc Try.prog W base sp held m 9 [c2] = some y2 := by
      have : Try.prog.cellsOf 9 = 1 := by kernel_rfl
      simpa [this] using h2
    have h3' : DataW.trod enc Try.prog W base sp held m 4 [c3] = some y3 := by
      have : Try.prog.cellsOf 4 = 1 := by kernel_rfl
      simpa [this] using h3
    clear h0 h1 h2 h3
    obtain ⟨k, e0, rfl, wk⟩ := DataW.trod_int Try.underlying38 h0'
    obtain ⟨n, e1, rfl, wn⟩ := DataW.trod_int Try.underlying2 h1'
    obtain ⟨s, e2, rfl, ws⟩ := DataW.trod_string Try.underlying9 h2'
    obtain ⟨b, e3, rfl⟩ := DataW.trod_bool Try.underlying4 h3'
    simp at e0 e1 e2 e3
    subst e0 e1 e2 e3
    simp only [Prod.mk.injEq] at hx
    refine ⟨(k, n, s.data.toList, b), by simp only [cellsV, str_back], bounds64 wk, bounds64 wn, ?_⟩
    rw [hx.1]
    simp [DataW.weights, Try.underlying40, DataW.weightsEach]
theorem open_Vals {H : Type} {enc : TypeId × Value → H} {W : World} {base : Nat} {v : Value} {d : DataW H} {p : List MemPlace} {M : Nat}
    (hv : Value.okWide Try.prog W .any base 24 v) (h : DataW.Trod enc Try.prog W 0 (fun _ => true) true 24 v d p) (hM : ∀ n ∈ d.weights Try.prog 24, n ≤ M) :
    ∃ rs : List V4, RowAt W v rs ∧ (∀ x ∈ rs, RawOk M x) ∧ rs.length * 40 ≤ M := by
  obtain ⟨a0, len0, cap0, rfl⟩ := okWide_slice Try.underlying24 hv
  obtain ⟨fuel, hf⟩ := h
  have hf' : DataW.trod enc Try.prog W 0 (fun _ => true) true fuel 24 [.slice a0 len0 cap0] = some (d, p) := hf
  rcases open_slice Try.underlying24 hf' with ⟨hc, _⟩ | ⟨a, len, cap, m, n, D, Pl, hc, _, hlc, hcm, hm, hx, hel⟩
  · refine ⟨[], ⟨none, 0, ?_, by simp, Or.inl rfl⟩, (fun x hx => by cases hx), Nat.zero_le _⟩
    simpa using hc
  · rw [cellsVals] at hel
    simp only [if_true] at hm
    subst hm
    have hd : d = .slice ((List.range len).map D) ((List.range (m - len)).map fun j => D (len + j)) := congrArg Prod.fst hx
    rw [hd] at hM
    simp only [DataW.weights, Try.underlying24, bytesVals] at hM
    have hlen : len * 40 ≤ M := by
      have := hM _ (List.mem_cons_self ..)
      simp only [List.length_map, List.length_range] at this
      omega
    have hall : ∀ i, i < len → ∃ x : V4, W.cells? 0 (a.add (i * 4)) 4 = some (cellsV x) ∧ RawOk M x := fun i hi => by
      obtain ⟨cs', h1, h2⟩ := hel i (by omega)
      obtain ⟨x, rfl, hx1, hx2, hx3⟩ := cells_Vals h2
      refine ⟨x, h1, hx1, hx2, hM _ (List.mem_cons_of_mem _ (List.mem_append_left _ ?_))⟩
      exact weights_part (List.mem_map.2 ⟨i, by simpa using hi, rfl⟩) hx3
    obtain ⟨X, hX⟩ := choose_lt hall
    have hcell : ∀ i, i < len → ∀ j u, (cellsV (X i))[j]? = some u → W.cell? ((a.add (i * 4)).add j) = some u := fun i hi j u hu => by
      have h1 := (hX i hi).1
      unfold World.cells? at h1
      rw [if_pos (Nat.zero_le _)] at h1
      have hj : j < 4 := by
        have := (List.getElem?_eq_some_iff.1 hu).1
        rwa [cellsV_len] at this
      obtain ⟨b, hb, hc⟩ := Lib.mapM_at h1 j j (by simp [hj])
      rw [hb] at hu
      rw [hc, hu]
    refine ⟨(List.range len).map X, ⟨some a, m, ?_, by simpa using hlc, ?_⟩, ?_, by simpa using hlen⟩
    · simpa using hc
    · cases len with
      | zero => exact Or.inl rfl
      | succ len =>
        have hsp : a.spot = none := by
          have := hcell 0 (by omega) 0 _ rfl
          have := World.cell?_spot this
          simpa [Addr.add] using this
        obtain ⟨g, o, sp⟩ := a
        simp only at hsp
        subst hsp
        refine Or.inr ⟨g, o, rfl, fun k hk j u hu => ?_⟩
        have hk' : k < len + 1 := by simpa using hk
        have := hcell k hk' j u (by simpa using hu)
        rw [Addr.add_mid, Addr.add_mid] at this
        exact this
    · intro x hx
      obtain ⟨i, hi, rfl⟩ := List.mem_map.1 hx
      exact (hX i (by simpa using hi)).2

theorem bytesU8 : Try.prog.bytesOf 5 = 1 := by kernel_rfl
theorem cellsU8 : Try.prog.cellsOf 5 = 1 := by kernel_rfl
theorem open_bytes {H : Type} {enc : TypeId × Value → H} {W : World} {base : Nat} {v : Value} {d : DataW H} {p : List MemPlace} {M : Nat}
    (hv : Value.okWide Try.prog W .any base 25 v) (h : DataW.Trod enc Try.prog W 0 (fun _ => true) true 25 v d p) (hM : ∀ n ∈ d.weights Try.prog 25, n ≤ M) :
    ∃ xs : List UInt8, Bytes W v xs ∧ xs.length ≤ M := by
  obtain ⟨a0, len0, cap0, rfl⟩ := okWide_slice Try.underlying25 hv
  obtain ⟨fuel, hf⟩ := h
  have hf' : DataW.trod enc Try.prog W 0 (fun _ => true) true fuel 25 [.slice a0 len0 cap0] = some (d, p) := hf
  rcases open_slice Try.underlying25 hf' with ⟨hc, _⟩ | ⟨a, len, cap, m, n, D, Pl, hc, _, hlc, hcm, hm, hx, hel⟩
  · exact ⟨[], Or.inl ⟨by simpa using hc, rfl⟩, Nat.zero_le _⟩
  · rw [cellsU8] at hel
    simp only [if_true] at hm
    subst hm
    have hd : d = .slice ((List.range len).map D) ((List.range (m - len)).map fun j => D (len + j)) := congrArg Prod.fst hx
    rw [hd] at hM
    simp only [DataW.weights, Try.underlying25, bytesU8] at hM
    have hlen : len ≤ M := by
      have := hM _ (List.mem_cons_self ..)
      simp only [List.length_map, List.length_range] at this
      omega
    have hall : ∀ i, i < len → ∃ c : UInt8, W.cell? (a.add i) = some (bv c) := fun i hi => by
      obtain ⟨cs', h1, h2⟩ := hel i (by omega)
      obtain ⟨z, rfl, _, wz⟩ := DataW.trod_int Try.underlying5 h2
      have hz := bounds8 wz
      unfold World.cells? at h1
      rw [if_pos (Nat.zero_le _)] at h1
      obtain ⟨b, hb, hc⟩ := Lib.mapM_at h1 0 0 (by simp)
      simp only [List.getElem?_cons_zero, Option.some.injEq] at hb
      subst hb
      refine ⟨UInt8.ofNat z.toNat, ?_⟩
      rw [Nat.mul_one, add_add, Nat.add_zero] at hc
      rw [hc]
      unfold bv
      rw [UInt8.toNat_ofNat']
      congr 2
      omega
    obtain ⟨X, hX⟩ := choose_lt hall
    refine ⟨(List.range len).map X, Or.inr ⟨a, m, by simpa using hc, by simpa using hlc, fun j hj => ?_⟩, by simpa using hlen⟩
    have hj' : j < len := by simpa using hj
    rw [hX j hj']
    simp
end Go.Proofs.Ytfmnlgepllgpnaa

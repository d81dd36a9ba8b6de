/- Scripts and bytes as they are handed in, opened: where they lie, and that none is greater than the reach. -/
import Derived.Test.YtpmbpadckbkglaaP7R
import Derived.ProofKit
import Derived.Deep.Slices
import Derived.Carry
import Derived.Lib.LaidTab
import Derived.Lib.SmallJoins
namespace Go.Proofs.Ytpmbpadckbkglaa
open Go.RowKit Go.ChangeShapes Go.WideShapes Go.ChangeAt Go.Joins Go.Deep
set_option linter.unusedVariables false
set_option linter.unusedSimpArgs false

theorem laidOut : laidOutB Try.prog = true := by kernel_rfl
theorem bounds64 {x : Int} (h : (Lit.int .i64 x).wf = true) : -9223372036854775808 ≤ x ∧ x ≤ 9223372036854775807 := by
  simpa [Lit.wf, IntKind.min, IntKind.max, IntKind.signed, IntKind.bits] using h
theorem bounds8 {x : Int} (h : (Lit.int .u8 x).wf = true) : 0 ≤ x ∧ x ≤ 255 := by
  simpa [Lit.wf, IntKind.min, IntKind.max, IntKind.signed, IntKind.bits] using h
theorem weights_part {H : Type} {t : TypeId} {d : DataW H} {l : List (DataW H)} {n : Nat} (h : d ∈ l) (hn : n ∈ d.weights Try.prog t) : n ∈ DataW.weightsAll Try.prog t l := by
  induction l with
  | nil => cases h
  | cons x r ih =>
    simp only [DataW.weightsAll]
    cases List.mem_cons.1 h with
    | inl e => subst e; exact List.mem_append_left _ hn
    | inr e => exact List.mem_append_right _ (ih e)
theorem bytesU8 : Try.prog.bytesOf 5 = 1 := by kernel_rfl
theorem cellsU8 : Try.prog.cellsOf 5 = 1 := by kernel_rfl
theorem trod_bytes {H : Type} {enc : TypeId × Value → H} {W : World} {fuel : Nat} {v : Value} {d : DataW H} {p : List MemPlace} {M : Nat}
    (hf' : DataW.trod enc Try.prog W 0 (fun _ => true) true fuel 49 [v] = some (d, p)) (hM : ∀ n ∈ d.weights Try.prog 49, n ≤ M) :
    ∃ xs : List UInt8, Bytes W v xs ∧ xs.length ≤ M := by
  rcases open_slice Try.underlying49 hf' with ⟨hc, _⟩ | ⟨a, len, cap, m, n, D, Pl, hc, _, hlc, hcm, hm, hx, hel⟩
  · exact ⟨[], Or.inl ⟨by simpa using hc, rfl⟩, Nat.zero_le _⟩
  · rw [cellsU8] at hel
    simp only [if_true] at hm
    subst hm
    have hd : d = .slice ((List.range len).map D) ((List.range (m - len)).map fun j => D (len + j)) := congrArg Prod.fst hx
    rw [hd] at hM
    simp only [DataW.weights, Try.underlying49, bytesU8] at hM
    have hlen : len ≤ M := by
      have := hM _ (List.mem_cons_self ..)
      simp only [List.length_map, List.length_range] at this
      omega
    have hall : ∀ i, i < len → ∃ c : UInt8, W.cell? (a.add i) = some (bv c) := fun i hi => by
      obtain ⟨cs', h1, h2⟩ := hel i (by omega)
      obtain ⟨z, rfl, _, wz⟩ := DataW.trod_int Try.underlying5 h2
      have hz := bounds8 wz
      unfold World.cells? at h1
      rw [if_pos (Nat.zero_le _)] at h1
      obtain ⟨b, hb, hc⟩ := Lib.mapM_at h1 0 0 (by simp)
      simp only [List.getElem?_cons_zero, Option.some.injEq] at hb
      subst hb
      refine ⟨UInt8.ofNat z.toNat, ?_⟩
      rw [Nat.mul_one, add_add, Nat.add_zero] at hc
      rw [hc]
      unfold bv
      rw [UInt8.toNat_ofNat']
      congr 2
      omega
    obtain ⟨X, hX⟩ := choose_lt hall
    refine ⟨(List.range len).map X, Or.inr ⟨a, m, by simpa using hc, by simpa using hlc, fun j hj => ?_⟩, by simpa using hlen⟩
    have hj' : j < len := by simpa using hj
    rw [hX j hj']
    simp
set_option maxRecDepth 100000 in
theorem open_bytes {H : Type} {enc : TypeId × Value → H} {W : World} {base : Nat} {v : Value} {d : DataW H} {p : List MemPlace} {M : Nat}
    (hv : Value.okWide Try.prog W .any base 49 v) (h : DataW.Trod enc Try.prog W 0 (fun _ => true) true 49 v d p) (hM : ∀ n ∈ d.weights Try.prog 49, n ≤ M) :
    ∃ xs : List UInt8, Bytes W v xs ∧ xs.length ≤ M := by
  obtain ⟨a0, len0, cap0, rfl⟩ := okWide_slice Try.underlying49 hv
  obtain ⟨fuel, hf⟩ := h
  exact trod_bytes (fuel := fuel) hf hM
theorem bounds64u {x : Int} (h : (Lit.int .u64 x).wf = true) : 0 ≤ x ∧ x ≤ 18446744073709551615 := by
  simpa [Lit.wf, IntKind.min, IntKind.max, IntKind.signed, IntKind.bits] using h
theorem cellsOps : Try.prog.cellsOf 45 = 4 := by kernel_rfl
theorem bytesOps : Try.prog.bytesOf 45 = 32 := by kernel_rfl
set_option maxRecDepth 100000 in
theorem cells_Ops {H : Type} {enc : TypeId × Value → H} {W : World} {n : Nat} {cs : List Value} {d : DataW H} {pl : List MemPlace}
    (h : DataW.trod enc Try.prog W 0 (fun _ => true) true n 45 cs = some (d, pl)) : ∃ x : OpP, cs = cellsP x ∧ OpPOk x := by
  obtain ⟨y0, y1, y2, y3, m, hx, hl, h0, h1, h2, h3⟩ := trod_struct4 Try.underlying45 h
  rw [cellsOps] at hl
  match cs, hl with
  | [c0, c1, c2, c3], _ =>
    have k3 : Try.prog.cellsOf 3 = 1 := by kernel_rfl
    have k5 : Try.prog.cellsOf 5 = 1 := by kernel_rfl
    have k40 : Try.prog.cellsOf 40 = 1 := by kernel_rfl
    have h0' : DataW.trod enc Try.prog W 0 (fun _ => true) true m 3 [c0] = some y0 := by simpa [k3] using h0
    have h1' : DataW.trod enc Try.prog W 0 (fun _ => true) true m 3 [c1] = some y1 := by simpa [k3] using h1
    have h2' : DataW.trod enc Try.prog W 0 (fun _ => true) true m 5 [c2] = some y2 := by simpa [k3, k5] using h2
    have h3' : DataW.trod enc Try.prog W 0 (fun _ => true) true m 40 [c3] = some y3 := by simpa [k3, k5, k40] using h3
    clear h0 h1 h2 h3
    obtain ⟨k, e0, _, wk⟩ := DataW.trod_int Try.underlying3 h0'
    obtain ⟨i, e1, _, wi⟩ := DataW.trod_int Try.underlying3 h1'
    obtain ⟨b, e2, _, wb⟩ := DataW.trod_int Try.underlying5 h2'
    obtain ⟨mk, e3, _, wm⟩ := DataW.trod_int Try.underlying40 h3'
    simp at e0 e1 e2 e3
    subst e0 e1 e2 e3
    have hb := bounds8 wb
    refine ⟨⟨k, i, UInt8.ofNat b.toNat, mk⟩, ?_, bounds64 wk, bounds64 wi, bounds64u wm⟩
    unfold cellsP bv
    rw [UInt8.toNat_ofNat']
    have e : b = ((b.toNat % 2 ^ 8 : Nat) : Int) := by omega
    rw [← e]
set_option maxRecDepth 100000 in
theorem open_Ops {H : Type} {enc : TypeId × Value → H} {W : World} {base : Nat} {v : Value} {d : DataW H} {p : List MemPlace} {M : Nat}
    (hv : Value.okWide Try.prog W .any base 24 v) (h : DataW.Trod enc Try.prog W 0 (fun _ => true) true 24 v d p) (hM : ∀ n ∈ d.weights Try.prog 24, n ≤ M) :
    ∃ rs : List OpP, OpsP W v rs ∧ (∀ x ∈ rs, OpPOk x) ∧ rs.length * 32 ≤ M := by
  obtain ⟨a0, len0, cap0, rfl⟩ := okWide_slice Try.underlying24 hv
  obtain ⟨fuel, hf⟩ := h
  have hf' : DataW.trod enc Try.prog W 0 (fun _ => true) true fuel 24 [.slice a0 len0 cap0] = some (d, p) := hf
  rcases open_slice Try.underlying24 hf' with ⟨hc, _⟩ | ⟨a, len, cap, m, n, D, Pl, hc, _, hlc, hcm, hm, hx, hel⟩
  · refine ⟨[], ⟨none, 0, ?_, by simp, Or.inl rfl⟩, (fun x hx => by cases hx), Nat.zero_le _⟩
    simpa using hc
  · rw [cellsOps] at hel
    simp only [if_true] at hm
    subst hm
    have hd : d = .slice ((List.range len).map D) ((List.range (m - len)).map fun j => D (len + j)) := congrArg Prod.fst hx
    rw [hd] at hM
    simp only [DataW.weights, Try.underlying24, bytesOps] at hM
    have hlen : len * 32 ≤ M := by
      have := hM _ (List.mem_cons_self ..)
      simp only [List.length_map, List.length_range] at this
      omega
    have hall : ∀ i, i < len → ∃ x : OpP, W.cells? 0 (a.add (i * 4)) 4 = some (cellsP x) ∧ OpPOk x := fun i hi => by
      obtain ⟨cs', h1, h2⟩ := hel i (by omega)
      obtain ⟨x, rfl, hx1⟩ := cells_Ops h2
      exact ⟨x, h1, hx1⟩
    haveI : Inhabited OpP := ⟨⟨0, 0, 0, 0⟩⟩
    obtain ⟨X, hX⟩ := choose_lt hall
    have hcell : ∀ i, i < len → ∀ j u, (cellsP (X i))[j]? = some u → W.cell? ((a.add (i * 4)).add j) = some u := fun i hi j u hu => by
      have h1 := (hX i hi).1
      unfold World.cells? at h1
      rw [if_pos (Nat.zero_le _)] at h1
      have hj : j < 4 := (List.getElem?_eq_some_iff.1 hu).1
      obtain ⟨b, hb, hc⟩ := Lib.mapM_at h1 j j (by simp [hj])
      rw [hb] at hu
      rw [hc, hu]
    refine ⟨(List.range len).map X, ⟨some a, m, ?_, by simpa using hlc, ?_⟩, ?_, by simpa using hlen⟩
    · simpa using hc
    · cases len with
      | zero => exact Or.inl rfl
      | succ len =>
        have hsp : a.spot = none := by
          have := hcell 0 (by omega) 0 _ rfl
          have := World.cell?_spot this
          simpa [Addr.add] using this
        obtain ⟨g, o, sp⟩ := a
        simp only at hsp
        subst hsp
        refine Or.inr ⟨g, o, rfl, fun k hk j u hu => ?_⟩
        have hk' : k < len + 1 := by simpa using hk
        have := hcell k hk' j u (by simpa using hu)
        rw [Addr.add_mid, Addr.add_mid] at this
        exact this
    · intro x hx
      obtain ⟨i, hi, rfl⟩ := List.mem_map.1 hx
      exact (hX i (by simpa using hi)).2
end Go.Proofs.Ytpmbpadckbkglaa

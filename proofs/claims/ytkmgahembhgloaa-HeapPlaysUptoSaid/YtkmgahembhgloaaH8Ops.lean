/- Scripts of layer 8 as they are handed in, opened by their bulk. -/
import Derived.Test.YtkmgahembhgloaaH8Open
import Derived.Test.YtkmgahembhgloaaH8S
namespace Go.Proofs.Ytkmgahembhgloaa
open Go.RowKit Go.ChangeShapes Go.WideShapes Go.ChangeAt Go.Joins Go.Deep
set_option linter.unusedVariables false
set_option linter.unusedSimpArgs false

theorem bulk_one {H : Type} (d : DataW H) : 1 ≤ Rows.uptoBulk d := by
  cases d with
  | lit l => cases l <;> simp [Rows.uptoBulk]
  | nil => simp [Rows.uptoBulk]
  | ptr d => simp [Rows.uptoBulk]
  | slice elems spare => simp [Rows.uptoBulk]
  | agg parts => simp [Rows.uptoBulk]
  | iface t d => simp [Rows.uptoBulk]
  | map entries => simp [Rows.uptoBulk]
  | held h => simp [Rows.uptoBulk]
theorem bulk_part {H : Type} {d : DataW H} {l : List (DataW H)} (h : d ∈ l) : Rows.uptoBulk d ≤ Rows.uptoBulkAll l := by
  induction l with
  | nil => cases h
  | cons x r ih =>
    simp only [Rows.uptoBulkAll]
    cases List.mem_cons.1 h with
    | inl e => subst e; omega
    | inr e => have := ih e; omega
theorem bulk_length {H : Type} (l : List (DataW H)) : l.length ≤ Rows.uptoBulkAll l := by
  induction l with
  | nil => simp [Rows.uptoBulkAll]
  | cons x r ih => have := bulk_one x; simp only [Rows.uptoBulkAll, List.length_cons]; omega
theorem bytes_bulk {H : Type} {enc : TypeId × Value → H} {W : World} {fuel : Nat} {v : Value} {d : DataW H} {p : List MemPlace} {M : Nat}
    (hf' : DataW.trod enc Try.prog W 0 (fun _ => true) true fuel 30 [v] = some (d, p)) (hM : Rows.uptoBulk d ≤ M) :
    ∃ xs : List UInt8, Bytes W v xs ∧ xs.length ≤ M := by
  rcases open_slice Try.underlying30 hf' with ⟨hc, _⟩ | ⟨a, len, cap, m, n, D, Pl, hc, _, hlc, hcm, hm, hx, hel⟩
  · exact ⟨[], Or.inl ⟨by simpa using hc, rfl⟩, Nat.zero_le _⟩
  · rw [cellsU8] at hel
    simp only [if_true] at hm
    subst hm
    have hd : d = .slice ((List.range len).map D) ((List.range (m - len)).map fun j => D (len + j)) := congrArg Prod.fst hx
    have hlen : len ≤ M := by
      rw [hd] at hM
      simp only [Rows.uptoBulk] at hM
      have := bulk_length ((List.range len).map D)
      simp at this; omega
    have hall : ∀ i, i < len → ∃ c : UInt8, W.cell? (a.add i) = some (bv c) := fun i hi => by
      obtain ⟨cs', h1, h2⟩ := hel i (by omega)
      obtain ⟨z, rfl, _, wz⟩ := DataW.trod_int Try.underlying5 h2
      have hz := bounds8 wz
      unfold World.cells? at h1
      rw [if_pos (Nat.zero_le _)] at h1
      obtain ⟨b, hb, hc⟩ := Lib.mapM_at h1 0 0 (by simp)
      simp only [List.getElem?_cons_zero, Option.some.injEq] at hb
      subst hb
      refine ⟨UInt8.ofNat z.toNat, ?_⟩
      rw [Nat.mul_one, add_add, Nat.add_zero] at hc
      rw [hc]
      unfold bv
      rw [UInt8.toNat_ofNat']
      congr 2
      omega
    obtain ⟨X, hX⟩ := choose_lt hall
    refine ⟨(List.range len).map X, Or.inr ⟨a, m, by simpa using hc, by simpa using hlc, fun j hj => ?_⟩, by simpa using hlen⟩
    have hj' : j < len := by simpa using hj
    rw [hX j hj']
    simp
theorem cellsOp8 : Try.prog.cellsOf 32 = 5 := by kernel_rfl
set_option maxRecDepth 100000 in
theorem cells_Op8 {H : Type} {enc : TypeId × Value → H} {W : World} {n : Nat} {cs : List Value} {d : DataW H} {pl : List MemPlace}
    (h : DataW.trod enc Try.prog W 0 (fun _ => true) true n 32 cs = some (d, pl)) (hM : Rows.uptoBulk d ≤ 1048576) : ∃ x : Op8, cs = cells8 x ∧ Op8Ok W x := by
  obtain ⟨xs, m, _, hx, hl, hlen, hf⟩ := DataW.trod_struct Try.underlying32 h
  rw [cellsOp8] at hl
  match xs, hlen, cs, hl with
  | [y0, y1, y2, y3, y4], _, [c0, c1, c2, c3, c4], _ =>
    have k3 : Try.prog.cellsOf 3 = 1 := by kernel_rfl
    have k32 : Try.prog.cellsOf 30 = 1 := by kernel_rfl
    have k33 : Try.prog.cellsOf 4 = 1 := by kernel_rfl
    have h0 : DataW.trod enc Try.prog W 0 (fun _ => true) true m 3 [c0] = some y0 := by simpa [k3] using hf 0 _ rfl
    have h1 : DataW.trod enc Try.prog W 0 (fun _ => true) true m 3 [c1] = some y1 := by simpa [k3] using hf 1 _ rfl
    have h2 : DataW.trod enc Try.prog W 0 (fun _ => true) true m 30 [c2] = some y2 := by simpa [k32] using hf 2 _ rfl
    have h3 : DataW.trod enc Try.prog W 0 (fun _ => true) true m 3 [c3] = some y3 := by simpa [k3] using hf 3 _ rfl
    have h4 : DataW.trod enc Try.prog W 0 (fun _ => true) true m 4 [c4] = some y4 := by simpa [k33] using hf 4 _ rfl
    clear hf
    simp only [Prod.mk.injEq] at hx
    have hM1 : Rows.uptoBulk y2.1 ≤ 1048576 := by
      rw [hx.1] at hM
      simp [Rows.uptoBulk, Rows.uptoBulkAll] at hM
      omega
    obtain ⟨a, e0, _, w0⟩ := DataW.trod_int Try.underlying3 h0
    obtain ⟨b, e1, _, w1⟩ := DataW.trod_int Try.underlying3 h1
    obtain ⟨c, e3, _, w3⟩ := DataW.trod_int Try.underlying3 h3
    obtain ⟨t, e4, _⟩ := DataW.trod_bool Try.underlying4 h4
    obtain ⟨bs, hB, hbl⟩ := bytes_bulk (d := y2.1) (p := y2.2) h2 hM1
    simp at e0 e1 e3 e4
    subst e0 e1 e3 e4
    exact ⟨⟨a, b, c2, c, t, bs⟩, rfl, bounds64 w0, bounds64 w1, bounds64 w3, hB, hbl⟩
set_option maxRecDepth 100000 in
theorem open_Ops8 {H : Type} {enc : TypeId × Value → H} {W : World} {base : Nat} {v : Value} {d : DataW H} {p : List MemPlace}
    (hv : Value.okWide Try.prog W .any base 22 v) (h : DataW.Trod enc Try.prog W 0 (fun _ => true) true 22 v d p) (hM : Rows.uptoBulk d ≤ 1048576) :
    ∃ rs : List Op8, Ops8 W v rs ∧ (∀ x ∈ rs, Op8Ok W x) ∧ rs.length ≤ 1048576 := by
  obtain ⟨a0, len0, cap0, rfl⟩ := okWide_slice Try.underlying22 hv
  obtain ⟨fuel, hf⟩ := h
  have hf' : DataW.trod enc Try.prog W 0 (fun _ => true) true fuel 22 [.slice a0 len0 cap0] = some (d, p) := hf
  rcases open_slice Try.underlying22 hf' with ⟨hc, _⟩ | ⟨a, len, cap, m, n, D, Pl, hc, _, hlc, hcm, hm, hx, hel⟩
  · refine ⟨[], ⟨none, 0, ?_, by simp, Or.inl rfl⟩, (fun x hx => by cases hx), Nat.zero_le _⟩
    simpa using hc
  · rw [cellsOp8] at hel
    simp only [if_true] at hm
    subst hm
    have hd : d = .slice ((List.range len).map D) ((List.range (m - len)).map fun j => D (len + j)) := congrArg Prod.fst hx
    have hb : Rows.uptoBulkAll ((List.range len).map D) ≤ 1048576 := by
      rw [hd] at hM
      simp only [Rows.uptoBulk] at hM
      omega
    have hlen : len ≤ 1048576 := by
      have := bulk_length ((List.range len).map D)
      simp at this; omega
    have hall : ∀ i, i < len → ∃ x : Op8, W.cells? 0 (a.add (i * 5)) 5 = some (cells8 x) ∧ Op8Ok W x := fun i hi => by
      obtain ⟨cs', h1, h2⟩ := hel i (by omega)
      obtain ⟨x, rfl, hx1⟩ := cells_Op8 h2 (Nat.le_trans (bulk_part (List.mem_map.2 ⟨i, by simpa using hi, rfl⟩)) hb)
      exact ⟨x, h1, hx1⟩
    haveI : Inhabited Op8 := ⟨⟨0, 0, .bool false, 0, false, []⟩⟩
    obtain ⟨X, hX⟩ := choose_lt hall
    have hcell : ∀ i, i < len → ∀ j u, (cells8 (X i))[j]? = some u → W.cell? ((a.add (i * 5)).add j) = some u := fun i hi j u hu => by
      have h1 := (hX i hi).1
      unfold World.cells? at h1
      rw [if_pos (Nat.zero_le _)] at h1
      have hj : j < 5 := (List.getElem?_eq_some_iff.1 hu).1
      obtain ⟨b, hb, hc⟩ := Lib.mapM_at h1 j j (by simp [hj])
      rw [hb] at hu
      rw [hc, hu]
    refine ⟨(List.range len).map X, ⟨some a, m, ?_, by simpa using hlc, ?_⟩, ?_, by simpa using hlen⟩
    · simpa using hc
    · cases len with
      | zero => exact Or.inl rfl
      | succ len =>
        have hsp : a.spot = none := by
          have := hcell 0 (by omega) 0 _ rfl
          have := World.cell?_spot this
          simpa [Addr.add] using this
        obtain ⟨g, o, sp⟩ := a
        simp only at hsp
        subst hsp
        refine Or.inr ⟨g, o, rfl, fun k hk j u hu => ?_⟩
        have hk' : k < len + 1 := by simpa using hk
        have := hcell k hk' j u (by simpa using hu)
        rw [Addr.add_mid, Addr.add_mid] at this
        exact this
    · intro x hx
      obtain ⟨i, hi, rfl⟩ := List.mem_map.1 hx
      exact (hX i (by simpa using hi)).2
end Go.Proofs.Ytkmgahembhgloaa

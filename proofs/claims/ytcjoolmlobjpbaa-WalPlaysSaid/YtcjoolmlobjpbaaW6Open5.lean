/- Setups and scripts of layer 6 as they are handed in, opened. -/
import Derived.Test.YtcjoolmlobjpbaaW6Open2
import Derived.Deep.Strs
namespace Go.Proofs.Ytcjoolmlobjpbaa
open Go.RowKit Go.ChangeShapes Go.WideShapes Go.ChangeAt Go.Joins Go.Deep
set_option linter.unusedVariables false
set_option linter.unusedSimpArgs false

set_option maxRecDepth 100000 in
theorem open_setup {H : Type} {enc : TypeId × Value → H} {W : World} {base : Nat} {v : Value} {d : DataW H} {p : List MemPlace}
    (hv : Value.okWide Try.prog W .any base 23 v) (h : DataW.Trod enc Try.prog W 0 (fun _ => true) true 23 v d p) :
    ∃ a b c : Int, v = .agg #[.int .i64 a, .int .i64 b, .int .i64 c] ∧ (-9223372036854775808 ≤ a ∧ a ≤ 9223372036854775807) ∧ (-9223372036854775808 ≤ b ∧ b ≤ 9223372036854775807) ∧ (-9223372036854775808 ≤ c ∧ c ≤ 9223372036854775807) := by
  obtain ⟨c0, c1, c2, y0, y1, y2, m, rfl, _, _, h0, h1, h2⟩ := open_agg3 Try.underlying23 (by kernel_rfl) (by kernel_rfl) hv h
  obtain ⟨a, e0, _, wa⟩ := DataW.trod_int Try.underlying3 h0
  obtain ⟨b, e1, _, wb⟩ := DataW.trod_int Try.underlying3 h1
  obtain ⟨c, e2, _, wc⟩ := DataW.trod_int Try.underlying3 h2
  simp at e0 e1 e2
  subst e0 e1 e2
  exact ⟨a, b, c, rfl, bounds64 wa, bounds64 wb, bounds64 wc⟩
/-- A step of a script: its kind, its bytes, what is kept. -/
structure Op6 where
  kind : Int
  vb : Value
  vk : Value
  b : List UInt8
  ks : List Bool
def cellsO6 (x : Op6) : List Value := [.int .i64 x.kind, x.vb, x.vk]
structure Op6Ok (M : Nat) (w : World) (x : Op6) : Prop where
  kind : -9223372036854775808 ≤ x.kind ∧ x.kind ≤ 9223372036854775807
  b : Bytes w x.vb x.b
  k : Bools w x.vk x.ks
  len : x.b.length ≤ M
def Ops6 (w : World) (v : Value) (rs : List Op6) : Prop :=
  ∃ (ao : Option Addr) (cap : Nat), v = .slice ao rs.length cap ∧ rs.length ≤ cap ∧ (rs = [] ∨ ∃ g o, ao = some ⟨g, o, none⟩ ∧ ∀ k (h : k < rs.length), w.rangeAt g (o + k * 3) (cellsO6 rs[k]))
theorem cellsOp6 : Try.prog.cellsOf 39 = 3 := by kernel_rfl
theorem bytesOp6 : Try.prog.bytesOf 39 = 56 := by kernel_rfl
set_option maxRecDepth 100000 in
theorem cells_Op6 {H : Type} {enc : TypeId × Value → H} {W : World} {n : Nat} {cs : List Value} {d : DataW H} {pl : List MemPlace} {M : Nat}
    (h : DataW.trod enc Try.prog W 0 (fun _ => true) true n 39 cs = some (d, pl)) (hM : ∀ m ∈ d.weights Try.prog 39, m ≤ M) : ∃ x : Op6, cs = cellsO6 x ∧ Op6Ok M W x := by
  obtain ⟨y0, y1, y2, m, hx, hl, h0, h1, h2⟩ := trod_struct3 Try.underlying39 h
  rw [cellsOp6] at hl
  match cs, hl with
  | [c0, c1, c2], _ =>
    have k3 : Try.prog.cellsOf 3 = 1 := by kernel_rfl
    have k32 : Try.prog.cellsOf 36 = 1 := by kernel_rfl
    have k33 : Try.prog.cellsOf 37 = 1 := by kernel_rfl
    have h0' : DataW.trod enc Try.prog W 0 (fun _ => true) true m 3 [c0] = some y0 := by simpa [k3] using h0
    have h1' : DataW.trod enc Try.prog W 0 (fun _ => true) true m 36 [c1] = some y1 := by simpa [k3, k32] using h1
    have h2' : DataW.trod enc Try.prog W 0 (fun _ => true) true m 37 [c2] = some y2 := by simpa [k3, k32, k33] using h2
    clear h0 h1 h2
    obtain ⟨k, e0, _, wk⟩ := DataW.trod_int Try.underlying3 h0'
    simp only [Prod.mk.injEq] at hx
    have hM1 : ∀ m ∈ y1.1.weights Try.prog 36, m ≤ M := fun m hm => hM m (by
      rw [hx.1]
      simp [DataW.weights, Try.underlying39, DataW.weightsEach, hm])
    obtain ⟨b, hB, hbl⟩ := trod_bytes (d := y1.1) (p := y1.2) h1' hM1
    obtain ⟨ks, hK⟩ := trod_bools (d := y2.1) (p := y2.2) h2'
    simp at e0
    subst e0
    exact ⟨⟨k, c1, c2, b, ks⟩, rfl, bounds64 wk, hB, hK, hbl⟩
set_option maxRecDepth 100000 in
theorem open_Ops6 {H : Type} {enc : TypeId × Value → H} {W : World} {base : Nat} {v : Value} {d : DataW H} {p : List MemPlace} {M : Nat} (hM2 : M ≤ 140737488355328)
    (hv : Value.okWide Try.prog W .any base 24 v) (h : DataW.Trod enc Try.prog W 0 (fun _ => true) true 24 v d p) (hM : ∀ n ∈ d.weights Try.prog 24, n ≤ M) :
    ∃ rs : List Op6, Ops6 W v rs ∧ (∀ x ∈ rs, Op6Ok M W x) ∧ rs.length * 56 ≤ M := by
  obtain ⟨a0, len0, cap0, rfl⟩ := okWide_slice Try.underlying24 hv
  obtain ⟨fuel, hf⟩ := h
  have hf' : DataW.trod enc Try.prog W 0 (fun _ => true) true fuel 24 [.slice a0 len0 cap0] = some (d, p) := hf
  rcases open_slice Try.underlying24 hf' with ⟨hc, _⟩ | ⟨a, len, cap, m, n, D, Pl, hc, _, hlc, hcm, hm, hx, hel⟩
  · refine ⟨[], ⟨none, 0, ?_, by simp, Or.inl rfl⟩, (fun x hx => by cases hx), Nat.zero_le _⟩
    simpa using hc
  · rw [cellsOp6] at hel
    simp only [if_true] at hm
    subst hm
    have hd : d = .slice ((List.range len).map D) ((List.range (m - len)).map fun j => D (len + j)) := congrArg Prod.fst hx
    rw [hd] at hM
    simp only [DataW.weights, Try.underlying24, bytesOp6] at hM
    have hlen : len * 56 ≤ M := by
      have := hM _ (List.mem_cons_self ..)
      simp only [List.length_map, List.length_range] at this
      omega
    have hall : ∀ i, i < len → ∃ x : Op6, W.cells? 0 (a.add (i * 3)) 3 = some (cellsO6 x) ∧ Op6Ok M W x := fun i hi => by
      obtain ⟨cs', h1, h2⟩ := hel i (by omega)
      obtain ⟨x, rfl, hx1⟩ := cells_Op6 h2 (fun m hm => hM _ (List.mem_cons_of_mem _ (List.mem_append_left _ (weights_part (List.mem_map.2 ⟨i, by simpa using hi, rfl⟩) hm))))
      exact ⟨x, h1, hx1⟩
    haveI : Inhabited Op6 := ⟨⟨0, .bool false, .bool false, [], []⟩⟩
    obtain ⟨X, hX⟩ := choose_lt hall
    have hcell : ∀ i, i < len → ∀ j u, (cellsO6 (X i))[j]? = some u → W.cell? ((a.add (i * 3)).add j) = some u := fun i hi j u hu => by
      have h1 := (hX i hi).1
      unfold World.cells? at h1
      rw [if_pos (Nat.zero_le _)] at h1
      have hj : j < 3 := (List.getElem?_eq_some_iff.1 hu).1
      obtain ⟨b, hb, hc⟩ := Lib.mapM_at h1 j j (by simp [hj])
      rw [hb] at hu
      rw [hc, hu]
    refine ⟨(List.range len).map X, ⟨some a, m, ?_, by simpa using hlc, ?_⟩, ?_, by simpa using hlen⟩
    · simpa using hc
    · cases len with
      | zero => exact Or.inl rfl
      | succ len =>
        have hsp : a.spot = none := by
          have := hcell 0 (by omega) 0 _ rfl
          have := World.cell?_spot this
          simpa [Addr.add] using this
        obtain ⟨g, o, sp⟩ := a
        simp only at hsp
        subst hsp
        refine Or.inr ⟨g, o, rfl, fun k hk j u hu => ?_⟩
        have hk' : k < len + 1 := by simpa using hk
        have := hcell k hk' j u (by simpa using hu)
        rw [Addr.add_mid, Addr.add_mid] at this
        exact this
    · intro x hx
      obtain ⟨i, hi, rfl⟩ := List.mem_map.1 hx
      exact (hX i (by simpa using hi)).2
end Go.Proofs.Ytcjoolmlobjpbaa

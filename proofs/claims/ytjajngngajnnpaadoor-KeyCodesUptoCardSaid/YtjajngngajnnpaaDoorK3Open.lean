/- A row of raw values of the law's own struct, opened: where its values lie, and that none is great. -/
import Derived.Test.YtjajngngajnnpaaDoorB2Raw
import Derived.Test.YtjajngngajnnpaaDoorK3R
import Derived.Deep.Slices
import Derived.Carry
import Derived.Lib.LaidTab
namespace Go.Proofs.YtjajngngajnnpaaDoor
open Go.RowKit Go.ChangeShapes Go.WideShapes Go.ChangeAt Go.Joins Go.Deep
set_option linter.unusedVariables false

theorem laidOut : laidOutB Tryd.prog = true := by kernel_rfl
theorem bulk_one {H : Type} (d : DataW H) : 1 ≤ Rows.uptoBulk d := by
  cases d with
  | lit l => cases l <;> simp [Rows.uptoBulk]
  | nil => simp [Rows.uptoBulk]
  | ptr d => simp [Rows.uptoBulk]
  | slice elems spare => simp [Rows.uptoBulk]
  | agg parts => simp [Rows.uptoBulk]
  | iface t d => simp [Rows.uptoBulk]
  | map entries => simp [Rows.uptoBulk]
  | held h => simp [Rows.uptoBulk]
theorem bulk_part {H : Type} {d : DataW H} {l : List (DataW H)} (h : d ∈ l) : Rows.uptoBulk d ≤ Rows.uptoBulkAll l := by
  induction l with
  | nil => cases h
  | cons x r ih =>
    simp only [Rows.uptoBulkAll]
    cases List.mem_cons.1 h with
    | inl e => subst e; omega
    | inr e => have := ih e; omega
theorem bulk_length {H : Type} (l : List (DataW H)) : l.length ≤ Rows.uptoBulkAll l := by
  induction l with
  | nil => simp [Rows.uptoBulkAll]
  | cons x r ih => have := bulk_one x; simp only [Rows.uptoBulkAll, List.length_cons]; omega

set_option maxRecDepth 100000 in
theorem raw_cells {H : Type} {enc : TypeId × Value → H} {W : World} {base : Nat} {sp : Nat → Bool} {held : Bool} {n : Nat} {cs : List Value} {d : DataW H} {pl : List MemPlace}
    (h : DataW.trod enc Tryd.prog W base sp held n 41 cs = some (d, pl)) : ∃ x : V4, cs = cellsV x ∧ RawOk (Rows.uptoBulk d) x := by
  obtain ⟨y0, y1, y2, y3, m, hx, hl, h0, h1, h2, h3⟩ := trod_struct4 Tryd.underlying41 h
  rw [cellsRaw] at hl
  match cs, hl with
  | [c0, c1, c2, c3], _ =>
    have h0' : DataW.trod enc Tryd.prog W base sp held m 3 [c0] = some y0 := by
      have : Tryd.prog.cellsOf 3 = 1 := by kernel_rfl
      simpa [this] using h0
    have h1' : DataW.trod enc Tryd.prog W base sp held m 2 [c1] = some y1 := by
      have : Tryd.prog.cellsOf 2 = 1 := by kernel_rfl
      simpa [this] using h1
    have h2' : DataW.trod enc Tryd.prog W base sp held m 9 [c2] = some y2 := by
      have : Tryd.prog.cellsOf 9 = 1 := by kernel_rfl
      simpa [this] using h2
    have h3' : DataW.trod enc Tryd.prog W base sp held m 4 [c3] = some y3 := by
      have : Tryd.prog.cellsOf 4 = 1 := by kernel_rfl
      simpa [this] using h3
    clear h0 h1 h2 h3
    obtain ⟨k, e0, rfl, wk⟩ := DataW.trod_int Tryd.underlying3 h0'
    obtain ⟨n, e1, rfl, wn⟩ := DataW.trod_int Tryd.underlying2 h1'
    obtain ⟨s, e2, rfl, ws⟩ := DataW.trod_string Tryd.underlying9 h2'
    obtain ⟨b, e3, rfl⟩ := DataW.trod_bool Tryd.underlying4 h3'
    simp at e0 e1 e2 e3
    subst e0 e1 e2 e3
    simp only [Prod.mk.injEq] at hx
    refine ⟨(k, n, s.data.toList, b), by simp only [cellsV, str_back], bounds64 wk, bounds64 wn, ?_⟩
    rw [hx.1]
    simp [Rows.uptoBulk, Rows.uptoBulkAll]
    omega
theorem open_raws {H : Type} {enc : TypeId × Value → H} {W : World} {base : Nat} {v : Value} {d : DataW H} {p : List MemPlace} {M : Nat}
    (hv : Value.okWide Tryd.prog W .any base 22 v) (h : DataW.Trod enc Tryd.prog W 0 (fun _ => true) true 22 v d p) (hM : Rows.uptoBulk d ≤ M) :
    ∃ rs : List V4, RawsAt W v rs ∧ (∀ x ∈ rs, RawOk M x) ∧ rs.length ≤ M := by
  obtain ⟨a0, len0, cap0, rfl⟩ := okWide_slice Tryd.underlying22 hv
  obtain ⟨fuel, hf⟩ := h
  have hf' : DataW.trod enc Tryd.prog W 0 (fun _ => true) true fuel 22 [.slice a0 len0 cap0] = some (d, p) := hf
  rcases open_slice Tryd.underlying22 hf' with ⟨hc, _⟩ | ⟨a, len, cap, m, n, D, Pl, hc, _, hlc, hcm, hm, hx, hel⟩
  · refine ⟨[], ⟨none, 0, ?_, by simp, Or.inl rfl⟩, (fun x hx => by cases hx), Nat.zero_le _⟩
    simpa using hc
  · rw [cellsRaw] at hel
    simp only [if_true] at hm
    subst hm
    have hd : d = .slice ((List.range len).map D) ((List.range (m - len)).map fun j => D (len + j)) := congrArg Prod.fst hx
    have hb : Rows.uptoBulkAll ((List.range len).map D) ≤ M := by
      rw [hd] at hM
      simp only [Rows.uptoBulk] at hM
      omega
    have hlen : len ≤ M := by
      have := bulk_length ((List.range len).map D)
      simp at this; omega
    have hall : ∀ i, i < len → ∃ x : V4, W.cells? 0 (a.add (i * 4)) 4 = some (cellsV x) ∧ RawOk M x := fun i hi => by
      obtain ⟨cs', h1, h2⟩ := hel i (by omega)
      obtain ⟨x, rfl, hx⟩ := raw_cells h2
      refine ⟨x, h1, hx.1, hx.2.1, Nat.le_trans hx.2.2 (Nat.le_trans (bulk_part ?_) hb)⟩
      exact List.mem_map.2 ⟨i, by simpa using hi, rfl⟩
    obtain ⟨X, hX⟩ := choose_lt hall
    have hcell : ∀ i, i < len → ∀ j u, (cellsV (X i))[j]? = some u → W.cell? ((a.add (i * 4)).add j) = some u := fun i hi j u hu => by
      have h1 := (hX i hi).1
      unfold World.cells? at h1
      rw [if_pos (Nat.zero_le _)] at h1
      have hj : j < 4 := by
        have := (List.getElem?_eq_some_iff.1 hu).1
        rwa [cellsV_len] at this
      obtain ⟨b, hb, hc⟩ := Lib.mapM_at h1 j j (by simp [hj])
      rw [hb] at hu
      rw [hc, hu]
    refine ⟨(List.range len).map X, ⟨some a, m, ?_, by simpa using hlc, ?_⟩, ?_, by simpa using hlen⟩
    · simpa using hc
    · cases len with
      | zero => exact Or.inl rfl
      | succ len =>
        have hsp : a.spot = none := by
          have := hcell 0 (by omega) 0 _ rfl
          have := World.cell?_spot this
          simpa [Addr.add] using this
        obtain ⟨g, o, sp⟩ := a
        simp only at hsp
        subst hsp
        refine Or.inr ⟨g, o, rfl, fun k hk j u hu => ?_⟩
        have hk' : k < len + 1 := by simpa using hk
        have := hcell k hk' j u (by simpa using hu)
        rw [Addr.add_mid, Addr.add_mid] at this
        exact this
    · intro x hx
      obtain ⟨i, hi, rfl⟩ := List.mem_map.1 hx
      exact (hX i (by simpa using hi)).2
end Go.Proofs.YtjajngngajnnpaaDoor

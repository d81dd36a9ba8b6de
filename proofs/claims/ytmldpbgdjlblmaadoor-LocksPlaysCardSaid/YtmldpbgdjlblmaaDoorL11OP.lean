/- Scripts of layer 11 as they are handed in, opened. -/
import Derived.Test.YtmldpbgdjlblmaaDoorM10Open
import Derived.Deep.Slices
import Derived.Carry
import Derived.Deep.MidRow
namespace Go.Proofs.YtmldpbgdjlblmaaDoor
open Go.RowKit Go.ChangeShapes Go.WideShapes Go.ChangeAt Go.Joins Go.Deep
set_option linter.unusedVariables false
set_option linter.unusedSimpArgs false

theorem laidOut : laidOutB Tryd.prog = true := by kernel_rfl
structure Op11 where
  kind : Int
  tx : Int
  ob : Ob
  md : Int
  sh : Bool
def cells11 (x : Op11) : List Value := [.int .i64 x.kind, .int .i64 x.tx, .int .i64 x.ob.sp, .string x.ob.tb, .string x.ob.lo, .string x.ob.hi, .bool x.ob.en, .int .i64 x.md, .bool x.sh]
def OpOk (x : Op11) : Prop := True
def Ops11 (w : World) (v : Value) (rs : List Op11) : Prop :=
  ∃ ao cap, v = .slice ao rs.length cap ∧ rs.length ≤ cap ∧ (rs = [] ∨ ∃ g o, ao = some ⟨g, o, none⟩ ∧ ∀ k (h : k < rs.length), w.rangeAt g (o + k * 9) (cells11 rs[k]))
theorem cellsOp11 : Tryd.prog.cellsOf 35 = 9 := by kernel_rfl
set_option maxRecDepth 100000 in
theorem cells_Op11 {H : Type} {enc : TypeId × Value → H} {W : World} {n : Nat} {cs : List Value} {d : DataW H} {pl : List MemPlace}
    (h : DataW.trod enc Tryd.prog W 0 (fun _ => true) true n 35 cs = some (d, pl)) : ∃ x : Op11, cs = cells11 x ∧ OpOk x := by
  obtain ⟨xs, m, _, hx, hl, hlen, hf⟩ := DataW.trod_struct Tryd.underlying35 h
  rw [cellsOp11] at hl
  match xs, hlen, cs, hl with
  | [y0, y1, y2, y3, y4], _, [c0, c1, c2, c3, c4, c5, c6, c7, c8], _ =>
    have h0 : DataW.trod enc Tryd.prog W 0 (fun _ => true) true m 3 [c0] = some y0 := by simpa [kI, kB, cellsObj] using hf 0 _ rfl
    have h1 : DataW.trod enc Tryd.prog W 0 (fun _ => true) true m 3 [c1] = some y1 := by simpa [kI, kB, cellsObj] using hf 1 _ rfl
    have h2 : DataW.trod enc Tryd.prog W 0 (fun _ => true) true m 33 [c2, c3, c4, c5, c6] = some y2 := by simpa [kI, kB, cellsObj] using hf 2 _ rfl
    have h3 : DataW.trod enc Tryd.prog W 0 (fun _ => true) true m 3 [c7] = some y3 := by simpa [kI, kB, cellsObj] using hf 3 _ rfl
    have h4 : DataW.trod enc Tryd.prog W 0 (fun _ => true) true m 4 [c8] = some y4 := by simpa [kI, kB, cellsObj] using hf 4 _ rfl
    clear hf
    obtain ⟨a, e0, _, w0⟩ := DataW.trod_int Tryd.underlying3 h0
    obtain ⟨b, e1, _, w1⟩ := DataW.trod_int Tryd.underlying3 h1
    obtain ⟨q, e3, _, w3⟩ := DataW.trod_int Tryd.underlying3 h3
    obtain ⟨u, e4, _⟩ := DataW.trod_bool Tryd.underlying4 h4
    obtain ⟨d2, p2⟩ := y2
    obtain ⟨xs2, m2, _, hx2, hl2, hlen2, hf2⟩ := DataW.trod_struct Tryd.underlying33 h2
    match xs2, hlen2 with
    | [z0, z1, z2, z3, z4], _ =>
      have g0 : DataW.trod enc Tryd.prog W 0 (fun _ => true) true m2 3 [c2] = some z0 := by simpa [kI, kS, kB] using hf2 0 _ rfl
      have g1 : DataW.trod enc Tryd.prog W 0 (fun _ => true) true m2 9 [c3] = some z1 := by simpa [kI, kS, kB] using hf2 1 _ rfl
      have g2 : DataW.trod enc Tryd.prog W 0 (fun _ => true) true m2 9 [c4] = some z2 := by simpa [kI, kS, kB] using hf2 2 _ rfl
      have g3 : DataW.trod enc Tryd.prog W 0 (fun _ => true) true m2 9 [c5] = some z3 := by simpa [kI, kS, kB] using hf2 3 _ rfl
      have g4 : DataW.trod enc Tryd.prog W 0 (fun _ => true) true m2 4 [c6] = some z4 := by simpa [kI, kS, kB] using hf2 4 _ rfl
      clear hf2
      obtain ⟨s0, i0, _, v0⟩ := DataW.trod_int Tryd.underlying3 g0
      obtain ⟨s1, i1, _⟩ := DataW.trod_string Tryd.underlying9 g1
      obtain ⟨s2, i2, _⟩ := DataW.trod_string Tryd.underlying9 g2
      obtain ⟨s3, i3, _⟩ := DataW.trod_string Tryd.underlying9 g3
      obtain ⟨s4, i4, _⟩ := DataW.trod_bool Tryd.underlying4 g4
      simp at e0 e1 e3 e4 i0 i1 i2 i3 i4
      subst e0 e1 e3 e4 i0 i1 i2 i3 i4
      exact ⟨⟨a, b, ⟨s0, s1, s2, s3, s4⟩, q, u⟩, rfl, trivial⟩
set_option maxRecDepth 100000 in
theorem open_Ops11 {H : Type} {enc : TypeId × Value → H} {W : World} {base : Nat} {v : Value} {d : DataW H} {p : List MemPlace}
    (hv : Value.okWide Tryd.prog W .any base 22 v) (h : DataW.Trod enc Tryd.prog W 0 (fun _ => true) true 22 v d p) :
    ∃ rs : List Op11, Ops11 W v rs ∧ (∀ x ∈ rs, OpOk x) := by
  obtain ⟨a0, len0, cap0, rfl⟩ := okWide_slice Tryd.underlying22 hv
  obtain ⟨fuel, hf⟩ := h
  have hf' : DataW.trod enc Tryd.prog W 0 (fun _ => true) true fuel 22 [.slice a0 len0 cap0] = some (d, p) := hf
  rcases open_slice Tryd.underlying22 hf' with ⟨hc, _⟩ | ⟨a, len, cap, m, n, D, Pl, hc, _, hlc, hcm, hm, hx, hel⟩
  · refine ⟨[], ⟨none, 0, ?_, by simp, Or.inl rfl⟩, (fun x hx => by cases hx)⟩
    simpa using hc
  · rw [cellsOp11] at hel
    simp only [if_true] at hm
    subst hm
    have hall : ∀ i, i < len → ∃ x : Op11, W.cells? 0 (a.add (i * 9)) 9 = some (cells11 x) ∧ OpOk x := fun i hi => by
      obtain ⟨cs', h1, h2⟩ := hel i (by omega)
      obtain ⟨x, rfl, hx1⟩ := cells_Op11 h2
      exact ⟨x, h1, hx1⟩
    haveI : Inhabited Op11 := ⟨⟨0, 0, ⟨0, ByteArray.empty, ByteArray.empty, ByteArray.empty, false⟩, 0, false⟩⟩
    obtain ⟨X, hX⟩ := choose_lt hall
    have hcell : ∀ i, i < len → ∀ j u, (cells11 (X i))[j]? = some u → W.cell? ((a.add (i * 9)).add j) = some u := fun i hi j u hu => by
      have h1 := (hX i hi).1
      unfold World.cells? at h1
      rw [if_pos (Nat.zero_le _)] at h1
      have hj : j < 9 := (List.getElem?_eq_some_iff.1 hu).1
      obtain ⟨b, hb, hc⟩ := Lib.mapM_at h1 j j (by simp [hj])
      rw [hb] at hu
      rw [hc, hu]
    refine ⟨(List.range len).map X, ⟨some a, m, ?_, by simpa using hlc, ?_⟩, ?_⟩
    · simpa using hc
    · cases len with
      | zero => exact Or.inl rfl
      | succ len =>
        have hsp : a.spot = none := by
          have := hcell 0 (by omega) 0 _ rfl
          have := World.cell?_spot this
          simpa [Addr.add] using this
        obtain ⟨g, o, sp⟩ := a
        simp only at hsp
        subst hsp
        refine Or.inr ⟨g, o, rfl, fun k hk j u hu => ?_⟩
        have hk' : k < len + 1 := by simpa using hk
        have := hcell k hk' j u (by simpa using hu)
        rw [Addr.add_mid, Addr.add_mid] at this
        exact this
    · intro x hx
      obtain ⟨i, hi, rfl⟩ := List.mem_map.1 hx
      exact (hX i (by simpa using hi)).2
end Go.Proofs.YtmldpbgdjlblmaaDoor

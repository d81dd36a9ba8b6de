/- Numbers and objects that came in, opened and shut. -/
import Derived.Test.YtmldpbgdjlblmaaDoorM10F
import Derived.Test.YtmldpbgdjlblmaaDoorM10L
import Derived.ProofKit
import Derived.Lib.SmallJoins
namespace Go.Proofs.YtmldpbgdjlblmaaDoor
open Go.RowKit Go.ChangeShapes Go.WideShapes Go.ChangeAt Go.Joins
set_option linter.unusedVariables false

theorem bounds64 {x : Int} (h : (Lit.int .i64 x).wf = true) : -9223372036854775808 ≤ x ∧ x ≤ 9223372036854775807 := by
  simpa [Lit.wf, IntKind.min, IntKind.max, IntKind.signed, IntKind.bits] using h
theorem cellsObj : Tryd.prog.cellsOf 33 = 5 := by kernel_rfl
def objD {H : Type} (o : Ob) : DataW H := .agg [.lit (.int .i64 o.sp), .lit (.string o.tb.data.toList), .lit (.string o.lo.data.toList), .lit (.string o.hi.data.toList), .lit (.bool o.en)]
def ObOk (o : Ob) : Prop := (Lit.int .i64 o.sp).wf = true ∧ o.tb.size ≤ maxLen ∧ o.lo.size ≤ maxLen ∧ o.hi.size ≤ maxLen
theorem kI : Tryd.prog.cellsOf 3 = 1 := by kernel_rfl
theorem kS : Tryd.prog.cellsOf 9 = 1 := by kernel_rfl
theorem kB : Tryd.prog.cellsOf 4 = 1 := by kernel_rfl
set_option maxRecDepth 100000 in
theorem open_obj {H : Type} {enc : TypeId × Value → H} {W : World} {base : Nat} {v : Value} {d : DataW H} {p : List MemPlace}
    (hv : Value.okWide Tryd.prog W .any base 33 v) (h : DataW.Trod enc Tryd.prog W 0 (fun _ => true) true 33 v d p) :
    ∃ o : Ob, v = o.v ∧ d = objD o ∧ p = [] ∧ ObOk o := by
  obtain ⟨cs, rfl, hsz⟩ := okWide_struct Tryd.underlying33 hv
  obtain ⟨fuel, hf⟩ := h
  have hf' : DataW.trod enc Tryd.prog W 0 (fun _ => true) true fuel 33 cs.toList = some (d, p) := hf
  obtain ⟨xs, n, _, hx, hl, hlen, hf⟩ := DataW.trod_struct Tryd.underlying33 hf'
  rw [cellsObj] at hl
  obtain ⟨l, rfl⟩ : ∃ l : List Value, cs = l.toArray := ⟨cs.toList, by simp⟩
  simp only at hl hf
  match l, hl, xs, hlen with
  | [c0, c1, c2, c3, c4], _, [y0, y1, y2, y3, y4], _ =>
    have h0 : DataW.trod enc Tryd.prog W 0 (fun _ => true) true n 3 [c0] = some y0 := by simpa [kI] using hf 0 _ rfl
    have h1 : DataW.trod enc Tryd.prog W 0 (fun _ => true) true n 9 [c1] = some y1 := by simpa [kS] using hf 1 _ rfl
    have h2 : DataW.trod enc Tryd.prog W 0 (fun _ => true) true n 9 [c2] = some y2 := by simpa [kS] using hf 2 _ rfl
    have h3 : DataW.trod enc Tryd.prog W 0 (fun _ => true) true n 9 [c3] = some y3 := by simpa [kS] using hf 3 _ rfl
    have h4 : DataW.trod enc Tryd.prog W 0 (fun _ => true) true n 4 [c4] = some y4 := by simpa [kB] using hf 4 _ rfl
    obtain ⟨sp, e0, rfl, w0⟩ := DataW.trod_int Tryd.underlying3 h0
    obtain ⟨tb, e1, rfl, w1⟩ := DataW.trod_string Tryd.underlying9 h1
    obtain ⟨lo, e2, rfl, w2⟩ := DataW.trod_string Tryd.underlying9 h2
    obtain ⟨hi, e3, rfl, w3⟩ := DataW.trod_string Tryd.underlying9 h3
    obtain ⟨en, e4, rfl⟩ := DataW.trod_bool Tryd.underlying4 h4
    simp at e0 e1 e2 e3 e4 hx
    subst e0 e1 e2 e3 e4
    exact ⟨⟨sp, tb, lo, hi, en⟩, rfl, hx.1, hx.2, w0, w1, w2, w3⟩
set_option maxRecDepth 100000 in
theorem shut_obj {H : Type} {enc : TypeId × Value → H} {W : World} {sp : Nat → Bool} {o : Ob} (h : ObOk o) :
    DataW.Trod enc Tryd.prog W 0 sp true 33 o.v (objD o) [] := by
  obtain ⟨w0, w1, w2, w3⟩ := h
  have := trod_struct_mk (enc := enc) (w := W) (base := 0) (spare := sp) (held := true) (n := 1) (cs := [.int .i64 o.sp, .string o.tb, .string o.lo, .string o.hi, .bool o.en]) (xs := [(.lit (.int .i64 o.sp), []), (.lit (.string o.tb.data.toList), []), (.lit (.string o.lo.data.toList), []), (.lit (.string o.hi.data.toList), []), (.lit (.bool o.en), [])]) Tryd.underlying33 (by simp [cellsObj])
    (by simp [kI, kS, kB, DataW.trod, Tryd.underlying3, Tryd.underlying9, Tryd.underlying4, w0, w1, w2, w3])
  exact ⟨2, by simpa [Value.cells, objD] using this⟩
end Go.Proofs.YtmldpbgdjlblmaaDoor

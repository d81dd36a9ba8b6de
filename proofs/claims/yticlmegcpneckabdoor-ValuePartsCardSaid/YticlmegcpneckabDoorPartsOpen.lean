/- Two texts and two patterns, opened and shut. -/
import Derived.Test.YticlmegcpneckabDoorRawOpen
namespace Go.Proofs.YticlmegcpneckabDoor
open Go.RowKit Go.ChangeShapes Go.WideShapes Go.ChangeAt Go.Joins
set_option linter.unusedVariables false

theorem cellsParts : Tryd.prog.cellsOf 41 = 4 := by kernel_rfl
def partsD {H : Type} (a p b q : ByteArray) : DataW H := .agg [.lit (.string a.data.toList), .lit (.string p.data.toList), .lit (.string b.data.toList), .lit (.string q.data.toList)]
theorem open_parts {H : Type} {enc : TypeId × Value → H} {W : World} {base : Nat} {v : Value} {d : DataW H} {p : List MemPlace}
    (hv : Value.okWide Tryd.prog W .any base 41 v) (h : DataW.Trod enc Tryd.prog W 0 (fun _ => true) true 41 v d p) :
    ∃ (s t u q : ByteArray), v = .agg #[.string s, .string t, .string u, .string q] ∧ d = partsD s t u q ∧ p = [] ∧ s.size ≤ maxLen ∧ t.size ≤ maxLen ∧ u.size ≤ maxLen ∧ q.size ≤ maxLen := by
  obtain ⟨c0, c1, c2, c3, y0, y1, y2, y3, m, rfl, rfl, rfl, h0, h1, h2, h3⟩ := open_agg4 Tryd.underlying41 (by kernel_rfl) cellsParts hv h
  obtain ⟨s, e0, rfl, ws⟩ := DataW.trod_string Tryd.underlying9 h0
  obtain ⟨t, e1, rfl, wt⟩ := DataW.trod_string Tryd.underlying9 h1
  obtain ⟨u, e2, rfl, wu⟩ := DataW.trod_string Tryd.underlying9 h2
  obtain ⟨q, e3, rfl, wq⟩ := DataW.trod_string Tryd.underlying9 h3
  simp at e0 e1 e2 e3
  subst e0 e1 e2 e3
  exact ⟨s, t, u, q, rfl, rfl, rfl, ws, wt, wu, wq⟩
theorem shut_parts {H : Type} {enc : TypeId × Value → H} {W : World} {sp : Nat → Bool} {s t u q : ByteArray} (ws : s.size ≤ maxLen) (wt : t.size ≤ maxLen) (wu : u.size ≤ maxLen) (wq : q.size ≤ maxLen) :
    DataW.Trod enc Tryd.prog W 0 sp true 41 (.agg #[.string s, .string t, .string u, .string q]) (partsD s t u q) [] :=
  shut_agg4 (y0 := (.lit (.string s.data.toList), [])) (y1 := (.lit (.string t.data.toList), [])) (y2 := (.lit (.string u.data.toList), [])) (y3 := (.lit (.string q.data.toList), [])) Tryd.underlying41 (by kernel_rfl) cellsParts
    ⟨1, by simp [DataW.trod, Tryd.underlying9, ws]⟩ ⟨1, by simp [DataW.trod, Tryd.underlying9, wt]⟩ ⟨1, by simp [DataW.trod, Tryd.underlying9, wu]⟩ ⟨1, by simp [DataW.trod, Tryd.underlying9, wq]⟩
end Go.Proofs.YticlmegcpneckabDoor

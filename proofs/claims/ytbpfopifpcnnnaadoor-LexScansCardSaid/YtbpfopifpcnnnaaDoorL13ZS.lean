/- Same: a list of tokens is itself. -/
import Derived.Test.YtbpfopifpcnnnaaDoorL13Z
import Derived.Test.YtbpfopifpcnnnaaDoorL13V
namespace Go.Proofs.YtbpfopifpcnnnaaDoor
open Go.RowKit
set_option linter.unusedVariables false
set_option linter.unusedSimpArgs false

set_option maxHeartbeats 2000000 in
set_option maxRecDepth 100000 in
theorem same_eq {b1 b2 : Nat} {w : World} {v1 v2 : Value} {L : List Tok} (h1 : TRow b1 w v1 L) (h2 : TRow b2 w v2 L) (hL : L.length ≤ 600) : Calls Tryd.prog 10 #[v1, v2] w fun e w' => e = .returned (.bool true) ∧ Below w.heap.size w w' := by
  obtain ⟨ao1, cp1, rfl, hc1, _⟩ := h1.form
  obtain ⟨ao2, cp2, rfl, hc2, _⟩ := h2.form
  have R1 := Go.Proofs.YtbpfopifpcnnnaaDoor.Hid.mk' h1
  have R2 := Go.Proofs.YtbpfopifpcnnnaaDoor.Hid.mk' h2
  clear h1 h2
  go_enter Tryd.func10, Tryd.ntmps10
  go_wp2_with fail
  go_loopw [5] (fun x wr => ∃ i : Nat, x = .int .i64 i ∧ i ≤ L.length ∧ Hid (Below w.heap.size w wr)) (fun x _ => L.length - (intOf x).toNat)
  case atStart => exact ⟨0, rfl, Nat.zero_le _, Below.refl _ _⟩
  case round =>
    rename World => wr
    obtain ⟨i, rfl, hi, HB⟩ := hrel
    by_cases hlt : i < L.length
    · have tl : (i : Int) < (L.length : Int) := by omega
      have hR1 := R1.out.keepB HB.out
      have hR2 := R2.out.keepB HB.out
      obtain ⟨g1, c1', e1, _⟩ := Row.at_ hR1 (by omega)
      obtain ⟨g2, c2', e2, _⟩ := Row.at_ hR2 (by omega)
      have e1' : ao1 = some ⟨g1, 0, none⟩ := by injection e1
      have e2' : ao2 = some ⟨g2, 0, none⟩ := by injection e2
      subst e1'
      subst e2'
      obtain ⟨l0, l1, l2, l3⟩ := hR1.cells i hlt
      obtain ⟨m0, m1, m2, m3⟩ := hR2.cells i hlt
      generalize L[i] = t at *
      obtain ⟨K, S, V, P⟩ := t
      simp only at l0 l1 l2 l3 m0 m1 m2 m3
      generalize (⟨S.toArray⟩ : ByteArray) = sb at *
      clear hR1 hR2 e1 e2
      go_wp2_with fail
      go_quiet (fail)
      rename Nat => nq
      have HB5 : Hid (Below w.heap.size w (wr.drewN nq)) := HB.out.trans ⟨rfl, rfl, rfl, Nat.le_refl _, fun _ _ => rfl⟩
      clear l0 l1 l2 l3 m0 m1 m2 m3
      go_wp2_with fail
      exact ⟨⟨i + 1, by go_num, by omega, HB5⟩, by simp [intOf]; omega⟩
    · have tl : ¬ (i : Int) < (L.length : Int) := by omega
      clear R1 R2
      go_wp2_with fail
      go_ret
      exact ⟨rfl, HB.out⟩
end Go.Proofs.YtbpfopifpcnnnaaDoor

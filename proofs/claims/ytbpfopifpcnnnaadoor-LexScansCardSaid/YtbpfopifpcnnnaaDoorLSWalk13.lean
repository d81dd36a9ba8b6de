/- What Scan answers is what the document says. -/
import Derived.Test.YtbpfopifpcnnnaaDoorL13ZS
import Derived.Test.YtbpfopifpcnnnaaDoorL13Q
namespace Go.Proofs.YtbpfopifpcnnnaaDoor
open Go.RowKit
set_option linter.unusedVariables false
set_option linter.unusedSimpArgs false

theorem scTo_two {w w1 w2 : World} {s : ByteArray} {e1 e2 : Ending} (h1 : ScTo w s e1 w1) (h2 : ScTo w1 s e2 w2) : ∃ v1 v2 st L, e1 = .returned (.tuple #[v1, .string st]) ∧ e2 = .returned (.tuple #[v2, .string st]) ∧ TRow w.heap.size w2 v1 L ∧ TRow w1.heap.size w2 v2 L ∧ L.length ≤ 600 ∧ Below w.heap.size w w2 := by
  rcases h1 with ⟨l, v, ho, he, row, hb⟩ | ⟨er, ho, he, hb⟩
  · rcases h2 with ⟨l2, v2, ho2, he2, row2, hb2⟩ | ⟨er2, ho2, he2, hb2⟩
    · rw [ho] at ho2
      cases ho2
      exact ⟨v, v2, _, l, he, he2, row.keepB hb2, row2, (scF_ok.1 ho).2.2, hb.trans (hb2.mono hb.size)⟩
    · rw [ho] at ho2; cases ho2
  · rcases h2 with ⟨l2, v2, ho2, he2, row2, hb2⟩ | ⟨er2, ho2, he2, hb2⟩
    · rw [ho] at ho2; cases ho2
    · rw [ho] at ho2
      cases ho2
      exact ⟨_, _, _, [], he, he2, Row.nil_ _ _ _ _ _, Row.nil_ _ _ _ _ _, by simp, hb.trans (hb2.mono hb.size)⟩
set_option maxHeartbeats 2000000 in
set_option maxRecDepth 100000 in
theorem scans_law (s : ByteArray) (ad : Addr) (w : World) (hL : LibW ad w) : Calls Tryd.prog 3 #[.string s] w fun e w' => e = .returned (.bool true) ∧ Below w.heap.size w w' := by
  have HL := Go.Proofs.YtbpfopifpcnnnaaDoor.Hid.mk' hL
  clear hL
  go_enter Tryd.func3, Tryd.ntmps3
  go_wp2_with fail
  refine (scan_any s w HL.out).mono ?_
  intro e w1 h1
  obtain ⟨vv, st0, rfl⟩ : ∃ vv st0, e = .returned (.tuple #[vv, .string st0]) := by
    rcases id h1 with ⟨l, v, ho, he, row, hb⟩ | ⟨er, ho, he, hb⟩
    · exact ⟨_, _, he⟩
    · exact ⟨_, _, he⟩
  have H1 := Go.Proofs.YtbpfopifpcnnnaaDoor.Hid.mk' h1
  clear h1
  go_wp2_with fail
  refine (scan_ref s w1).mono ?_
  intro e w2 h2
  obtain ⟨v1, v2, st, L, e1, rfl, r1, r2, h6, hb⟩ := scTo_two H1.out h2
  simp only [Ending.returned.injEq, Value.tuple.injEq, Array.mk.injEq, List.cons.injEq, Value.string.injEq, and_true] at e1
  obtain ⟨rfl, rfl⟩ := e1
  have HB := Go.Proofs.YtbpfopifpcnnnaaDoor.Hid.mk' hb
  have hsm := same_eq r1 r2 h6
  clear h2 H1 r1 r2 hb
  go_wp2_with fail
  refine hsm.mono ?_
  rintro e w3 ⟨rfl, hb3⟩
  have HB3 := Go.Proofs.YtbpfopifpcnnnaaDoor.Hid.mk' (HB.out.trans (hb3.mono HB.out.size))
  have hal := alive_any w3 (HL.out.keep HB3.out)
  clear hsm hb3 HB
  go_wp2_with fail
  refine hal.mono ?_
  rintro e w4 ⟨rfl, hb4⟩
  have HB4 := Go.Proofs.YtbpfopifpcnnnaaDoor.Hid.mk' (HB3.out.trans (hb4.mono HB3.out.size))
  clear hal hb4
  go_wp2_with fail
  go_ret
  exact ⟨rfl, HB4.out⟩
end Go.Proofs.YtbpfopifpcnnnaaDoor

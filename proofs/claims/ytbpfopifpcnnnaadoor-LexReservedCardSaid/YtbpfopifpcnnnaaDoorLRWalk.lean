/- Which words are reserved is as the document says. -/
import Derived.Test.YtbpfopifpcnnnaaDoorL13RE
namespace Go.Proofs.YtbpfopifpcnnnaaDoor
open Go.RowKit
set_option linter.unusedVariables false
set_option linter.unusedSimpArgs false

set_option maxHeartbeats 4000000 in
set_option maxRecDepth 100000 in
theorem reserved_law (s : ByteArray) (ad : Addr) (w : World) (hs : s.size ≤ 140737488355328) (hL : LibW ad w) : Calls Tryd.prog 4 #[.string s] w fun e w' => e = .returned (.bool true) ∧ Below w.heap.size w w' := by
  have hal := alive_any w hL
  have h1 := fun W => reserved_any s W
  have h2 := fun W => reserved_ref s hs W
  generalize resL.contains s.data.toList = R at *
  clear hL hs
  go_enter Tryd.func4, Tryd.ntmps4
  go_wp2_with fail
  refine hal.mono ?_
  rintro e w1 ⟨rfl, hb⟩
  have HB := Go.Proofs.YtbpfopifpcnnnaaDoor.Hid.mk' hb
  clear hal hb
  cases R with
  | true =>
    go_wp2_with (first
      | (go_at_call_of 12 (Value.string s); refine (h1 _).mono ?_; rintro e wx ⟨rfl, hwx⟩; obtain rfl := hwx.symm)
      | (go_at_call_of 13 (Value.string s); refine (h2 _).mono ?_; rintro e wx ⟨rfl, hwx⟩; obtain rfl := hwx.symm))
    go_ret
    exact ⟨rfl, HB.out⟩
  | false =>
    go_wp2_with (first
      | (go_at_call_of 12 (Value.string s); refine (h1 _).mono ?_; rintro e wx ⟨rfl, hwx⟩; obtain rfl := hwx.symm)
      | (go_at_call_of 13 (Value.string s); refine (h2 _).mono ?_; rintro e wx ⟨rfl, hwx⟩; obtain rfl := hwx.symm))
    go_ret
    exact ⟨rfl, HB.out⟩
end Go.Proofs.YtbpfopifpcnnnaaDoor

/- The walk of the law ValueLikes: whether a text follows a pattern is the document's answer. -/
import Derived.Test.YticlmegcpneckaaDoorRefLike
namespace Go.Proofs.YticlmegcpneckaaDoor
open Go.RowKit
set_option linter.unusedVariables false

set_option maxHeartbeats 1000000 in
theorem likes_law (t p : ByteArray) (w : World) :
    Calls Tryd.prog 6 #[.string t, .string p] w fun e w' => e = .returned (.bool true) ∧ Below w.heap.size w w' := by
  by_cases ct : 400 < t.size
  · go_enter Tryd.func6, Tryd.ntmps6
    go_wp2_with fail
    refine (alive_any _).mono ?_
    rintro e w1 ⟨rfl, hb⟩
    go_wp2
    go_ret
    exact ⟨rfl, hb⟩
  by_cases cp : 400 < p.size
  · go_enter Tryd.func6, Tryd.ntmps6
    go_wp2_with fail
    refine (alive_any _).mono ?_
    rintro e w1 ⟨rfl, hb⟩
    go_wp2
    go_ret
    exact ⟨rfl, hb⟩
  have HT : Hid (t.size ≤ 400) := Nat.le_of_not_lt ct
  have HP : Hid (p.size ≤ 400) := Nat.le_of_not_lt cp
  go_enter Tryd.func6, Tryd.ntmps6
  go_wp2_with fail
  refine (alive_any _).mono ?_
  rintro e w1 ⟨rfl, h1⟩
  go_wp2_with fail
  refine (like_any t p _ (by have := HT.out; unfold maxLen; omega) (by have := HP.out; unfold maxLen; omega)).mono ?_
  rintro e w2 ⟨rfl, hb⟩
  have h2 := keepA (W0 := w) h1 hb
  clear hb h1
  go_wp2_with fail
  refine (refLike_any t p _ HT.out HP.out).mono ?_
  rintro e w3 ⟨rfl, hb⟩
  have h3 := keepA (W0 := w) h2 hb
  clear hb h2
  go_wp2
  go_ret
  exact ⟨rfl, h3⟩
end Go.Proofs.YticlmegcpneckaaDoor

/- The walk of value.Order at every two right values. -/
import Derived.Test.YticlmegcpneckabDoorOrderMath
import Derived.Test.YticlmegcpneckabDoorRawValue
import Derived.Test.YticlmegcpneckabDoorAlive
namespace Go.Proofs.YticlmegcpneckabDoor
open Go.RowKit
set_option linter.unusedVariables false

theorem RightV.kind {K N : Int} {S : ByteArray} {B : Bool} (h : RightV K N S B) : K = 0 ∨ K = 1 ∨ K = 2 ∨ K = 3 := by
  rcases h with h | h | h | h
  · exact Or.inl h.1
  · exact Or.inr (Or.inl h.1)
  · exact Or.inr (Or.inr (Or.inl h.1))
  · exact Or.inr (Or.inr (Or.inr h.1))
theorem order_any (K1 N1 : Int) (S1 : ByteArray) (B1 : Bool) (K2 N2 : Int) (S2 : ByteArray) (B2 : Bool) (w : World) (hk : K1 = 0 ∨ K1 = 1 ∨ K1 = 2 ∨ K1 = 3) (h1 : S1.size ≤ maxLen) (h2 : S2.size ≤ maxLen) :
    Calls Tryd.prog 22 #[val K1 N1 S1 B1, val K2 N2 S2 B2] w fun e w' => e = .returned (.int .i64 (ordV (K1, N1, S1.data.toList, B1) (K2, N2, S2.data.toList, B2))) ∧ Below w.heap.size w w' := by
  by_cases hK : K1 = K2
  · subst hK
    rcases hk with rfl | rfl | rfl | rfl
    · exact order_null N1 N2 S1 S2 B1 B2 w
    · exact order_num N1 N2 S1 S2 B1 B2 w
    · exact order_text N1 N2 S1 S2 B1 B2 w h1 h2
    · exact order_bool N1 N2 S1 S2 B1 B2 w
  · have h := order_kind K1 N1 K2 N2 S1 S2 B1 B2 w (by simpa using hK)
    refine h.mono fun e w' ⟨he, hb⟩ => ⟨?_, hb⟩
    rw [he]
    exact ret_int (by simp [ordV, hK])
end Go.Proofs.YticlmegcpneckabDoor

/- The walk of stilelaw14.ParseJoined. -/
import Derived.Test.YtbkeaajnhalekaaGreatDoorPJW0
import Derived.Test.YtbkeaajnhalekaaGreatDoorPJW1
import Derived.Test.YtbkeaajnhalekaaGreatDoorPJW2
import Derived.Test.YtbkeaajnhalekaaGreatDoorPJW3
namespace Go.Proofs.YtbkeaajnhalekaaGreatDoor
open Go.RowKit
set_option linter.unusedVariables false
set_option linter.unusedSimpArgs false

theorem pick_two (c : Int) : pickN c 2 = pickN c 4 % 2 := by
  unfold pickN; omega
theorem joined_law (a b : Int) (ad : Addr) (w : World) (ha : -9223372036854775808 ≤ a ∧ a ≤ 9223372036854775807) (hb : -9223372036854775808 ≤ b ∧ b ≤ 9223372036854775807) (hL : LibW ad w) :
    Calls Tryz.prog 6 #[.int .i64 a, .int .i64 b] w fun e w' => e = .returned (.bool true) ∧ Below w.heap.size w w' := by
  have HP : Hid (∀ W, Below w.heap.size w W → ∀ x, Calls Tryz.prog 8 #[.string x] W fun e w' => PrTo W x e w') := fun W hW x => parse_any x W (hL.keep hW)
  have HAL : Hid (∀ W, Below w.heap.size w W → Calls Tryz.prog 11 #[] W fun e w' => e = .returned (.bool true) ∧ Below W.heap.size W w') := fun W hW => alive_any W (hL.keep hW)
  have p2 := fun W => pick14 a 2 W ha (by decide) (by decide)
  have q2 := fun W => pick14 b 2 W hb (by decide) (by decide)
  have p4 := fun W => pick14 a 4 W ha (by decide) (by decide)
  have q4 := fun W => pick14 b 4 W hb (by decide) (by decide)
  rw [pick_two] at p2 q2
  have hk := pickN_lt a 4 (by decide)
  have hl := pickN_lt b 4 (by decide)
  generalize pickN a 4 = k at *
  generalize pickN b 4 = l at *
  have hkk : k = 0 ∨ k = 1 ∨ k = 2 ∨ k = 3 := by omega
  have hll : l = 0 ∨ l = 1 ∨ l = 2 ∨ l = 3 := by omega
  rcases hkk with rfl | rfl | rfl | rfl
  · rcases hll with rfl | rfl | rfl | rfl
    · exact joined_00 a b w HP HAL p2 q2 p4 q4
    · exact joined_01 a b w HP HAL p2 q2 p4 q4
    · exact joined_02 a b w HP HAL p2 q2 p4 q4
    · exact joined_03 a b w HP HAL p2 q2 p4 q4
  · rcases hll with rfl | rfl | rfl | rfl
    · exact joined_10 a b w HP HAL p2 q2 p4 q4
    · exact joined_11 a b w HP HAL p2 q2 p4 q4
    · exact joined_12 a b w HP HAL p2 q2 p4 q4
    · exact joined_13 a b w HP HAL p2 q2 p4 q4
  · rcases hll with rfl | rfl | rfl | rfl
    · exact joined_20 a b w HP HAL p2 q2 p4 q4
    · exact joined_21 a b w HP HAL p2 q2 p4 q4
    · exact joined_22 a b w HP HAL p2 q2 p4 q4
    · exact joined_23 a b w HP HAL p2 q2 p4 q4
  · rcases hll with rfl | rfl | rfl | rfl
    · exact joined_30 a b w HP HAL p2 q2 p4 q4
    · exact joined_31 a b w HP HAL p2 q2 p4 q4
    · exact joined_32 a b w HP HAL p2 q2 p4 q4
    · exact joined_33 a b w HP HAL p2 q2 p4 q4
end Go.Proofs.YtbkeaajnhalekaaGreatDoor

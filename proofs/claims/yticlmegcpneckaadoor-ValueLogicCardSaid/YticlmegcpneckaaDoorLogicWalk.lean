/- The walk of the law ValueLogic: true for every three numbers. -/
import Derived.Test.YticlmegcpneckaaDoorAlive
import Derived.WalkKit
import Derived.WalkSpells
import Derived.WalkLawsBesides
import Derived.Deep.QuietTactic
import Derived.BigQuiet
namespace Go.Proofs.YticlmegcpneckaaDoor
open Go.RowKit
set_option linter.unusedVariables false

theorem logic_facts (x y z : Int) (hx : 0 ≤ x ∧ x ≤ 2) (hy : 0 ≤ y ∧ y ≤ 2) (hz : 0 ≤ z ∧ z ≤ 2) :
    (notI (andI x y) == orI (notI x) (notI y)) = true ∧ (notI (notI x) == x) = true ∧ (andI x y == andI y x) = true ∧ (andI x (andI y z) == andI (andI x y) z) = true ∧
    (andI x (orI y z) == orI (andI x y) (andI x z)) = true ∧ (orI x (andI x y) == x) = true ∧ (andI x 2 == x) = true ∧ (orI x 0 == x) = true := by
  have h1 : x = 0 ∨ x = 1 ∨ x = 2 := by omega
  have h2 : y = 0 ∨ y = 1 ∨ y = 2 := by omega
  have h3 : z = 0 ∨ z = 1 ∨ z = 2 := by omega
  rcases h1 with rfl | rfl | rfl <;> rcases h2 with rfl | rfl | rfl <;> rcases h3 with rfl | rfl | rfl <;> decide

set_option maxHeartbeats 1000000 in
theorem logic_law (a b c : Int) (w : World) (ha : -9223372036854775808 ≤ a ∧ a ≤ 9223372036854775807) (hb : -9223372036854775808 ≤ b ∧ b ≤ 9223372036854775807) (hc : -9223372036854775808 ≤ c ∧ c ≤ 9223372036854775807) :
    Calls Tryd.prog 8 #[.int .i64 a, .int .i64 b, .int .i64 c] w fun e w' => e = .returned (.bool true) ∧ Below w.heap.size w w' := by
  go_enter Tryd.func8, Tryd.ntmps8
  go_wp2_with fail
  refine (pick3_any a _ ha.1 ha.2).mono ?_
  rintro e w1 ⟨⟨x, x0, x2, rfl⟩, rfl⟩
  go_wp2_with fail
  refine (pick3_any b _ hb.1 hb.2).mono ?_
  rintro e w2 ⟨⟨y, y0, y2, rfl⟩, rfl⟩
  go_wp2_with fail
  refine (pick3_any c _ hc.1 hc.2).mono ?_
  rintro e w3 ⟨⟨z, z0, z2, rfl⟩, rfl⟩
  obtain ⟨f1, f2, f3, f4, f5, f6, f7, f8⟩ := logic_facts x y z ⟨x0, x2⟩ ⟨y0, y2⟩ ⟨z0, z2⟩
  clear ha hb hc x0 x2 y0 y2 z0 z2
  go_wp2_with (first
    | (go_at_call 21; refine (not_any _ _).mono ?_; rintro e w' ⟨rfl, rfl⟩)
    | (go_at_call 23; refine (and_any _ _ _).mono ?_; rintro e w' ⟨rfl, rfl⟩)
    | (go_at_call 25; refine (or_any _ _ _).mono ?_; rintro e w' ⟨rfl, rfl⟩)
    | (go_at_call 12; refine (alive_any _).mono ?_; rintro e w' ⟨rfl, hbl⟩))
  go_ret
  exact ⟨rfl, by assumption⟩
end Go.Proofs.YticlmegcpneckaaDoor

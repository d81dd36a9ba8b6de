/- The walk of the law ModesStronger: true for every three numbers. -/
import Derived.Test.YtlklddhljhlpnaaDoorM10J
namespace Go.Proofs.YtlklddhljhlpnaaDoor
open Go.RowKit
set_option linter.unusedVariables false

def s7 : List Int := [0, 1, 2, 3, 4, 5, 6]
theorem s7_mem {x : Int} (h0 : 0 ≤ x) (h6 : x ≤ 6) : x ∈ s7 := by
  have : x = 0 ∨ x = 1 ∨ x = 2 ∨ x = 3 ∨ x = 4 ∨ x = 5 ∨ x = 6 := by omega
  rcases this with rfl | rfl | rfl | rfl | rfl | rfl | rfl <;> simp [s7]
def strB (x y z : Int) : Bool := (!fi x y || !cv x z || fi z y) && (!fi x y || !cv y z || fi x z) && fi 0 x && fi x 0
theorem str_all : s7.all (fun x => s7.all fun y => s7.all fun z => strB x y z) = true := by decide +kernel
theorem str {x y z : Int} (hx : 0 ≤ x ∧ x ≤ 6) (hy : 0 ≤ y ∧ y ≤ 6) (hz : 0 ≤ z ∧ z ≤ 6) : strB x y z = true :=
  List.all_eq_true.1 (List.all_eq_true.1 (List.all_eq_true.1 str_all x (s7_mem hx.1 hx.2)) y (s7_mem hy.1 hy.2)) z (s7_mem hz.1 hz.2)
set_option maxHeartbeats 8000000 in
theorem stronger_law (a b c : Int) (w : World) (ha : -9223372036854775808 ≤ a ∧ a ≤ 9223372036854775807) (hb : -9223372036854775808 ≤ b ∧ b ≤ 9223372036854775807) (hc : -9223372036854775808 ≤ c ∧ c ≤ 9223372036854775807) (hL : LibW w) :
    Calls Tryd.prog 6 #[.int .i64 a, .int .i64 b, .int .i64 c] w fun e w' => e = .returned (.bool true) ∧ Below w.heap.size w w' := by
  go_enter Tryd.func6, Tryd.ntmps6
  go_wp2_with fail
  refine (pick7_any a _ ha.1 ha.2).mono ?_
  rintro e w1 ⟨⟨x, x0, x2, rfl⟩, rfl⟩
  go_wp2_with fail
  refine (pick7_any b _ hb.1 hb.2).mono ?_
  rintro e w2 ⟨⟨y, y0, y2, rfl⟩, rfl⟩
  go_wp2_with fail
  refine (pick7_any c _ hc.1 hc.2).mono ?_
  rintro e w3 ⟨⟨z, z0, z2, rfl⟩, rfl⟩
  have hstr := str ⟨x0, x2⟩ ⟨y0, y2⟩ ⟨z0, z2⟩
  clear ha hb hc x0 x2 y0 y2 z0 z2
  simp only [strB, Bool.and_eq_true] at hstr
  obtain ⟨⟨⟨f1, f2⟩, f3⟩, f4⟩ := hstr
  have f5 : fi 6 1 = false := rfl
  have HS : Hid (St w3 w3) := St.first hL
  clear hL
  cases hxy : fi x y with
  | false =>
    clear f1 f2
    go_wp2_with (first | (go_at_call 14; refine (covers_is (by assumption) _ HS.out.lib).mono ?_; rintro e wn ⟨rfl, hb⟩; replace HS := hid_step HS hb; clear hb) | (go_at_call 12; refine (fits_is (by assumption) _ HS.out.lib).mono ?_; rintro e wn ⟨rfl, rfl⟩) | (go_at_call 9; refine (alive_any _ HS.out.lib).mono ?_; rintro e wn ⟨rfl, hb⟩; replace HS := hid_step HS hb; clear hb))
    go_ret
    exact ⟨rfl, HS.out.below⟩
  | true =>
    cases hxz : cv x z <;> cases hyz : cv y z
    all_goals simp only [hxy, hxz, hyz, Bool.not_true, Bool.not_false, Bool.false_or, Bool.true_or, Bool.or_true] at f1 f2
    all_goals (
      go_wp2_with (first | (go_at_call 14; refine (covers_is (by assumption) _ HS.out.lib).mono ?_; rintro e wn ⟨rfl, hb⟩; replace HS := hid_step HS hb; clear hb) | (go_at_call 12; refine (fits_is (by assumption) _ HS.out.lib).mono ?_; rintro e wn ⟨rfl, rfl⟩) | (go_at_call 9; refine (alive_any _ HS.out.lib).mono ?_; rintro e wn ⟨rfl, hb⟩; replace HS := hid_step HS hb; clear hb))
      go_ret
      exact ⟨rfl, HS.out.below⟩)
end Go.Proofs.YtlklddhljhlpnaaDoor

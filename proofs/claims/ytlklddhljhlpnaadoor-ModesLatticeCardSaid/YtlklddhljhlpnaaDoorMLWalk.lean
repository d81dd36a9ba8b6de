/- The walk of the law ModesLattice: true for every three numbers. -/
import Derived.Test.YtlklddhljhlpnaaDoorM10J
namespace Go.Proofs.YtlklddhljhlpnaaDoor
open Go.RowKit
set_option linter.unusedVariables false

def r7 : List Int := [0, 1, 2, 3, 4, 5, 6]
theorem r7_mem {x : Int} (h0 : 0 ≤ x) (h6 : x ≤ 6) : x ∈ r7 := by
  have : x = 0 ∨ x = 1 ∨ x = 2 ∨ x = 3 ∨ x = 4 ∨ x = 5 ∨ x = 6 := by omega
  rcases this with rfl | rfl | rfl | rfl | rfl | rfl | rfl <;> simp [r7]
def latB (x y z : Int) : Bool :=
  cv x x && (!cv x y || !cv y x || decide (x = y)) && (!cv x y || !cv y z || cv x z) && cv (jn x y) x && cv (jn x y) y && (!cv z x || !cv z y || cv z (jn x y)) && decide (jn y x = jn x y) && decide (jn (jn x y) z = jn x (jn y z)) && (cv x y == decide (jn x y = x))
theorem lat_all : r7.all (fun x => r7.all fun y => r7.all fun z => latB x y z) = true := by decide +kernel
theorem lat {x y z : Int} (hx : 0 ≤ x ∧ x ≤ 6) (hy : 0 ≤ y ∧ y ≤ 6) (hz : 0 ≤ z ∧ z ≤ 6) : latB x y z = true :=
  List.all_eq_true.1 (List.all_eq_true.1 (List.all_eq_true.1 lat_all x (r7_mem hx.1 hx.2)) y (r7_mem hy.1 hy.2)) z (r7_mem hz.1 hz.2)
set_option maxHeartbeats 8000000 in
theorem lattice_law (a b c : Int) (w : World) (ha : -9223372036854775808 ≤ a ∧ a ≤ 9223372036854775807) (hb : -9223372036854775808 ≤ b ∧ b ≤ 9223372036854775807) (hc : -9223372036854775808 ≤ c ∧ c ≤ 9223372036854775807) (hL : LibW w) :
    Calls Tryd.prog 5 #[.int .i64 a, .int .i64 b, .int .i64 c] w fun e w' => e = .returned (.bool true) ∧ Below w.heap.size w w' := by
  go_enter Tryd.func5, Tryd.ntmps5
  go_wp2_with fail
  refine (pick7_any a _ ha.1 ha.2).mono ?_
  rintro e w1 ⟨⟨x, x0, x2, rfl⟩, rfl⟩
  go_wp2_with fail
  refine (pick7_any b _ hb.1 hb.2).mono ?_
  rintro e w2 ⟨⟨y, y0, y2, rfl⟩, rfl⟩
  go_wp2_with fail
  refine (pick7_any c _ hc.1 hc.2).mono ?_
  rintro e w3 ⟨⟨z, z0, z2, rfl⟩, rfl⟩
  have hlat := lat ⟨x0, x2⟩ ⟨y0, y2⟩ ⟨z0, z2⟩
  clear ha hb hc x0 x2 y0 y2 z0 z2
  simp only [latB, Bool.and_eq_true, decide_eq_true_eq] at hlat
  obtain ⟨⟨⟨⟨⟨⟨⟨⟨f1, f2⟩, f3⟩, f4⟩, f5⟩, f6⟩, f7⟩, f8⟩, f9⟩ := hlat
  obtain ⟨j, hj⟩ : ∃ j, jn x y = j := ⟨_, rfl⟩
  obtain ⟨k, hk⟩ : ∃ k, jn y z = k := ⟨_, rfl⟩
  obtain ⟨m, hm⟩ : ∃ m, jn x k = m := ⟨_, rfl⟩
  obtain ⟨xy, hxy⟩ : ∃ t, cv x y = t := ⟨_, rfl⟩
  obtain ⟨yx, hyx⟩ : ∃ t, cv y x = t := ⟨_, rfl⟩
  obtain ⟨yz, hyz⟩ : ∃ t, cv y z = t := ⟨_, rfl⟩
  obtain ⟨xz, hxz⟩ : ∃ t, cv x z = t := ⟨_, rfl⟩
  obtain ⟨zx, hzx⟩ : ∃ t, cv z x = t := ⟨_, rfl⟩
  obtain ⟨zy, hzy⟩ : ∃ t, cv z y = t := ⟨_, rfl⟩
  obtain ⟨zj, hzj⟩ : ∃ t, cv z j = t := ⟨_, rfl⟩
  simp only [hj, hk, hm, hxy, hyx, hyz, hxz, hzx, hzy, hzj] at f2 f3 f4 f5 f6 f7 f8 f9
  have HS : Hid (St w3 w3) := St.first hL
  clear hL
  have cases1 : (x = y ∧ xy = true) ∨ (¬ (x = y) ∧ xy = false) ∨ (¬ (x = y) ∧ xy = true ∧ yx = false) := by
    by_cases e : x = y
    · subst e
      left
      exact ⟨rfl, by rw [← hxy]; exact f1⟩
    · right
      cases xy
      · exact Or.inl ⟨e, rfl⟩
      · cases yx
        · exact Or.inr ⟨e, rfl, rfl⟩
        · simp [e] at f2
  have cases2 : zx = false ∨ (zx = true ∧ zy = false) ∨ (zx = true ∧ zy = true ∧ zj = true) := by
    cases zx <;> cases zy <;> simp_all
  have cases3 : yz = false ∨ (yz = true ∧ (xy = true → xz = true)) := by
    cases yz <;> cases xy <;> simp_all
  have f9' : decide (j = x) = xy := by
    cases xy <;> simp_all
  clear f2 f3 f6 f9
  rcases cases1 with ⟨hq, rfl⟩ | ⟨hq, rfl⟩ | ⟨hq, rfl, rfl⟩
  · subst hq
    simp only [decide_eq_true_eq] at f9'
    subst f9'
    rcases cases2 with rfl | ⟨rfl, rfl⟩ | ⟨rfl, rfl, rfl⟩ <;> rcases cases3 with rfl | ⟨rfl, hh⟩
    all_goals try (obtain rfl := hh rfl)
    all_goals (
      go_wp2_with (first | (go_at_call 14; refine (covers_is (by assumption) _ HS.out.lib).mono ?_; rintro e wn ⟨rfl, hb⟩; replace HS := hid_step HS hb; clear hb) | (go_at_call 16; refine (join_is (by assumption) _ HS.out.lib).mono ?_; rintro e wn ⟨rfl, hb⟩; replace HS := hid_step HS hb; clear hb) | (go_at_call 9; refine (alive_any _ HS.out.lib).mono ?_; rintro e wn ⟨rfl, hb⟩; replace HS := hid_step HS hb; clear hb))
      go_ret
      refine ⟨?_, HS.out.below⟩
      first | rfl | (show Ending.returned (Value.bool _) = Ending.returned (Value.bool _); simp_all))
  · simp only [decide_eq_false_iff_not] at f9'
    clear cases3
    rcases cases2 with rfl | ⟨rfl, rfl⟩ | ⟨rfl, rfl, rfl⟩
    all_goals (
      go_wp2_with (first | (go_at_call 14; refine (covers_is (by assumption) _ HS.out.lib).mono ?_; rintro e wn ⟨rfl, hb⟩; replace HS := hid_step HS hb; clear hb) | (go_at_call 16; refine (join_is (by assumption) _ HS.out.lib).mono ?_; rintro e wn ⟨rfl, hb⟩; replace HS := hid_step HS hb; clear hb) | (go_at_call 9; refine (alive_any _ HS.out.lib).mono ?_; rintro e wn ⟨rfl, hb⟩; replace HS := hid_step HS hb; clear hb))
      go_ret
      refine ⟨?_, HS.out.below⟩
      first | rfl | (show Ending.returned (Value.bool _) = Ending.returned (Value.bool _); simp_all))
  · simp only [decide_eq_true_eq] at f9'
    subst f9'
    rcases cases2 with rfl | ⟨rfl, rfl⟩ | ⟨rfl, rfl, rfl⟩ <;> rcases cases3 with rfl | ⟨rfl, hh⟩
    all_goals try (obtain rfl := hh rfl)
    all_goals (
      go_wp2_with (first | (go_at_call 14; refine (covers_is (by assumption) _ HS.out.lib).mono ?_; rintro e wn ⟨rfl, hb⟩; replace HS := hid_step HS hb; clear hb) | (go_at_call 16; refine (join_is (by assumption) _ HS.out.lib).mono ?_; rintro e wn ⟨rfl, hb⟩; replace HS := hid_step HS hb; clear hb) | (go_at_call 9; refine (alive_any _ HS.out.lib).mono ?_; rintro e wn ⟨rfl, hb⟩; replace HS := hid_step HS hb; clear hb))
      go_ret
      refine ⟨?_, HS.out.below⟩
      first | rfl | (show Ending.returned (Value.bool _) = Ending.returned (Value.bool _); simp_all))
end Go.Proofs.YtlklddhljhlpnaaDoor

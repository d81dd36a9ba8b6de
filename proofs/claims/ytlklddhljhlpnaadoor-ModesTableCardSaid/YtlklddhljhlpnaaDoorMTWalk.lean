/- The walk of the law ModesTable: true for every two numbers. -/
import Derived.Test.YtlklddhljhlpnaaDoorM10J
namespace Go.Proofs.YtlklddhljhlpnaaDoor
open Go.RowKit
set_option linter.unusedVariables false

set_option maxHeartbeats 4000000 in
theorem table_law (a b : Int) (w : World) (hL : LibW w) :
    Calls Tryd.prog 3 #[.int .i64 a, .int .i64 b] w fun e w' => e = .returned (.bool true) ∧ Below w.heap.size w w' := by
  obtain ⟨r, hr⟩ : ∃ r, rt a = r := ⟨_, rfl⟩
  obtain ⟨f, hf⟩ : ∃ f, fi a b = f := ⟨_, rfl⟩
  obtain ⟨c, hc⟩ : ∃ c, cv a b = c := ⟨_, rfl⟩
  obtain ⟨j, hj⟩ : ∃ j, jn a b = j := ⟨_, rfl⟩
  go_enter Tryd.func3, Tryd.ntmps3
  go_wp2_with fail
  refine (alive_any _ hL).mono ?_
  rintro e w1 ⟨rfl, hb⟩
  have hL1 := hL.keep hb
  go_wp2_with fail
  refine (right_is hr _).mono ?_
  rintro e w2 ⟨rfl, rfl⟩
  go_wp2_with fail
  refine (rref_is hr _).mono ?_
  rintro e w2 ⟨rfl, rfl⟩
  go_wp2_with fail
  refine (fits_is hf _ hL1).mono ?_
  rintro e w2 ⟨rfl, rfl⟩
  go_wp2_with fail
  refine (fits_ref a b _).mono ?_
  rw [hf]
  rintro e w3 ⟨rfl, hb2⟩
  have hL2 := hL1.keep hb2
  go_wp2_with fail
  refine (covers_is hc _ hL2).mono ?_
  rintro e w4 ⟨rfl, hb3⟩
  go_wp2_with fail
  refine (cref_is hc _).mono ?_
  rintro e w5 ⟨rfl, hb4⟩
  have hL3 := (hL2.keep hb3).keep hb4
  go_wp2_with fail
  refine (join_is hj _ hL3).mono ?_
  rintro e w6 ⟨rfl, hb5⟩
  go_wp2_with fail
  refine (join_ref a b _).mono ?_
  rw [hj]
  rintro e w7 ⟨rfl, hb6⟩
  go_wp2_with fail
  go_ret
  exact ⟨rfl, keepA (keepA (keepA (keepA (keepA hb hb2) hb3) hb4) hb5) hb6⟩
end Go.Proofs.YtlklddhljhlpnaaDoor

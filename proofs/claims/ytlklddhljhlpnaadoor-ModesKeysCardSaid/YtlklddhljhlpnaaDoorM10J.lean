/- The live question of layer 10. -/
import Derived.Test.YtlklddhljhlpnaaDoorM10F
namespace Go.Proofs.YtlklddhljhlpnaaDoor
open Go.RowKit Go.Joins
set_option linter.unusedVariables false
set_option linter.unusedSimpArgs false

theorem fits_is {x y : Int} {t : Bool} (h : fi x y = t) (w : World) (hL : LibW w) :
    Calls Tryd.prog 12 #[.int .i64 x, .int .i64 y] w fun e w' => e = .returned (.bool t) ∧ w' = w := h ▸ fits_any x y w hL
theorem join_is {x y z : Int} (h : jn x y = z) (w : World) (hL : LibW w) :
    Calls Tryd.prog 16 #[.int .i64 x, .int .i64 y] w fun e w' => e = .returned (.int .i64 z) ∧ Below w.heap.size w w' := h ▸ join_any x y w hL
set_option maxHeartbeats 4000000 in
theorem alive_any (w : World) (hL : LibW w) :
    Calls Tryd.prog 9 #[] w fun e w' => e = .returned (.bool true) ∧ Below w.heap.size w w' := by
  go_enter Tryd.func9, Tryd.ntmps9
  go_wp2_with fail
  refine (fits_is (t := true) rfl _ hL).mono ?_
  rintro e w1 ⟨rfl, rfl⟩
  go_wp2_with fail
  refine (fits_is (t := false) rfl _ hL).mono ?_
  rintro e w1 ⟨rfl, rfl⟩
  go_wp2_with fail
  refine (join_is (z := 4) rfl _ hL).mono ?_
  rintro e w1 ⟨rfl, hb⟩
  go_wp2_with fail
  refine (covers_is (t := true) rfl _ (hL.keep hb)).mono ?_
  rintro e w2 ⟨rfl, hb2⟩
  go_wp2_with fail
  refine (place_at (t := true) ?_ _).mono ?_
  · simp [pl, em]
  rintro e w3 ⟨rfl, hb3⟩
  go_wp2_with fail
  go_ret
  exact ⟨rfl, keepA (keepA hb hb2) hb3⟩
/-- What a law's walk carries from call to call. -/
structure St (w0 w : World) : Prop where
  lib : LibW w
  below : Below w0.heap.size w0 w
theorem St.first {w : World} (h : LibW w) : St w w := ⟨h, Below.refl _ _⟩
theorem St.step {w0 w w' : World} (h : Hid (St w0 w)) (hb : Below w.heap.size w w') : Hid (St w0 w') := ⟨h.out.lib.keep hb, keepA h.out.below hb⟩
theorem hid_step {w0 w w' : World} (h : Hid (St w0 w)) (hb : Below w.heap.size w w') : Hid (St w0 w') := St.step h hb
end Go.Proofs.YtlklddhljhlpnaaDoor

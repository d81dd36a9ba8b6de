/- The walk of the law TypesNames: types are right, called and of a kind as the document says. -/
import Derived.Test.YtleenjdkgbhfiaaGreatDoorT2Alive
import Derived.Test.YtleenjdkgbhfiaaGreatDoorT2Ref2
namespace Go.Proofs.YtleenjdkgbhfiaaGreatDoor
open Go.RowKit Go.Joins
set_option linter.unusedVariables false

theorem keepT {w4 w' : World} {p1 : Nat} {b l : Int} (x0 : w4.cell? ⟨p1, 0, none⟩ = some (.int .i64 b)) (x1 : w4.cell? ⟨p1, 1, none⟩ = some (.int .i64 l)) (h : Below w4.heap.size w4 w') :
    Below w4.heap.size w4 w' ∧ w'.cell? ⟨p1, 0, none⟩ = some (.int .i64 b) ∧ w'.cell? ⟨p1, 1, none⟩ = some (.int .i64 l) :=
  ⟨h, cell_keep h x0, cell_keep h x1⟩
theorem newT (w : World) (b l : Int) (t : Nat) : (w.alloc (.cells #[.int .i64 b, .int .i64 l] t)).cell? ⟨w.heap.size, 0, none⟩ = some (.int .i64 b) ∧ (w.alloc (.cells #[.int .i64 b, .int .i64 l] t)).cell? ⟨w.heap.size, 1, none⟩ = some (.int .i64 l) := by
  constructor <;> go_simp
set_option maxHeartbeats 4000000 in
theorem names_law (b l : Int) (a : Addr) (w : World) (hb0 : -9223372036854775808 ≤ b ∧ b ≤ 9223372036854775807) (hL : LibW a w) :
    Calls Tryz.prog 3 #[.int .i64 b, .int .i64 l] w fun e w' => e = .returned (.bool true) ∧ Below w.heap.size w w' := by
  clear hb0
  go_enter Tryz.func3, Tryz.ntmps3
  go_wp2_with fail
  have x := newT w b l 24
  go_region_held3 (fun w' => Below (w.alloc (.cells #[.int .i64 b, .int .i64 l] 24)).heap.size (w.alloc (.cells #[.int .i64 b, .int .i64 l] 24)) w' ∧ w'.cell? ⟨w.heap.size, 0, none⟩ = some (.int .i64 b) ∧ w'.cell? ⟨w.heap.size, 1, none⟩ = some (.int .i64 l)) (first | exact keepT x.1 x.2 (by assumption) | exact keepT x.1 x.2 (Below.refl _ _).drew | exact keepT x.1 x.2 (Below.refl _ _))
    (first
      | (go_at_call 9; refine (alive_any a _ (libAt (hL.alloc _) (by assumption))).mono ?_; rintro e w' ⟨rfl, hb⟩; have hk := keepF (by assumption) hb; clear hb)
      | (go_at_call 10; refine (tright_any b l _).mono ?_; rintro e w' ⟨rfl, hb⟩; have hk := keepF (by assumption) hb; clear hb)
      | (go_at_call 11; refine (rright_any b l _).mono ?_; rintro e w' ⟨rfl, hb⟩; have hk := keepF (by assumption) hb; clear hb)
      | (go_at_call 12; refine (tname_any b l a _ (libAt (hL.alloc _) (by assumption))).mono ?_; rintro e w' ⟨rfl, hb⟩; have hk := keepF (by assumption) hb; clear hb)
      | (go_at_call 13; refine (rname_any b l _).mono ?_; rintro e w' ⟨rfl, hb⟩; have hk := keepF (by assumption) hb; clear hb)
      | (go_at_call 14; refine (tkind_any b l _).mono ?_; rintro e w' ⟨rfl, hb⟩; have hk := keepF (by assumption) hb; clear hb)
      | (go_at_call 15; refine (rkind_any b l _).mono ?_; rintro e w' ⟨rfl, hb⟩; have hk := keepF (by assumption) hb; clear hb))
  all_goals go_wp2
  all_goals
    go_ret
    exact ⟨rfl, keepA (below_alloc (Below.refl _ _) _) (by assumption)⟩
end Go.Proofs.YtleenjdkgbhfiaaGreatDoor

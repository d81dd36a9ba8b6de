/- The walk of the law ModesObjects: true for every two objects. -/
import Derived.Test.YtlklddhljhlpnaaDoorM10J
import Derived.Test.YtlklddhljhlpnaaDoorM10I
import Derived.Deep.RegionHeld3
import Derived.Deep.RegionHeldLaw
namespace Go.Proofs.YtlklddhljhlpnaaDoor
open Go.RowKit Go.Joins
set_option linter.unusedVariables false

theorem meet_at {sa sb : Int} {ta la ua tb lb' ub : ByteArray} {na nb : Bool} {t : Bool} (h : mt ⟨sa, ta, la, ua, na⟩ ⟨sb, tb, lb', ub, nb⟩ = t) (w : World) :
    Calls Tryd.prog 20 #[.agg #[.int .i64 sa, .string ta, .string la, .string ua, .bool na], .agg #[.int .i64 sb, .string tb, .string lb', .string ub, .bool nb]] w fun e w' => e = .returned (.bool t) ∧ Below w.heap.size w w' := meet_is h w
theorem within_at {sa sb : Int} {ta la ua tb lb' ub : ByteArray} {na nb : Bool} {t : Bool} (h : wi ⟨sa, ta, la, ua, na⟩ ⟨sb, tb, lb', ub, nb⟩ = t) (w : World) :
    Calls Tryd.prog 22 #[.agg #[.int .i64 sa, .string ta, .string la, .string ua, .bool na], .agg #[.int .i64 sb, .string tb, .string lb', .string ub, .bool nb]] w fun e w' => e = .returned (.bool t) ∧ Below w.heap.size w w' := within_is h w
theorem rmeet_at {sa sb : Int} {ta la ua tb lb' ub : ByteArray} {na nb : Bool} {t : Bool} (h : mt ⟨sa, ta, la, ua, na⟩ ⟨sb, tb, lb', ub, nb⟩ = t) (w : World) :
    Calls Tryd.prog 21 #[.agg #[.int .i64 sa, .string ta, .string la, .string ua, .bool na], .agg #[.int .i64 sb, .string tb, .string lb', .string ub, .bool nb]] w fun e w' => e = .returned (.bool t) ∧ Below w.heap.size w w' := rmeet_is h w
theorem rwithin_at {sa sb : Int} {ta la ua tb lb' ub : ByteArray} {na nb : Bool} {t : Bool} (h : wi ⟨sa, ta, la, ua, na⟩ ⟨sb, tb, lb', ub, nb⟩ = t) (w : World) :
    Calls Tryd.prog 23 #[.agg #[.int .i64 sa, .string ta, .string la, .string ua, .bool na], .agg #[.int .i64 sb, .string tb, .string lb', .string ub, .bool nb]] w fun e w' => e = .returned (.bool t) ∧ Below w.heap.size w w' := rwithin_is h w
theorem keepF {P : Prop} {W0 W w' : World} (h : Below W0.heap.size W0 W ∧ P) (hb : Below W.heap.size W w') : Below W0.heap.size W0 w' := keepA h.1 hb
theorem libAt {P : Prop} {w w' : World} (hL : LibW w) (h : Below w.heap.size w w' ∧ P) : LibW w' := hL.keep h.1
theorem keep10 {w W w' : World} {sa sb : Int} {ta la ua tb lb' ub : ByteArray} {na nb : Bool} (T : Two w W ⟨sa, ta, la, ua, na⟩ ⟨sb, tb, lb', ub, nb⟩) (h : Below W.heap.size W w') : Below W.heap.size W w' ∧ w'.cell? ⟨w.heap.size, 0, none⟩ = some (.int .i64 sa) ∧ w'.cell? ⟨w.heap.size, 1, none⟩ = some (.string ta) ∧ w'.cell? ⟨w.heap.size, 2, none⟩ = some (.string la) ∧ w'.cell? ⟨w.heap.size, 3, none⟩ = some (.string ua) ∧ w'.cell? ⟨w.heap.size, 4, none⟩ = some (.bool na) ∧ w'.cell? ⟨w.heap.size + 1, 0, none⟩ = some (.int .i64 sb) ∧ w'.cell? ⟨w.heap.size + 1, 1, none⟩ = some (.string tb) ∧ w'.cell? ⟨w.heap.size + 1, 2, none⟩ = some (.string lb') ∧ w'.cell? ⟨w.heap.size + 1, 3, none⟩ = some (.string ub) ∧ w'.cell? ⟨w.heap.size + 1, 4, none⟩ = some (.bool nb) :=
  ⟨h, (T.a.keep h).c0, (T.a.keep h).c1, (T.a.keep h).c2, (T.a.keep h).c3, (T.a.keep h).c4, (T.b.keep h).c0, (T.b.keep h).c1, (T.b.keep h).c2, (T.b.keep h).c3, (T.b.keep h).c4⟩
set_option maxHeartbeats 8000000 in
theorem objects_at {sa sb : Int} {ta la ua tb lb' ub : ByteArray} {na nb : Bool} (w : World) (hL : LibW w) (p m i : Bool) (hp : pl ⟨sa, ta, la, ua, na⟩ = p) (hm : mt ⟨sa, ta, la, ua, na⟩ ⟨sb, tb, lb', ub, nb⟩ = m) (hi : wi ⟨sa, ta, la, ua, na⟩ ⟨sb, tb, lb', ub, nb⟩ = i) :
    Calls Tryd.prog 4 #[.agg #[.int .i64 sa, .string ta, .string la, .string ua, .bool na], .agg #[.int .i64 sb, .string tb, .string lb', .string ub, .bool nb]] w fun e w' => e = .returned (.bool true) ∧ Below w.heap.size w w' := by
  have T : Two w ((w.alloc (.cells #[.int .i64 sa, .string ta, .string la, .string ua, .bool na] 29)).alloc (.cells #[.int .i64 sb, .string tb, .string lb', .string ub, .bool nb] 29)) ⟨sa, ta, la, ua, na⟩ ⟨sb, tb, lb', ub, nb⟩ := Two.new w ⟨sa, ta, la, ua, na⟩ ⟨sb, tb, lb', ub, nb⟩
  have hL2 : LibW ((w.alloc (.cells #[.int .i64 sa, .string ta, .string la, .string ua, .bool na] 29)).alloc (.cells #[.int .i64 sb, .string tb, .string lb', .string ub, .bool nb] 29)) := hL.keep T.below
  go_enter Tryd.func4, Tryd.ntmps4
  go_wp2_with fail
  go_region_held3 (fun w' => Below ((w.alloc (.cells #[.int .i64 sa, .string ta, .string la, .string ua, .bool na] 29)).alloc (.cells #[.int .i64 sb, .string tb, .string lb', .string ub, .bool nb] 29)).heap.size ((w.alloc (.cells #[.int .i64 sa, .string ta, .string la, .string ua, .bool na] 29)).alloc (.cells #[.int .i64 sb, .string tb, .string lb', .string ub, .bool nb] 29)) w' ∧ w'.cell? ⟨w.heap.size, 0, none⟩ = some (.int .i64 sa) ∧ w'.cell? ⟨w.heap.size, 1, none⟩ = some (.string ta) ∧ w'.cell? ⟨w.heap.size, 2, none⟩ = some (.string la) ∧ w'.cell? ⟨w.heap.size, 3, none⟩ = some (.string ua) ∧ w'.cell? ⟨w.heap.size, 4, none⟩ = some (.bool na) ∧ w'.cell? ⟨w.heap.size + 1, 0, none⟩ = some (.int .i64 sb) ∧ w'.cell? ⟨w.heap.size + 1, 1, none⟩ = some (.string tb) ∧ w'.cell? ⟨w.heap.size + 1, 2, none⟩ = some (.string lb') ∧ w'.cell? ⟨w.heap.size + 1, 3, none⟩ = some (.string ub) ∧ w'.cell? ⟨w.heap.size + 1, 4, none⟩ = some (.bool nb)) (first | exact keep10 T (by assumption) | exact keep10 T (Below.refl _ _).drew | exact keep10 T (Below.refl _ _))
    (first
      | (go_at_call 9; refine (alive_any _ (libAt hL2 (by assumption))).mono ?_; rintro e w' ⟨rfl, hb⟩; have hk := keepF (by assumption) hb; clear hb)
      | (go_at_call 18; refine (place_at hp _).mono ?_; rintro e w' ⟨rfl, hb⟩; have hk := keepF (by assumption) hb; clear hb)
      | (go_at_call 19; refine (rplace_at hp _).mono ?_; rintro e w' ⟨rfl, hb⟩; have hk := keepF (by assumption) hb; clear hb)
      | (go_at_call 20; refine (meet_at hm _).mono ?_; rintro e w' ⟨rfl, hb⟩; have hk := keepF (by assumption) hb; clear hb)
      | (go_at_call 21; refine (rmeet_at hm _).mono ?_; rintro e w' ⟨rfl, hb⟩; have hk := keepF (by assumption) hb; clear hb)
      | (go_at_call 22; refine (within_at hi _).mono ?_; rintro e w' ⟨rfl, hb⟩; have hk := keepF (by assumption) hb; clear hb)
      | (go_at_call 23; refine (rwithin_at hi _).mono ?_; rintro e w' ⟨rfl, hb⟩; have hk := keepF (by assumption) hb; clear hb))
  all_goals go_wp2
  all_goals
    go_ret
    exact ⟨by cases p <;> cases m <;> cases i <;> rfl, keepA T.below (by assumption)⟩
theorem objects_law (a b : Ob) (w : World) (hL : LibW w) :
    Calls Tryd.prog 4 #[a.v, b.v] w fun e w' => e = .returned (.bool true) ∧ Below w.heap.size w w' := by
  obtain ⟨sa, ta, la, ua, na⟩ := a
  obtain ⟨sb, tb, lb', ub, nb⟩ := b
  exact objects_at w hL _ _ _ rfl rfl rfl
end Go.Proofs.YtlklddhljhlpnaaDoor

/- The walk of the live question of layer 2: its answer is true in every world that holds the library's and the types' variables. -/
import Derived.Test.YtfmnlgepllgpnaaGreatDoorT2CastC
namespace Go.Proofs.YtfmnlgepllgpnaaGreatDoor
open Go.RowKit Go.Joins
set_option linter.unusedVariables false

theorem alive_assign (w : World) : Calls Tryz.prog 18 #[val 2 0 ⟨#[97, 98, 32, 32, 32]⟩ false, typ 4 3] w fun e w' => e = .returned (.tuple #[val 2 0 ⟨#[97, 98, 32]⟩ false, .string sDone]) ∧ Below w.heap.size w w' :=
  tassign_any 2 0 ⟨#[97, 98, 32, 32, 32]⟩ false 4 3 w (Or.inr (Or.inr (Or.inl ⟨rfl, rfl, rfl⟩))) (by decide) (by decide)
theorem alive_cast (a : Addr) (w : World) : Calls Tryz.prog 4 #[val 2 0 ⟨#[121, 101, 115]⟩ false, typ 6 0] w fun e w' => e = .returned (.tuple #[nullV, .string sBad]) ∧ Below w.heap.size w w' :=
  tcast_23 0 ⟨#[121, 101, 115]⟩ false 6 0 a w rfl rfl (by decide : (3 : Nat) ≤ 140737488355328)
theorem keepV {w4 w' : World} {p1 : Nat} {K1 N1 : Int} {S1 : ByteArray} {B1 : Bool} (x : Box w4 p1 K1 N1 S1 B1) (h : Below w4.heap.size w4 w') :
    Below w4.heap.size w4 w' ∧ w'.cell? ⟨p1, 0, none⟩ = some (.int .i64 K1) ∧ w'.cell? ⟨p1, 1, none⟩ = some (.int .i64 N1) ∧ w'.cell? ⟨p1, 2, none⟩ = some (.string S1) ∧ w'.cell? ⟨p1, 3, none⟩ = some (.bool B1) :=
  ⟨h, cell_keep h x.c0, cell_keep h x.c1, cell_keep h x.c2, cell_keep h x.c3⟩
theorem libAt {P : Prop} {a : Addr} {w w' : World} (hL : LibW a w) (h : Below w.heap.size w w' ∧ P) : LibW a w' := hL.keep h.1
set_option maxHeartbeats 2000000 in
theorem alive_any (a : Addr) (w : World) (hL : LibW a w) :
    Calls Tryz.prog 7 #[] w fun e w' => e = .returned (.bool true) ∧ Below w.heap.size w w' := by
  go_enter Tryz.func7, Tryz.ntmps7
  go_wp2_with fail
  refine (text_any _ _).mono ?_
  rintro e w1 ⟨rfl, h1⟩
  go_wp2_with fail
  refine (alive_assign _).mono ?_
  rintro e w2 ⟨rfl, hb⟩
  have h2 := keepA h1 hb
  clear h1 hb
  go_wp2_with fail
  refine (text_any _ _).mono ?_
  rintro e w3 ⟨rfl, hb⟩
  have x1 := (Box.new w2 2 0 ⟨#[97, 98, 32]⟩ false _).keep hb
  have h3 := keepA (below_alloc h2 _) hb
  clear h2 hb
  go_wp2_with fail
  refine (alive_cast a _).mono ?_
  rintro e w4 ⟨rfl, hb⟩
  have x2 := x1.keep hb
  have h4 := keepA h3 hb
  have L4 := hL.keep h4
  clear x1 h3 hb
  go_wp2_with fail
  go_region_held3 (fun w' => Below w4.heap.size w4 w' ∧ w'.cell? ⟨w2.heap.size, 0, none⟩ = some (.int .i64 2) ∧ w'.cell? ⟨w2.heap.size, 1, none⟩ = some (.int .i64 0) ∧ w'.cell? ⟨w2.heap.size, 2, none⟩ = some (.string ⟨#[97, 98, 32]⟩) ∧ w'.cell? ⟨w2.heap.size, 3, none⟩ = some (.bool false)) (first | exact keepV x2 (by assumption) | exact keepV x2 ((Below.refl _ _).alloc (Nat.le_refl _) _).drew)
    (first
      | (go_at_call 21; refine (text_any _ _).mono ?_; rintro e w' ⟨rfl, hb⟩; have hk := keepF (by assumption) hb; clear hb)
      | (go_at_call 29; refine (tname_1 a _ (libAt L4 (by assumption))).mono ?_; rintro e w' ⟨rfl, hb⟩; have hk := keepF (by assumption) hb; clear hb))
  all_goals go_wp2
  all_goals
    go_ret
    exact ⟨rfl, keepA h4 (by assumption)⟩
end Go.Proofs.YtfmnlgepllgpnaaGreatDoor

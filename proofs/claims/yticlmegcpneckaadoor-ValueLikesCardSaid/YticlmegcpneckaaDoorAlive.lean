/- The walk of the live question: its answer is true in every world. -/
import Derived.Test.YticlmegcpneckaaDoorOps
import Derived.Test.YticlmegcpneckaaDoorOrder2
import Derived.Test.YticlmegcpneckaaDoorLike
import Derived.WalkKit
import Derived.WalkSpells
import Derived.WalkLawsBesides
import Derived.Deep.QuietTactic
import Derived.BigQuiet
import Derived.Deep.RegionHeld3
namespace Go.Proofs.YticlmegcpneckaaDoor
open Go.RowKit
set_option linter.unusedVariables false

theorem div_seven (w : World) :
    Calls Tryd.prog 33 #[val 1 (-7) ⟨#[]⟩ false, val 1 2 ⟨#[]⟩ false] w fun e w' => e = .returned (.tuple #[val 1 (-3) ⟨#[]⟩ false, .string sDone]) ∧ Below w.heap.size w w' :=
  div_of 1 (-7) 1 2 _ _ _ _ 1 (-3) _ _ _ w fun w => numbers_done 61 (-7) 2 (-3) _ _ _ _ w (Or.inr (Or.inr (Or.inr rfl))) fun w => by
    have h := div1_ok (-7) 2 w rfl rfl
    rw [show wrap64 ((-7 : Int).tdiv 2) = -3 from by decide +kernel] at h
    exact h
theorem order_a (w : World) :
    Calls Tryd.prog 15 #[val 2 0 ⟨#[97]⟩ false, val 2 0 ⟨#[97, 32, 32]⟩ false] w fun e w' => e = .returned (.int .i64 0) ∧ Below w.heap.size w w' :=
  order_text 0 0 ⟨#[97]⟩ ⟨#[97, 32, 32]⟩ false false w (by decide) (by decide)
theorem like_abc (w : World) :
    Calls Tryd.prog 39 #[.string ⟨#[97, 98, 99]⟩, .string ⟨#[97, 37, 99, 95]⟩] w fun e w' => e = .returned (.bool false) ∧ Below w.heap.size w w' :=
  like_any ⟨#[97, 98, 99]⟩ ⟨#[97, 37, 99, 95]⟩ w (by decide) (by decide)
theorem like_none (w : World) :
    Calls Tryd.prog 39 #[.string ⟨#[]⟩, .string ⟨#[37]⟩] w fun e w' => e = .returned (.bool true) ∧ Below w.heap.size w w' :=
  like_any ⟨#[]⟩ ⟨#[37]⟩ w (by decide) (by decide)

abbrev objThree : Obj := .cells #[.int .i64 1, .int .i64 (-3), .string ⟨#[]⟩, .bool false] 26
theorem keepA {W0 W w' : World} (h : Below W0.heap.size W0 W) (hb : Below W.heap.size W w') : Below W0.heap.size W0 w' := h.trans (hb.mono h.size)
theorem keepH {a b c d : Prop} {W0 W w' : World} (h : a ∧ b ∧ c ∧ d ∧ Below W0.heap.size W0 W) (hb : Below W.heap.size W w') : Below W0.heap.size W0 w' := keepA h.2.2.2.2 hb
theorem keepE {w w3 w' : World} {o : Obj} (h3 : Below w.heap.size w w3) (hk : Below (w3.alloc o).heap.size (w3.alloc o) w') : Below w.heap.size w w' := (h3.alloc h3.size o).trans (hk.mono (Nat.le_trans h3.size (by simp)))
theorem keepC {w3 w' : World} (h : Below (w3.alloc objThree).heap.size (w3.alloc objThree) w') :
    w'.cell? ⟨w3.heap.size, 0, none⟩ = some (.int .i64 1) ∧ w'.cell? ⟨w3.heap.size, 1, none⟩ = some (.int .i64 (-3)) ∧ w'.cell? ⟨w3.heap.size, 2, none⟩ = some (.string ⟨#[]⟩) ∧ w'.cell? ⟨w3.heap.size, 3, none⟩ = some (.bool false) ∧ Below (w3.alloc objThree).heap.size (w3.alloc objThree) w' := by
  refine ⟨?_, ?_, ?_, ?_, h⟩
  all_goals
    rw [h.cell (p := ⟨_, _, _⟩) (by simp)]
    go_simp

set_option maxHeartbeats 1000000 in
theorem alive_any (w : World) :
    Calls Tryd.prog 12 #[] w fun e w' => e = .returned (.bool true) ∧ Below w.heap.size w w' := by
  go_enter Tryd.func12, Tryd.ntmps12
  go_wp2_with fail
  refine (num_any _ _).mono ?_
  rintro e w1 ⟨rfl, hb1⟩
  go_wp2_with fail
  refine (num_any _ _).mono ?_
  rintro e w2 ⟨rfl, hb2⟩
  go_wp2_with fail
  refine (div_seven _).mono ?_
  rintro e w3 ⟨rfl, hb3⟩
  have h3 : Below w.heap.size w w3 := (hb1.trans (hb2.mono hb1.size)).trans (hb3.mono (Nat.le_trans hb1.size hb2.size))
  clear hb1 hb2 hb3
  go_wp2_with fail
  go_region_held3 (fun w' => w'.cell? ⟨w3.heap.size, 0, none⟩ = some (.int .i64 1) ∧ w'.cell? ⟨w3.heap.size, 1, none⟩ = some (.int .i64 (-3)) ∧ w'.cell? ⟨w3.heap.size, 2, none⟩ = some (.string ⟨#[]⟩) ∧ w'.cell? ⟨w3.heap.size, 3, none⟩ = some (.bool false) ∧ Below (w3.alloc objThree).heap.size (w3.alloc objThree) w') (first | exact keepC (by assumption) | exact keepC (Below.refl _ _).drew | exact keepC (Below.refl _ _))
    (first
      | (go_at_call 42; refine (num_any _ _).mono ?_; rintro e w' ⟨rfl, hb⟩; have hk := keepH (by assumption) hb; clear hb)
      | (go_at_call 43; refine (text_any _ _).mono ?_; rintro e w' ⟨rfl, hb⟩; have hk := keepH (by assumption) hb; clear hb)
      | (go_at_call 15; refine (order_a _).mono ?_; rintro e w' ⟨rfl, hb⟩; have hk := keepH (by assumption) hb; clear hb)
      | (go_at_call_of 39 (Value.string ⟨#[37]⟩); refine (like_none _).mono ?_; rintro e w' ⟨rfl, hb⟩; have hk := keepH (by assumption) hb; clear hb)
      | (go_at_call 39; refine (like_abc _).mono ?_; rintro e w' ⟨rfl, hb⟩; have hk := keepH (by assumption) hb; clear hb))
  all_goals go_wp2
  all_goals
    go_ret
    exact ⟨rfl, keepE h3 (by assumption)⟩
end Go.Proofs.YticlmegcpneckaaDoor

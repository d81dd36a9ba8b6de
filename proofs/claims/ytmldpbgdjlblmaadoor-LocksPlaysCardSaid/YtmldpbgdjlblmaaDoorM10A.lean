/- The ground of layer 10: the two tables of modes as they lie, and the walks of Right, Fits, Covers. -/
import Derived.Test.YtmldpbgdjlblmaaDoorRows
import Derived.WalkKit
import Derived.WalkSpells
import Derived.WalkLawsBesides
import Derived.Deep.QuietTactic
import Derived.BigQuiet
import Derived.Lib.LaidTab
import Derived.Lib.SmallJoins
import Derived.Sort.AtCall
namespace Go.Proofs.YtmldpbgdjlblmaaDoor
open Go.RowKit Go.Joins
set_option linter.unusedVariables false
set_option linter.unusedSimpArgs false

def fitsL : List Bool := [true, true, true, true, true, true, true, true, true, true, true, true, true, false, true, true, true, false, false, false, false, true, true, false, true, false, true, false, true, true, false, false, false, false, false, true, true, false, false, false, false, false, true, false, false, false, false, false, false]
def covL : List Int := [1, 3, 7, 11, 31, 43, 127]
def covB : List Bool := [true, false, false, false, false, false, false, true, true, false, false, false, false, false, true, true, true, false, false, false, false, true, true, false, true, false, false, false, true, true, true, true, true, false, false, true, true, false, true, false, true, false, true, true, true, true, true, true, true]
abbrev fitsV : Array Value := (fitsL.map Value.bool).toArray
theorem gFits : Tryd.prog.globalNamed "stile/modes.fits" = some 1 := by kernel_rfl
theorem gCov : Tryd.prog.globalNamed "stile/modes.covered" = some 0 := by kernel_rfl
structure LibW (w : World) : Prop where
  fits : w.var? Tryd.prog "stile/modes.fits" = some fitsV
  cov : Lib.TabIs Tryd.prog w "stile/modes.covered" .u8 covL
theorem LibW.keep {w w' : World} (h : LibW w) (hb : Below w.heap.size w w') : LibW w' :=
  ⟨var_stays gFits h.fits hb (Nat.le_refl _), var_stays gCov h.cov hb (Nat.le_refl _)⟩
theorem LibW.fit {w : World} (h : LibW w) (i : Nat) : w.cell? ⟨1, i, none⟩ = (fitsL[i]?).map Value.bool := by
  rw [World.var?_cell gFits h.fits i]
  simp [fitsV]
theorem LibW.covr {w : World} (h : LibW w) (i : Nat) (hi : i < 7) : w.cell? ⟨0, i, none⟩ = some (.int .u8 (covL.getD i 0)) := h.cov.cell gCov i hi

def rt (m : Int) : Bool := decide (0 ≤ m) && decide (m ≤ 6)
def fi (x y : Int) : Bool := rt x && rt y && fitsL.getD (x.toNat * 7 + y.toNat) false
def cv (x y : Int) : Bool := rt x && rt y && covB.getD (x.toNat * 7 + y.toNat) false
theorem rt_cases {m : Int} (h : rt m = true) : m = 0 ∨ m = 1 ∨ m = 2 ∨ m = 3 ∨ m = 4 ∨ m = 5 ∨ m = 6 := by
  simp [rt] at h
  omega
theorem right_any (m : Int) (w : World) :
    Calls Tryd.prog 55 #[.int .i64 m] w fun e w' => e = .returned (.bool (rt m)) ∧ w' = w := by
  by_cases h0 : 0 ≤ m
  · have e0 : rt m = decide (m ≤ 6) := by simp [rt, h0]
    rw [e0]
    go_enter Tryd.func55, Tryd.ntmps55
    go_wp2
    go_ret
    exact ⟨rfl, rfl⟩
  · have e0 : rt m = false := by simp [rt, h0]
    rw [e0]
    go_enter Tryd.func55, Tryd.ntmps55
    go_wp2
    go_ret
    exact ⟨rfl, rfl⟩
theorem right_ref (m : Int) (w : World) :
    Calls Tryd.prog 73 #[.int .i64 m] w fun e w' => e = .returned (.bool (rt m)) ∧ w' = w := by
  by_cases h0 : 0 ≤ m
  · have e0 : rt m = decide (m ≤ 6) := by simp [rt, h0]
    rw [e0]
    go_enter Tryd.func73, Tryd.ntmps73
    go_wp2
    go_ret
    exact ⟨rfl, rfl⟩
  · have e0 : rt m = false := by simp [rt, h0]
    rw [e0]
    go_enter Tryd.func73, Tryd.ntmps73
    go_wp2
    go_ret
    exact ⟨rfl, rfl⟩
theorem right_is {m : Int} {b : Bool} (h : rt m = b) (w : World) : Calls Tryd.prog 55 #[.int .i64 m] w fun e w' => e = .returned (.bool b) ∧ w' = w := by
  subst h
  exact right_any m w
theorem rref_is {m : Int} {b : Bool} (h : rt m = b) (w : World) : Calls Tryd.prog 73 #[.int .i64 m] w fun e w' => e = .returned (.bool b) ∧ w' = w := by
  subst h
  exact right_ref m w
set_option maxHeartbeats 1000000 in
theorem fits_any (x y : Int) (w : World) (hL : LibW w) :
    Calls Tryd.prog 94 #[.int .i64 x, .int .i64 y] w fun e w' => e = .returned (.bool (fi x y)) ∧ w' = w := by
  cases hx : rt x with
  | false =>
    rw [show fi x y = false by simp [fi, hx]]
    go_enter Tryd.func94, Tryd.ntmps94
    go_wp2_with (go_at_call 55; refine (right_is hx _).mono ?_; rintro e w' ⟨rfl, rfl⟩)
    go_ret
    exact ⟨rfl, rfl⟩
  | true =>
    cases hy : rt y with
    | false =>
      rw [show fi x y = false by simp [fi, hy]]
      go_enter Tryd.func94, Tryd.ntmps94
      go_wp2_with (first | (go_at_call_of 55 (Value.int .i64 x); refine (right_is hx _).mono ?_; rintro e w' ⟨rfl, rfl⟩) | (go_at_call_of 55 (Value.int .i64 y); refine (right_is hy _).mono ?_; rintro e w' ⟨rfl, rfl⟩))
      go_ret
      exact ⟨rfl, rfl⟩
    | true =>
      have hfx := rt_cases hx
      have hfy := rt_cases hy
      have hc := hL.fit (x.toNat * 7 + y.toNat)
      obtain ⟨b, hb⟩ : ∃ b, fitsL[x.toNat * 7 + y.toNat]? = some b := by
        rcases hfx with rfl | rfl | rfl | rfl | rfl | rfl | rfl <;> rcases hfy with rfl | rfl | rfl | rfl | rfl | rfl | rfl <;> exact ⟨_, rfl⟩
      rw [show fi x y = b by simp [fi, hx, hy, List.getD, hb]]
      rw [hb] at hc
      simp only [Option.map_some] at hc
      have h1 : 0 ≤ x := by omega
      have h2 : x < 7 := by omega
      have h3 : 0 ≤ y := by omega
      have h4 : y < 7 := by omega
      clear hfx hfy
      go_enter Tryd.func94, Tryd.ntmps94
      go_wp2_with (first | (go_at_call_of 55 (Value.int .i64 x); refine (right_is hx _).mono ?_; rintro e w' ⟨rfl, rfl⟩) | (go_at_call_of 55 (Value.int .i64 y); refine (right_is hy _).mono ?_; rintro e w' ⟨rfl, rfl⟩))
      go_ret
      exact ⟨rfl, rfl⟩
end Go.Proofs.YtmldpbgdjlblmaaDoor

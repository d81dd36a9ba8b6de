/- The walks of the document's Fits and Covers. -/
import Derived.Test.YtmldpbgdjlblmaaDoorM10B
namespace Go.Proofs.YtmldpbgdjlblmaaDoor
open Go.RowKit Go.Joins
set_option linter.unusedVariables false
set_option linter.unusedSimpArgs false

def fitsR : List ByteArray := [⟨#[121, 121, 121, 121, 121, 121, 121]⟩, ⟨#[121, 121, 121, 121, 121, 121, 110]⟩, ⟨#[121, 121, 121, 110, 110, 110, 110]⟩, ⟨#[121, 121, 110, 121, 110, 121, 110]⟩, ⟨#[121, 121, 110, 110, 110, 110, 110]⟩, ⟨#[121, 121, 110, 110, 110, 110, 110]⟩, ⟨#[121, 110, 110, 110, 110, 110, 110]⟩]
set_option maxHeartbeats 4000000 in
theorem fits_ref (x y : Int) (w : World) :
    Calls Tryd.prog 72 #[.int .i64 x, .int .i64 y] w fun e w' => e = .returned (.bool (fi x y)) ∧ Below w.heap.size w w' := by
  by_cases hxy : (rt x && rt y) = true
  · have hx : rt x = true := by simp at hxy; exact hxy.1
    have hy : rt y = true := by simp at hxy; exact hxy.2
    have hfx := rt_cases hx
    have hfy := rt_cases hy
    have h1 : 0 ≤ x := by omega
    have h2 : x < 7 := by omega
    have h3 : 0 ≤ y := by omega
    have h4 : y < 7 := by omega
    obtain ⟨s, hs⟩ : ∃ s, fitsR[x.toNat]? = some s := by
      rcases hfx with rfl | rfl | rfl | rfl | rfl | rfl | rfl <;> exact ⟨_, rfl⟩
    have hsz : s.size = 7 := by
      rcases hfx with rfl | rfl | rfl | rfl | rfl | rfl | rfl <;> (simp [fitsR] at hs; subst hs; rfl)
    have hcell : (w.alloc (.cells #[.string ⟨#[121, 121, 121, 121, 121, 121, 121]⟩, .string ⟨#[121, 121, 121, 121, 121, 121, 110]⟩, .string ⟨#[121, 121, 121, 110, 110, 110, 110]⟩, .string ⟨#[121, 121, 110, 121, 110, 121, 110]⟩, .string ⟨#[121, 121, 110, 110, 110, 110, 110]⟩, .string ⟨#[121, 121, 110, 110, 110, 110, 110]⟩, .string ⟨#[121, 110, 110, 110, 110, 110, 110]⟩] 9)).cell? ⟨w.heap.size, x.toNat, none⟩ = some (.string s) := by
      rcases hfx with rfl | rfl | rfl | rfl | rfl | rfl | rfl <;> (simp [fitsR] at hs; subst hs; go_simp)
    clear hfx
    go_enter Tryd.func72, Tryd.ntmps72
    go_wp2_with (first | (go_at_call_of 73 (Value.int .i64 x); refine (rref_is hx _).mono ?_; rintro e w' ⟨rfl, rfl⟩) | (go_at_call_of 73 (Value.int .i64 y); refine (rref_is hy _).mono ?_; rintro e w' ⟨rfl, rfl⟩))
    go_ret
    refine ⟨?_, (Below.refl _ _).alloc (Nat.le_refl _) _⟩
    clear hcell
    obtain ⟨s⟩ := s
    have hfx := rt_cases hx
    rcases hfx with rfl | rfl | rfl | rfl | rfl | rfl | rfl <;> (simp [fitsR] at hs; subst hs; rcases hfy with rfl | rfl | rfl | rfl | rfl | rfl | rfl <;> rfl)
  · have hff : fi x y = false := by
      simp only [fi]
      cases h : (rt x && rt y) with
      | true => exact absurd h hxy
      | false => rfl
    rw [hff]
    cases hx : rt x with
    | false =>
      cases hy : rt y with
      | false =>
        go_enter Tryd.func72, Tryd.ntmps72
        go_wp2_with (first | (go_at_call_of 73 (Value.int .i64 x); refine (rref_is hx _).mono ?_; rintro e w' ⟨rfl, rfl⟩) | (go_at_call_of 73 (Value.int .i64 y); refine (rref_is hy _).mono ?_; rintro e w' ⟨rfl, rfl⟩))
        go_ret
        exact ⟨rfl, Below.refl _ _⟩
      | true =>
        go_enter Tryd.func72, Tryd.ntmps72
        go_wp2_with (first | (go_at_call_of 73 (Value.int .i64 x); refine (rref_is hx _).mono ?_; rintro e w' ⟨rfl, rfl⟩) | (go_at_call_of 73 (Value.int .i64 y); refine (rref_is hy _).mono ?_; rintro e w' ⟨rfl, rfl⟩))
        go_ret
        exact ⟨rfl, Below.refl _ _⟩
    | true =>
      cases hy : rt y with
      | false =>
        go_enter Tryd.func72, Tryd.ntmps72
        go_wp2_with (first | (go_at_call_of 73 (Value.int .i64 x); refine (rref_is hx _).mono ?_; rintro e w' ⟨rfl, rfl⟩) | (go_at_call_of 73 (Value.int .i64 y); refine (rref_is hy _).mono ?_; rintro e w' ⟨rfl, rfl⟩))
        go_ret
        exact ⟨rfl, Below.refl _ _⟩
      | true => exact absurd (by rw [hx, hy]; rfl) hxy
def covR : List ByteArray := [⟨#[121, 46, 46, 46, 46, 46, 46]⟩, ⟨#[121, 121, 46, 46, 46, 46, 46]⟩, ⟨#[121, 121, 121, 46, 46, 46, 46]⟩, ⟨#[121, 121, 46, 121, 46, 46, 46]⟩, ⟨#[121, 121, 121, 121, 121, 46, 46]⟩, ⟨#[121, 121, 46, 121, 46, 121, 46]⟩, ⟨#[121, 121, 121, 121, 121, 121, 121]⟩]
set_option maxHeartbeats 4000000 in
theorem cov_ref (x y : Int) (w : World) :
    Calls Tryd.prog 57 #[.int .i64 x, .int .i64 y] w fun e w' => e = .returned (.bool (cv x y)) ∧ Below w.heap.size w w' := by
  by_cases hxy : (rt x && rt y) = true
  · have hx : rt x = true := by simp at hxy; exact hxy.1
    have hy : rt y = true := by simp at hxy; exact hxy.2
    have hfx := rt_cases hx
    have hfy := rt_cases hy
    have h1 : 0 ≤ x := by omega
    have h2 : x < 7 := by omega
    have h3 : 0 ≤ y := by omega
    have h4 : y < 7 := by omega
    obtain ⟨s, hs⟩ : ∃ s, covR[x.toNat]? = some s := by
      rcases hfx with rfl | rfl | rfl | rfl | rfl | rfl | rfl <;> exact ⟨_, rfl⟩
    have hsz : s.size = 7 := by
      rcases hfx with rfl | rfl | rfl | rfl | rfl | rfl | rfl <;> (simp [covR] at hs; subst hs; rfl)
    have hcell : (w.alloc (.cells #[.string ⟨#[121, 46, 46, 46, 46, 46, 46]⟩, .string ⟨#[121, 121, 46, 46, 46, 46, 46]⟩, .string ⟨#[121, 121, 121, 46, 46, 46, 46]⟩, .string ⟨#[121, 121, 46, 121, 46, 46, 46]⟩, .string ⟨#[121, 121, 121, 121, 121, 46, 46]⟩, .string ⟨#[121, 121, 46, 121, 46, 121, 46]⟩, .string ⟨#[121, 121, 121, 121, 121, 121, 121]⟩] 9)).cell? ⟨w.heap.size, x.toNat, none⟩ = some (.string s) := by
      rcases hfx with rfl | rfl | rfl | rfl | rfl | rfl | rfl <;> (simp [covR] at hs; subst hs; go_simp)
    clear hfx
    go_enter Tryd.func57, Tryd.ntmps57
    go_wp2_with (first | (go_at_call_of 73 (Value.int .i64 x); refine (rref_is hx _).mono ?_; rintro e w' ⟨rfl, rfl⟩) | (go_at_call_of 73 (Value.int .i64 y); refine (rref_is hy _).mono ?_; rintro e w' ⟨rfl, rfl⟩))
    go_ret
    refine ⟨?_, (Below.refl _ _).alloc (Nat.le_refl _) _⟩
    clear hcell
    obtain ⟨s⟩ := s
    have hfx := rt_cases hx
    rcases hfx with rfl | rfl | rfl | rfl | rfl | rfl | rfl <;> (simp [covR] at hs; subst hs; rcases hfy with rfl | rfl | rfl | rfl | rfl | rfl | rfl <;> rfl)
  · have hff : cv x y = false := by
      simp only [cv]
      cases h : (rt x && rt y) with
      | true => exact absurd h hxy
      | false => rfl
    rw [hff]
    cases hx : rt x with
    | false =>
      cases hy : rt y with
      | false =>
        go_enter Tryd.func57, Tryd.ntmps57
        go_wp2_with (first | (go_at_call_of 73 (Value.int .i64 x); refine (rref_is hx _).mono ?_; rintro e w' ⟨rfl, rfl⟩) | (go_at_call_of 73 (Value.int .i64 y); refine (rref_is hy _).mono ?_; rintro e w' ⟨rfl, rfl⟩))
        go_ret
        exact ⟨rfl, Below.refl _ _⟩
      | true =>
        go_enter Tryd.func57, Tryd.ntmps57
        go_wp2_with (first | (go_at_call_of 73 (Value.int .i64 x); refine (rref_is hx _).mono ?_; rintro e w' ⟨rfl, rfl⟩) | (go_at_call_of 73 (Value.int .i64 y); refine (rref_is hy _).mono ?_; rintro e w' ⟨rfl, rfl⟩))
        go_ret
        exact ⟨rfl, Below.refl _ _⟩
    | true =>
      cases hy : rt y with
      | false =>
        go_enter Tryd.func57, Tryd.ntmps57
        go_wp2_with (first | (go_at_call_of 73 (Value.int .i64 x); refine (rref_is hx _).mono ?_; rintro e w' ⟨rfl, rfl⟩) | (go_at_call_of 73 (Value.int .i64 y); refine (rref_is hy _).mono ?_; rintro e w' ⟨rfl, rfl⟩))
        go_ret
        exact ⟨rfl, Below.refl _ _⟩
      | true => exact absurd (by rw [hx, hy]; rfl) hxy
end Go.Proofs.YtmldpbgdjlblmaaDoor

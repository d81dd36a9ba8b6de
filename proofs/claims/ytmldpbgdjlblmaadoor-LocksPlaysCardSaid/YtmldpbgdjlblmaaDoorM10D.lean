/- The walks of Join, the program's and the document's, and of the law's own pick. -/
import Derived.Test.YtmldpbgdjlblmaaDoorM10C
import Derived.Deep.QuietTactic
namespace Go.Proofs.YtmldpbgdjlblmaaDoor
open Go.RowKit Go.Joins
set_option linter.unusedVariables false
set_option linter.unusedSimpArgs false

theorem keepA {W0 W w' : World} (h : Below W0.heap.size W0 W) (hb : Below W.heap.size W w') : Below W0.heap.size W0 w' := h.trans (hb.mono h.size)
def pj (a b : Int) (m : Nat) : Bool := cv m a && cv m b
def ls (a b : Int) (m : Nat) (k : Nat) : Bool := (List.range k).all fun j => !cv j a || !cv j b || cv j m
def jn (a b : Int) : Int := ((List.range 7).find? (pj a b)).elim 0 fun m => (m : Int)
def rj (a b : Int) : Int := ((List.range 7).find? fun m => pj a b m && ls a b m 7).elim 0 fun m => (m : Int)
theorem find_first (p : Nat → Bool) : ∀ n k, k < n → (∀ j, j < k → p j = false) → p k = true → (List.range n).find? p = some k := by
  intro n k hk h0 h1
  rw [List.find?_range_eq_some]
  exact ⟨h1, by simpa using hk, fun j hj => by simp [h0 j hj]⟩
theorem find_none (p : Nat → Bool) (n : Nat) (h : ∀ j, j < n → p j = false) : (List.range n).find? p = none := by
  rw [List.find?_eq_none]
  intro x hx
  have := h x (by simpa using hx)
  simp [this]
theorem jn_at {a b : Int} {k : Nat} (hk : k < 7) (h0 : ∀ j, j < k → pj a b j = false) (h1 : pj a b k = true) : jn a b = k := by
  rw [jn, find_first _ 7 k hk h0 h1]; rfl
theorem jn_no {a b : Int} (h0 : ∀ j, j < 7 → pj a b j = false) : jn a b = 0 := by
  rw [jn, find_none _ 7 h0]; rfl
theorem rj_at {a b : Int} {k : Nat} (hk : k < 7) (h0 : ∀ j, j < k → (pj a b j && ls a b j 7) = false) (h1 : (pj a b k && ls a b k 7) = true) : rj a b = k := by
  rw [rj, find_first _ 7 k hk h0 h1]; rfl
theorem rj_no {a b : Int} (h0 : ∀ j, j < 7 → (pj a b j && ls a b j 7) = false) : rj a b = 0 := by
  rw [rj, find_none _ 7 h0]; rfl
theorem cv_out {x y : Int} (h : rt y = false) : cv x y = false := by simp [cv, h]
theorem rj_jn (a b : Int) : rj a b = jn a b := by
  cases ha : rt a with
  | false => rw [rj_no fun j _ => by simp [pj, cv_out ha], jn_no fun j _ => by simp [pj, cv_out ha]]
  | true =>
    cases hb : rt b with
    | false => rw [rj_no fun j _ => by simp [pj, cv_out hb], jn_no fun j _ => by simp [pj, cv_out hb]]
    | true =>
      rcases rt_cases ha with rfl | rfl | rfl | rfl | rfl | rfl | rfl <;> rcases rt_cases hb with rfl | rfl | rfl | rfl | rfl | rfl | rfl <;> rfl
theorem ls_succ (a b : Int) (m k : Nat) : ls a b m (k + 1) = (ls a b m k && (!cv k a || !cv k b || cv k m)) := by
  simp [ls, List.range_succ, List.all_append]
theorem first_succ {p : Nat → Bool} {k : Nat} (h0 : ∀ j, j < k → p j = false) (h : p k = false) : ∀ j, j < k + 1 → p j = false := fun j hj => by
  by_cases e : j = k
  · subst e; exact h
  · exact h0 j (by omega)
theorem covers_is {x y : Int} {t : Bool} (h : cv x y = t) (w : World) (hL : LibW w) :
    Calls Tryd.prog 70 #[.int .i64 x, .int .i64 y] w fun e w' => e = .returned (.bool t) ∧ Below w.heap.size w w' := by
  subst h
  exact (covers_any x y w hL).mono fun e w' ⟨he, q, hw⟩ => ⟨he, hw ▸ below_drewN (Below.refl _ _) q⟩
theorem cref_is {x y : Int} {t : Bool} (h : cv x y = t) (w : World) :
    Calls Tryd.prog 57 #[.int .i64 x, .int .i64 y] w fun e w' => e = .returned (.bool t) ∧ Below w.heap.size w w' := by
  subst h
  exact cov_ref x y w
end Go.Proofs.YtmldpbgdjlblmaaDoor

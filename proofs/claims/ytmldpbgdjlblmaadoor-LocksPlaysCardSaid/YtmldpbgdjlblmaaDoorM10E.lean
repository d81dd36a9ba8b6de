/- Objects: the walks of the program's Place, reaches, beside, Meet, Within. -/
import Derived.Test.YtmldpbgdjlblmaaDoorM10D
namespace Go.Proofs.YtmldpbgdjlblmaaDoor
open Go.RowKit Go.Joins
set_option linter.unusedVariables false
set_option linter.unusedSimpArgs false

structure Ob where
  sp : Int
  tb : ByteArray
  lo : ByteArray
  hi : ByteArray
  en : Bool
abbrev Ob.v (o : Ob) : Value := .agg #[.int .i64 o.sp, .string o.tb, .string o.lo, .string o.hi, .bool o.en]
def em (a : ByteArray) : Bool := decide (a.toList = [])
def lb (a b : ByteArray) : Bool := Op.bytesLess a.toList b.toList || a.toList == b.toList
def pl (o : Ob) : Bool :=
  if o.sp = 0 then em o.tb && em o.lo && em o.hi && !o.en
  else if em o.tb then false
  else if o.sp = 1 then em o.lo && em o.hi && !o.en
  else if o.sp < 2 ∨ 7 < o.sp then false
  else if o.en then em o.hi else lb o.lo o.hi
set_option maxHeartbeats 4000000 in
theorem place_0 (o : Ob) (h : o.sp = 0) (w : World) :
    Calls Tryd.prog 32 #[o.v] w fun e w' => e = .returned (.bool (pl o)) ∧ Below w.heap.size w w' := by
  obtain ⟨sp, tb, lo, hi, en⟩ := o
  subst h
  have e1 : pl ⟨0, tb, lo, hi, en⟩ = (em tb && em lo && em hi && !en) := by simp [pl]
  rw [e1]
  simp only [Ob.v, em]
  go_enter Tryd.func32, Tryd.ntmps32
  go_wp2
  all_goals go_ret
  all_goals exact ⟨by first | (simp_all; done) | (simp_all; cases hi.toList <;> rfl), (Below.refl _ _).alloc (Nat.le_refl _) _⟩
set_option maxHeartbeats 4000000 in
theorem place_1 (o : Ob) (h : o.sp = 1) (ht : em o.tb = false) (w : World) :
    Calls Tryd.prog 32 #[o.v] w fun e w' => e = .returned (.bool (pl o)) ∧ Below w.heap.size w w' := by
  obtain ⟨sp, tb, lo, hi, en⟩ := o
  subst h
  have e1 : pl ⟨1, tb, lo, hi, en⟩ = (em lo && em hi && !en) := by simp only [pl] at ht ⊢; simp [ht]
  rw [e1]
  have ht' : ¬ (tb.toList = []) := by simpa [em] using ht
  clear ht
  simp only [Ob.v, em]
  go_enter Tryd.func32, Tryd.ntmps32
  go_wp2
  all_goals go_ret
  all_goals exact ⟨by first | (simp_all; done) | (simp_all; cases hi.toList <;> rfl), (Below.refl _ _).alloc (Nat.le_refl _) _⟩
set_option maxHeartbeats 4000000 in
theorem place_n (o : Ob) (h : o.sp ≠ 0) (ht : em o.tb = true) (w : World) :
    Calls Tryd.prog 32 #[o.v] w fun e w' => e = .returned (.bool (pl o)) ∧ Below w.heap.size w w' := by
  obtain ⟨sp, tb, lo, hi, en⟩ := o
  have e1 : pl ⟨sp, tb, lo, hi, en⟩ = false := by simp only [pl] at ht h ⊢; simp [ht, h]
  rw [e1]
  have ht' : tb.toList = [] := by simpa [em] using ht
  have h' : ¬ (sp = 0) := h
  clear ht h
  simp only [Ob.v, em]
  go_enter Tryd.func32, Tryd.ntmps32
  go_wp2
  all_goals go_ret
  all_goals exact ⟨by first | (simp_all; done) | (simp_all; cases hi.toList <;> rfl), (Below.refl _ _).alloc (Nat.le_refl _) _⟩
set_option maxHeartbeats 4000000 in
theorem place_x (o : Ob) (h : o.sp ≠ 0 ∧ o.sp ≠ 1 ∧ (o.sp < 2 ∨ 7 < o.sp)) (ht : em o.tb = false) (w : World) :
    Calls Tryd.prog 32 #[o.v] w fun e w' => e = .returned (.bool (pl o)) ∧ Below w.heap.size w w' := by
  obtain ⟨sp, tb, lo, hi, en⟩ := o
  have e1 : pl ⟨sp, tb, lo, hi, en⟩ = false := by simp only [pl] at ht h ⊢; simp [ht, h]
  rw [e1]
  have ht' : ¬ (tb.toList = []) := by simpa [em] using ht
  have h0 : ¬ (sp = 0) := h.1
  have h1 : ¬ (sp = 1) := h.2.1
  clear ht
  simp only [Ob.v, em]
  rcases h.2.2 with h2 | h2
  · replace h2 : sp < 2 := h2
    clear h
    go_enter Tryd.func32, Tryd.ntmps32
    go_wp2
    all_goals go_ret
    all_goals exact ⟨by first | (simp_all; done) | (simp_all; cases hi.toList <;> rfl), (Below.refl _ _).alloc (Nat.le_refl _) _⟩
  · replace h2 : 7 < sp := h2
    have h3 : ¬ (sp < 2) := by omega
    clear h
    go_enter Tryd.func32, Tryd.ntmps32
    go_wp2
    all_goals go_ret
    all_goals exact ⟨by first | (simp_all; done) | (simp_all; cases hi.toList <;> rfl), (Below.refl _ _).alloc (Nat.le_refl _) _⟩
set_option maxHeartbeats 4000000 in
theorem place_i (o : Ob) (h : 2 ≤ o.sp ∧ o.sp ≤ 7) (ht : em o.tb = false) (w : World) :
    Calls Tryd.prog 32 #[o.v] w fun e w' => e = .returned (.bool (pl o)) ∧ Below w.heap.size w w' := by
  obtain ⟨sp, tb, lo, hi, en⟩ := o
  have h2 : ¬ (sp < 2) := by simp at h; omega
  have h3 : ¬ (7 < sp) := by simp at h; omega
  have h0 : ¬ (sp = 0) := by omega
  have h1 : ¬ (sp = 1) := by omega
  have e1 : pl ⟨sp, tb, lo, hi, en⟩ = (if en then em hi else lb lo hi) := by simp only [pl] at ht ⊢; simp [ht, h0, h1, h2, h3]
  rw [e1]
  have ht' : ¬ (tb.toList = []) := by simpa [em] using ht
  clear ht h
  simp only [Ob.v, em, lb]
  cases en
  · go_enter Tryd.func32, Tryd.ntmps32
    go_wp2
    all_goals go_ret
    all_goals exact ⟨by first | (simp_all; done) | (simp_all; cases hi.toList <;> rfl), (Below.refl _ _).alloc (Nat.le_refl _) _⟩
  · go_enter Tryd.func32, Tryd.ntmps32
    go_wp2
    all_goals go_ret
    all_goals exact ⟨by first | (simp_all; done) | (simp_all; cases hi.toList <;> rfl), (Below.refl _ _).alloc (Nat.le_refl _) _⟩
theorem place_any (o : Ob) (w : World) :
    Calls Tryd.prog 32 #[o.v] w fun e w' => e = .returned (.bool (pl o)) ∧ Below w.heap.size w w' := by
  by_cases h0 : o.sp = 0
  · exact place_0 o h0 w
  · cases ht : em o.tb with
    | true => exact place_n o h0 ht w
    | false =>
      by_cases h1 : o.sp = 1
      · exact place_1 o h1 ht w
      · by_cases h2 : o.sp < 2 ∨ 7 < o.sp
        · exact place_x o ⟨h0, h1, h2⟩ ht w
        · exact place_i o (by omega) ht w
def rch (o : Ob) (k : ByteArray) : Bool := o.en || lb k o.hi
set_option maxHeartbeats 4000000 in
theorem reaches_any (o : Ob) (k : ByteArray) (w : World) :
    Calls Tryd.prog 82 #[o.v, .string k] w fun e w' => e = .returned (.bool (rch o k)) ∧ Below w.heap.size w w' := by
  obtain ⟨sp, tb, lo, hi, en⟩ := o
  simp only [Ob.v, rch, lb]
  cases en
  · go_enter Tryd.func82, Tryd.ntmps82
    go_wp2
    all_goals go_ret
    all_goals exact ⟨by first | (simp_all; done) | (simp_all; cases hi.toList <;> rfl), (Below.refl _ _).alloc (Nat.le_refl _) _⟩
  · go_enter Tryd.func82, Tryd.ntmps82
    go_wp2
    all_goals go_ret
    all_goals exact ⟨by first | (simp_all; done) | (simp_all; cases hi.toList <;> rfl), (Below.refl _ _).alloc (Nat.le_refl _) _⟩
end Go.Proofs.YtmldpbgdjlblmaaDoor

/- Objects: the walks of the document's Place, both, Meet, Within. -/
import Derived.Test.YtmldpbgdjlblmaaDoorM10F
namespace Go.Proofs.YtmldpbgdjlblmaaDoor
open Go.RowKit Go.Joins
set_option linter.unusedVariables false
set_option linter.unusedSimpArgs false

set_option maxHeartbeats 4000000 in
theorem rp0tyyy {tb lo hi : ByteArray} (w : World) (ht : tb.toList = []) (hl : lo.toList = []) (hh : hi.toList = []) :
    Calls Tryd.prog 36 #[.agg #[.int .i64 0, .string tb, .string lo, .string hi, .bool true]] w fun e w' => e = .returned (.bool (pl ⟨0, tb, lo, hi, true⟩)) ∧ Below w.heap.size w w' := by
  simp only [pl, em, lb]
  go_enter Tryd.func36, Tryd.ntmps36
  go_wp2
  all_goals go_ret
  all_goals exact ⟨by first | (simp_all; done) | (simp_all; cases hi.toList <;> rfl) | (simp_all; omega), (Below.refl _ _).alloc (Nat.le_refl _) _⟩
set_option maxHeartbeats 4000000 in
theorem rp1tyyy {tb lo hi : ByteArray} (w : World) (ht : tb.toList = []) (hl : lo.toList = []) (hh : hi.toList = []) :
    Calls Tryd.prog 36 #[.agg #[.int .i64 1, .string tb, .string lo, .string hi, .bool true]] w fun e w' => e = .returned (.bool (pl ⟨1, tb, lo, hi, true⟩)) ∧ Below w.heap.size w w' := by
  simp only [pl, em, lb]
  go_enter Tryd.func36, Tryd.ntmps36
  go_wp2
  all_goals go_ret
  all_goals exact ⟨by first | (simp_all; done) | (simp_all; cases hi.toList <;> rfl) | (simp_all; omega), (Below.refl _ _).alloc (Nat.le_refl _) _⟩
set_option maxHeartbeats 4000000 in
theorem rpltyyy {tb lo hi : ByteArray} {sp : Int} (w : World) (ht : tb.toList = []) (hl : lo.toList = []) (hh : hi.toList = []) (h0 : ¬ (sp = 0)) (h1 : ¬ (sp = 1)) (h2 : sp < 2) :
    Calls Tryd.prog 36 #[.agg #[.int .i64 sp, .string tb, .string lo, .string hi, .bool true]] w fun e w' => e = .returned (.bool (pl ⟨sp, tb, lo, hi, true⟩)) ∧ Below w.heap.size w w' := by
  simp only [pl, em, lb]
  go_enter Tryd.func36, Tryd.ntmps36
  go_wp2
  all_goals go_ret
  all_goals exact ⟨by first | (simp_all; done) | (simp_all; cases hi.toList <;> rfl) | (simp_all; omega), (Below.refl _ _).alloc (Nat.le_refl _) _⟩
set_option maxHeartbeats 4000000 in
theorem rpgtyyy {tb lo hi : ByteArray} {sp : Int} (w : World) (ht : tb.toList = []) (hl : lo.toList = []) (hh : hi.toList = []) (h0 : ¬ (sp = 0)) (h1 : ¬ (sp = 1)) (h2 : ¬ (sp < 2)) (h3 : 7 < sp) :
    Calls Tryd.prog 36 #[.agg #[.int .i64 sp, .string tb, .string lo, .string hi, .bool true]] w fun e w' => e = .returned (.bool (pl ⟨sp, tb, lo, hi, true⟩)) ∧ Below w.heap.size w w' := by
  simp only [pl, em, lb]
  go_enter Tryd.func36, Tryd.ntmps36
  go_wp2
  all_goals go_ret
  all_goals exact ⟨by first | (simp_all; done) | (simp_all; cases hi.toList <;> rfl) | (simp_all; omega), (Below.refl _ _).alloc (Nat.le_refl _) _⟩
set_option maxHeartbeats 4000000 in
theorem rpityyy {tb lo hi : ByteArray} {sp : Int} (w : World) (ht : tb.toList = []) (hl : lo.toList = []) (hh : hi.toList = []) (h0 : ¬ (sp = 0)) (h1 : ¬ (sp = 1)) (h2 : ¬ (sp < 2)) (h3 : ¬ (7 < sp)) :
    Calls Tryd.prog 36 #[.agg #[.int .i64 sp, .string tb, .string lo, .string hi, .bool true]] w fun e w' => e = .returned (.bool (pl ⟨sp, tb, lo, hi, true⟩)) ∧ Below w.heap.size w w' := by
  simp only [pl, em, lb]
  go_enter Tryd.func36, Tryd.ntmps36
  go_wp2
  all_goals go_ret
  all_goals exact ⟨by first | (simp_all; done) | (simp_all; cases hi.toList <;> rfl) | (simp_all; omega), (Below.refl _ _).alloc (Nat.le_refl _) _⟩
set_option maxHeartbeats 4000000 in
theorem rp0tyyn {tb lo hi : ByteArray} (w : World) (ht : tb.toList = []) (hl : lo.toList = []) (hh : ¬ (hi.toList = [])) :
    Calls Tryd.prog 36 #[.agg #[.int .i64 0, .string tb, .string lo, .string hi, .bool true]] w fun e w' => e = .returned (.bool (pl ⟨0, tb, lo, hi, true⟩)) ∧ Below w.heap.size w w' := by
  simp only [pl, em, lb]
  go_enter Tryd.func36, Tryd.ntmps36
  go_wp2
  all_goals go_ret
  all_goals exact ⟨by first | (simp_all; done) | (simp_all; cases hi.toList <;> rfl) | (simp_all; omega), (Below.refl _ _).alloc (Nat.le_refl _) _⟩
set_option maxHeartbeats 4000000 in
theorem rp1tyyn {tb lo hi : ByteArray} (w : World) (ht : tb.toList = []) (hl : lo.toList = []) (hh : ¬ (hi.toList = [])) :
    Calls Tryd.prog 36 #[.agg #[.int .i64 1, .string tb, .string lo, .string hi, .bool true]] w fun e w' => e = .returned (.bool (pl ⟨1, tb, lo, hi, true⟩)) ∧ Below w.heap.size w w' := by
  simp only [pl, em, lb]
  go_enter Tryd.func36, Tryd.ntmps36
  go_wp2
  all_goals go_ret
  all_goals exact ⟨by first | (simp_all; done) | (simp_all; cases hi.toList <;> rfl) | (simp_all; omega), (Below.refl _ _).alloc (Nat.le_refl _) _⟩
set_option maxHeartbeats 4000000 in
theorem rpltyyn {tb lo hi : ByteArray} {sp : Int} (w : World) (ht : tb.toList = []) (hl : lo.toList = []) (hh : ¬ (hi.toList = [])) (h0 : ¬ (sp = 0)) (h1 : ¬ (sp = 1)) (h2 : sp < 2) :
    Calls Tryd.prog 36 #[.agg #[.int .i64 sp, .string tb, .string lo, .string hi, .bool true]] w fun e w' => e = .returned (.bool (pl ⟨sp, tb, lo, hi, true⟩)) ∧ Below w.heap.size w w' := by
  simp only [pl, em, lb]
  go_enter Tryd.func36, Tryd.ntmps36
  go_wp2
  all_goals go_ret
  all_goals exact ⟨by first | (simp_all; done) | (simp_all; cases hi.toList <;> rfl) | (simp_all; omega), (Below.refl _ _).alloc (Nat.le_refl _) _⟩
set_option maxHeartbeats 4000000 in
theorem rpgtyyn {tb lo hi : ByteArray} {sp : Int} (w : World) (ht : tb.toList = []) (hl : lo.toList = []) (hh : ¬ (hi.toList = [])) (h0 : ¬ (sp = 0)) (h1 : ¬ (sp = 1)) (h2 : ¬ (sp < 2)) (h3 : 7 < sp) :
    Calls Tryd.prog 36 #[.agg #[.int .i64 sp, .string tb, .string lo, .string hi, .bool true]] w fun e w' => e = .returned (.bool (pl ⟨sp, tb, lo, hi, true⟩)) ∧ Below w.heap.size w w' := by
  simp only [pl, em, lb]
  go_enter Tryd.func36, Tryd.ntmps36
  go_wp2
  all_goals go_ret
  all_goals exact ⟨by first | (simp_all; done) | (simp_all; cases hi.toList <;> rfl) | (simp_all; omega), (Below.refl _ _).alloc (Nat.le_refl _) _⟩
set_option maxHeartbeats 4000000 in
theorem rpityyn {tb lo hi : ByteArray} {sp : Int} (w : World) (ht : tb.toList = []) (hl : lo.toList = []) (hh : ¬ (hi.toList = [])) (h0 : ¬ (sp = 0)) (h1 : ¬ (sp = 1)) (h2 : ¬ (sp < 2)) (h3 : ¬ (7 < sp)) :
    Calls Tryd.prog 36 #[.agg #[.int .i64 sp, .string tb, .string lo, .string hi, .bool true]] w fun e w' => e = .returned (.bool (pl ⟨sp, tb, lo, hi, true⟩)) ∧ Below w.heap.size w w' := by
  simp only [pl, em, lb]
  go_enter Tryd.func36, Tryd.ntmps36
  go_wp2
  all_goals go_ret
  all_goals exact ⟨by first | (simp_all; done) | (simp_all; cases hi.toList <;> rfl) | (simp_all; omega), (Below.refl _ _).alloc (Nat.le_refl _) _⟩
set_option maxHeartbeats 4000000 in
theorem rp0tyny {tb lo hi : ByteArray} (w : World) (ht : tb.toList = []) (hl : ¬ (lo.toList = [])) (hh : hi.toList = []) :
    Calls Tryd.prog 36 #[.agg #[.int .i64 0, .string tb, .string lo, .string hi, .bool true]] w fun e w' => e = .returned (.bool (pl ⟨0, tb, lo, hi, true⟩)) ∧ Below w.heap.size w w' := by
  simp only [pl, em, lb]
  go_enter Tryd.func36, Tryd.ntmps36
  go_wp2
  all_goals go_ret
  all_goals exact ⟨by first | (simp_all; done) | (simp_all; cases hi.toList <;> rfl) | (simp_all; omega), (Below.refl _ _).alloc (Nat.le_refl _) _⟩
set_option maxHeartbeats 4000000 in
theorem rp1tyny {tb lo hi : ByteArray} (w : World) (ht : tb.toList = []) (hl : ¬ (lo.toList = [])) (hh : hi.toList = []) :
    Calls Tryd.prog 36 #[.agg #[.int .i64 1, .string tb, .string lo, .string hi, .bool true]] w fun e w' => e = .returned (.bool (pl ⟨1, tb, lo, hi, true⟩)) ∧ Below w.heap.size w w' := by
  simp only [pl, em, lb]
  go_enter Tryd.func36, Tryd.ntmps36
  go_wp2
  all_goals go_ret
  all_goals exact ⟨by first | (simp_all; done) | (simp_all; cases hi.toList <;> rfl) | (simp_all; omega), (Below.refl _ _).alloc (Nat.le_refl _) _⟩
set_option maxHeartbeats 4000000 in
theorem rpltyny {tb lo hi : ByteArray} {sp : Int} (w : World) (ht : tb.toList = []) (hl : ¬ (lo.toList = [])) (hh : hi.toList = []) (h0 : ¬ (sp = 0)) (h1 : ¬ (sp = 1)) (h2 : sp < 2) :
    Calls Tryd.prog 36 #[.agg #[.int .i64 sp, .string tb, .string lo, .string hi, .bool true]] w fun e w' => e = .returned (.bool (pl ⟨sp, tb, lo, hi, true⟩)) ∧ Below w.heap.size w w' := by
  simp only [pl, em, lb]
  go_enter Tryd.func36, Tryd.ntmps36
  go_wp2
  all_goals go_ret
  all_goals exact ⟨by first | (simp_all; done) | (simp_all; cases hi.toList <;> rfl) | (simp_all; omega), (Below.refl _ _).alloc (Nat.le_refl _) _⟩
set_option maxHeartbeats 4000000 in
theorem rpgtyny {tb lo hi : ByteArray} {sp : Int} (w : World) (ht : tb.toList = []) (hl : ¬ (lo.toList = [])) (hh : hi.toList = []) (h0 : ¬ (sp = 0)) (h1 : ¬ (sp = 1)) (h2 : ¬ (sp < 2)) (h3 : 7 < sp) :
    Calls Tryd.prog 36 #[.agg #[.int .i64 sp, .string tb, .string lo, .string hi, .bool true]] w fun e w' => e = .returned (.bool (pl ⟨sp, tb, lo, hi, true⟩)) ∧ Below w.heap.size w w' := by
  simp only [pl, em, lb]
  go_enter Tryd.func36, Tryd.ntmps36
  go_wp2
  all_goals go_ret
  all_goals exact ⟨by first | (simp_all; done) | (simp_all; cases hi.toList <;> rfl) | (simp_all; omega), (Below.refl _ _).alloc (Nat.le_refl _) _⟩
set_option maxHeartbeats 4000000 in
theorem rpityny {tb lo hi : ByteArray} {sp : Int} (w : World) (ht : tb.toList = []) (hl : ¬ (lo.toList = [])) (hh : hi.toList = []) (h0 : ¬ (sp = 0)) (h1 : ¬ (sp = 1)) (h2 : ¬ (sp < 2)) (h3 : ¬ (7 < sp)) :
    Calls Tryd.prog 36 #[.agg #[.int .i64 sp, .string tb, .string lo, .string hi, .bool true]] w fun e w' => e = .returned (.bool (pl ⟨sp, tb, lo, hi, true⟩)) ∧ Below w.heap.size w w' := by
  simp only [pl, em, lb]
  go_enter Tryd.func36, Tryd.ntmps36
  go_wp2
  all_goals go_ret
  all_goals exact ⟨by first | (simp_all; done) | (simp_all; cases hi.toList <;> rfl) | (simp_all; omega), (Below.refl _ _).alloc (Nat.le_refl _) _⟩
set_option maxHeartbeats 4000000 in
theorem rp0tynn {tb lo hi : ByteArray} (w : World) (ht : tb.toList = []) (hl : ¬ (lo.toList = [])) (hh : ¬ (hi.toList = [])) :
    Calls Tryd.prog 36 #[.agg #[.int .i64 0, .string tb, .string lo, .string hi, .bool true]] w fun e w' => e = .returned (.bool (pl ⟨0, tb, lo, hi, true⟩)) ∧ Below w.heap.size w w' := by
  simp only [pl, em, lb]
  go_enter Tryd.func36, Tryd.ntmps36
  go_wp2
  all_goals go_ret
  all_goals exact ⟨by first | (simp_all; done) | (simp_all; cases hi.toList <;> rfl) | (simp_all; omega), (Below.refl _ _).alloc (Nat.le_refl _) _⟩
set_option maxHeartbeats 4000000 in
theorem rp1tynn {tb lo hi : ByteArray} (w : World) (ht : tb.toList = []) (hl : ¬ (lo.toList = [])) (hh : ¬ (hi.toList = [])) :
    Calls Tryd.prog 36 #[.agg #[.int .i64 1, .string tb, .string lo, .string hi, .bool true]] w fun e w' => e = .returned (.bool (pl ⟨1, tb, lo, hi, true⟩)) ∧ Below w.heap.size w w' := by
  simp only [pl, em, lb]
  go_enter Tryd.func36, Tryd.ntmps36
  go_wp2
  all_goals go_ret
  all_goals exact ⟨by first | (simp_all; done) | (simp_all; cases hi.toList <;> rfl) | (simp_all; omega), (Below.refl _ _).alloc (Nat.le_refl _) _⟩
set_option maxHeartbeats 4000000 in
theorem rpltynn {tb lo hi : ByteArray} {sp : Int} (w : World) (ht : tb.toList = []) (hl : ¬ (lo.toList = [])) (hh : ¬ (hi.toList = [])) (h0 : ¬ (sp = 0)) (h1 : ¬ (sp = 1)) (h2 : sp < 2) :
    Calls Tryd.prog 36 #[.agg #[.int .i64 sp, .string tb, .string lo, .string hi, .bool true]] w fun e w' => e = .returned (.bool (pl ⟨sp, tb, lo, hi, true⟩)) ∧ Below w.heap.size w w' := by
  simp only [pl, em, lb]
  go_enter Tryd.func36, Tryd.ntmps36
  go_wp2
  all_goals go_ret
  all_goals exact ⟨by first | (simp_all; done) | (simp_all; cases hi.toList <;> rfl) | (simp_all; omega), (Below.refl _ _).alloc (Nat.le_refl _) _⟩
set_option maxHeartbeats 4000000 in
theorem rpgtynn {tb lo hi : ByteArray} {sp : Int} (w : World) (ht : tb.toList = []) (hl : ¬ (lo.toList = [])) (hh : ¬ (hi.toList = [])) (h0 : ¬ (sp = 0)) (h1 : ¬ (sp = 1)) (h2 : ¬ (sp < 2)) (h3 : 7 < sp) :
    Calls Tryd.prog 36 #[.agg #[.int .i64 sp, .string tb, .string lo, .string hi, .bool true]] w fun e w' => e = .returned (.bool (pl ⟨sp, tb, lo, hi, true⟩)) ∧ Below w.heap.size w w' := by
  simp only [pl, em, lb]
  go_enter Tryd.func36, Tryd.ntmps36
  go_wp2
  all_goals go_ret
  all_goals exact ⟨by first | (simp_all; done) | (simp_all; cases hi.toList <;> rfl) | (simp_all; omega), (Below.refl _ _).alloc (Nat.le_refl _) _⟩
set_option maxHeartbeats 4000000 in
theorem rpitynn {tb lo hi : ByteArray} {sp : Int} (w : World) (ht : tb.toList = []) (hl : ¬ (lo.toList = [])) (hh : ¬ (hi.toList = [])) (h0 : ¬ (sp = 0)) (h1 : ¬ (sp = 1)) (h2 : ¬ (sp < 2)) (h3 : ¬ (7 < sp)) :
    Calls Tryd.prog 36 #[.agg #[.int .i64 sp, .string tb, .string lo, .string hi, .bool true]] w fun e w' => e = .returned (.bool (pl ⟨sp, tb, lo, hi, true⟩)) ∧ Below w.heap.size w w' := by
  simp only [pl, em, lb]
  go_enter Tryd.func36, Tryd.ntmps36
  go_wp2
  all_goals go_ret
  all_goals exact ⟨by first | (simp_all; done) | (simp_all; cases hi.toList <;> rfl) | (simp_all; omega), (Below.refl _ _).alloc (Nat.le_refl _) _⟩
set_option maxHeartbeats 4000000 in
theorem rp0tnyy {tb lo hi : ByteArray} (w : World) (ht : ¬ (tb.toList = [])) (hl : lo.toList = []) (hh : hi.toList = []) :
    Calls Tryd.prog 36 #[.agg #[.int .i64 0, .string tb, .string lo, .string hi, .bool true]] w fun e w' => e = .returned (.bool (pl ⟨0, tb, lo, hi, true⟩)) ∧ Below w.heap.size w w' := by
  simp only [pl, em, lb]
  go_enter Tryd.func36, Tryd.ntmps36
  go_wp2
  all_goals go_ret
  all_goals exact ⟨by first | (simp_all; done) | (simp_all; cases hi.toList <;> rfl) | (simp_all; omega), (Below.refl _ _).alloc (Nat.le_refl _) _⟩
set_option maxHeartbeats 4000000 in
theorem rp1tnyy {tb lo hi : ByteArray} (w : World) (ht : ¬ (tb.toList = [])) (hl : lo.toList = []) (hh : hi.toList = []) :
    Calls Tryd.prog 36 #[.agg #[.int .i64 1, .string tb, .string lo, .string hi, .bool true]] w fun e w' => e = .returned (.bool (pl ⟨1, tb, lo, hi, true⟩)) ∧ Below w.heap.size w w' := by
  simp only [pl, em, lb]
  go_enter Tryd.func36, Tryd.ntmps36
  go_wp2
  all_goals go_ret
  all_goals exact ⟨by first | (simp_all; done) | (simp_all; cases hi.toList <;> rfl) | (simp_all; omega), (Below.refl _ _).alloc (Nat.le_refl _) _⟩
set_option maxHeartbeats 4000000 in
theorem rpltnyy {tb lo hi : ByteArray} {sp : Int} (w : World) (ht : ¬ (tb.toList = [])) (hl : lo.toList = []) (hh : hi.toList = []) (h0 : ¬ (sp = 0)) (h1 : ¬ (sp = 1)) (h2 : sp < 2) :
    Calls Tryd.prog 36 #[.agg #[.int .i64 sp, .string tb, .string lo, .string hi, .bool true]] w fun e w' => e = .returned (.bool (pl ⟨sp, tb, lo, hi, true⟩)) ∧ Below w.heap.size w w' := by
  simp only [pl, em, lb]
  go_enter Tryd.func36, Tryd.ntmps36
  go_wp2
  all_goals go_ret
  all_goals exact ⟨by first | (simp_all; done) | (simp_all; cases hi.toList <;> rfl) | (simp_all; omega), (Below.refl _ _).alloc (Nat.le_refl _) _⟩
set_option maxHeartbeats 4000000 in
theorem rpgtnyy {tb lo hi : ByteArray} {sp : Int} (w : World) (ht : ¬ (tb.toList = [])) (hl : lo.toList = []) (hh : hi.toList = []) (h0 : ¬ (sp = 0)) (h1 : ¬ (sp = 1)) (h2 : ¬ (sp < 2)) (h3 : 7 < sp) :
    Calls Tryd.prog 36 #[.agg #[.int .i64 sp, .string tb, .string lo, .string hi, .bool true]] w fun e w' => e = .returned (.bool (pl ⟨sp, tb, lo, hi, true⟩)) ∧ Below w.heap.size w w' := by
  simp only [pl, em, lb]
  go_enter Tryd.func36, Tryd.ntmps36
  go_wp2
  all_goals go_ret
  all_goals exact ⟨by first | (simp_all; done) | (simp_all; cases hi.toList <;> rfl) | (simp_all; omega), (Below.refl _ _).alloc (Nat.le_refl _) _⟩
set_option maxHeartbeats 4000000 in
theorem rpitnyy {tb lo hi : ByteArray} {sp : Int} (w : World) (ht : ¬ (tb.toList = [])) (hl : lo.toList = []) (hh : hi.toList = []) (h0 : ¬ (sp = 0)) (h1 : ¬ (sp = 1)) (h2 : ¬ (sp < 2)) (h3 : ¬ (7 < sp)) :
    Calls Tryd.prog 36 #[.agg #[.int .i64 sp, .string tb, .string lo, .string hi, .bool true]] w fun e w' => e = .returned (.bool (pl ⟨sp, tb, lo, hi, true⟩)) ∧ Below w.heap.size w w' := by
  simp only [pl, em, lb]
  go_enter Tryd.func36, Tryd.ntmps36
  go_wp2
  all_goals go_ret
  all_goals exact ⟨by first | (simp_all; done) | (simp_all; cases hi.toList <;> rfl) | (simp_all; simp only [show decide (sp < 2) = false from decide_eq_false (by omega), show decide (7 < sp) = false from decide_eq_false (by omega), show tb.toList.isEmpty = false from by simpa using ht]; done) | (simp_all; simp only [show decide (sp < 2) = false from decide_eq_false (by omega), show decide (7 < sp) = false from decide_eq_false (by omega), show tb.toList.isEmpty = false from by simpa using ht]; first | rfl | simp), (Below.refl _ _).alloc (Nat.le_refl _) _⟩
set_option maxHeartbeats 4000000 in
theorem rp0tnyn {tb lo hi : ByteArray} (w : World) (ht : ¬ (tb.toList = [])) (hl : lo.toList = []) (hh : ¬ (hi.toList = [])) :
    Calls Tryd.prog 36 #[.agg #[.int .i64 0, .string tb, .string lo, .string hi, .bool true]] w fun e w' => e = .returned (.bool (pl ⟨0, tb, lo, hi, true⟩)) ∧ Below w.heap.size w w' := by
  simp only [pl, em, lb]
  go_enter Tryd.func36, Tryd.ntmps36
  go_wp2
  all_goals go_ret
  all_goals exact ⟨by first | (simp_all; done) | (simp_all; cases hi.toList <;> rfl) | (simp_all; omega), (Below.refl _ _).alloc (Nat.le_refl _) _⟩
set_option maxHeartbeats 4000000 in
theorem rp1tnyn {tb lo hi : ByteArray} (w : World) (ht : ¬ (tb.toList = [])) (hl : lo.toList = []) (hh : ¬ (hi.toList = [])) :
    Calls Tryd.prog 36 #[.agg #[.int .i64 1, .string tb, .string lo, .string hi, .bool true]] w fun e w' => e = .returned (.bool (pl ⟨1, tb, lo, hi, true⟩)) ∧ Below w.heap.size w w' := by
  simp only [pl, em, lb]
  go_enter Tryd.func36, Tryd.ntmps36
  go_wp2
  all_goals go_ret
  all_goals exact ⟨by first | (simp_all; done) | (simp_all; cases hi.toList <;> rfl) | (simp_all; omega), (Below.refl _ _).alloc (Nat.le_refl _) _⟩
set_option maxHeartbeats 4000000 in
theorem rpltnyn {tb lo hi : ByteArray} {sp : Int} (w : World) (ht : ¬ (tb.toList = [])) (hl : lo.toList = []) (hh : ¬ (hi.toList = [])) (h0 : ¬ (sp = 0)) (h1 : ¬ (sp = 1)) (h2 : sp < 2) :
    Calls Tryd.prog 36 #[.agg #[.int .i64 sp, .string tb, .string lo, .string hi, .bool true]] w fun e w' => e = .returned (.bool (pl ⟨sp, tb, lo, hi, true⟩)) ∧ Below w.heap.size w w' := by
  simp only [pl, em, lb]
  go_enter Tryd.func36, Tryd.ntmps36
  go_wp2
  all_goals go_ret
  all_goals exact ⟨by first | (simp_all; done) | (simp_all; cases hi.toList <;> rfl) | (simp_all; omega), (Below.refl _ _).alloc (Nat.le_refl _) _⟩
set_option maxHeartbeats 4000000 in
theorem rpgtnyn {tb lo hi : ByteArray} {sp : Int} (w : World) (ht : ¬ (tb.toList = [])) (hl : lo.toList = []) (hh : ¬ (hi.toList = [])) (h0 : ¬ (sp = 0)) (h1 : ¬ (sp = 1)) (h2 : ¬ (sp < 2)) (h3 : 7 < sp) :
    Calls Tryd.prog 36 #[.agg #[.int .i64 sp, .string tb, .string lo, .string hi, .bool true]] w fun e w' => e = .returned (.bool (pl ⟨sp, tb, lo, hi, true⟩)) ∧ Below w.heap.size w w' := by
  simp only [pl, em, lb]
  go_enter Tryd.func36, Tryd.ntmps36
  go_wp2
  all_goals go_ret
  all_goals exact ⟨by first | (simp_all; done) | (simp_all; cases hi.toList <;> rfl) | (simp_all; omega), (Below.refl _ _).alloc (Nat.le_refl _) _⟩
set_option maxHeartbeats 4000000 in
theorem rpitnyn {tb lo hi : ByteArray} {sp : Int} (w : World) (ht : ¬ (tb.toList = [])) (hl : lo.toList = []) (hh : ¬ (hi.toList = [])) (h0 : ¬ (sp = 0)) (h1 : ¬ (sp = 1)) (h2 : ¬ (sp < 2)) (h3 : ¬ (7 < sp)) :
    Calls Tryd.prog 36 #[.agg #[.int .i64 sp, .string tb, .string lo, .string hi, .bool true]] w fun e w' => e = .returned (.bool (pl ⟨sp, tb, lo, hi, true⟩)) ∧ Below w.heap.size w w' := by
  simp only [pl, em, lb]
  go_enter Tryd.func36, Tryd.ntmps36
  go_wp2
  all_goals go_ret
  all_goals exact ⟨by first | (simp_all; done) | (simp_all; cases hi.toList <;> rfl) | (simp_all; simp only [show decide (sp < 2) = false from decide_eq_false (by omega), show decide (7 < sp) = false from decide_eq_false (by omega), show tb.toList.isEmpty = false from by simpa using ht]; done) | (simp_all; simp only [show decide (sp < 2) = false from decide_eq_false (by omega), show decide (7 < sp) = false from decide_eq_false (by omega), show tb.toList.isEmpty = false from by simpa using ht]; first | rfl | simp), (Below.refl _ _).alloc (Nat.le_refl _) _⟩
set_option maxHeartbeats 4000000 in
theorem rp0tnny {tb lo hi : ByteArray} (w : World) (ht : ¬ (tb.toList = [])) (hl : ¬ (lo.toList = [])) (hh : hi.toList = []) :
    Calls Tryd.prog 36 #[.agg #[.int .i64 0, .string tb, .string lo, .string hi, .bool true]] w fun e w' => e = .returned (.bool (pl ⟨0, tb, lo, hi, true⟩)) ∧ Below w.heap.size w w' := by
  simp only [pl, em, lb]
  go_enter Tryd.func36, Tryd.ntmps36
  go_wp2
  all_goals go_ret
  all_goals exact ⟨by first | (simp_all; done) | (simp_all; cases hi.toList <;> rfl) | (simp_all; omega), (Below.refl _ _).alloc (Nat.le_refl _) _⟩
set_option maxHeartbeats 4000000 in
theorem rp1tnny {tb lo hi : ByteArray} (w : World) (ht : ¬ (tb.toList = [])) (hl : ¬ (lo.toList = [])) (hh : hi.toList = []) :
    Calls Tryd.prog 36 #[.agg #[.int .i64 1, .string tb, .string lo, .string hi, .bool true]] w fun e w' => e = .returned (.bool (pl ⟨1, tb, lo, hi, true⟩)) ∧ Below w.heap.size w w' := by
  simp only [pl, em, lb]
  go_enter Tryd.func36, Tryd.ntmps36
  go_wp2
  all_goals go_ret
  all_goals exact ⟨by first | (simp_all; done) | (simp_all; cases hi.toList <;> rfl) | (simp_all; omega), (Below.refl _ _).alloc (Nat.le_refl _) _⟩
set_option maxHeartbeats 4000000 in
theorem rpltnny {tb lo hi : ByteArray} {sp : Int} (w : World) (ht : ¬ (tb.toList = [])) (hl : ¬ (lo.toList = [])) (hh : hi.toList = []) (h0 : ¬ (sp = 0)) (h1 : ¬ (sp = 1)) (h2 : sp < 2) :
    Calls Tryd.prog 36 #[.agg #[.int .i64 sp, .string tb, .string lo, .string hi, .bool true]] w fun e w' => e = .returned (.bool (pl ⟨sp, tb, lo, hi, true⟩)) ∧ Below w.heap.size w w' := by
  simp only [pl, em, lb]
  go_enter Tryd.func36, Tryd.ntmps36
  go_wp2
  all_goals go_ret
  all_goals exact ⟨by first | (simp_all; done) | (simp_all; cases hi.toList <;> rfl) | (simp_all; omega), (Below.refl _ _).alloc (Nat.le_refl _) _⟩
set_option maxHeartbeats 4000000 in
theorem rpgtnny {tb lo hi : ByteArray} {sp : Int} (w : World) (ht : ¬ (tb.toList = [])) (hl : ¬ (lo.toList = [])) (hh : hi.toList = []) (h0 : ¬ (sp = 0)) (h1 : ¬ (sp = 1)) (h2 : ¬ (sp < 2)) (h3 : 7 < sp) :
    Calls Tryd.prog 36 #[.agg #[.int .i64 sp, .string tb, .string lo, .string hi, .bool true]] w fun e w' => e = .returned (.bool (pl ⟨sp, tb, lo, hi, true⟩)) ∧ Below w.heap.size w w' := by
  simp only [pl, em, lb]
  go_enter Tryd.func36, Tryd.ntmps36
  go_wp2
  all_goals go_ret
  all_goals exact ⟨by first | (simp_all; done) | (simp_all; cases hi.toList <;> rfl) | (simp_all; omega), (Below.refl _ _).alloc (Nat.le_refl _) _⟩
set_option maxHeartbeats 4000000 in
theorem rpitnny {tb lo hi : ByteArray} {sp : Int} (w : World) (ht : ¬ (tb.toList = [])) (hl : ¬ (lo.toList = [])) (hh : hi.toList = []) (h0 : ¬ (sp = 0)) (h1 : ¬ (sp = 1)) (h2 : ¬ (sp < 2)) (h3 : ¬ (7 < sp)) :
    Calls Tryd.prog 36 #[.agg #[.int .i64 sp, .string tb, .string lo, .string hi, .bool true]] w fun e w' => e = .returned (.bool (pl ⟨sp, tb, lo, hi, true⟩)) ∧ Below w.heap.size w w' := by
  simp only [pl, em, lb]
  go_enter Tryd.func36, Tryd.ntmps36
  go_wp2
  all_goals go_ret
  all_goals exact ⟨by first | (simp_all; done) | (simp_all; cases hi.toList <;> rfl) | (simp_all; simp only [show decide (sp < 2) = false from decide_eq_false (by omega), show decide (7 < sp) = false from decide_eq_false (by omega), show tb.toList.isEmpty = false from by simpa using ht]; done) | (simp_all; simp only [show decide (sp < 2) = false from decide_eq_false (by omega), show decide (7 < sp) = false from decide_eq_false (by omega), show tb.toList.isEmpty = false from by simpa using ht]; first | rfl | simp), (Below.refl _ _).alloc (Nat.le_refl _) _⟩
set_option maxHeartbeats 4000000 in
theorem rp0tnnn {tb lo hi : ByteArray} (w : World) (ht : ¬ (tb.toList = [])) (hl : ¬ (lo.toList = [])) (hh : ¬ (hi.toList = [])) :
    Calls Tryd.prog 36 #[.agg #[.int .i64 0, .string tb, .string lo, .string hi, .bool true]] w fun e w' => e = .returned (.bool (pl ⟨0, tb, lo, hi, true⟩)) ∧ Below w.heap.size w w' := by
  simp only [pl, em, lb]
  go_enter Tryd.func36, Tryd.ntmps36
  go_wp2
  all_goals go_ret
  all_goals exact ⟨by first | (simp_all; done) | (simp_all; cases hi.toList <;> rfl) | (simp_all; omega), (Below.refl _ _).alloc (Nat.le_refl _) _⟩
set_option maxHeartbeats 4000000 in
theorem rp1tnnn {tb lo hi : ByteArray} (w : World) (ht : ¬ (tb.toList = [])) (hl : ¬ (lo.toList = [])) (hh : ¬ (hi.toList = [])) :
    Calls Tryd.prog 36 #[.agg #[.int .i64 1, .string tb, .string lo, .string hi, .bool true]] w fun e w' => e = .returned (.bool (pl ⟨1, tb, lo, hi, true⟩)) ∧ Below w.heap.size w w' := by
  simp only [pl, em, lb]
  go_enter Tryd.func36, Tryd.ntmps36
  go_wp2
  all_goals go_ret
  all_goals exact ⟨by first | (simp_all; done) | (simp_all; cases hi.toList <;> rfl) | (simp_all; omega), (Below.refl _ _).alloc (Nat.le_refl _) _⟩
set_option maxHeartbeats 4000000 in
theorem rpltnnn {tb lo hi : ByteArray} {sp : Int} (w : World) (ht : ¬ (tb.toList = [])) (hl : ¬ (lo.toList = [])) (hh : ¬ (hi.toList = [])) (h0 : ¬ (sp = 0)) (h1 : ¬ (sp = 1)) (h2 : sp < 2) :
    Calls Tryd.prog 36 #[.agg #[.int .i64 sp, .string tb, .string lo, .string hi, .bool true]] w fun e w' => e = .returned (.bool (pl ⟨sp, tb, lo, hi, true⟩)) ∧ Below w.heap.size w w' := by
  simp only [pl, em, lb]
  go_enter Tryd.func36, Tryd.ntmps36
  go_wp2
  all_goals go_ret
  all_goals exact ⟨by first | (simp_all; done) | (simp_all; cases hi.toList <;> rfl) | (simp_all; omega), (Below.refl _ _).alloc (Nat.le_refl _) _⟩
set_option maxHeartbeats 4000000 in
theorem rpgtnnn {tb lo hi : ByteArray} {sp : Int} (w : World) (ht : ¬ (tb.toList = [])) (hl : ¬ (lo.toList = [])) (hh : ¬ (hi.toList = [])) (h0 : ¬ (sp = 0)) (h1 : ¬ (sp = 1)) (h2 : ¬ (sp < 2)) (h3 : 7 < sp) :
    Calls Tryd.prog 36 #[.agg #[.int .i64 sp, .string tb, .string lo, .string hi, .bool true]] w fun e w' => e = .returned (.bool (pl ⟨sp, tb, lo, hi, true⟩)) ∧ Below w.heap.size w w' := by
  simp only [pl, em, lb]
  go_enter Tryd.func36, Tryd.ntmps36
  go_wp2
  all_goals go_ret
  all_goals exact ⟨by first | (simp_all; done) | (simp_all; cases hi.toList <;> rfl) | (simp_all; omega), (Below.refl _ _).alloc (Nat.le_refl _) _⟩
set_option maxHeartbeats 4000000 in
theorem rpitnnn {tb lo hi : ByteArray} {sp : Int} (w : World) (ht : ¬ (tb.toList = [])) (hl : ¬ (lo.toList = [])) (hh : ¬ (hi.toList = [])) (h0 : ¬ (sp = 0)) (h1 : ¬ (sp = 1)) (h2 : ¬ (sp < 2)) (h3 : ¬ (7 < sp)) :
    Calls Tryd.prog 36 #[.agg #[.int .i64 sp, .string tb, .string lo, .string hi, .bool true]] w fun e w' => e = .returned (.bool (pl ⟨sp, tb, lo, hi, true⟩)) ∧ Below w.heap.size w w' := by
  simp only [pl, em, lb]
  go_enter Tryd.func36, Tryd.ntmps36
  go_wp2
  all_goals go_ret
  all_goals exact ⟨by first | (simp_all; done) | (simp_all; cases hi.toList <;> rfl) | (simp_all; simp only [show decide (sp < 2) = false from decide_eq_false (by omega), show decide (7 < sp) = false from decide_eq_false (by omega), show tb.toList.isEmpty = false from by simpa using ht]; done) | (simp_all; simp only [show decide (sp < 2) = false from decide_eq_false (by omega), show decide (7 < sp) = false from decide_eq_false (by omega), show tb.toList.isEmpty = false from by simpa using ht]; first | rfl | simp), (Below.refl _ _).alloc (Nat.le_refl _) _⟩
set_option maxHeartbeats 4000000 in
theorem rp0fyyy {tb lo hi : ByteArray} (w : World) (ht : tb.toList = []) (hl : lo.toList = []) (hh : hi.toList = []) :
    Calls Tryd.prog 36 #[.agg #[.int .i64 0, .string tb, .string lo, .string hi, .bool false]] w fun e w' => e = .returned (.bool (pl ⟨0, tb, lo, hi, false⟩)) ∧ Below w.heap.size w w' := by
  simp only [pl, em, lb]
  go_enter Tryd.func36, Tryd.ntmps36
  go_wp2
  all_goals go_ret
  all_goals exact ⟨by first | (simp_all; done) | (simp_all; cases hi.toList <;> rfl) | (simp_all; omega), (Below.refl _ _).alloc (Nat.le_refl _) _⟩
set_option maxHeartbeats 4000000 in
theorem rp1fyyy {tb lo hi : ByteArray} (w : World) (ht : tb.toList = []) (hl : lo.toList = []) (hh : hi.toList = []) :
    Calls Tryd.prog 36 #[.agg #[.int .i64 1, .string tb, .string lo, .string hi, .bool false]] w fun e w' => e = .returned (.bool (pl ⟨1, tb, lo, hi, false⟩)) ∧ Below w.heap.size w w' := by
  simp only [pl, em, lb]
  go_enter Tryd.func36, Tryd.ntmps36
  go_wp2
  all_goals go_ret
  all_goals exact ⟨by first | (simp_all; done) | (simp_all; cases hi.toList <;> rfl) | (simp_all; omega), (Below.refl _ _).alloc (Nat.le_refl _) _⟩
set_option maxHeartbeats 4000000 in
theorem rplfyyy {tb lo hi : ByteArray} {sp : Int} (w : World) (ht : tb.toList = []) (hl : lo.toList = []) (hh : hi.toList = []) (h0 : ¬ (sp = 0)) (h1 : ¬ (sp = 1)) (h2 : sp < 2) :
    Calls Tryd.prog 36 #[.agg #[.int .i64 sp, .string tb, .string lo, .string hi, .bool false]] w fun e w' => e = .returned (.bool (pl ⟨sp, tb, lo, hi, false⟩)) ∧ Below w.heap.size w w' := by
  simp only [pl, em, lb]
  go_enter Tryd.func36, Tryd.ntmps36
  go_wp2
  all_goals go_ret
  all_goals exact ⟨by first | (simp_all; done) | (simp_all; cases hi.toList <;> rfl) | (simp_all; omega), (Below.refl _ _).alloc (Nat.le_refl _) _⟩
set_option maxHeartbeats 4000000 in
theorem rpgfyyy {tb lo hi : ByteArray} {sp : Int} (w : World) (ht : tb.toList = []) (hl : lo.toList = []) (hh : hi.toList = []) (h0 : ¬ (sp = 0)) (h1 : ¬ (sp = 1)) (h2 : ¬ (sp < 2)) (h3 : 7 < sp) :
    Calls Tryd.prog 36 #[.agg #[.int .i64 sp, .string tb, .string lo, .string hi, .bool false]] w fun e w' => e = .returned (.bool (pl ⟨sp, tb, lo, hi, false⟩)) ∧ Below w.heap.size w w' := by
  simp only [pl, em, lb]
  go_enter Tryd.func36, Tryd.ntmps36
  go_wp2
  all_goals go_ret
  all_goals exact ⟨by first | (simp_all; done) | (simp_all; cases hi.toList <;> rfl) | (simp_all; omega), (Below.refl _ _).alloc (Nat.le_refl _) _⟩
set_option maxHeartbeats 4000000 in
theorem rpifyyy {tb lo hi : ByteArray} {sp : Int} (w : World) (ht : tb.toList = []) (hl : lo.toList = []) (hh : hi.toList = []) (h0 : ¬ (sp = 0)) (h1 : ¬ (sp = 1)) (h2 : ¬ (sp < 2)) (h3 : ¬ (7 < sp)) :
    Calls Tryd.prog 36 #[.agg #[.int .i64 sp, .string tb, .string lo, .string hi, .bool false]] w fun e w' => e = .returned (.bool (pl ⟨sp, tb, lo, hi, false⟩)) ∧ Below w.heap.size w w' := by
  simp only [pl, em, lb]
  go_enter Tryd.func36, Tryd.ntmps36
  go_wp2
  all_goals go_ret
  all_goals exact ⟨by first | (simp_all; done) | (simp_all; cases hi.toList <;> rfl) | (simp_all; omega), (Below.refl _ _).alloc (Nat.le_refl _) _⟩
set_option maxHeartbeats 4000000 in
theorem rp0fyyn {tb lo hi : ByteArray} (w : World) (ht : tb.toList = []) (hl : lo.toList = []) (hh : ¬ (hi.toList = [])) :
    Calls Tryd.prog 36 #[.agg #[.int .i64 0, .string tb, .string lo, .string hi, .bool false]] w fun e w' => e = .returned (.bool (pl ⟨0, tb, lo, hi, false⟩)) ∧ Below w.heap.size w w' := by
  simp only [pl, em, lb]
  go_enter Tryd.func36, Tryd.ntmps36
  go_wp2
  all_goals go_ret
  all_goals exact ⟨by first | (simp_all; done) | (simp_all; cases hi.toList <;> rfl) | (simp_all; omega), (Below.refl _ _).alloc (Nat.le_refl _) _⟩
set_option maxHeartbeats 4000000 in
theorem rp1fyyn {tb lo hi : ByteArray} (w : World) (ht : tb.toList = []) (hl : lo.toList = []) (hh : ¬ (hi.toList = [])) :
    Calls Tryd.prog 36 #[.agg #[.int .i64 1, .string tb, .string lo, .string hi, .bool false]] w fun e w' => e = .returned (.bool (pl ⟨1, tb, lo, hi, false⟩)) ∧ Below w.heap.size w w' := by
  simp only [pl, em, lb]
  go_enter Tryd.func36, Tryd.ntmps36
  go_wp2
  all_goals go_ret
  all_goals exact ⟨by first | (simp_all; done) | (simp_all; cases hi.toList <;> rfl) | (simp_all; omega), (Below.refl _ _).alloc (Nat.le_refl _) _⟩
set_option maxHeartbeats 4000000 in
theorem rplfyyn {tb lo hi : ByteArray} {sp : Int} (w : World) (ht : tb.toList = []) (hl : lo.toList = []) (hh : ¬ (hi.toList = [])) (h0 : ¬ (sp = 0)) (h1 : ¬ (sp = 1)) (h2 : sp < 2) :
    Calls Tryd.prog 36 #[.agg #[.int .i64 sp, .string tb, .string lo, .string hi, .bool false]] w fun e w' => e = .returned (.bool (pl ⟨sp, tb, lo, hi, false⟩)) ∧ Below w.heap.size w w' := by
  simp only [pl, em, lb]
  go_enter Tryd.func36, Tryd.ntmps36
  go_wp2
  all_goals go_ret
  all_goals exact ⟨by first | (simp_all; done) | (simp_all; cases hi.toList <;> rfl) | (simp_all; omega), (Below.refl _ _).alloc (Nat.le_refl _) _⟩
set_option maxHeartbeats 4000000 in
theorem rpgfyyn {tb lo hi : ByteArray} {sp : Int} (w : World) (ht : tb.toList = []) (hl : lo.toList = []) (hh : ¬ (hi.toList = [])) (h0 : ¬ (sp = 0)) (h1 : ¬ (sp = 1)) (h2 : ¬ (sp < 2)) (h3 : 7 < sp) :
    Calls Tryd.prog 36 #[.agg #[.int .i64 sp, .string tb, .string lo, .string hi, .bool false]] w fun e w' => e = .returned (.bool (pl ⟨sp, tb, lo, hi, false⟩)) ∧ Below w.heap.size w w' := by
  simp only [pl, em, lb]
  go_enter Tryd.func36, Tryd.ntmps36
  go_wp2
  all_goals go_ret
  all_goals exact ⟨by first | (simp_all; done) | (simp_all; cases hi.toList <;> rfl) | (simp_all; omega), (Below.refl _ _).alloc (Nat.le_refl _) _⟩
set_option maxHeartbeats 4000000 in
theorem rpifyyn {tb lo hi : ByteArray} {sp : Int} (w : World) (ht : tb.toList = []) (hl : lo.toList = []) (hh : ¬ (hi.toList = [])) (h0 : ¬ (sp = 0)) (h1 : ¬ (sp = 1)) (h2 : ¬ (sp < 2)) (h3 : ¬ (7 < sp)) :
    Calls Tryd.prog 36 #[.agg #[.int .i64 sp, .string tb, .string lo, .string hi, .bool false]] w fun e w' => e = .returned (.bool (pl ⟨sp, tb, lo, hi, false⟩)) ∧ Below w.heap.size w w' := by
  simp only [pl, em, lb]
  go_enter Tryd.func36, Tryd.ntmps36
  go_wp2
  all_goals go_ret
  all_goals exact ⟨by first | (simp_all; done) | (simp_all; cases hi.toList <;> rfl) | (simp_all; omega), (Below.refl _ _).alloc (Nat.le_refl _) _⟩
set_option maxHeartbeats 4000000 in
theorem rp0fyny {tb lo hi : ByteArray} (w : World) (ht : tb.toList = []) (hl : ¬ (lo.toList = [])) (hh : hi.toList = []) :
    Calls Tryd.prog 36 #[.agg #[.int .i64 0, .string tb, .string lo, .string hi, .bool false]] w fun e w' => e = .returned (.bool (pl ⟨0, tb, lo, hi, false⟩)) ∧ Below w.heap.size w w' := by
  simp only [pl, em, lb]
  go_enter Tryd.func36, Tryd.ntmps36
  go_wp2
  all_goals go_ret
  all_goals exact ⟨by first | (simp_all; done) | (simp_all; cases hi.toList <;> rfl) | (simp_all; omega), (Below.refl _ _).alloc (Nat.le_refl _) _⟩
set_option maxHeartbeats 4000000 in
theorem rp1fyny {tb lo hi : ByteArray} (w : World) (ht : tb.toList = []) (hl : ¬ (lo.toList = [])) (hh : hi.toList = []) :
    Calls Tryd.prog 36 #[.agg #[.int .i64 1, .string tb, .string lo, .string hi, .bool false]] w fun e w' => e = .returned (.bool (pl ⟨1, tb, lo, hi, false⟩)) ∧ Below w.heap.size w w' := by
  simp only [pl, em, lb]
  go_enter Tryd.func36, Tryd.ntmps36
  go_wp2
  all_goals go_ret
  all_goals exact ⟨by first | (simp_all; done) | (simp_all; cases hi.toList <;> rfl) | (simp_all; omega), (Below.refl _ _).alloc (Nat.le_refl _) _⟩
set_option maxHeartbeats 4000000 in
theorem rplfyny {tb lo hi : ByteArray} {sp : Int} (w : World) (ht : tb.toList = []) (hl : ¬ (lo.toList = [])) (hh : hi.toList = []) (h0 : ¬ (sp = 0)) (h1 : ¬ (sp = 1)) (h2 : sp < 2) :
    Calls Tryd.prog 36 #[.agg #[.int .i64 sp, .string tb, .string lo, .string hi, .bool false]] w fun e w' => e = .returned (.bool (pl ⟨sp, tb, lo, hi, false⟩)) ∧ Below w.heap.size w w' := by
  simp only [pl, em, lb]
  go_enter Tryd.func36, Tryd.ntmps36
  go_wp2
  all_goals go_ret
  all_goals exact ⟨by first | (simp_all; done) | (simp_all; cases hi.toList <;> rfl) | (simp_all; omega), (Below.refl _ _).alloc (Nat.le_refl _) _⟩
set_option maxHeartbeats 4000000 in
theorem rpgfyny {tb lo hi : ByteArray} {sp : Int} (w : World) (ht : tb.toList = []) (hl : ¬ (lo.toList = [])) (hh : hi.toList = []) (h0 : ¬ (sp = 0)) (h1 : ¬ (sp = 1)) (h2 : ¬ (sp < 2)) (h3 : 7 < sp) :
    Calls Tryd.prog 36 #[.agg #[.int .i64 sp, .string tb, .string lo, .string hi, .bool false]] w fun e w' => e = .returned (.bool (pl ⟨sp, tb, lo, hi, false⟩)) ∧ Below w.heap.size w w' := by
  simp only [pl, em, lb]
  go_enter Tryd.func36, Tryd.ntmps36
  go_wp2
  all_goals go_ret
  all_goals exact ⟨by first | (simp_all; done) | (simp_all; cases hi.toList <;> rfl) | (simp_all; omega), (Below.refl _ _).alloc (Nat.le_refl _) _⟩
set_option maxHeartbeats 4000000 in
theorem rpifyny {tb lo hi : ByteArray} {sp : Int} (w : World) (ht : tb.toList = []) (hl : ¬ (lo.toList = [])) (hh : hi.toList = []) (h0 : ¬ (sp = 0)) (h1 : ¬ (sp = 1)) (h2 : ¬ (sp < 2)) (h3 : ¬ (7 < sp)) :
    Calls Tryd.prog 36 #[.agg #[.int .i64 sp, .string tb, .string lo, .string hi, .bool false]] w fun e w' => e = .returned (.bool (pl ⟨sp, tb, lo, hi, false⟩)) ∧ Below w.heap.size w w' := by
  simp only [pl, em, lb]
  go_enter Tryd.func36, Tryd.ntmps36
  go_wp2
  all_goals go_ret
  all_goals exact ⟨by first | (simp_all; done) | (simp_all; cases hi.toList <;> rfl) | (simp_all; omega), (Below.refl _ _).alloc (Nat.le_refl _) _⟩
set_option maxHeartbeats 4000000 in
theorem rp0fynn {tb lo hi : ByteArray} (w : World) (ht : tb.toList = []) (hl : ¬ (lo.toList = [])) (hh : ¬ (hi.toList = [])) :
    Calls Tryd.prog 36 #[.agg #[.int .i64 0, .string tb, .string lo, .string hi, .bool false]] w fun e w' => e = .returned (.bool (pl ⟨0, tb, lo, hi, false⟩)) ∧ Below w.heap.size w w' := by
  simp only [pl, em, lb]
  go_enter Tryd.func36, Tryd.ntmps36
  go_wp2
  all_goals go_ret
  all_goals exact ⟨by first | (simp_all; done) | (simp_all; cases hi.toList <;> rfl) | (simp_all; omega), (Below.refl _ _).alloc (Nat.le_refl _) _⟩
set_option maxHeartbeats 4000000 in
theorem rp1fynn {tb lo hi : ByteArray} (w : World) (ht : tb.toList = []) (hl : ¬ (lo.toList = [])) (hh : ¬ (hi.toList = [])) :
    Calls Tryd.prog 36 #[.agg #[.int .i64 1, .string tb, .string lo, .string hi, .bool false]] w fun e w' => e = .returned (.bool (pl ⟨1, tb, lo, hi, false⟩)) ∧ Below w.heap.size w w' := by
  simp only [pl, em, lb]
  go_enter Tryd.func36, Tryd.ntmps36
  go_wp2
  all_goals go_ret
  all_goals exact ⟨by first | (simp_all; done) | (simp_all; cases hi.toList <;> rfl) | (simp_all; omega), (Below.refl _ _).alloc (Nat.le_refl _) _⟩
set_option maxHeartbeats 4000000 in
theorem rplfynn {tb lo hi : ByteArray} {sp : Int} (w : World) (ht : tb.toList = []) (hl : ¬ (lo.toList = [])) (hh : ¬ (hi.toList = [])) (h0 : ¬ (sp = 0)) (h1 : ¬ (sp = 1)) (h2 : sp < 2) :
    Calls Tryd.prog 36 #[.agg #[.int .i64 sp, .string tb, .string lo, .string hi, .bool false]] w fun e w' => e = .returned (.bool (pl ⟨sp, tb, lo, hi, false⟩)) ∧ Below w.heap.size w w' := by
  simp only [pl, em, lb]
  go_enter Tryd.func36, Tryd.ntmps36
  go_wp2
  all_goals go_ret
  all_goals exact ⟨by first | (simp_all; done) | (simp_all; cases hi.toList <;> rfl) | (simp_all; omega), (Below.refl _ _).alloc (Nat.le_refl _) _⟩
set_option maxHeartbeats 4000000 in
theorem rpgfynn {tb lo hi : ByteArray} {sp : Int} (w : World) (ht : tb.toList = []) (hl : ¬ (lo.toList = [])) (hh : ¬ (hi.toList = [])) (h0 : ¬ (sp = 0)) (h1 : ¬ (sp = 1)) (h2 : ¬ (sp < 2)) (h3 : 7 < sp) :
    Calls Tryd.prog 36 #[.agg #[.int .i64 sp, .string tb, .string lo, .string hi, .bool false]] w fun e w' => e = .returned (.bool (pl ⟨sp, tb, lo, hi, false⟩)) ∧ Below w.heap.size w w' := by
  simp only [pl, em, lb]
  go_enter Tryd.func36, Tryd.ntmps36
  go_wp2
  all_goals go_ret
  all_goals exact ⟨by first | (simp_all; done) | (simp_all; cases hi.toList <;> rfl) | (simp_all; omega), (Below.refl _ _).alloc (Nat.le_refl _) _⟩
set_option maxHeartbeats 4000000 in
theorem rpifynn {tb lo hi : ByteArray} {sp : Int} (w : World) (ht : tb.toList = []) (hl : ¬ (lo.toList = [])) (hh : ¬ (hi.toList = [])) (h0 : ¬ (sp = 0)) (h1 : ¬ (sp = 1)) (h2 : ¬ (sp < 2)) (h3 : ¬ (7 < sp)) :
    Calls Tryd.prog 36 #[.agg #[.int .i64 sp, .string tb, .string lo, .string hi, .bool false]] w fun e w' => e = .returned (.bool (pl ⟨sp, tb, lo, hi, false⟩)) ∧ Below w.heap.size w w' := by
  simp only [pl, em, lb]
  go_enter Tryd.func36, Tryd.ntmps36
  go_wp2
  all_goals go_ret
  all_goals exact ⟨by first | (simp_all; done) | (simp_all; cases hi.toList <;> rfl) | (simp_all; omega), (Below.refl _ _).alloc (Nat.le_refl _) _⟩
set_option maxHeartbeats 4000000 in
theorem rp0fnyy {tb lo hi : ByteArray} (w : World) (ht : ¬ (tb.toList = [])) (hl : lo.toList = []) (hh : hi.toList = []) :
    Calls Tryd.prog 36 #[.agg #[.int .i64 0, .string tb, .string lo, .string hi, .bool false]] w fun e w' => e = .returned (.bool (pl ⟨0, tb, lo, hi, false⟩)) ∧ Below w.heap.size w w' := by
  simp only [pl, em, lb]
  go_enter Tryd.func36, Tryd.ntmps36
  go_wp2
  all_goals go_ret
  all_goals exact ⟨by first | (simp_all; done) | (simp_all; cases hi.toList <;> rfl) | (simp_all; omega), (Below.refl _ _).alloc (Nat.le_refl _) _⟩
set_option maxHeartbeats 4000000 in
theorem rp1fnyy {tb lo hi : ByteArray} (w : World) (ht : ¬ (tb.toList = [])) (hl : lo.toList = []) (hh : hi.toList = []) :
    Calls Tryd.prog 36 #[.agg #[.int .i64 1, .string tb, .string lo, .string hi, .bool false]] w fun e w' => e = .returned (.bool (pl ⟨1, tb, lo, hi, false⟩)) ∧ Below w.heap.size w w' := by
  simp only [pl, em, lb]
  go_enter Tryd.func36, Tryd.ntmps36
  go_wp2
  all_goals go_ret
  all_goals exact ⟨by first | (simp_all; done) | (simp_all; cases hi.toList <;> rfl) | (simp_all; omega), (Below.refl _ _).alloc (Nat.le_refl _) _⟩
set_option maxHeartbeats 4000000 in
theorem rplfnyy {tb lo hi : ByteArray} {sp : Int} (w : World) (ht : ¬ (tb.toList = [])) (hl : lo.toList = []) (hh : hi.toList = []) (h0 : ¬ (sp = 0)) (h1 : ¬ (sp = 1)) (h2 : sp < 2) :
    Calls Tryd.prog 36 #[.agg #[.int .i64 sp, .string tb, .string lo, .string hi, .bool false]] w fun e w' => e = .returned (.bool (pl ⟨sp, tb, lo, hi, false⟩)) ∧ Below w.heap.size w w' := by
  simp only [pl, em, lb]
  go_enter Tryd.func36, Tryd.ntmps36
  go_wp2
  all_goals go_ret
  all_goals exact ⟨by first | (simp_all; done) | (simp_all; cases hi.toList <;> rfl) | (simp_all; omega), (Below.refl _ _).alloc (Nat.le_refl _) _⟩
set_option maxHeartbeats 4000000 in
theorem rpgfnyy {tb lo hi : ByteArray} {sp : Int} (w : World) (ht : ¬ (tb.toList = [])) (hl : lo.toList = []) (hh : hi.toList = []) (h0 : ¬ (sp = 0)) (h1 : ¬ (sp = 1)) (h2 : ¬ (sp < 2)) (h3 : 7 < sp) :
    Calls Tryd.prog 36 #[.agg #[.int .i64 sp, .string tb, .string lo, .string hi, .bool false]] w fun e w' => e = .returned (.bool (pl ⟨sp, tb, lo, hi, false⟩)) ∧ Below w.heap.size w w' := by
  simp only [pl, em, lb]
  go_enter Tryd.func36, Tryd.ntmps36
  go_wp2
  all_goals go_ret
  all_goals exact ⟨by first | (simp_all; done) | (simp_all; cases hi.toList <;> rfl) | (simp_all; omega), (Below.refl _ _).alloc (Nat.le_refl _) _⟩
set_option maxHeartbeats 4000000 in
theorem rpifnyy {tb lo hi : ByteArray} {sp : Int} (w : World) (ht : ¬ (tb.toList = [])) (hl : lo.toList = []) (hh : hi.toList = []) (h0 : ¬ (sp = 0)) (h1 : ¬ (sp = 1)) (h2 : ¬ (sp < 2)) (h3 : ¬ (7 < sp)) :
    Calls Tryd.prog 36 #[.agg #[.int .i64 sp, .string tb, .string lo, .string hi, .bool false]] w fun e w' => e = .returned (.bool (pl ⟨sp, tb, lo, hi, false⟩)) ∧ Below w.heap.size w w' := by
  simp only [pl, em, lb]
  go_enter Tryd.func36, Tryd.ntmps36
  go_wp2
  all_goals go_ret
  all_goals exact ⟨by first | (simp_all; done) | (simp_all; cases hi.toList <;> rfl) | (simp_all; simp only [show decide (sp < 2) = false from decide_eq_false (by omega), show decide (7 < sp) = false from decide_eq_false (by omega), show tb.toList.isEmpty = false from by simpa using ht]; done) | (simp_all; simp only [show decide (sp < 2) = false from decide_eq_false (by omega), show decide (7 < sp) = false from decide_eq_false (by omega), show tb.toList.isEmpty = false from by simpa using ht]; first | rfl | simp), (Below.refl _ _).alloc (Nat.le_refl _) _⟩
set_option maxHeartbeats 4000000 in
theorem rp0fnyn {tb lo hi : ByteArray} (w : World) (ht : ¬ (tb.toList = [])) (hl : lo.toList = []) (hh : ¬ (hi.toList = [])) :
    Calls Tryd.prog 36 #[.agg #[.int .i64 0, .string tb, .string lo, .string hi, .bool false]] w fun e w' => e = .returned (.bool (pl ⟨0, tb, lo, hi, false⟩)) ∧ Below w.heap.size w w' := by
  simp only [pl, em, lb]
  go_enter Tryd.func36, Tryd.ntmps36
  go_wp2
  all_goals go_ret
  all_goals exact ⟨by first | (simp_all; done) | (simp_all; cases hi.toList <;> rfl) | (simp_all; omega), (Below.refl _ _).alloc (Nat.le_refl _) _⟩
set_option maxHeartbeats 4000000 in
theorem rp1fnyn {tb lo hi : ByteArray} (w : World) (ht : ¬ (tb.toList = [])) (hl : lo.toList = []) (hh : ¬ (hi.toList = [])) :
    Calls Tryd.prog 36 #[.agg #[.int .i64 1, .string tb, .string lo, .string hi, .bool false]] w fun e w' => e = .returned (.bool (pl ⟨1, tb, lo, hi, false⟩)) ∧ Below w.heap.size w w' := by
  simp only [pl, em, lb]
  go_enter Tryd.func36, Tryd.ntmps36
  go_wp2
  all_goals go_ret
  all_goals exact ⟨by first | (simp_all; done) | (simp_all; cases hi.toList <;> rfl) | (simp_all; omega), (Below.refl _ _).alloc (Nat.le_refl _) _⟩
set_option maxHeartbeats 4000000 in
theorem rplfnyn {tb lo hi : ByteArray} {sp : Int} (w : World) (ht : ¬ (tb.toList = [])) (hl : lo.toList = []) (hh : ¬ (hi.toList = [])) (h0 : ¬ (sp = 0)) (h1 : ¬ (sp = 1)) (h2 : sp < 2) :
    Calls Tryd.prog 36 #[.agg #[.int .i64 sp, .string tb, .string lo, .string hi, .bool false]] w fun e w' => e = .returned (.bool (pl ⟨sp, tb, lo, hi, false⟩)) ∧ Below w.heap.size w w' := by
  simp only [pl, em, lb]
  go_enter Tryd.func36, Tryd.ntmps36
  go_wp2
  all_goals go_ret
  all_goals exact ⟨by first | (simp_all; done) | (simp_all; cases hi.toList <;> rfl) | (simp_all; omega), (Below.refl _ _).alloc (Nat.le_refl _) _⟩
set_option maxHeartbeats 4000000 in
theorem rpgfnyn {tb lo hi : ByteArray} {sp : Int} (w : World) (ht : ¬ (tb.toList = [])) (hl : lo.toList = []) (hh : ¬ (hi.toList = [])) (h0 : ¬ (sp = 0)) (h1 : ¬ (sp = 1)) (h2 : ¬ (sp < 2)) (h3 : 7 < sp) :
    Calls Tryd.prog 36 #[.agg #[.int .i64 sp, .string tb, .string lo, .string hi, .bool false]] w fun e w' => e = .returned (.bool (pl ⟨sp, tb, lo, hi, false⟩)) ∧ Below w.heap.size w w' := by
  simp only [pl, em, lb]
  go_enter Tryd.func36, Tryd.ntmps36
  go_wp2
  all_goals go_ret
  all_goals exact ⟨by first | (simp_all; done) | (simp_all; cases hi.toList <;> rfl) | (simp_all; omega), (Below.refl _ _).alloc (Nat.le_refl _) _⟩
set_option maxHeartbeats 4000000 in
theorem rpifnyn {tb lo hi : ByteArray} {sp : Int} (w : World) (ht : ¬ (tb.toList = [])) (hl : lo.toList = []) (hh : ¬ (hi.toList = [])) (h0 : ¬ (sp = 0)) (h1 : ¬ (sp = 1)) (h2 : ¬ (sp < 2)) (h3 : ¬ (7 < sp)) :
    Calls Tryd.prog 36 #[.agg #[.int .i64 sp, .string tb, .string lo, .string hi, .bool false]] w fun e w' => e = .returned (.bool (pl ⟨sp, tb, lo, hi, false⟩)) ∧ Below w.heap.size w w' := by
  simp only [pl, em, lb]
  go_enter Tryd.func36, Tryd.ntmps36
  go_wp2
  all_goals go_ret
  all_goals exact ⟨by first | (simp_all; done) | (simp_all; cases hi.toList <;> rfl) | (simp_all; simp only [show decide (sp < 2) = false from decide_eq_false (by omega), show decide (7 < sp) = false from decide_eq_false (by omega), show tb.toList.isEmpty = false from by simpa using ht]; done) | (simp_all; simp only [show decide (sp < 2) = false from decide_eq_false (by omega), show decide (7 < sp) = false from decide_eq_false (by omega), show tb.toList.isEmpty = false from by simpa using ht]; first | rfl | simp), (Below.refl _ _).alloc (Nat.le_refl _) _⟩
set_option maxHeartbeats 4000000 in
theorem rp0fnny {tb lo hi : ByteArray} (w : World) (ht : ¬ (tb.toList = [])) (hl : ¬ (lo.toList = [])) (hh : hi.toList = []) :
    Calls Tryd.prog 36 #[.agg #[.int .i64 0, .string tb, .string lo, .string hi, .bool false]] w fun e w' => e = .returned (.bool (pl ⟨0, tb, lo, hi, false⟩)) ∧ Below w.heap.size w w' := by
  simp only [pl, em, lb]
  go_enter Tryd.func36, Tryd.ntmps36
  go_wp2
  all_goals go_ret
  all_goals exact ⟨by first | (simp_all; done) | (simp_all; cases hi.toList <;> rfl) | (simp_all; omega), (Below.refl _ _).alloc (Nat.le_refl _) _⟩
set_option maxHeartbeats 4000000 in
theorem rp1fnny {tb lo hi : ByteArray} (w : World) (ht : ¬ (tb.toList = [])) (hl : ¬ (lo.toList = [])) (hh : hi.toList = []) :
    Calls Tryd.prog 36 #[.agg #[.int .i64 1, .string tb, .string lo, .string hi, .bool false]] w fun e w' => e = .returned (.bool (pl ⟨1, tb, lo, hi, false⟩)) ∧ Below w.heap.size w w' := by
  simp only [pl, em, lb]
  go_enter Tryd.func36, Tryd.ntmps36
  go_wp2
  all_goals go_ret
  all_goals exact ⟨by first | (simp_all; done) | (simp_all; cases hi.toList <;> rfl) | (simp_all; omega), (Below.refl _ _).alloc (Nat.le_refl _) _⟩
set_option maxHeartbeats 4000000 in
theorem rplfnny {tb lo hi : ByteArray} {sp : Int} (w : World) (ht : ¬ (tb.toList = [])) (hl : ¬ (lo.toList = [])) (hh : hi.toList = []) (h0 : ¬ (sp = 0)) (h1 : ¬ (sp = 1)) (h2 : sp < 2) :
    Calls Tryd.prog 36 #[.agg #[.int .i64 sp, .string tb, .string lo, .string hi, .bool false]] w fun e w' => e = .returned (.bool (pl ⟨sp, tb, lo, hi, false⟩)) ∧ Below w.heap.size w w' := by
  simp only [pl, em, lb]
  go_enter Tryd.func36, Tryd.ntmps36
  go_wp2
  all_goals go_ret
  all_goals exact ⟨by first | (simp_all; done) | (simp_all; cases hi.toList <;> rfl) | (simp_all; omega), (Below.refl _ _).alloc (Nat.le_refl _) _⟩
set_option maxHeartbeats 4000000 in
theorem rpgfnny {tb lo hi : ByteArray} {sp : Int} (w : World) (ht : ¬ (tb.toList = [])) (hl : ¬ (lo.toList = [])) (hh : hi.toList = []) (h0 : ¬ (sp = 0)) (h1 : ¬ (sp = 1)) (h2 : ¬ (sp < 2)) (h3 : 7 < sp) :
    Calls Tryd.prog 36 #[.agg #[.int .i64 sp, .string tb, .string lo, .string hi, .bool false]] w fun e w' => e = .returned (.bool (pl ⟨sp, tb, lo, hi, false⟩)) ∧ Below w.heap.size w w' := by
  simp only [pl, em, lb]
  go_enter Tryd.func36, Tryd.ntmps36
  go_wp2
  all_goals go_ret
  all_goals exact ⟨by first | (simp_all; done) | (simp_all; cases hi.toList <;> rfl) | (simp_all; omega), (Below.refl _ _).alloc (Nat.le_refl _) _⟩
set_option maxHeartbeats 4000000 in
theorem rpifnny {tb lo hi : ByteArray} {sp : Int} (w : World) (ht : ¬ (tb.toList = [])) (hl : ¬ (lo.toList = [])) (hh : hi.toList = []) (h0 : ¬ (sp = 0)) (h1 : ¬ (sp = 1)) (h2 : ¬ (sp < 2)) (h3 : ¬ (7 < sp)) :
    Calls Tryd.prog 36 #[.agg #[.int .i64 sp, .string tb, .string lo, .string hi, .bool false]] w fun e w' => e = .returned (.bool (pl ⟨sp, tb, lo, hi, false⟩)) ∧ Below w.heap.size w w' := by
  simp only [pl, em, lb]
  go_enter Tryd.func36, Tryd.ntmps36
  go_wp2
  all_goals go_ret
  all_goals exact ⟨by first | (simp_all; done) | (simp_all; cases hi.toList <;> rfl) | (simp_all; simp only [show decide (sp < 2) = false from decide_eq_false (by omega), show decide (7 < sp) = false from decide_eq_false (by omega), show tb.toList.isEmpty = false from by simpa using ht]; done) | (simp_all; simp only [show decide (sp < 2) = false from decide_eq_false (by omega), show decide (7 < sp) = false from decide_eq_false (by omega), show tb.toList.isEmpty = false from by simpa using ht]; first | rfl | simp), (Below.refl _ _).alloc (Nat.le_refl _) _⟩
set_option maxHeartbeats 4000000 in
theorem rp0fnnn {tb lo hi : ByteArray} (w : World) (ht : ¬ (tb.toList = [])) (hl : ¬ (lo.toList = [])) (hh : ¬ (hi.toList = [])) :
    Calls Tryd.prog 36 #[.agg #[.int .i64 0, .string tb, .string lo, .string hi, .bool false]] w fun e w' => e = .returned (.bool (pl ⟨0, tb, lo, hi, false⟩)) ∧ Below w.heap.size w w' := by
  simp only [pl, em, lb]
  go_enter Tryd.func36, Tryd.ntmps36
  go_wp2
  all_goals go_ret
  all_goals exact ⟨by first | (simp_all; done) | (simp_all; cases hi.toList <;> rfl) | (simp_all; omega), (Below.refl _ _).alloc (Nat.le_refl _) _⟩
set_option maxHeartbeats 4000000 in
theorem rp1fnnn {tb lo hi : ByteArray} (w : World) (ht : ¬ (tb.toList = [])) (hl : ¬ (lo.toList = [])) (hh : ¬ (hi.toList = [])) :
    Calls Tryd.prog 36 #[.agg #[.int .i64 1, .string tb, .string lo, .string hi, .bool false]] w fun e w' => e = .returned (.bool (pl ⟨1, tb, lo, hi, false⟩)) ∧ Below w.heap.size w w' := by
  simp only [pl, em, lb]
  go_enter Tryd.func36, Tryd.ntmps36
  go_wp2
  all_goals go_ret
  all_goals exact ⟨by first | (simp_all; done) | (simp_all; cases hi.toList <;> rfl) | (simp_all; omega), (Below.refl _ _).alloc (Nat.le_refl _) _⟩
set_option maxHeartbeats 4000000 in
theorem rplfnnn {tb lo hi : ByteArray} {sp : Int} (w : World) (ht : ¬ (tb.toList = [])) (hl : ¬ (lo.toList = [])) (hh : ¬ (hi.toList = [])) (h0 : ¬ (sp = 0)) (h1 : ¬ (sp = 1)) (h2 : sp < 2) :
    Calls Tryd.prog 36 #[.agg #[.int .i64 sp, .string tb, .string lo, .string hi, .bool false]] w fun e w' => e = .returned (.bool (pl ⟨sp, tb, lo, hi, false⟩)) ∧ Below w.heap.size w w' := by
  simp only [pl, em, lb]
  go_enter Tryd.func36, Tryd.ntmps36
  go_wp2
  all_goals go_ret
  all_goals exact ⟨by first | (simp_all; done) | (simp_all; cases hi.toList <;> rfl) | (simp_all; omega), (Below.refl _ _).alloc (Nat.le_refl _) _⟩
set_option maxHeartbeats 4000000 in
theorem rpgfnnn {tb lo hi : ByteArray} {sp : Int} (w : World) (ht : ¬ (tb.toList = [])) (hl : ¬ (lo.toList = [])) (hh : ¬ (hi.toList = [])) (h0 : ¬ (sp = 0)) (h1 : ¬ (sp = 1)) (h2 : ¬ (sp < 2)) (h3 : 7 < sp) :
    Calls Tryd.prog 36 #[.agg #[.int .i64 sp, .string tb, .string lo, .string hi, .bool false]] w fun e w' => e = .returned (.bool (pl ⟨sp, tb, lo, hi, false⟩)) ∧ Below w.heap.size w w' := by
  simp only [pl, em, lb]
  go_enter Tryd.func36, Tryd.ntmps36
  go_wp2
  all_goals go_ret
  all_goals exact ⟨by first | (simp_all; done) | (simp_all; cases hi.toList <;> rfl) | (simp_all; omega), (Below.refl _ _).alloc (Nat.le_refl _) _⟩
set_option maxHeartbeats 4000000 in
theorem rpifnnn {tb lo hi : ByteArray} {sp : Int} (w : World) (ht : ¬ (tb.toList = [])) (hl : ¬ (lo.toList = [])) (hh : ¬ (hi.toList = [])) (h0 : ¬ (sp = 0)) (h1 : ¬ (sp = 1)) (h2 : ¬ (sp < 2)) (h3 : ¬ (7 < sp)) :
    Calls Tryd.prog 36 #[.agg #[.int .i64 sp, .string tb, .string lo, .string hi, .bool false]] w fun e w' => e = .returned (.bool (pl ⟨sp, tb, lo, hi, false⟩)) ∧ Below w.heap.size w w' := by
  simp only [pl, em, lb]
  go_enter Tryd.func36, Tryd.ntmps36
  go_wp2
  all_goals go_ret
  all_goals exact ⟨by first | (simp_all; done) | (simp_all; cases hi.toList <;> rfl) | (simp_all; simp only [show decide (sp < 2) = false from decide_eq_false (by omega), show decide (7 < sp) = false from decide_eq_false (by omega), show tb.toList.isEmpty = false from by simpa using ht]; done) | (simp_all; simp only [show decide (sp < 2) = false from decide_eq_false (by omega), show decide (7 < sp) = false from decide_eq_false (by omega), show tb.toList.isEmpty = false from by simpa using ht]; first | rfl | simp), (Below.refl _ _).alloc (Nat.le_refl _) _⟩
theorem rplace_any (o : Ob) (w : World) :
    Calls Tryd.prog 36 #[o.v] w fun e w' => e = .returned (.bool (pl o)) ∧ Below w.heap.size w w' := by
  obtain ⟨sp, tb, lo, hi, en⟩ := o
  by_cases h0 : sp = 0
  · subst h0
    cases en <;> by_cases ht : tb.toList = [] <;> by_cases hl : lo.toList = [] <;> by_cases hh : hi.toList = []
    · exact rp0fyyy w ht hl hh
    · exact rp0fyyn w ht hl hh
    · exact rp0fyny w ht hl hh
    · exact rp0fynn w ht hl hh
    · exact rp0fnyy w ht hl hh
    · exact rp0fnyn w ht hl hh
    · exact rp0fnny w ht hl hh
    · exact rp0fnnn w ht hl hh
    · exact rp0tyyy w ht hl hh
    · exact rp0tyyn w ht hl hh
    · exact rp0tyny w ht hl hh
    · exact rp0tynn w ht hl hh
    · exact rp0tnyy w ht hl hh
    · exact rp0tnyn w ht hl hh
    · exact rp0tnny w ht hl hh
    · exact rp0tnnn w ht hl hh
  · by_cases h1 : sp = 1
    · subst h1
      cases en <;> by_cases ht : tb.toList = [] <;> by_cases hl : lo.toList = [] <;> by_cases hh : hi.toList = []
      · exact rp1fyyy w ht hl hh
      · exact rp1fyyn w ht hl hh
      · exact rp1fyny w ht hl hh
      · exact rp1fynn w ht hl hh
      · exact rp1fnyy w ht hl hh
      · exact rp1fnyn w ht hl hh
      · exact rp1fnny w ht hl hh
      · exact rp1fnnn w ht hl hh
      · exact rp1tyyy w ht hl hh
      · exact rp1tyyn w ht hl hh
      · exact rp1tyny w ht hl hh
      · exact rp1tynn w ht hl hh
      · exact rp1tnyy w ht hl hh
      · exact rp1tnyn w ht hl hh
      · exact rp1tnny w ht hl hh
      · exact rp1tnnn w ht hl hh
    · by_cases h2 : sp < 2
      · cases en <;> by_cases ht : tb.toList = [] <;> by_cases hl : lo.toList = [] <;> by_cases hh : hi.toList = []
        · exact rplfyyy w ht hl hh h0 h1 h2
        · exact rplfyyn w ht hl hh h0 h1 h2
        · exact rplfyny w ht hl hh h0 h1 h2
        · exact rplfynn w ht hl hh h0 h1 h2
        · exact rplfnyy w ht hl hh h0 h1 h2
        · exact rplfnyn w ht hl hh h0 h1 h2
        · exact rplfnny w ht hl hh h0 h1 h2
        · exact rplfnnn w ht hl hh h0 h1 h2
        · exact rpltyyy w ht hl hh h0 h1 h2
        · exact rpltyyn w ht hl hh h0 h1 h2
        · exact rpltyny w ht hl hh h0 h1 h2
        · exact rpltynn w ht hl hh h0 h1 h2
        · exact rpltnyy w ht hl hh h0 h1 h2
        · exact rpltnyn w ht hl hh h0 h1 h2
        · exact rpltnny w ht hl hh h0 h1 h2
        · exact rpltnnn w ht hl hh h0 h1 h2
      · by_cases h3 : 7 < sp
        · cases en <;> by_cases ht : tb.toList = [] <;> by_cases hl : lo.toList = [] <;> by_cases hh : hi.toList = []
          · exact rpgfyyy w ht hl hh h0 h1 h2 h3
          · exact rpgfyyn w ht hl hh h0 h1 h2 h3
          · exact rpgfyny w ht hl hh h0 h1 h2 h3
          · exact rpgfynn w ht hl hh h0 h1 h2 h3
          · exact rpgfnyy w ht hl hh h0 h1 h2 h3
          · exact rpgfnyn w ht hl hh h0 h1 h2 h3
          · exact rpgfnny w ht hl hh h0 h1 h2 h3
          · exact rpgfnnn w ht hl hh h0 h1 h2 h3
          · exact rpgtyyy w ht hl hh h0 h1 h2 h3
          · exact rpgtyyn w ht hl hh h0 h1 h2 h3
          · exact rpgtyny w ht hl hh h0 h1 h2 h3
          · exact rpgtynn w ht hl hh h0 h1 h2 h3
          · exact rpgtnyy w ht hl hh h0 h1 h2 h3
          · exact rpgtnyn w ht hl hh h0 h1 h2 h3
          · exact rpgtnny w ht hl hh h0 h1 h2 h3
          · exact rpgtnnn w ht hl hh h0 h1 h2 h3
        · cases en <;> by_cases ht : tb.toList = [] <;> by_cases hl : lo.toList = [] <;> by_cases hh : hi.toList = []
          · exact rpifyyy w ht hl hh h0 h1 h2 h3
          · exact rpifyyn w ht hl hh h0 h1 h2 h3
          · exact rpifyny w ht hl hh h0 h1 h2 h3
          · exact rpifynn w ht hl hh h0 h1 h2 h3
          · exact rpifnyy w ht hl hh h0 h1 h2 h3
          · exact rpifnyn w ht hl hh h0 h1 h2 h3
          · exact rpifnny w ht hl hh h0 h1 h2 h3
          · exact rpifnnn w ht hl hh h0 h1 h2 h3
          · exact rpityyy w ht hl hh h0 h1 h2 h3
          · exact rpityyn w ht hl hh h0 h1 h2 h3
          · exact rpityny w ht hl hh h0 h1 h2 h3
          · exact rpitynn w ht hl hh h0 h1 h2 h3
          · exact rpitnyy w ht hl hh h0 h1 h2 h3
          · exact rpitnyn w ht hl hh h0 h1 h2 h3
          · exact rpitnny w ht hl hh h0 h1 h2 h3
          · exact rpitnnn w ht hl hh h0 h1 h2 h3
end Go.Proofs.YtmldpbgdjlblmaaDoor

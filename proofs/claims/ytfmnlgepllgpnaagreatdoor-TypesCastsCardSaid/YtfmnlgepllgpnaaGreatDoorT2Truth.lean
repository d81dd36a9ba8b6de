/- The walk of readTruth: a text as a truth value. -/
import Derived.Test.YtfmnlgepllgpnaaGreatDoorT2Read
import Derived.Lib.Small
namespace Go.Proofs.YtfmnlgepllgpnaaGreatDoor
open Go.RowKit
set_option linter.unusedVariables false

theorem fmt_false : (⟨(Lib.formatBool false).toArray⟩ : ByteArray) = ⟨#[102, 97, 108, 115, 101]⟩ := by decide +kernel
theorem fmt_true : (⟨(Lib.formatBool true).toArray⟩ : ByteArray) = ⟨#[116, 114, 117, 101]⟩ := by decide +kernel
theorem fbool_false (w : World) : Calls Tryz.prog 14 #[.bool false] w fun e w' => e = .returned (.string ⟨#[102, 97, 108, 115, 101]⟩) ∧ w' = w := by
  have := Tryz.strconv_FormatBool false w
  rw [fmt_false] at this
  exact this
theorem fbool_true (w : World) : Calls Tryz.prog 14 #[.bool true] w fun e w' => e = .returned (.string ⟨#[116, 114, 117, 101]⟩) ∧ w' = w := by
  have := Tryz.strconv_FormatBool true w
  rw [fmt_true] at this
  exact this
def isF (l : List UInt8) : Bool := foldL l == [102, 97, 108, 115, 101]
def isT (l : List UInt8) : Bool := foldL l == [116, 114, 117, 101]
theorem same_f (s : ByteArray) (w : World) (hs : s.size ≤ maxLen) {r : Bool} (h : isF s.data.toList = r) :
    Calls Tryz.prog 50 #[.string s, .string ⟨#[102, 97, 108, 115, 101]⟩] w fun e w' => e = .returned (.bool r) ∧ Below w.heap.size w w' := by
  subst h
  exact tsame_full s _ w hs
theorem same_t (s : ByteArray) (w : World) (hs : s.size ≤ maxLen) {r : Bool} (h : isT s.data.toList = r) :
    Calls Tryz.prog 50 #[.string s, .string ⟨#[116, 114, 117, 101]⟩] w fun e w' => e = .returned (.bool r) ∧ Below w.heap.size w w' := by
  subst h
  exact tsame_full s _ w hs
/-- The one box of a call that gives a value: the result's. -/
structure Solo (w W : World) : Prop where
  e0 : W.cell? ⟨w.heap.size, 0, none⟩ = some (.int .i64 0)
  e1 : W.cell? ⟨w.heap.size, 1, none⟩ = some (.int .i64 0)
  e2 : W.cell? ⟨w.heap.size, 2, none⟩ = some (.string ⟨#[]⟩)
  e3 : W.cell? ⟨w.heap.size, 3, none⟩ = some (.bool false)
  f0 : W.frozen? ⟨w.heap.size, 0, none⟩ = false
  f1 : W.frozen? ⟨w.heap.size, 1, none⟩ = false
  f2 : W.frozen? ⟨w.heap.size, 2, none⟩ = false
  f3 : W.frozen? ⟨w.heap.size, 3, none⟩ = false
  lt : w.heap.size < W.heap.size
  below : Below w.heap.size w W
theorem frozen_keep1 {W w' : World} (hb : Below W.heap.size W w') {b o : Nat} {v : Bool} (hl : b < W.heap.size) (h : W.frozen? ⟨b, o, none⟩ = v) : w'.frozen? ⟨b, o, none⟩ = v :=
  (hb.frozen (p := ⟨b, o, none⟩) hl).trans h
theorem Solo.keep {w W W' : World} (T : Solo w W) (hb : Below W.heap.size W W') : Solo w W' :=
  ⟨cell_keep hb T.e0, cell_keep hb T.e1, cell_keep hb T.e2, cell_keep hb T.e3, frozen_keep1 hb T.lt T.f0, frozen_keep1 hb T.lt T.f1, frozen_keep1 hb T.lt T.f2, frozen_keep1 hb T.lt T.f3, Nat.lt_of_lt_of_le T.lt hb.size, keepA T.below hb⟩
theorem quad_first {w W : World} {t : Nat} (hb : Below (w.alloc (.cells #[.int .i64 0, .int .i64 0, .string ⟨#[]⟩, .bool false] t)).heap.size (w.alloc (.cells #[.int .i64 0, .int .i64 0, .string ⟨#[]⟩, .bool false] t)) W) : Solo w W := by
  have n : Solo w (w.alloc (.cells #[.int .i64 0, .int .i64 0, .string ⟨#[]⟩, .bool false] t)) := by
    refine ⟨?_, ?_, ?_, ?_, ?_, ?_, ?_, ?_, ?_, below_alloc (Below.refl _ _) _⟩
    all_goals go_simp
  exact n.keep hb
theorem idxb0 (a b : Value) (w : World) : (Instr.index 76 (.agg #[a, b]) (.int .i64 0)).run Tryz.prog w = .ok a w := by kernel_rfl
theorem idxb1 (a b : Value) (w : World) : (Instr.index 76 (.agg #[a, b]) (.int .i64 1)).run Tryz.prog w = .ok b w := by kernel_rfl
set_option maxHeartbeats 2000000 in
set_option maxRecDepth 100000 in
theorem ttruth_f (s : ByteArray) (w : World) (hs : Hid (s.size ≤ maxLen)) (hf : Hid (isF s.data.toList = true)) :
    Calls Tryz.prog 17 #[.string s] w fun e w' => e = .returned (.tuple #[val 3 0 ⟨#[]⟩ false, .string sDone]) ∧ Below w.heap.size w w' := by
  have j0 := idxb0
  have j1 := idxb1
  go_enter Tryz.func17, Tryz.ntmps17
  go_wp2
  refine wp_loop_rounds 3 ?_
  rw [rounds_succ]
  go_wp2_with (first
    | (go_at_call_of 14 (Value.bool false); refine (fbool_false _).mono ?_; rintro e w' ⟨rfl, rfl⟩)
    | (go_at_call_of 14 (Value.bool true); refine (fbool_true _).mono ?_; rintro e w' ⟨rfl, rfl⟩)
    | (go_at_call_of 50 (Value.string ⟨#[102, 97, 108, 115, 101]⟩); refine (same_f s _ hs.out hf.out).mono ?_; rintro e w1 ⟨rfl, hb⟩; have k1 := quad_first hb; clear hb; obtain ⟨e0, e1, e2, e3, f0, f1, f2, f3, lt, h1⟩ := id k1)
    | (go_at_call_of 50 (Value.string ⟨#[116, 114, 117, 101]⟩); refine (same_t s _ hs.out ht.out).mono ?_; rintro e w2 ⟨rfl, hb⟩; have k2 := k1.keep hb; clear hb e0 e1 e2 e3 f0 f1 f2 f3 lt h1; obtain ⟨e0, e1, e2, e3, f0, f1, f2, f3, lt, h1⟩ := id k2))
  exact bodyPost_ret (v := .tuple #[val 3 0 ⟨#[]⟩ false, .string sDone]) (by simp [results, Tryz.results17, go_sem, *]) rfl ⟨rfl, (by repeat (first | exact Below.refl _ _ | assumption | refine Below.alloc ?_ (by first | (simp; done) | (simp; omega)) _ | refine Below.setCell ?_ (by first | (simp; done) | (simp; omega)) _ | refine Below.drew ?_ | refine below_drewN ?_ _))⟩
set_option maxHeartbeats 2000000 in
set_option maxRecDepth 100000 in
theorem ttruth_t (s : ByteArray) (w : World) (hs : Hid (s.size ≤ maxLen)) (hf : Hid (isF s.data.toList = false)) (ht : Hid (isT s.data.toList = true)) :
    Calls Tryz.prog 17 #[.string s] w fun e w' => e = .returned (.tuple #[val 3 0 ⟨#[]⟩ true, .string sDone]) ∧ Below w.heap.size w w' := by
  have j0 := idxb0
  have j1 := idxb1
  go_enter Tryz.func17, Tryz.ntmps17
  go_wp2
  refine wp_loop_rounds 3 ?_
  rw [rounds_succ]
  go_wp2_with (first
    | (go_at_call_of 14 (Value.bool false); refine (fbool_false _).mono ?_; rintro e w' ⟨rfl, rfl⟩)
    | (go_at_call_of 14 (Value.bool true); refine (fbool_true _).mono ?_; rintro e w' ⟨rfl, rfl⟩)
    | (go_at_call_of 50 (Value.string ⟨#[102, 97, 108, 115, 101]⟩); refine (same_f s _ hs.out hf.out).mono ?_; rintro e w1 ⟨rfl, hb⟩; have k1 := quad_first hb; clear hb; obtain ⟨e0, e1, e2, e3, f0, f1, f2, f3, lt, h1⟩ := id k1)
    | (go_at_call_of 50 (Value.string ⟨#[116, 114, 117, 101]⟩); refine (same_t s _ hs.out ht.out).mono ?_; rintro e w2 ⟨rfl, hb⟩; have k2 := k1.keep hb; clear hb e0 e1 e2 e3 f0 f1 f2 f3 lt h1; obtain ⟨e0, e1, e2, e3, f0, f1, f2, f3, lt, h1⟩ := id k2))
  rw [rounds_succ]
  go_wp2_with (first
    | (go_at_call_of 14 (Value.bool false); refine (fbool_false _).mono ?_; rintro e w' ⟨rfl, rfl⟩)
    | (go_at_call_of 14 (Value.bool true); refine (fbool_true _).mono ?_; rintro e w' ⟨rfl, rfl⟩)
    | (go_at_call_of 50 (Value.string ⟨#[102, 97, 108, 115, 101]⟩); refine (same_f s _ hs.out hf.out).mono ?_; rintro e w1 ⟨rfl, hb⟩; have k1 := quad_first hb; clear hb; obtain ⟨e0, e1, e2, e3, f0, f1, f2, f3, lt, h1⟩ := id k1)
    | (go_at_call_of 50 (Value.string ⟨#[116, 114, 117, 101]⟩); refine (same_t s _ hs.out ht.out).mono ?_; rintro e w2 ⟨rfl, hb⟩; have k2 := k1.keep hb; clear hb e0 e1 e2 e3 f0 f1 f2 f3 lt h1; obtain ⟨e0, e1, e2, e3, f0, f1, f2, f3, lt, h1⟩ := id k2))
  exact bodyPost_ret (v := .tuple #[val 3 0 ⟨#[]⟩ true, .string sDone]) (by simp [results, Tryz.results17, go_sem, *]) rfl ⟨rfl, (by repeat (first | exact Below.refl _ _ | assumption | refine Below.alloc ?_ (by first | (simp; done) | (simp; omega)) _ | refine Below.setCell ?_ (by first | (simp; done) | (simp; omega)) _ | refine Below.drew ?_ | refine below_drewN ?_ _))⟩
set_option maxHeartbeats 2000000 in
set_option maxRecDepth 100000 in
theorem ttruth_n (s : ByteArray) (w : World) (hs : Hid (s.size ≤ maxLen)) (hf : Hid (isF s.data.toList = false)) (ht : Hid (isT s.data.toList = false)) :
    Calls Tryz.prog 17 #[.string s] w fun e w' => e = .returned (.tuple #[nullV, .string sBad]) ∧ Below w.heap.size w w' := by
  have j0 := idxb0
  have j1 := idxb1
  go_enter Tryz.func17, Tryz.ntmps17
  go_wp2
  refine wp_loop_rounds 3 ?_
  rw [rounds_succ]
  go_wp2_with (first
    | (go_at_call_of 14 (Value.bool false); refine (fbool_false _).mono ?_; rintro e w' ⟨rfl, rfl⟩)
    | (go_at_call_of 14 (Value.bool true); refine (fbool_true _).mono ?_; rintro e w' ⟨rfl, rfl⟩)
    | (go_at_call_of 50 (Value.string ⟨#[102, 97, 108, 115, 101]⟩); refine (same_f s _ hs.out hf.out).mono ?_; rintro e w1 ⟨rfl, hb⟩; have k1 := quad_first hb; clear hb; obtain ⟨e0, e1, e2, e3, f0, f1, f2, f3, lt, h1⟩ := id k1)
    | (go_at_call_of 50 (Value.string ⟨#[116, 114, 117, 101]⟩); refine (same_t s _ hs.out ht.out).mono ?_; rintro e w2 ⟨rfl, hb⟩; have k2 := k1.keep hb; clear hb e0 e1 e2 e3 f0 f1 f2 f3 lt h1; obtain ⟨e0, e1, e2, e3, f0, f1, f2, f3, lt, h1⟩ := id k2))
  rw [rounds_succ]
  go_wp2_with (first
    | (go_at_call_of 14 (Value.bool false); refine (fbool_false _).mono ?_; rintro e w' ⟨rfl, rfl⟩)
    | (go_at_call_of 14 (Value.bool true); refine (fbool_true _).mono ?_; rintro e w' ⟨rfl, rfl⟩)
    | (go_at_call_of 50 (Value.string ⟨#[102, 97, 108, 115, 101]⟩); refine (same_f s _ hs.out hf.out).mono ?_; rintro e w1 ⟨rfl, hb⟩; have k1 := quad_first hb; clear hb; obtain ⟨e0, e1, e2, e3, f0, f1, f2, f3, lt, h1⟩ := id k1)
    | (go_at_call_of 50 (Value.string ⟨#[116, 114, 117, 101]⟩); refine (same_t s _ hs.out ht.out).mono ?_; rintro e w2 ⟨rfl, hb⟩; have k2 := k1.keep hb; clear hb e0 e1 e2 e3 f0 f1 f2 f3 lt h1; obtain ⟨e0, e1, e2, e3, f0, f1, f2, f3, lt, h1⟩ := id k2))
  rw [rounds_succ]
  go_wp2_with (first
    | (go_at_call_of 14 (Value.bool false); refine (fbool_false _).mono ?_; rintro e w' ⟨rfl, rfl⟩)
    | (go_at_call_of 14 (Value.bool true); refine (fbool_true _).mono ?_; rintro e w' ⟨rfl, rfl⟩)
    | (go_at_call_of 50 (Value.string ⟨#[102, 97, 108, 115, 101]⟩); refine (same_f s _ hs.out hf.out).mono ?_; rintro e w1 ⟨rfl, hb⟩; have k1 := quad_first hb; clear hb; obtain ⟨e0, e1, e2, e3, f0, f1, f2, f3, lt, h1⟩ := id k1)
    | (go_at_call_of 50 (Value.string ⟨#[116, 114, 117, 101]⟩); refine (same_t s _ hs.out ht.out).mono ?_; rintro e w2 ⟨rfl, hb⟩; have k2 := k1.keep hb; clear hb e0 e1 e2 e3 f0 f1 f2 f3 lt h1; obtain ⟨e0, e1, e2, e3, f0, f1, f2, f3, lt, h1⟩ := id k2))
  exact bodyPost_ret (v := .tuple #[nullV, .string sBad]) (by simp [results, Tryz.results17, go_sem, *]) rfl ⟨rfl, (by repeat (first | exact Below.refl _ _ | assumption | refine Below.alloc ?_ (by first | (simp; done) | (simp; omega)) _ | refine Below.setCell ?_ (by first | (simp; done) | (simp; omega)) _ | refine Below.drew ?_ | refine below_drewN ?_ _))⟩
theorem ttruth_any (s : ByteArray) (w : World) (hs : s.size ≤ maxLen) :
    Calls Tryz.prog 17 #[.string s] w fun e w' => e = .returned ((truthA s.data.toList).ret) ∧ Below w.heap.size w w' := by
  cases hf : isF s.data.toList
  · have hf2 : ¬ foldL s.data.toList = [102, 97, 108, 115, 101] := by simpa [isF] using hf
    cases ht : isT s.data.toList
    · have ht2 : ¬ foldL s.data.toList = [116, 114, 117, 101] := by simpa [isT] using ht
      rw [truthA, if_neg hf2, if_neg ht2]
      exact ttruth_n s w hs hf ht
    · have ht2 : foldL s.data.toList = [116, 114, 117, 101] := by simpa [isT] using ht
      rw [truthA, if_neg hf2, if_pos ht2]
      exact ttruth_t s w hs hf ht
  · have hf2 : foldL s.data.toList = [102, 97, 108, 115, 101] := by simpa [isF] using hf
    rw [truthA, if_pos hf2]
    exact ttruth_f s w hs hf
end Go.Proofs.YtfmnlgepllgpnaaGreatDoor

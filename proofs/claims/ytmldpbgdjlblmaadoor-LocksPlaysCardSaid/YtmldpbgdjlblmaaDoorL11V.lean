/- The program's small functions of requests: what is asked of one, or of two. -/
import Derived.Test.YtmldpbgdjlblmaaDoorL11E
import Derived.Test.YtmldpbgdjlblmaaDoorL11W
namespace Go.Proofs.YtmldpbgdjlblmaaDoor
open Go.RowKit Go.Joins
set_option linter.unusedVariables false
set_option linter.unusedSimpArgs false

set_option maxHeartbeats 2000000 in
theorem waits_fn (r : Rq) (w : World) : Calls Tryd.prog 45 #[r.v] w fun e w' => e = .returned (.bool (!r.gr)) ∧ Below w.heap.size w w' := by
  have hb := boxq_b w r
  obtain ⟨tx, ⟨sp, tb, lo, hi, en⟩, md, gr, sh⟩ := r
  go_enter Tryd.func45, Tryd.ntmps45
  go_wp2_with fail
  go_ret
  exact ⟨rfl, hb⟩
set_option maxHeartbeats 2000000 in
theorem end1_fn (r : Rq) {w : World} {B : Nat} {tx : Int} (h : w.cell? ⟨B, 0, none⟩ = some (.int .i64 tx)) : Calls Tryd.prog 40 #[r.v, .pointer (some ⟨B, 0, none⟩)] w fun e w' => e = .returned (.bool (decide (r.tx = tx))) ∧ Below w.heap.size w w' := by
  have hb := boxq_b w r
  replace h := cell_keep hb h
  obtain ⟨xt, ⟨sp, tb, lo, hi, en⟩, md, gr, sh⟩ := r
  go_enter Tryd.func40, Tryd.ntmps40
  go_wp2_with fail
  go_ret
  exact ⟨by simp; rfl, hb⟩
set_option maxHeartbeats 2000000 in
theorem waits1_fn (r : Rq) {w : World} {B : Nat} {tx : Int} (h : w.cell? ⟨B, 0, none⟩ = some (.int .i64 tx)) : Calls Tryd.prog 51 #[r.v, .pointer (some ⟨B, 0, none⟩)] w fun e w' => e = .returned (.bool (decide (r.tx = tx) && !r.gr)) ∧ Below w.heap.size w w' := by
  have hb := boxq_b w r
  replace h := cell_keep hb h
  obtain ⟨xt, ⟨sp, tb, lo, hi, en⟩, md, gr, sh⟩ := r
  by_cases ht : xt = tx
  · subst ht
    go_enter Tryd.func51, Tryd.ntmps51
    go_wp2_with fail
    go_ret
    exact ⟨by simp, hb⟩
  · have ht2 : (xt == tx) = false := by simpa using ht
    go_enter Tryd.func51, Tryd.ntmps51
    go_wp2_with fail
    go_ret
    exact ⟨by simp [ht], hb⟩
set_option maxHeartbeats 2000000 in
theorem ends1_fn (r : Rq) {w : World} {B : Nat} {tx : Int} (h : w.cell? ⟨B, 0, none⟩ = some (.int .i64 tx)) : Calls Tryd.prog 42 #[r.v, .pointer (some ⟨B, 0, none⟩)] w fun e w' => e = .returned (.bool (decide (r.tx = tx) && r.gr && r.sh)) ∧ Below w.heap.size w w' := by
  have hb := boxq_b w r
  replace h := cell_keep hb h
  obtain ⟨xt, ⟨sp, tb, lo, hi, en⟩, md, gr, sh⟩ := r
  by_cases ht : xt = tx
  · subst ht
    cases gr
    · go_enter Tryd.func42, Tryd.ntmps42
      go_wp2_with fail
      go_ret
      exact ⟨by simp, hb⟩
    · go_enter Tryd.func42, Tryd.ntmps42
      go_wp2_with fail
      go_ret
      exact ⟨by simp, hb⟩
  · have ht2 : (xt == tx) = false := by simpa using ht
    go_enter Tryd.func42, Tryd.ntmps42
    go_wp2_with fail
    go_ret
    exact ⟨by simp [ht], hb⟩
theorem fits_is {x y : Int} {t : Bool} (h : fi x y = t) {w : World} (hL : LibW w) : Calls Tryd.prog 94 #[.int .i64 x, .int .i64 y] w fun e w' => e = .returned (.bool t) ∧ w' = w := h ▸ fits_any x y w hL
theorem meet_at {sa sb : Int} {ta la ua tb lb' ub : ByteArray} {na nb : Bool} {t : Bool} (h : mt ⟨sa, ta, la, ua, na⟩ ⟨sb, tb, lb', ub, nb⟩ = t) (w : World) :
    Calls Tryd.prog 80 #[.agg #[.int .i64 sa, .string ta, .string la, .string ua, .bool na], .agg #[.int .i64 sb, .string tb, .string lb', .string ub, .bool nb]] w fun e w' => e = .returned (.bool t) ∧ Below w.heap.size w w' := h ▸ meet_any ⟨sa, ta, la, ua, na⟩ ⟨sb, tb, lb', ub, nb⟩ w
theorem within_at {sa sb : Int} {ta la ua tb lb' ub : ByteArray} {na nb : Bool} {t : Bool} (h : wi ⟨sa, ta, la, ua, na⟩ ⟨sb, tb, lb', ub, nb⟩ = t) (w : World) :
    Calls Tryd.prog 71 #[.agg #[.int .i64 sa, .string ta, .string la, .string ua, .bool na], .agg #[.int .i64 sb, .string tb, .string lb', .string ub, .bool nb]] w fun e w' => e = .returned (.bool t) ∧ Below w.heap.size w w' := h ▸ within_any ⟨sa, ta, la, ua, na⟩ ⟨sb, tb, lb', ub, nb⟩ w
def ftP (r x : Rq) : Bool := fi r.md x.md && (r.gr || fi x.md r.md)
set_option maxHeartbeats 4000000 in
theorem fit_fn (r x : Rq) {w : World} (hL : LibW w) : Calls Tryd.prog 79 #[r.v, x.v] w fun e w' => e = .returned (.bool (ftP r x)) ∧ Below w.heap.size w w' := by
  have T := TwoQ.new w r x
  unfold ftP
  obtain ⟨xt, ⟨sa, ta, la, ua, na⟩, xm, xg, xs⟩ := r
  obtain ⟨yt, ⟨sb, tb, lb', ub, nb⟩, ym, yg, ys⟩ := x
  have hL2 := hL.keep T.below
  have hB := T.below
  clear T hL
  simp only
  cases h1 : fi xm ym with
  | false =>
    go_enter Tryd.func79, Tryd.ntmps79
    go_wp2_with fail
    refine (fits_is h1 hL2).mono ?_
    rintro e w1 ⟨rfl, rfl⟩
    go_wp2_with fail
    go_ret
    exact ⟨by simp, hB⟩
  | true =>
    cases xg with
    | true =>
      go_enter Tryd.func79, Tryd.ntmps79
      go_wp2_with fail
      refine (fits_is h1 hL2).mono ?_
      rintro e w1 ⟨rfl, rfl⟩
      go_wp2_with fail
      go_ret
      exact ⟨by simp, hB⟩
    | false =>
      cases h2 : fi ym xm with
      | false =>
        go_enter Tryd.func79, Tryd.ntmps79
        go_wp2_with fail
        refine (fits_is h1 hL2).mono ?_
        rintro e w1 ⟨rfl, rfl⟩
        go_wp2_with fail
        refine (fits_is h2 hL2).mono ?_
        rintro e w1 ⟨rfl, rfl⟩
        go_wp2_with fail
        go_ret
        exact ⟨by simp, hB⟩
      | true =>
        go_enter Tryd.func79, Tryd.ntmps79
        go_wp2_with fail
        refine (fits_is h1 hL2).mono ?_
        rintro e w1 ⟨rfl, rfl⟩
        go_wp2_with fail
        refine (fits_is h2 hL2).mono ?_
        rintro e w1 ⟨rfl, rfl⟩
        go_wp2_with fail
        go_ret
        exact ⟨by simp, hB⟩
theorem fit_at {xt yt sa sb xm ym : Int} {ta la ua tb lb' ub : ByteArray} {na nb xg xs yg ys f : Bool} (h : ftP ⟨xt, ⟨sa, ta, la, ua, na⟩, xm, xg, xs⟩ ⟨yt, ⟨sb, tb, lb', ub, nb⟩, ym, yg, ys⟩ = f) {w : World} (hL : LibW w) :
    Calls Tryd.prog 79 #[.agg #[.int .i64 xt, .int .i64 sa, .string ta, .string la, .string ua, .bool na, .int .i64 xm, .bool xg, .bool xs], .agg #[.int .i64 yt, .int .i64 sb, .string tb, .string lb', .string ub, .bool nb, .int .i64 ym, .bool yg, .bool ys]] w fun e w' => e = .returned (.bool f) ∧ Below w.heap.size w w' :=
  h ▸ fit_fn ⟨xt, ⟨sa, ta, la, ua, na⟩, xm, xg, xs⟩ ⟨yt, ⟨sb, tb, lb', ub, nb⟩, ym, yg, ys⟩ hL
theorem clP_ft (r x : Rq) : clP r x = (decide (r.tx ≠ x.tx) && !ftP r x && mt r.ob x.ob) := rfl
set_option maxHeartbeats 4000000 in
theorem clash_fn (r x : Rq) {w : World} (hL : LibW w) : Calls Tryd.prog 66 #[r.v, x.v] w fun e w' => e = .returned (.bool (clP r x)) ∧ Below w.heap.size w w' := by
  have T := TwoQ.new w r x
  rw [clP_ft]
  obtain ⟨xt, ⟨sa, ta, la, ua, na⟩, xm, xg, xs⟩ := r
  obtain ⟨yt, ⟨sb, tb, lb', ub, nb⟩, ym, yg, ys⟩ := x
  have hL2 := hL.keep T.below
  have hB := T.below
  simp only
  by_cases ht : xt = yt
  · subst ht
    clear T
    go_enter Tryd.func66, Tryd.ntmps66
    go_wp2_with fail
    go_ret
    exact ⟨by simp, hB⟩
  · have ht2 : (xt == yt) = false := by simpa using ht
    cases hf : ftP ⟨xt, ⟨sa, ta, la, ua, na⟩, xm, xg, xs⟩ ⟨yt, ⟨sb, tb, lb', ub, nb⟩, ym, yg, ys⟩ with
    | true =>
      clear T
      go_enter Tryd.func66, Tryd.ntmps66
      go_wp2_with fail
      refine (fit_at hf hL2).mono ?_
      rintro e w1 ⟨rfl, hb⟩
      replace hB := keepA hB hb
      go_wp2_with fail
      go_ret
      exact ⟨by simp, hB⟩
    | false =>
      have HT : Hid (TwoQ w ((w.alloc (Rq.box ⟨xt, ⟨sa, ta, la, ua, na⟩, xm, xg, xs⟩)).alloc (Rq.box ⟨yt, ⟨sb, tb, lb', ub, nb⟩, ym, yg, ys⟩)) ⟨xt, ⟨sa, ta, la, ua, na⟩, xm, xg, xs⟩ ⟨yt, ⟨sb, tb, lb', ub, nb⟩, ym, yg, ys⟩) := T
      clear T
      cases hm : mt ⟨sa, ta, la, ua, na⟩ ⟨sb, tb, lb', ub, nb⟩ <;>
      · go_enter Tryd.func66, Tryd.ntmps66
        go_wp2_with fail
        refine (fit_at hf hL2).mono ?_
        rintro e w1 ⟨rfl, hb⟩
        have T := HT.out.keep hb
        replace hB := T.below
        obtain ⟨⟨a0, a1, a2, a3, a4, a5, a6, a7, a8⟩, ⟨b0, b1, b2, b3, b4, b5, b6, b7, b8⟩, _⟩ := T
        simp only at a1 a2 a3 a4 a5 b1 b2 b3 b4 b5
        clear hb HT a0 a6 a7 a8 b0 b6 b7 b8
        go_wp2_with fail
        refine (meet_at hm _).mono ?_
        rintro e w2 ⟨rfl, hb⟩
        replace hB := keepA hB hb
        go_wp2_with fail
        go_ret
        exact ⟨by simp [ht], hB⟩
set_option maxHeartbeats 4000000 in
theorem blocks_fn (r x : Rq) {w : World} {B : Nat} (h : BoxQ w B x) (hL : LibW w) : Calls Tryd.prog 65 #[r.v, .pointer (some ⟨B, 0, none⟩)] w fun e w' => e = .returned (.bool (clP r x)) ∧ Below w.heap.size w w' := by
  have hb := boxq_b w r
  have hc := fun w hL => clash_fn r x (w := w) hL
  generalize clP r x = t at *
  have hL2 := hL.keep hb
  obtain ⟨a0, a1, a2, a3, a4, a5, a6, a7, a8⟩ := BoxQ.new w r
  obtain ⟨b0, b1, b2, b3, b4, b5, b6, b7, b8⟩ := h.keep hb
  obtain ⟨xt, ⟨sa, ta, la, ua, na⟩, xm, xg, xs⟩ := r
  obtain ⟨yt, ⟨sb, tb, lb', ub, nb⟩, ym, yg, ys⟩ := x
  simp only at a0 a1 a2 a3 a4 a5 a6 a7 a8 b0 b1 b2 b3 b4 b5 b6 b7 b8
  clear h hL
  go_enter Tryd.func65, Tryd.ntmps65
  go_wp2_with fail
  refine (hc _ hL2).mono ?_
  rintro e w1 ⟨rfl, hb1⟩
  have hB := keepA hb hb1
  go_wp2_with fail
  go_ret
  exact ⟨rfl, hB⟩
end Go.Proofs.YtmldpbgdjlblmaaDoor

/- The document's table of locks: requests in boxes; against, either. -/
import Derived.Test.YtmldpbgdjlblmaaDoorM10I
import Derived.Test.YtmldpbgdjlblmaaDoorL11R
namespace Go.Proofs.YtmldpbgdjlblmaaDoor
open Go.RowKit Go.Joins
set_option linter.unusedVariables false
set_option linter.unusedSimpArgs false

/-- A request's cells. -/
abbrev Rq.cells (r : Rq) : List Value := [.int .i64 r.tx, .int .i64 r.ob.sp, .string r.ob.tb, .string r.ob.lo, .string r.ob.hi, .bool r.ob.en, .int .i64 r.md, .bool r.gr, .bool r.sh]
abbrev Rq.v (r : Rq) : Value := .agg #[.int .i64 r.tx, .int .i64 r.ob.sp, .string r.ob.tb, .string r.ob.lo, .string r.ob.hi, .bool r.ob.en, .int .i64 r.md, .bool r.gr, .bool r.sh]
abbrev Rq.box (r : Rq) : Obj := .cells #[.int .i64 r.tx, .int .i64 r.ob.sp, .string r.ob.tb, .string r.ob.lo, .string r.ob.hi, .bool r.ob.en, .int .i64 r.md, .bool r.gr, .bool r.sh] 53
/-- A request in its box. -/
structure BoxQ (W : World) (b : Nat) (r : Rq) : Prop where
  c0 : W.cell? ⟨b, 0, none⟩ = some (.int .i64 r.tx)
  c1 : W.cell? ⟨b, 1, none⟩ = some (.int .i64 r.ob.sp)
  c2 : W.cell? ⟨b, 2, none⟩ = some (.string r.ob.tb)
  c3 : W.cell? ⟨b, 3, none⟩ = some (.string r.ob.lo)
  c4 : W.cell? ⟨b, 4, none⟩ = some (.string r.ob.hi)
  c5 : W.cell? ⟨b, 5, none⟩ = some (.bool r.ob.en)
  c6 : W.cell? ⟨b, 6, none⟩ = some (.int .i64 r.md)
  c7 : W.cell? ⟨b, 7, none⟩ = some (.bool r.gr)
  c8 : W.cell? ⟨b, 8, none⟩ = some (.bool r.sh)
theorem BoxQ.keep {W w' : World} {b : Nat} {r : Rq} (h : BoxQ W b r) (hb : Below W.heap.size W w') : BoxQ w' b r :=
  ⟨cell_keep hb h.c0, cell_keep hb h.c1, cell_keep hb h.c2, cell_keep hb h.c3, cell_keep hb h.c4, cell_keep hb h.c5, cell_keep hb h.c6, cell_keep hb h.c7, cell_keep hb h.c8⟩
theorem BoxQ.new (W : World) (r : Rq) : BoxQ (W.alloc r.box) W.heap.size r :=
  ⟨by go_simp, by go_simp, by go_simp, by go_simp, by go_simp, by go_simp, by go_simp, by go_simp, by go_simp⟩
/-- The two boxes of a call that takes two requests. -/
structure TwoQ (w W : World) (a b : Rq) : Prop where
  a : BoxQ W w.heap.size a
  b : BoxQ W (w.heap.size + 1) b
  below : Below w.heap.size w W
theorem TwoQ.keep {w W W' : World} {a b : Rq} (T : TwoQ w W a b) (hb : Below W.heap.size W W') : TwoQ w W' a b := ⟨T.a.keep hb, T.b.keep hb, keepA T.below hb⟩
theorem TwoQ.new (w : World) (a b : Rq) : TwoQ w ((w.alloc a.box).alloc b.box) a b := by
  have h1 : (w.alloc a.box).heap.size = w.heap.size + 1 := by simp
  refine ⟨(BoxQ.new w a).keep ((Below.refl _ _).alloc (Nat.le_refl _) _), ?_, ((Below.refl _ _).alloc (Nat.le_refl _) _).alloc (by simp) _⟩
  have := BoxQ.new (w.alloc a.box) b
  rw [h1] at this
  exact this
theorem twoq_first {w W : World} {a b : Rq} (hb : Below ((w.alloc a.box).alloc b.box).heap.size ((w.alloc a.box).alloc b.box) W) : TwoQ w W a b := (TwoQ.new w a b).keep hb
theorem rmeet_at' {sa sb : Int} {ta la ua tb lb' ub : ByteArray} {na nb : Bool} {t : Bool} (h : mt ⟨sa, ta, la, ua, na⟩ ⟨sb, tb, lb', ub, nb⟩ = t) (w : World) :
    Calls Tryd.prog 30 #[.agg #[.int .i64 sa, .string ta, .string la, .string ua, .bool na], .agg #[.int .i64 sb, .string tb, .string lb', .string ub, .bool nb]] w fun e w' => e = .returned (.bool t) ∧ Below w.heap.size w w' := rmeet_is h w
theorem fref_is {x y : Int} {t : Bool} (h : fi x y = t) (w : World) :
    Calls Tryd.prog 72 #[.int .i64 x, .int .i64 y] w fun e w' => e = .returned (.bool t) ∧ Below w.heap.size w w' := h ▸ fits_ref x y w
set_option maxHeartbeats 4000000 in
theorem against_w {xt yt sa sb xm ym : Int} {ta la ua tb lb' ub : ByteArray} {na nb xg xs yg ys m f : Bool} (w : World) (hm : mt ⟨sa, ta, la, ua, na⟩ ⟨sb, tb, lb', ub, nb⟩ = m) (hf : fi xm ym = f) :
    Calls Tryd.prog 53 #[.agg #[.int .i64 xt, .int .i64 sa, .string ta, .string la, .string ua, .bool na, .int .i64 xm, .bool xg, .bool xs], .agg #[.int .i64 yt, .int .i64 sb, .string tb, .string lb', .string ub, .bool nb, .int .i64 ym, .bool yg, .bool ys]] w fun e w' => e = .returned (.bool (decide (xt ≠ yt) && m && !f)) ∧ Below w.heap.size w w' := by
  go_enter Tryd.func53, Tryd.ntmps53
  go_wp2_with fail
  refine (rmeet_at' hm _).mono ?_
  rintro e w1 ⟨rfl, hb⟩
  have T := twoq_first (a := ⟨xt, ⟨sa, ta, la, ua, na⟩, xm, xg, xs⟩) (b := ⟨yt, ⟨sb, tb, lb', ub, nb⟩, ym, yg, ys⟩) hb
  clear hb
  obtain ⟨b0, b1, b2, b3, b4, b5, b6, b7, b8⟩ := T.b
  obtain ⟨a0, a1, a2, a3, a4, a5, a6, a7, a8⟩ := T.a
  simp only at b0 b6 a0 a6
  go_wp2_with fail
  refine (fref_is hf _).mono ?_
  rintro e w2 ⟨rfl, hb⟩
  replace T := T.keep hb
  clear b0 b1 b2 b3 b4 b5 b6 b7 b8 a0 a1 a2 a3 a4 a5 a6 a7 a8 hb
  have b0 := T.b.c0
  have a0 := T.a.c0
  simp only at a0 b0
  by_cases ht : xt = yt
  · subst ht
    go_wp2_with fail
    go_ret
    exact ⟨by simp, T.below⟩
  · cases m
    · go_wp2_with fail
      go_ret
      exact ⟨by simp, T.below⟩
    · go_wp2_with fail
      go_ret
      refine ⟨?_, T.below⟩
      show Ending.returned (.bool _) = _
      simp [ht]
theorem against_ref (g r : Rq) (w : World) :
    Calls Tryd.prog 53 #[g.v, r.v] w fun e w' => e = .returned (.bool (ag g r)) ∧ Below w.heap.size w w' := by
  obtain ⟨xt, ⟨sa, ta, la, ua, na⟩, xm, xg, xs⟩ := g
  obtain ⟨yt, ⟨sb, tb, lb', ub, nb⟩, ym, yg, ys⟩ := r
  exact against_w w rfl rfl
end Go.Proofs.YtmldpbgdjlblmaaDoor

/- The walk of the law ModesWithin: true for every three objects. -/
import Derived.Test.YtlklddhljhlpnaaDoorMOWalk
import Derived.Test.YtlklddhljhlpnaaDoorM10P
namespace Go.Proofs.YtlklddhljhlpnaaDoor
open Go.RowKit Go.Joins
set_option linter.unusedVariables false

/-- The three boxes of a call that takes three objects. -/
structure Three (w W : World) (a b c : Ob) : Prop where
  a : BoxO W w.heap.size a
  b : BoxO W (w.heap.size + 1) b
  c : BoxO W (w.heap.size + 2) c
  lib : LibW W
  below : Below w.heap.size w W
theorem Three.keep {w W W' : World} {a b c : Ob} (T : Hid (Three w W a b c)) (hb : Below W.heap.size W W') : Hid (Three w W' a b c) := ⟨T.out.a.keep hb, T.out.b.keep hb, T.out.c.keep hb, T.out.lib.keep hb, keepA T.out.below hb⟩
theorem Three.new (w : World) (a b c : Ob) (hL : LibW w) : Three w (((w.alloc a.box).alloc b.box).alloc c.box) a b c := by
  have T := Two.new w a b
  have h1 : ((w.alloc a.box).alloc b.box).heap.size = w.heap.size + 2 := by simp
  have hb : Below ((w.alloc a.box).alloc b.box).heap.size ((w.alloc a.box).alloc b.box) (((w.alloc a.box).alloc b.box).alloc c.box) := (Below.refl _ _).alloc (Nat.le_refl _) _
  refine ⟨T.a.keep hb, T.b.keep hb, ?_, (hL.keep T.below).keep hb, keepA T.below hb⟩
  have := BoxO.new ((w.alloc a.box).alloc b.box) c
  rw [h1] at this
  exact this
set_option maxHeartbeats 8000000 in
theorem mw_n {sa sb sc : Int} {ta la ua tb lb' ub tc lc uc : ByteArray} {na nb nc : Bool} (w : World) (hL : LibW w) (h : wi ⟨sa, ta, la, ua, na⟩ ⟨sb, tb, lb', ub, nb⟩ = false) :
    Calls Tryd.prog 8 #[.agg #[.int .i64 sa, .string ta, .string la, .string ua, .bool na], .agg #[.int .i64 sb, .string tb, .string lb', .string ub, .bool nb], .agg #[.int .i64 sc, .string tc, .string lc, .string uc, .bool nc]] w fun e w' => e = .returned (.bool true) ∧ Below w.heap.size w w' := by
  have T : Hid (Three w (((w.alloc (.cells #[.int .i64 sa, .string ta, .string la, .string ua, .bool na] 29)).alloc (.cells #[.int .i64 sb, .string tb, .string lb', .string ub, .bool nb] 29)).alloc (.cells #[.int .i64 sc, .string tc, .string lc, .string uc, .bool nc] 29)) ⟨sa, ta, la, ua, na⟩ ⟨sb, tb, lb', ub, nb⟩ ⟨sc, tc, lc, uc, nc⟩) := Three.new w ⟨sa, ta, la, ua, na⟩ ⟨sb, tb, lb', ub, nb⟩ ⟨sc, tc, lc, uc, nc⟩ hL
  clear hL
  go_enter Tryd.func8, Tryd.ntmps8
  obtain ⟨a0, a1, a2, a3, a4⟩ := T.out.a; obtain ⟨b0, b1, b2, b3, b4⟩ := T.out.b; obtain ⟨c0, c1, c2, c3, c4⟩ := T.out.c; simp only at a0 a1 a2 a3 a4 b0 b1 b2 b3 b4 c0 c1 c2 c3 c4
  go_wp2_with (first | (go_at_call 22; refine (within_at (by assumption) _).mono ?_; rintro e wn ⟨rfl, hb⟩; replace T := Three.keep T hb; clear hb a0 a1 a2 a3 a4 b0 b1 b2 b3 b4 c0 c1 c2 c3 c4; obtain ⟨a0, a1, a2, a3, a4⟩ := T.out.a; obtain ⟨b0, b1, b2, b3, b4⟩ := T.out.b; obtain ⟨c0, c1, c2, c3, c4⟩ := T.out.c; simp only at a0 a1 a2 a3 a4 b0 b1 b2 b3 b4 c0 c1 c2 c3 c4) | (go_at_call 20; refine (meet_at (by assumption) _).mono ?_; rintro e wn ⟨rfl, hb⟩; replace T := Three.keep T hb; clear hb a0 a1 a2 a3 a4 b0 b1 b2 b3 b4 c0 c1 c2 c3 c4; obtain ⟨a0, a1, a2, a3, a4⟩ := T.out.a; obtain ⟨b0, b1, b2, b3, b4⟩ := T.out.b; obtain ⟨c0, c1, c2, c3, c4⟩ := T.out.c; simp only at a0 a1 a2 a3 a4 b0 b1 b2 b3 b4 c0 c1 c2 c3 c4) | (go_at_call 9; refine (alive_any _ T.out.lib).mono ?_; rintro e wn ⟨rfl, hb⟩; replace T := Three.keep T hb; clear hb a0 a1 a2 a3 a4 b0 b1 b2 b3 b4 c0 c1 c2 c3 c4; obtain ⟨a0, a1, a2, a3, a4⟩ := T.out.a; obtain ⟨b0, b1, b2, b3, b4⟩ := T.out.b; obtain ⟨c0, c1, c2, c3, c4⟩ := T.out.c; simp only at a0 a1 a2 a3 a4 b0 b1 b2 b3 b4 c0 c1 c2 c3 c4))
  go_ret
  refine ⟨?_, T.out.below⟩
  first | rfl | (show Ending.returned (Value.bool _) = Ending.returned (Value.bool _); simp_all)
set_option maxHeartbeats 8000000 in
theorem mw_ttf {sa sb sc : Int} {ta la ua tb lb' ub tc lc uc : ByteArray} {na nb nc : Bool} (w : World) (hL : LibW w) (h : wi ⟨sa, ta, la, ua, na⟩ ⟨sb, tb, lb', ub, nb⟩ = true) (h1 : wi ⟨sb, tb, lb', ub, nb⟩ ⟨sc, tc, lc, uc, nc⟩ = true) (h2 : wi ⟨sa, ta, la, ua, na⟩ ⟨sc, tc, lc, uc, nc⟩ = true) (h3 : mt ⟨sa, ta, la, ua, na⟩ ⟨sc, tc, lc, uc, nc⟩ = true) (h4 : mt ⟨sb, tb, lb', ub, nb⟩ ⟨sc, tc, lc, uc, nc⟩ = true) (h5 : wi ⟨sb, tb, lb', ub, nb⟩ ⟨sa, ta, la, ua, na⟩ = false) :
    Calls Tryd.prog 8 #[.agg #[.int .i64 sa, .string ta, .string la, .string ua, .bool na], .agg #[.int .i64 sb, .string tb, .string lb', .string ub, .bool nb], .agg #[.int .i64 sc, .string tc, .string lc, .string uc, .bool nc]] w fun e w' => e = .returned (.bool true) ∧ Below w.heap.size w w' := by
  have T : Hid (Three w (((w.alloc (.cells #[.int .i64 sa, .string ta, .string la, .string ua, .bool na] 29)).alloc (.cells #[.int .i64 sb, .string tb, .string lb', .string ub, .bool nb] 29)).alloc (.cells #[.int .i64 sc, .string tc, .string lc, .string uc, .bool nc] 29)) ⟨sa, ta, la, ua, na⟩ ⟨sb, tb, lb', ub, nb⟩ ⟨sc, tc, lc, uc, nc⟩) := Three.new w ⟨sa, ta, la, ua, na⟩ ⟨sb, tb, lb', ub, nb⟩ ⟨sc, tc, lc, uc, nc⟩ hL
  clear hL
  go_enter Tryd.func8, Tryd.ntmps8
  obtain ⟨a0, a1, a2, a3, a4⟩ := T.out.a; obtain ⟨b0, b1, b2, b3, b4⟩ := T.out.b; obtain ⟨c0, c1, c2, c3, c4⟩ := T.out.c; simp only at a0 a1 a2 a3 a4 b0 b1 b2 b3 b4 c0 c1 c2 c3 c4
  go_wp2_with (first | (go_at_call 22; refine (within_at (by assumption) _).mono ?_; rintro e wn ⟨rfl, hb⟩; replace T := Three.keep T hb; clear hb a0 a1 a2 a3 a4 b0 b1 b2 b3 b4 c0 c1 c2 c3 c4; obtain ⟨a0, a1, a2, a3, a4⟩ := T.out.a; obtain ⟨b0, b1, b2, b3, b4⟩ := T.out.b; obtain ⟨c0, c1, c2, c3, c4⟩ := T.out.c; simp only at a0 a1 a2 a3 a4 b0 b1 b2 b3 b4 c0 c1 c2 c3 c4) | (go_at_call 20; refine (meet_at (by assumption) _).mono ?_; rintro e wn ⟨rfl, hb⟩; replace T := Three.keep T hb; clear hb a0 a1 a2 a3 a4 b0 b1 b2 b3 b4 c0 c1 c2 c3 c4; obtain ⟨a0, a1, a2, a3, a4⟩ := T.out.a; obtain ⟨b0, b1, b2, b3, b4⟩ := T.out.b; obtain ⟨c0, c1, c2, c3, c4⟩ := T.out.c; simp only at a0 a1 a2 a3 a4 b0 b1 b2 b3 b4 c0 c1 c2 c3 c4) | (go_at_call 9; refine (alive_any _ T.out.lib).mono ?_; rintro e wn ⟨rfl, hb⟩; replace T := Three.keep T hb; clear hb a0 a1 a2 a3 a4 b0 b1 b2 b3 b4 c0 c1 c2 c3 c4; obtain ⟨a0, a1, a2, a3, a4⟩ := T.out.a; obtain ⟨b0, b1, b2, b3, b4⟩ := T.out.b; obtain ⟨c0, c1, c2, c3, c4⟩ := T.out.c; simp only at a0 a1 a2 a3 a4 b0 b1 b2 b3 b4 c0 c1 c2 c3 c4))
  go_ret
  refine ⟨?_, T.out.below⟩
  first | rfl | (show Ending.returned (Value.bool _) = Ending.returned (Value.bool _); simp_all)
set_option maxHeartbeats 8000000 in
theorem mw_ttt {sa sc : Int} {ta la ua tc lc uc : ByteArray} {na nc : Bool} (w : World) (hL : LibW w) (h : wi ⟨sa, ta, la, ua, na⟩ ⟨sa, ta, la, ua, na⟩ = true) (h1 : wi ⟨sa, ta, la, ua, na⟩ ⟨sc, tc, lc, uc, nc⟩ = true) (h2 : wi ⟨sa, ta, la, ua, na⟩ ⟨sc, tc, lc, uc, nc⟩ = true) (h3 : mt ⟨sa, ta, la, ua, na⟩ ⟨sc, tc, lc, uc, nc⟩ = true) (h4 : mt ⟨sa, ta, la, ua, na⟩ ⟨sc, tc, lc, uc, nc⟩ = true) :
    Calls Tryd.prog 8 #[.agg #[.int .i64 sa, .string ta, .string la, .string ua, .bool na], .agg #[.int .i64 sa, .string ta, .string la, .string ua, .bool na], .agg #[.int .i64 sc, .string tc, .string lc, .string uc, .bool nc]] w fun e w' => e = .returned (.bool true) ∧ Below w.heap.size w w' := by
  have T : Hid (Three w (((w.alloc (.cells #[.int .i64 sa, .string ta, .string la, .string ua, .bool na] 29)).alloc (.cells #[.int .i64 sa, .string ta, .string la, .string ua, .bool na] 29)).alloc (.cells #[.int .i64 sc, .string tc, .string lc, .string uc, .bool nc] 29)) ⟨sa, ta, la, ua, na⟩ ⟨sa, ta, la, ua, na⟩ ⟨sc, tc, lc, uc, nc⟩) := Three.new w ⟨sa, ta, la, ua, na⟩ ⟨sa, ta, la, ua, na⟩ ⟨sc, tc, lc, uc, nc⟩ hL
  clear hL
  go_enter Tryd.func8, Tryd.ntmps8
  obtain ⟨a0, a1, a2, a3, a4⟩ := T.out.a; obtain ⟨b0, b1, b2, b3, b4⟩ := T.out.b; obtain ⟨c0, c1, c2, c3, c4⟩ := T.out.c; simp only at a0 a1 a2 a3 a4 b0 b1 b2 b3 b4 c0 c1 c2 c3 c4
  go_wp2_with (first | (go_at_call 22; refine (within_at (by assumption) _).mono ?_; rintro e wn ⟨rfl, hb⟩; replace T := Three.keep T hb; clear hb a0 a1 a2 a3 a4 b0 b1 b2 b3 b4 c0 c1 c2 c3 c4; obtain ⟨a0, a1, a2, a3, a4⟩ := T.out.a; obtain ⟨b0, b1, b2, b3, b4⟩ := T.out.b; obtain ⟨c0, c1, c2, c3, c4⟩ := T.out.c; simp only at a0 a1 a2 a3 a4 b0 b1 b2 b3 b4 c0 c1 c2 c3 c4) | (go_at_call 20; refine (meet_at (by assumption) _).mono ?_; rintro e wn ⟨rfl, hb⟩; replace T := Three.keep T hb; clear hb a0 a1 a2 a3 a4 b0 b1 b2 b3 b4 c0 c1 c2 c3 c4; obtain ⟨a0, a1, a2, a3, a4⟩ := T.out.a; obtain ⟨b0, b1, b2, b3, b4⟩ := T.out.b; obtain ⟨c0, c1, c2, c3, c4⟩ := T.out.c; simp only at a0 a1 a2 a3 a4 b0 b1 b2 b3 b4 c0 c1 c2 c3 c4) | (go_at_call 9; refine (alive_any _ T.out.lib).mono ?_; rintro e wn ⟨rfl, hb⟩; replace T := Three.keep T hb; clear hb a0 a1 a2 a3 a4 b0 b1 b2 b3 b4 c0 c1 c2 c3 c4; obtain ⟨a0, a1, a2, a3, a4⟩ := T.out.a; obtain ⟨b0, b1, b2, b3, b4⟩ := T.out.b; obtain ⟨c0, c1, c2, c3, c4⟩ := T.out.c; simp only at a0 a1 a2 a3 a4 b0 b1 b2 b3 b4 c0 c1 c2 c3 c4))
  go_ret
  refine ⟨?_, T.out.below⟩
  first | rfl | (show Ending.returned (Value.bool _) = Ending.returned (Value.bool _); simp_all)
set_option maxHeartbeats 8000000 in
theorem mw_tff {sa sb sc : Int} {ta la ua tb lb' ub tc lc uc : ByteArray} {na nb nc : Bool} (w : World) (hL : LibW w) (h : wi ⟨sa, ta, la, ua, na⟩ ⟨sb, tb, lb', ub, nb⟩ = true) (h1 : wi ⟨sb, tb, lb', ub, nb⟩ ⟨sc, tc, lc, uc, nc⟩ = true) (h2 : wi ⟨sa, ta, la, ua, na⟩ ⟨sc, tc, lc, uc, nc⟩ = true) (h3 : mt ⟨sa, ta, la, ua, na⟩ ⟨sc, tc, lc, uc, nc⟩ = false) (h5 : wi ⟨sb, tb, lb', ub, nb⟩ ⟨sa, ta, la, ua, na⟩ = false) :
    Calls Tryd.prog 8 #[.agg #[.int .i64 sa, .string ta, .string la, .string ua, .bool na], .agg #[.int .i64 sb, .string tb, .string lb', .string ub, .bool nb], .agg #[.int .i64 sc, .string tc, .string lc, .string uc, .bool nc]] w fun e w' => e = .returned (.bool true) ∧ Below w.heap.size w w' := by
  have T : Hid (Three w (((w.alloc (.cells #[.int .i64 sa, .string ta, .string la, .string ua, .bool na] 29)).alloc (.cells #[.int .i64 sb, .string tb, .string lb', .string ub, .bool nb] 29)).alloc (.cells #[.int .i64 sc, .string tc, .string lc, .string uc, .bool nc] 29)) ⟨sa, ta, la, ua, na⟩ ⟨sb, tb, lb', ub, nb⟩ ⟨sc, tc, lc, uc, nc⟩) := Three.new w ⟨sa, ta, la, ua, na⟩ ⟨sb, tb, lb', ub, nb⟩ ⟨sc, tc, lc, uc, nc⟩ hL
  clear hL
  go_enter Tryd.func8, Tryd.ntmps8
  obtain ⟨a0, a1, a2, a3, a4⟩ := T.out.a; obtain ⟨b0, b1, b2, b3, b4⟩ := T.out.b; obtain ⟨c0, c1, c2, c3, c4⟩ := T.out.c; simp only at a0 a1 a2 a3 a4 b0 b1 b2 b3 b4 c0 c1 c2 c3 c4
  go_wp2_with (first | (go_at_call 22; refine (within_at (by assumption) _).mono ?_; rintro e wn ⟨rfl, hb⟩; replace T := Three.keep T hb; clear hb a0 a1 a2 a3 a4 b0 b1 b2 b3 b4 c0 c1 c2 c3 c4; obtain ⟨a0, a1, a2, a3, a4⟩ := T.out.a; obtain ⟨b0, b1, b2, b3, b4⟩ := T.out.b; obtain ⟨c0, c1, c2, c3, c4⟩ := T.out.c; simp only at a0 a1 a2 a3 a4 b0 b1 b2 b3 b4 c0 c1 c2 c3 c4) | (go_at_call 20; refine (meet_at (by assumption) _).mono ?_; rintro e wn ⟨rfl, hb⟩; replace T := Three.keep T hb; clear hb a0 a1 a2 a3 a4 b0 b1 b2 b3 b4 c0 c1 c2 c3 c4; obtain ⟨a0, a1, a2, a3, a4⟩ := T.out.a; obtain ⟨b0, b1, b2, b3, b4⟩ := T.out.b; obtain ⟨c0, c1, c2, c3, c4⟩ := T.out.c; simp only at a0 a1 a2 a3 a4 b0 b1 b2 b3 b4 c0 c1 c2 c3 c4) | (go_at_call 9; refine (alive_any _ T.out.lib).mono ?_; rintro e wn ⟨rfl, hb⟩; replace T := Three.keep T hb; clear hb a0 a1 a2 a3 a4 b0 b1 b2 b3 b4 c0 c1 c2 c3 c4; obtain ⟨a0, a1, a2, a3, a4⟩ := T.out.a; obtain ⟨b0, b1, b2, b3, b4⟩ := T.out.b; obtain ⟨c0, c1, c2, c3, c4⟩ := T.out.c; simp only at a0 a1 a2 a3 a4 b0 b1 b2 b3 b4 c0 c1 c2 c3 c4))
  go_ret
  refine ⟨?_, T.out.below⟩
  first | rfl | (show Ending.returned (Value.bool _) = Ending.returned (Value.bool _); simp_all)
set_option maxHeartbeats 8000000 in
theorem mw_tft {sa sc : Int} {ta la ua tc lc uc : ByteArray} {na nc : Bool} (w : World) (hL : LibW w) (h : wi ⟨sa, ta, la, ua, na⟩ ⟨sa, ta, la, ua, na⟩ = true) (h1 : wi ⟨sa, ta, la, ua, na⟩ ⟨sc, tc, lc, uc, nc⟩ = true) (h2 : wi ⟨sa, ta, la, ua, na⟩ ⟨sc, tc, lc, uc, nc⟩ = true) (h3 : mt ⟨sa, ta, la, ua, na⟩ ⟨sc, tc, lc, uc, nc⟩ = false) :
    Calls Tryd.prog 8 #[.agg #[.int .i64 sa, .string ta, .string la, .string ua, .bool na], .agg #[.int .i64 sa, .string ta, .string la, .string ua, .bool na], .agg #[.int .i64 sc, .string tc, .string lc, .string uc, .bool nc]] w fun e w' => e = .returned (.bool true) ∧ Below w.heap.size w w' := by
  have T : Hid (Three w (((w.alloc (.cells #[.int .i64 sa, .string ta, .string la, .string ua, .bool na] 29)).alloc (.cells #[.int .i64 sa, .string ta, .string la, .string ua, .bool na] 29)).alloc (.cells #[.int .i64 sc, .string tc, .string lc, .string uc, .bool nc] 29)) ⟨sa, ta, la, ua, na⟩ ⟨sa, ta, la, ua, na⟩ ⟨sc, tc, lc, uc, nc⟩) := Three.new w ⟨sa, ta, la, ua, na⟩ ⟨sa, ta, la, ua, na⟩ ⟨sc, tc, lc, uc, nc⟩ hL
  clear hL
  go_enter Tryd.func8, Tryd.ntmps8
  obtain ⟨a0, a1, a2, a3, a4⟩ := T.out.a; obtain ⟨b0, b1, b2, b3, b4⟩ := T.out.b; obtain ⟨c0, c1, c2, c3, c4⟩ := T.out.c; simp only at a0 a1 a2 a3 a4 b0 b1 b2 b3 b4 c0 c1 c2 c3 c4
  go_wp2_with (first | (go_at_call 22; refine (within_at (by assumption) _).mono ?_; rintro e wn ⟨rfl, hb⟩; replace T := Three.keep T hb; clear hb a0 a1 a2 a3 a4 b0 b1 b2 b3 b4 c0 c1 c2 c3 c4; obtain ⟨a0, a1, a2, a3, a4⟩ := T.out.a; obtain ⟨b0, b1, b2, b3, b4⟩ := T.out.b; obtain ⟨c0, c1, c2, c3, c4⟩ := T.out.c; simp only at a0 a1 a2 a3 a4 b0 b1 b2 b3 b4 c0 c1 c2 c3 c4) | (go_at_call 20; refine (meet_at (by assumption) _).mono ?_; rintro e wn ⟨rfl, hb⟩; replace T := Three.keep T hb; clear hb a0 a1 a2 a3 a4 b0 b1 b2 b3 b4 c0 c1 c2 c3 c4; obtain ⟨a0, a1, a2, a3, a4⟩ := T.out.a; obtain ⟨b0, b1, b2, b3, b4⟩ := T.out.b; obtain ⟨c0, c1, c2, c3, c4⟩ := T.out.c; simp only at a0 a1 a2 a3 a4 b0 b1 b2 b3 b4 c0 c1 c2 c3 c4) | (go_at_call 9; refine (alive_any _ T.out.lib).mono ?_; rintro e wn ⟨rfl, hb⟩; replace T := Three.keep T hb; clear hb a0 a1 a2 a3 a4 b0 b1 b2 b3 b4 c0 c1 c2 c3 c4; obtain ⟨a0, a1, a2, a3, a4⟩ := T.out.a; obtain ⟨b0, b1, b2, b3, b4⟩ := T.out.b; obtain ⟨c0, c1, c2, c3, c4⟩ := T.out.c; simp only at a0 a1 a2 a3 a4 b0 b1 b2 b3 b4 c0 c1 c2 c3 c4))
  go_ret
  refine ⟨?_, T.out.below⟩
  first | rfl | (show Ending.returned (Value.bool _) = Ending.returned (Value.bool _); simp_all)
set_option maxHeartbeats 8000000 in
theorem mw_ftf {sa sb sc : Int} {ta la ua tb lb' ub tc lc uc : ByteArray} {na nb nc : Bool} (w : World) (hL : LibW w) (h : wi ⟨sa, ta, la, ua, na⟩ ⟨sb, tb, lb', ub, nb⟩ = true) (h1 : wi ⟨sb, tb, lb', ub, nb⟩ ⟨sc, tc, lc, uc, nc⟩ = false) (h3 : mt ⟨sa, ta, la, ua, na⟩ ⟨sc, tc, lc, uc, nc⟩ = true) (h4 : mt ⟨sb, tb, lb', ub, nb⟩ ⟨sc, tc, lc, uc, nc⟩ = true) (h5 : wi ⟨sb, tb, lb', ub, nb⟩ ⟨sa, ta, la, ua, na⟩ = false) :
    Calls Tryd.prog 8 #[.agg #[.int .i64 sa, .string ta, .string la, .string ua, .bool na], .agg #[.int .i64 sb, .string tb, .string lb', .string ub, .bool nb], .agg #[.int .i64 sc, .string tc, .string lc, .string uc, .bool nc]] w fun e w' => e = .returned (.bool true) ∧ Below w.heap.size w w' := by
  have T : Hid (Three w (((w.alloc (.cells #[.int .i64 sa, .string ta, .string la, .string ua, .bool na] 29)).alloc (.cells #[.int .i64 sb, .string tb, .string lb', .string ub, .bool nb] 29)).alloc (.cells #[.int .i64 sc, .string tc, .string lc, .string uc, .bool nc] 29)) ⟨sa, ta, la, ua, na⟩ ⟨sb, tb, lb', ub, nb⟩ ⟨sc, tc, lc, uc, nc⟩) := Three.new w ⟨sa, ta, la, ua, na⟩ ⟨sb, tb, lb', ub, nb⟩ ⟨sc, tc, lc, uc, nc⟩ hL
  clear hL
  go_enter Tryd.func8, Tryd.ntmps8
  obtain ⟨a0, a1, a2, a3, a4⟩ := T.out.a; obtain ⟨b0, b1, b2, b3, b4⟩ := T.out.b; obtain ⟨c0, c1, c2, c3, c4⟩ := T.out.c; simp only at a0 a1 a2 a3 a4 b0 b1 b2 b3 b4 c0 c1 c2 c3 c4
  go_wp2_with (first | (go_at_call 22; refine (within_at (by assumption) _).mono ?_; rintro e wn ⟨rfl, hb⟩; replace T := Three.keep T hb; clear hb a0 a1 a2 a3 a4 b0 b1 b2 b3 b4 c0 c1 c2 c3 c4; obtain ⟨a0, a1, a2, a3, a4⟩ := T.out.a; obtain ⟨b0, b1, b2, b3, b4⟩ := T.out.b; obtain ⟨c0, c1, c2, c3, c4⟩ := T.out.c; simp only at a0 a1 a2 a3 a4 b0 b1 b2 b3 b4 c0 c1 c2 c3 c4) | (go_at_call 20; refine (meet_at (by assumption) _).mono ?_; rintro e wn ⟨rfl, hb⟩; replace T := Three.keep T hb; clear hb a0 a1 a2 a3 a4 b0 b1 b2 b3 b4 c0 c1 c2 c3 c4; obtain ⟨a0, a1, a2, a3, a4⟩ := T.out.a; obtain ⟨b0, b1, b2, b3, b4⟩ := T.out.b; obtain ⟨c0, c1, c2, c3, c4⟩ := T.out.c; simp only at a0 a1 a2 a3 a4 b0 b1 b2 b3 b4 c0 c1 c2 c3 c4) | (go_at_call 9; refine (alive_any _ T.out.lib).mono ?_; rintro e wn ⟨rfl, hb⟩; replace T := Three.keep T hb; clear hb a0 a1 a2 a3 a4 b0 b1 b2 b3 b4 c0 c1 c2 c3 c4; obtain ⟨a0, a1, a2, a3, a4⟩ := T.out.a; obtain ⟨b0, b1, b2, b3, b4⟩ := T.out.b; obtain ⟨c0, c1, c2, c3, c4⟩ := T.out.c; simp only at a0 a1 a2 a3 a4 b0 b1 b2 b3 b4 c0 c1 c2 c3 c4))
  go_ret
  refine ⟨?_, T.out.below⟩
  first | rfl | (show Ending.returned (Value.bool _) = Ending.returned (Value.bool _); simp_all)
set_option maxHeartbeats 8000000 in
theorem mw_ftt {sa sc : Int} {ta la ua tc lc uc : ByteArray} {na nc : Bool} (w : World) (hL : LibW w) (h : wi ⟨sa, ta, la, ua, na⟩ ⟨sa, ta, la, ua, na⟩ = true) (h1 : wi ⟨sa, ta, la, ua, na⟩ ⟨sc, tc, lc, uc, nc⟩ = false) (h3 : mt ⟨sa, ta, la, ua, na⟩ ⟨sc, tc, lc, uc, nc⟩ = true) (h4 : mt ⟨sa, ta, la, ua, na⟩ ⟨sc, tc, lc, uc, nc⟩ = true) :
    Calls Tryd.prog 8 #[.agg #[.int .i64 sa, .string ta, .string la, .string ua, .bool na], .agg #[.int .i64 sa, .string ta, .string la, .string ua, .bool na], .agg #[.int .i64 sc, .string tc, .string lc, .string uc, .bool nc]] w fun e w' => e = .returned (.bool true) ∧ Below w.heap.size w w' := by
  have T : Hid (Three w (((w.alloc (.cells #[.int .i64 sa, .string ta, .string la, .string ua, .bool na] 29)).alloc (.cells #[.int .i64 sa, .string ta, .string la, .string ua, .bool na] 29)).alloc (.cells #[.int .i64 sc, .string tc, .string lc, .string uc, .bool nc] 29)) ⟨sa, ta, la, ua, na⟩ ⟨sa, ta, la, ua, na⟩ ⟨sc, tc, lc, uc, nc⟩) := Three.new w ⟨sa, ta, la, ua, na⟩ ⟨sa, ta, la, ua, na⟩ ⟨sc, tc, lc, uc, nc⟩ hL
  clear hL
  go_enter Tryd.func8, Tryd.ntmps8
  obtain ⟨a0, a1, a2, a3, a4⟩ := T.out.a; obtain ⟨b0, b1, b2, b3, b4⟩ := T.out.b; obtain ⟨c0, c1, c2, c3, c4⟩ := T.out.c; simp only at a0 a1 a2 a3 a4 b0 b1 b2 b3 b4 c0 c1 c2 c3 c4
  go_wp2_with (first | (go_at_call 22; refine (within_at (by assumption) _).mono ?_; rintro e wn ⟨rfl, hb⟩; replace T := Three.keep T hb; clear hb a0 a1 a2 a3 a4 b0 b1 b2 b3 b4 c0 c1 c2 c3 c4; obtain ⟨a0, a1, a2, a3, a4⟩ := T.out.a; obtain ⟨b0, b1, b2, b3, b4⟩ := T.out.b; obtain ⟨c0, c1, c2, c3, c4⟩ := T.out.c; simp only at a0 a1 a2 a3 a4 b0 b1 b2 b3 b4 c0 c1 c2 c3 c4) | (go_at_call 20; refine (meet_at (by assumption) _).mono ?_; rintro e wn ⟨rfl, hb⟩; replace T := Three.keep T hb; clear hb a0 a1 a2 a3 a4 b0 b1 b2 b3 b4 c0 c1 c2 c3 c4; obtain ⟨a0, a1, a2, a3, a4⟩ := T.out.a; obtain ⟨b0, b1, b2, b3, b4⟩ := T.out.b; obtain ⟨c0, c1, c2, c3, c4⟩ := T.out.c; simp only at a0 a1 a2 a3 a4 b0 b1 b2 b3 b4 c0 c1 c2 c3 c4) | (go_at_call 9; refine (alive_any _ T.out.lib).mono ?_; rintro e wn ⟨rfl, hb⟩; replace T := Three.keep T hb; clear hb a0 a1 a2 a3 a4 b0 b1 b2 b3 b4 c0 c1 c2 c3 c4; obtain ⟨a0, a1, a2, a3, a4⟩ := T.out.a; obtain ⟨b0, b1, b2, b3, b4⟩ := T.out.b; obtain ⟨c0, c1, c2, c3, c4⟩ := T.out.c; simp only at a0 a1 a2 a3 a4 b0 b1 b2 b3 b4 c0 c1 c2 c3 c4))
  go_ret
  refine ⟨?_, T.out.below⟩
  first | rfl | (show Ending.returned (Value.bool _) = Ending.returned (Value.bool _); simp_all)
set_option maxHeartbeats 8000000 in
theorem mw_fff {sa sb sc : Int} {ta la ua tb lb' ub tc lc uc : ByteArray} {na nb nc : Bool} (w : World) (hL : LibW w) (h : wi ⟨sa, ta, la, ua, na⟩ ⟨sb, tb, lb', ub, nb⟩ = true) (h1 : wi ⟨sb, tb, lb', ub, nb⟩ ⟨sc, tc, lc, uc, nc⟩ = false) (h3 : mt ⟨sa, ta, la, ua, na⟩ ⟨sc, tc, lc, uc, nc⟩ = false) (h5 : wi ⟨sb, tb, lb', ub, nb⟩ ⟨sa, ta, la, ua, na⟩ = false) :
    Calls Tryd.prog 8 #[.agg #[.int .i64 sa, .string ta, .string la, .string ua, .bool na], .agg #[.int .i64 sb, .string tb, .string lb', .string ub, .bool nb], .agg #[.int .i64 sc, .string tc, .string lc, .string uc, .bool nc]] w fun e w' => e = .returned (.bool true) ∧ Below w.heap.size w w' := by
  have T : Hid (Three w (((w.alloc (.cells #[.int .i64 sa, .string ta, .string la, .string ua, .bool na] 29)).alloc (.cells #[.int .i64 sb, .string tb, .string lb', .string ub, .bool nb] 29)).alloc (.cells #[.int .i64 sc, .string tc, .string lc, .string uc, .bool nc] 29)) ⟨sa, ta, la, ua, na⟩ ⟨sb, tb, lb', ub, nb⟩ ⟨sc, tc, lc, uc, nc⟩) := Three.new w ⟨sa, ta, la, ua, na⟩ ⟨sb, tb, lb', ub, nb⟩ ⟨sc, tc, lc, uc, nc⟩ hL
  clear hL
  go_enter Tryd.func8, Tryd.ntmps8
  obtain ⟨a0, a1, a2, a3, a4⟩ := T.out.a; obtain ⟨b0, b1, b2, b3, b4⟩ := T.out.b; obtain ⟨c0, c1, c2, c3, c4⟩ := T.out.c; simp only at a0 a1 a2 a3 a4 b0 b1 b2 b3 b4 c0 c1 c2 c3 c4
  go_wp2_with (first | (go_at_call 22; refine (within_at (by assumption) _).mono ?_; rintro e wn ⟨rfl, hb⟩; replace T := Three.keep T hb; clear hb a0 a1 a2 a3 a4 b0 b1 b2 b3 b4 c0 c1 c2 c3 c4; obtain ⟨a0, a1, a2, a3, a4⟩ := T.out.a; obtain ⟨b0, b1, b2, b3, b4⟩ := T.out.b; obtain ⟨c0, c1, c2, c3, c4⟩ := T.out.c; simp only at a0 a1 a2 a3 a4 b0 b1 b2 b3 b4 c0 c1 c2 c3 c4) | (go_at_call 20; refine (meet_at (by assumption) _).mono ?_; rintro e wn ⟨rfl, hb⟩; replace T := Three.keep T hb; clear hb a0 a1 a2 a3 a4 b0 b1 b2 b3 b4 c0 c1 c2 c3 c4; obtain ⟨a0, a1, a2, a3, a4⟩ := T.out.a; obtain ⟨b0, b1, b2, b3, b4⟩ := T.out.b; obtain ⟨c0, c1, c2, c3, c4⟩ := T.out.c; simp only at a0 a1 a2 a3 a4 b0 b1 b2 b3 b4 c0 c1 c2 c3 c4) | (go_at_call 9; refine (alive_any _ T.out.lib).mono ?_; rintro e wn ⟨rfl, hb⟩; replace T := Three.keep T hb; clear hb a0 a1 a2 a3 a4 b0 b1 b2 b3 b4 c0 c1 c2 c3 c4; obtain ⟨a0, a1, a2, a3, a4⟩ := T.out.a; obtain ⟨b0, b1, b2, b3, b4⟩ := T.out.b; obtain ⟨c0, c1, c2, c3, c4⟩ := T.out.c; simp only at a0 a1 a2 a3 a4 b0 b1 b2 b3 b4 c0 c1 c2 c3 c4))
  go_ret
  refine ⟨?_, T.out.below⟩
  first | rfl | (show Ending.returned (Value.bool _) = Ending.returned (Value.bool _); simp_all)
set_option maxHeartbeats 8000000 in
theorem mw_fft {sa sc : Int} {ta la ua tc lc uc : ByteArray} {na nc : Bool} (w : World) (hL : LibW w) (h : wi ⟨sa, ta, la, ua, na⟩ ⟨sa, ta, la, ua, na⟩ = true) (h1 : wi ⟨sa, ta, la, ua, na⟩ ⟨sc, tc, lc, uc, nc⟩ = false) (h3 : mt ⟨sa, ta, la, ua, na⟩ ⟨sc, tc, lc, uc, nc⟩ = false) :
    Calls Tryd.prog 8 #[.agg #[.int .i64 sa, .string ta, .string la, .string ua, .bool na], .agg #[.int .i64 sa, .string ta, .string la, .string ua, .bool na], .agg #[.int .i64 sc, .string tc, .string lc, .string uc, .bool nc]] w fun e w' => e = .returned (.bool true) ∧ Below w.heap.size w w' := by
  have T : Hid (Three w (((w.alloc (.cells #[.int .i64 sa, .string ta, .string la, .string ua, .bool na] 29)).alloc (.cells #[.int .i64 sa, .string ta, .string la, .string ua, .bool na] 29)).alloc (.cells #[.int .i64 sc, .string tc, .string lc, .string uc, .bool nc] 29)) ⟨sa, ta, la, ua, na⟩ ⟨sa, ta, la, ua, na⟩ ⟨sc, tc, lc, uc, nc⟩) := Three.new w ⟨sa, ta, la, ua, na⟩ ⟨sa, ta, la, ua, na⟩ ⟨sc, tc, lc, uc, nc⟩ hL
  clear hL
  go_enter Tryd.func8, Tryd.ntmps8
  obtain ⟨a0, a1, a2, a3, a4⟩ := T.out.a; obtain ⟨b0, b1, b2, b3, b4⟩ := T.out.b; obtain ⟨c0, c1, c2, c3, c4⟩ := T.out.c; simp only at a0 a1 a2 a3 a4 b0 b1 b2 b3 b4 c0 c1 c2 c3 c4
  go_wp2_with (first | (go_at_call 22; refine (within_at (by assumption) _).mono ?_; rintro e wn ⟨rfl, hb⟩; replace T := Three.keep T hb; clear hb a0 a1 a2 a3 a4 b0 b1 b2 b3 b4 c0 c1 c2 c3 c4; obtain ⟨a0, a1, a2, a3, a4⟩ := T.out.a; obtain ⟨b0, b1, b2, b3, b4⟩ := T.out.b; obtain ⟨c0, c1, c2, c3, c4⟩ := T.out.c; simp only at a0 a1 a2 a3 a4 b0 b1 b2 b3 b4 c0 c1 c2 c3 c4) | (go_at_call 20; refine (meet_at (by assumption) _).mono ?_; rintro e wn ⟨rfl, hb⟩; replace T := Three.keep T hb; clear hb a0 a1 a2 a3 a4 b0 b1 b2 b3 b4 c0 c1 c2 c3 c4; obtain ⟨a0, a1, a2, a3, a4⟩ := T.out.a; obtain ⟨b0, b1, b2, b3, b4⟩ := T.out.b; obtain ⟨c0, c1, c2, c3, c4⟩ := T.out.c; simp only at a0 a1 a2 a3 a4 b0 b1 b2 b3 b4 c0 c1 c2 c3 c4) | (go_at_call 9; refine (alive_any _ T.out.lib).mono ?_; rintro e wn ⟨rfl, hb⟩; replace T := Three.keep T hb; clear hb a0 a1 a2 a3 a4 b0 b1 b2 b3 b4 c0 c1 c2 c3 c4; obtain ⟨a0, a1, a2, a3, a4⟩ := T.out.a; obtain ⟨b0, b1, b2, b3, b4⟩ := T.out.b; obtain ⟨c0, c1, c2, c3, c4⟩ := T.out.c; simp only at a0 a1 a2 a3 a4 b0 b1 b2 b3 b4 c0 c1 c2 c3 c4))
  go_ret
  refine ⟨?_, T.out.below⟩
  first | rfl | (show Ending.returned (Value.bool _) = Ending.returned (Value.bool _); simp_all)
theorem mwithin_law (a b c : Ob) (w : World) (hL : LibW w) :
    Calls Tryd.prog 8 #[a.v, b.v, c.v] w fun e w' => e = .returned (.bool true) ∧ Below w.heap.size w w' := by
  cases h : wi a b with
  | false =>
    obtain ⟨sa, ta, la, ua, na⟩ := a
    obtain ⟨sb, tb, lb', ub, nb⟩ := b
    obtain ⟨sc, tc, lc, uc, nc⟩ := c
    exact mw_n w hL h
  | true =>
    cases h1 : wi b c with
    | false =>
      cases h3 : mt a c with
      | false =>
        cases h5 : wi b a with
        | false =>
          obtain ⟨sa, ta, la, ua, na⟩ := a
          obtain ⟨sb, tb, lb', ub, nb⟩ := b
          obtain ⟨sc, tc, lc, uc, nc⟩ := c
          exact mw_fff w hL h h1 h3 h5
        | true =>
          obtain rfl := wi_anti h h5
          obtain ⟨sa, ta, la, ua, na⟩ := a
          obtain ⟨sc, tc, lc, uc, nc⟩ := c
          exact mw_fft w hL h h1 h3
      | true =>
        have h4 := wi_meet h h3
        cases h5 : wi b a with
        | false =>
          obtain ⟨sa, ta, la, ua, na⟩ := a
          obtain ⟨sb, tb, lb', ub, nb⟩ := b
          obtain ⟨sc, tc, lc, uc, nc⟩ := c
          exact mw_ftf w hL h h1 h3 h4 h5
        | true =>
          obtain rfl := wi_anti h h5
          obtain ⟨sa, ta, la, ua, na⟩ := a
          obtain ⟨sc, tc, lc, uc, nc⟩ := c
          exact mw_ftt w hL h h1 h3 h4
    | true =>
      have h2 := wi_trans h h1
      cases h3 : mt a c with
      | false =>
        cases h5 : wi b a with
        | false =>
          obtain ⟨sa, ta, la, ua, na⟩ := a
          obtain ⟨sb, tb, lb', ub, nb⟩ := b
          obtain ⟨sc, tc, lc, uc, nc⟩ := c
          exact mw_tff w hL h h1 h2 h3 h5
        | true =>
          obtain rfl := wi_anti h h5
          obtain ⟨sa, ta, la, ua, na⟩ := a
          obtain ⟨sc, tc, lc, uc, nc⟩ := c
          exact mw_tft w hL h h1 h2 h3
      | true =>
        have h4 := wi_meet h h3
        cases h5 : wi b a with
        | false =>
          obtain ⟨sa, ta, la, ua, na⟩ := a
          obtain ⟨sb, tb, lb', ub, nb⟩ := b
          obtain ⟨sc, tc, lc, uc, nc⟩ := c
          exact mw_ttf w hL h h1 h2 h3 h4 h5
        | true =>
          obtain rfl := wi_anti h h5
          obtain ⟨sa, ta, la, ua, na⟩ := a
          obtain ⟨sc, tc, lc, uc, nc⟩ := c
          exact mw_ttt w hL h h1 h2 h3 h4
end Go.Proofs.YtlklddhljhlpnaaDoor

/- Objects: the walks of the program's beside, Meet, Within. -/
import Derived.Test.YtmldpbgdjlblmaaDoorM10E
namespace Go.Proofs.YtmldpbgdjlblmaaDoor
open Go.RowKit Go.Joins
set_option linter.unusedVariables false
set_option linter.unusedSimpArgs false

def bs (a b : Ob) : Bool := decide (a.sp = b.sp) && decide (a.tb.toList = b.tb.toList) && pl a && pl b
def mt (a b : Ob) : Bool := bs a b && rch a b.lo && rch b a.lo
def wi (a b : Ob) : Bool := bs a b && !Op.bytesLess a.lo.toList b.lo.toList && (if a.en then b.en else rch b a.hi)
theorem place_is {o : Ob} {t : Bool} (h : pl o = t) (w : World) :
    Calls Tryd.prog 32 #[o.v] w fun e w' => e = .returned (.bool t) ∧ Below w.heap.size w w' := h ▸ place_any o w
theorem reaches_is {o : Ob} {k : ByteArray} {t : Bool} (h : rch o k = t) (w : World) :
    Calls Tryd.prog 82 #[o.v, .string k] w fun e w' => e = .returned (.bool t) ∧ Below w.heap.size w w' := h ▸ reaches_any o k w
theorem cell_keep {W w' : World} (hb : Below W.heap.size W w') {b o : Nat} {v : Value} (h : W.cell? ⟨b, o, none⟩ = some v) : w'.cell? ⟨b, o, none⟩ = some v :=
  (hb.cell (p := ⟨b, o, none⟩) (World.block_lt_of_cell? W _ h)).trans h
theorem place_at {sp : Int} {tb lo hi : ByteArray} {en t : Bool} (h : pl ⟨sp, tb, lo, hi, en⟩ = t) (w : World) :
    Calls Tryd.prog 32 #[.agg #[.int .i64 sp, .string tb, .string lo, .string hi, .bool en]] w fun e w' => e = .returned (.bool t) ∧ Below w.heap.size w w' := h ▸ place_any ⟨sp, tb, lo, hi, en⟩ w
theorem reaches_at {sp : Int} {tb lo hi k : ByteArray} {en t : Bool} (h : rch ⟨sp, tb, lo, hi, en⟩ k = t) (w : World) :
    Calls Tryd.prog 82 #[.agg #[.int .i64 sp, .string tb, .string lo, .string hi, .bool en], .string k] w fun e w' => e = .returned (.bool t) ∧ Below w.heap.size w w' := h ▸ reaches_any ⟨sp, tb, lo, hi, en⟩ k w
/-- An object in its box. -/
structure BoxO (W : World) (b : Nat) (o : Ob) : Prop where
  c0 : W.cell? ⟨b, 0, none⟩ = some (.int .i64 o.sp)
  c1 : W.cell? ⟨b, 1, none⟩ = some (.string o.tb)
  c2 : W.cell? ⟨b, 2, none⟩ = some (.string o.lo)
  c3 : W.cell? ⟨b, 3, none⟩ = some (.string o.hi)
  c4 : W.cell? ⟨b, 4, none⟩ = some (.bool o.en)
theorem BoxO.keep {W w' : World} {b : Nat} {o : Ob} (h : BoxO W b o) (hb : Below W.heap.size W w') : BoxO w' b o :=
  ⟨cell_keep hb h.c0, cell_keep hb h.c1, cell_keep hb h.c2, cell_keep hb h.c3, cell_keep hb h.c4⟩
abbrev Ob.box (o : Ob) : Obj := .cells #[.int .i64 o.sp, .string o.tb, .string o.lo, .string o.hi, .bool o.en] 33
theorem BoxO.new (W : World) (o : Ob) : BoxO (W.alloc o.box) W.heap.size o :=
  ⟨by go_simp, by go_simp, by go_simp, by go_simp, by go_simp⟩
/-- The two boxes of a call that takes two objects. -/
structure Two (w W : World) (a b : Ob) : Prop where
  a : BoxO W w.heap.size a
  b : BoxO W (w.heap.size + 1) b
  below : Below w.heap.size w W
theorem Two.keep {w W W' : World} {a b : Ob} (T : Two w W a b) (hb : Below W.heap.size W W') : Two w W' a b := ⟨T.a.keep hb, T.b.keep hb, keepA T.below hb⟩
theorem Two.new (w : World) (a b : Ob) : Two w ((w.alloc a.box).alloc b.box) a b := by
  have h1 : (w.alloc a.box).heap.size = w.heap.size + 1 := by simp
  refine ⟨(BoxO.new w a).keep ((Below.refl _ _).alloc (Nat.le_refl _) _), ?_, ((Below.refl _ _).alloc (Nat.le_refl _) _).alloc (by simp) _⟩
  have := BoxO.new (w.alloc a.box) b
  rw [h1] at this
  exact this
theorem two_first {w W : World} {a b : Ob} (hb : Below ((w.alloc a.box).alloc b.box).heap.size ((w.alloc a.box).alloc b.box) W) : Two w W a b := (Two.new w a b).keep hb
set_option maxHeartbeats 4000000 in
theorem beside_s {sa sb : Int} {ta la ua tb lb' ub : ByteArray} {na nb : Bool} (w : World) (hs : ¬ (sa = sb)) :
    Calls Tryd.prog 81 #[.agg #[.int .i64 sa, .string ta, .string la, .string ua, .bool na], .agg #[.int .i64 sb, .string tb, .string lb', .string ub, .bool nb]] w fun e w' => e = .returned (.bool false) ∧ Below w.heap.size w w' := by
  go_enter Tryd.func81, Tryd.ntmps81
  go_wp2_with fail
  go_ret
  exact ⟨rfl, (Two.new w ⟨sa, ta, la, ua, na⟩ ⟨sb, tb, lb', ub, nb⟩).below⟩
set_option maxHeartbeats 4000000 in
theorem beside_t {sa : Int} {ta la ua tb lb' ub : ByteArray} {na nb : Bool} (w : World) (ht : ¬ (ta.toList = tb.toList)) :
    Calls Tryd.prog 81 #[.agg #[.int .i64 sa, .string ta, .string la, .string ua, .bool na], .agg #[.int .i64 sa, .string tb, .string lb', .string ub, .bool nb]] w fun e w' => e = .returned (.bool false) ∧ Below w.heap.size w w' := by
  go_enter Tryd.func81, Tryd.ntmps81
  go_wp2_with fail
  go_ret
  exact ⟨rfl, (Two.new w ⟨sa, ta, la, ua, na⟩ ⟨sa, tb, lb', ub, nb⟩).below⟩
set_option maxHeartbeats 4000000 in
theorem beside_a {sa : Int} {ta la ua tb lb' ub : ByteArray} {na nb : Bool} (w : World) (ht : ta.toList = tb.toList) (ha : pl ⟨sa, ta, la, ua, na⟩ = false) :
    Calls Tryd.prog 81 #[.agg #[.int .i64 sa, .string ta, .string la, .string ua, .bool na], .agg #[.int .i64 sa, .string tb, .string lb', .string ub, .bool nb]] w fun e w' => e = .returned (.bool false) ∧ Below w.heap.size w w' := by
  go_enter Tryd.func81, Tryd.ntmps81
  go_wp2_with fail
  refine (place_at ha _).mono ?_
  rintro e w1 ⟨rfl, hb⟩
  go_wp2_with fail
  go_ret
  exact ⟨rfl, (two_first (a := ⟨sa, ta, la, ua, na⟩) (b := ⟨sa, tb, lb', ub, nb⟩) hb).below⟩
set_option maxHeartbeats 4000000 in
theorem beside_b {sa : Int} {ta la ua tb lb' ub : ByteArray} {na nb : Bool} (w : World) (ht : ta.toList = tb.toList) (ha : pl ⟨sa, ta, la, ua, na⟩ = true) (t : Bool) (hp : pl ⟨sa, tb, lb', ub, nb⟩ = t) :
    Calls Tryd.prog 81 #[.agg #[.int .i64 sa, .string ta, .string la, .string ua, .bool na], .agg #[.int .i64 sa, .string tb, .string lb', .string ub, .bool nb]] w fun e w' => e = .returned (.bool t) ∧ Below w.heap.size w w' := by
  go_enter Tryd.func81, Tryd.ntmps81
  go_wp2_with fail
  refine (place_at ha _).mono ?_
  rintro e w1 ⟨rfl, hb⟩
  have T := two_first (a := ⟨sa, ta, la, ua, na⟩) (b := ⟨sa, tb, lb', ub, nb⟩) hb
  clear hb
  obtain ⟨b0, b1, b2, b3, b4⟩ := T.b
  obtain ⟨a0, a1, a2, a3, a4⟩ := T.a
  simp only at b0 b1 b2 b3 b4 a0 a1 a2 a3 a4
  go_wp2_with fail
  refine (place_at hp _).mono ?_
  rintro e w1 ⟨rfl, hb⟩
  go_wp2_with fail
  go_ret
  exact ⟨rfl, (T.keep hb).below⟩
theorem beside_at {sa sb : Int} {ta la ua tb lb' ub : ByteArray} {na nb : Bool} {t : Bool} (h : bs ⟨sa, ta, la, ua, na⟩ ⟨sb, tb, lb', ub, nb⟩ = t) (w : World) :
    Calls Tryd.prog 81 #[.agg #[.int .i64 sa, .string ta, .string la, .string ua, .bool na], .agg #[.int .i64 sb, .string tb, .string lb', .string ub, .bool nb]] w fun e w' => e = .returned (.bool t) ∧ Below w.heap.size w w' := by
  subst h
  by_cases hs : sa = sb
  · subst hs
    by_cases ht : ta.toList = tb.toList
    · cases ha : pl ⟨sa, ta, la, ua, na⟩ with
      | false =>
        rw [show bs ⟨sa, ta, la, ua, na⟩ ⟨sa, tb, lb', ub, nb⟩ = false by simp only [bs, ha]; simp]
        exact beside_a w ht ha
      | true =>
        rw [show bs ⟨sa, ta, la, ua, na⟩ ⟨sa, tb, lb', ub, nb⟩ = pl ⟨sa, tb, lb', ub, nb⟩ by simp only [bs, ha]; simp [ht]]
        exact beside_b w ht ha _ rfl
    · rw [show bs ⟨sa, ta, la, ua, na⟩ ⟨sa, tb, lb', ub, nb⟩ = false by simp [bs, ht]]
      exact beside_t w ht
  · rw [show bs ⟨sa, ta, la, ua, na⟩ ⟨sb, tb, lb', ub, nb⟩ = false by simp [bs, hs]]
    exact beside_s w hs
set_option maxHeartbeats 4000000 in
theorem meet_n {sa sb : Int} {ta la ua tb lb' ub : ByteArray} {na nb : Bool} (w : World) (h : bs ⟨sa, ta, la, ua, na⟩ ⟨sb, tb, lb', ub, nb⟩ = false) :
    Calls Tryd.prog 80 #[.agg #[.int .i64 sa, .string ta, .string la, .string ua, .bool na], .agg #[.int .i64 sb, .string tb, .string lb', .string ub, .bool nb]] w fun e w' => e = .returned (.bool false) ∧ Below w.heap.size w w' := by
  go_enter Tryd.func80, Tryd.ntmps80
  go_wp2_with fail
  refine (beside_at h _).mono ?_
  rintro e w1 ⟨rfl, hb⟩
  go_wp2_with fail
  go_ret
  exact ⟨rfl, (two_first (a := ⟨sa, ta, la, ua, na⟩) (b := ⟨sb, tb, lb', ub, nb⟩) hb).below⟩
set_option maxHeartbeats 4000000 in
theorem meet_a {sa sb : Int} {ta la ua tb lb' ub : ByteArray} {na nb : Bool} (w : World) (h : bs ⟨sa, ta, la, ua, na⟩ ⟨sb, tb, lb', ub, nb⟩ = true) (h1 : rch ⟨sa, ta, la, ua, na⟩ lb' = false) :
    Calls Tryd.prog 80 #[.agg #[.int .i64 sa, .string ta, .string la, .string ua, .bool na], .agg #[.int .i64 sb, .string tb, .string lb', .string ub, .bool nb]] w fun e w' => e = .returned (.bool false) ∧ Below w.heap.size w w' := by
  go_enter Tryd.func80, Tryd.ntmps80
  go_wp2_with fail
  refine (beside_at h _).mono ?_
  rintro e w1 ⟨rfl, hb⟩
  have T := two_first (a := ⟨sa, ta, la, ua, na⟩) (b := ⟨sb, tb, lb', ub, nb⟩) hb
  clear hb
  obtain ⟨b0, b1, b2, b3, b4⟩ := T.b
  obtain ⟨a0, a1, a2, a3, a4⟩ := T.a
  simp only at b0 b1 b2 b3 b4 a0 a1 a2 a3 a4
  go_wp2_with fail
  refine (reaches_at h1 _).mono ?_
  rintro e w1 ⟨rfl, hb⟩
  go_wp2_with fail
  go_ret
  exact ⟨rfl, (T.keep hb).below⟩
set_option maxHeartbeats 4000000 in
theorem meet_b {sa sb : Int} {ta la ua tb lb' ub : ByteArray} {na nb : Bool} (w : World) (h : bs ⟨sa, ta, la, ua, na⟩ ⟨sb, tb, lb', ub, nb⟩ = true) (h1 : rch ⟨sa, ta, la, ua, na⟩ lb' = true) (t : Bool) (h2 : rch ⟨sb, tb, lb', ub, nb⟩ la = t) :
    Calls Tryd.prog 80 #[.agg #[.int .i64 sa, .string ta, .string la, .string ua, .bool na], .agg #[.int .i64 sb, .string tb, .string lb', .string ub, .bool nb]] w fun e w' => e = .returned (.bool t) ∧ Below w.heap.size w w' := by
  go_enter Tryd.func80, Tryd.ntmps80
  go_wp2_with fail
  refine (beside_at h _).mono ?_
  rintro e w1 ⟨rfl, hb⟩
  have T := two_first (a := ⟨sa, ta, la, ua, na⟩) (b := ⟨sb, tb, lb', ub, nb⟩) hb
  clear hb
  obtain ⟨b0, b1, b2, b3, b4⟩ := T.b
  obtain ⟨a0, a1, a2, a3, a4⟩ := T.a
  simp only at b0 b1 b2 b3 b4 a0 a1 a2 a3 a4
  go_wp2_with fail
  refine (reaches_at h1 _).mono ?_
  rintro e w1 ⟨rfl, hb⟩
  replace T := T.keep hb
  clear b0 b1 b2 b3 b4 a0 a1 a2 a3 a4 hb
  obtain ⟨b0, b1, b2, b3, b4⟩ := T.b
  obtain ⟨a0, a1, a2, a3, a4⟩ := T.a
  simp only at b0 b1 b2 b3 b4 a0 a1 a2 a3 a4
  go_wp2_with fail
  refine (reaches_at h2 _).mono ?_
  rintro e w1 ⟨rfl, hb⟩
  go_wp2_with fail
  go_ret
  exact ⟨rfl, (T.keep hb).below⟩
set_option maxHeartbeats 4000000 in
theorem within_n {sa sb : Int} {ta la ua tb lb' ub : ByteArray} {na nb : Bool} (w : World) (h : bs ⟨sa, ta, la, ua, na⟩ ⟨sb, tb, lb', ub, nb⟩ = false) :
    Calls Tryd.prog 71 #[.agg #[.int .i64 sa, .string ta, .string la, .string ua, .bool na], .agg #[.int .i64 sb, .string tb, .string lb', .string ub, .bool nb]] w fun e w' => e = .returned (.bool false) ∧ Below w.heap.size w w' := by
  go_enter Tryd.func71, Tryd.ntmps71
  go_wp2_with fail
  refine (beside_at h _).mono ?_
  rintro e w1 ⟨rfl, hb⟩
  go_wp2_with fail
  go_ret
  exact ⟨rfl, (two_first (a := ⟨sa, ta, la, ua, na⟩) (b := ⟨sb, tb, lb', ub, nb⟩) hb).below⟩
set_option maxHeartbeats 4000000 in
theorem within_a {sa sb : Int} {ta la ua tb lb' ub : ByteArray} {na nb : Bool} (w : World) (h : bs ⟨sa, ta, la, ua, na⟩ ⟨sb, tb, lb', ub, nb⟩ = true) (h1 : Op.bytesLess la.toList lb'.toList = true) :
    Calls Tryd.prog 71 #[.agg #[.int .i64 sa, .string ta, .string la, .string ua, .bool na], .agg #[.int .i64 sb, .string tb, .string lb', .string ub, .bool nb]] w fun e w' => e = .returned (.bool false) ∧ Below w.heap.size w w' := by
  go_enter Tryd.func71, Tryd.ntmps71
  go_wp2_with fail
  refine (beside_at h _).mono ?_
  rintro e w1 ⟨rfl, hb⟩
  have T := two_first (a := ⟨sa, ta, la, ua, na⟩) (b := ⟨sb, tb, lb', ub, nb⟩) hb
  clear hb
  obtain ⟨b0, b1, b2, b3, b4⟩ := T.b
  obtain ⟨a0, a1, a2, a3, a4⟩ := T.a
  simp only at b0 b1 b2 b3 b4 a0 a1 a2 a3 a4
  go_wp2_with fail
  go_ret
  exact ⟨rfl, T.below⟩
set_option maxHeartbeats 4000000 in
theorem within_b {sa sb : Int} {ta la ua tb lb' ub : ByteArray} {na nb : Bool} (w : World) (h : bs ⟨sa, ta, la, ua, na⟩ ⟨sb, tb, lb', ub, nb⟩ = true) (h1 : Op.bytesLess la.toList lb'.toList = false) (he : na = true) :
    Calls Tryd.prog 71 #[.agg #[.int .i64 sa, .string ta, .string la, .string ua, .bool na], .agg #[.int .i64 sb, .string tb, .string lb', .string ub, .bool nb]] w fun e w' => e = .returned (.bool nb) ∧ Below w.heap.size w w' := by
  go_enter Tryd.func71, Tryd.ntmps71
  subst he
  go_wp2_with fail
  refine (beside_at h _).mono ?_
  rintro e w1 ⟨rfl, hb⟩
  have T := two_first (a := ⟨sa, ta, la, ua, true⟩) (b := ⟨sb, tb, lb', ub, nb⟩) hb
  clear hb
  obtain ⟨b0, b1, b2, b3, b4⟩ := T.b
  obtain ⟨a0, a1, a2, a3, a4⟩ := T.a
  simp only at b0 b1 b2 b3 b4 a0 a1 a2 a3 a4
  go_wp2_with fail
  go_ret
  exact ⟨rfl, T.below⟩
set_option maxHeartbeats 4000000 in
theorem within_c {sa sb : Int} {ta la ua tb lb' ub : ByteArray} {na nb : Bool} (w : World) (h : bs ⟨sa, ta, la, ua, na⟩ ⟨sb, tb, lb', ub, nb⟩ = true) (h1 : Op.bytesLess la.toList lb'.toList = false) (he : na = false) (t : Bool) (h2 : rch ⟨sb, tb, lb', ub, nb⟩ ua = t) :
    Calls Tryd.prog 71 #[.agg #[.int .i64 sa, .string ta, .string la, .string ua, .bool na], .agg #[.int .i64 sb, .string tb, .string lb', .string ub, .bool nb]] w fun e w' => e = .returned (.bool t) ∧ Below w.heap.size w w' := by
  go_enter Tryd.func71, Tryd.ntmps71
  subst he
  go_wp2_with fail
  refine (beside_at h _).mono ?_
  rintro e w1 ⟨rfl, hb⟩
  have T := two_first (a := ⟨sa, ta, la, ua, false⟩) (b := ⟨sb, tb, lb', ub, nb⟩) hb
  clear hb
  obtain ⟨b0, b1, b2, b3, b4⟩ := T.b
  obtain ⟨a0, a1, a2, a3, a4⟩ := T.a
  simp only at b0 b1 b2 b3 b4 a0 a1 a2 a3 a4
  go_wp2_with fail
  refine (reaches_at h2 _).mono ?_
  rintro e w1 ⟨rfl, hb⟩
  go_wp2_with fail
  go_ret
  exact ⟨rfl, (T.keep hb).below⟩
theorem meet_any (a b : Ob) (w : World) :
    Calls Tryd.prog 80 #[a.v, b.v] w fun e w' => e = .returned (.bool (mt a b)) ∧ Below w.heap.size w w' := by
  obtain ⟨sa, ta, la, ua, na⟩ := a
  obtain ⟨sb, tb, lb', ub, nb⟩ := b
  cases h : bs ⟨sa, ta, la, ua, na⟩ ⟨sb, tb, lb', ub, nb⟩ with
  | false =>
    rw [show mt ⟨sa, ta, la, ua, na⟩ ⟨sb, tb, lb', ub, nb⟩ = false by simp only [mt, h]; rfl]
    exact meet_n w h
  | true =>
    cases h1 : rch ⟨sa, ta, la, ua, na⟩ lb' with
    | false =>
      rw [show mt ⟨sa, ta, la, ua, na⟩ ⟨sb, tb, lb', ub, nb⟩ = false by simp only [mt, h, h1]; rfl]
      exact meet_a w h h1
    | true =>
      rw [show mt ⟨sa, ta, la, ua, na⟩ ⟨sb, tb, lb', ub, nb⟩ = rch ⟨sb, tb, lb', ub, nb⟩ la by simp only [mt, h, h1]; rfl]
      exact meet_b w h h1 _ rfl
theorem within_any (a b : Ob) (w : World) :
    Calls Tryd.prog 71 #[a.v, b.v] w fun e w' => e = .returned (.bool (wi a b)) ∧ Below w.heap.size w w' := by
  obtain ⟨sa, ta, la, ua, na⟩ := a
  obtain ⟨sb, tb, lb', ub, nb⟩ := b
  cases h : bs ⟨sa, ta, la, ua, na⟩ ⟨sb, tb, lb', ub, nb⟩ with
  | false =>
    rw [show wi ⟨sa, ta, la, ua, na⟩ ⟨sb, tb, lb', ub, nb⟩ = false by simp only [wi, h]; rfl]
    exact within_n w h
  | true =>
    cases h1 : Op.bytesLess la.toList lb'.toList with
    | true =>
      rw [show wi ⟨sa, ta, la, ua, na⟩ ⟨sb, tb, lb', ub, nb⟩ = false by simp only [wi, h, h1]; rfl]
      exact within_a w h h1
    | false =>
      cases na with
      | true =>
        rw [show wi ⟨sa, ta, la, ua, true⟩ ⟨sb, tb, lb', ub, nb⟩ = nb by simp only [wi, h, h1]; rfl]
        exact within_b w h h1 rfl
      | false =>
        rw [show wi ⟨sa, ta, la, ua, false⟩ ⟨sb, tb, lb', ub, nb⟩ = rch ⟨sb, tb, lb', ub, nb⟩ ua by simp only [wi, h, h1]; rfl]
        exact within_c w h h1 rfl _ rfl
end Go.Proofs.YtmldpbgdjlblmaaDoor

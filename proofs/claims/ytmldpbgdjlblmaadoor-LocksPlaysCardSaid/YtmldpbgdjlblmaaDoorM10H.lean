/- Objects: the walks of the document's both, Meet, Within. -/
import Derived.Test.YtmldpbgdjlblmaaDoorM10G
namespace Go.Proofs.YtmldpbgdjlblmaaDoor
open Go.RowKit Go.Joins
set_option linter.unusedVariables false
set_option linter.unusedSimpArgs false

theorem rplace_at {sp : Int} {tb lo hi : ByteArray} {en t : Bool} (h : pl ⟨sp, tb, lo, hi, en⟩ = t) (w : World) :
    Calls Tryd.prog 36 #[.agg #[.int .i64 sp, .string tb, .string lo, .string hi, .bool en]] w fun e w' => e = .returned (.bool t) ∧ Below w.heap.size w w' := h ▸ rplace_any ⟨sp, tb, lo, hi, en⟩ w
set_option maxHeartbeats 4000000 in
theorem both_s {sa sb : Int} {ta la ua tb lb' ub : ByteArray} {na nb : Bool} (w : World) (hp : pl ⟨sa, ta, la, ua, na⟩ = true) (hq : pl ⟨sb, tb, lb', ub, nb⟩ = true) (hs : ¬ (sa = sb)) :
    Calls Tryd.prog 54 #[.agg #[.int .i64 sa, .string ta, .string la, .string ua, .bool na], .agg #[.int .i64 sb, .string tb, .string lb', .string ub, .bool nb]] w fun e w' => e = .returned (.bool false) ∧ Below w.heap.size w w' := by
  go_enter Tryd.func54, Tryd.ntmps54
  go_wp2_with fail
  refine (rplace_at hp _).mono ?_
  rintro e w1 ⟨rfl, hb⟩
  have T := two_first (a := ⟨sa, ta, la, ua, na⟩) (b := ⟨sb, tb, lb', ub, nb⟩) hb
  clear hb
  obtain ⟨b0, b1, b2, b3, b4⟩ := T.b
  obtain ⟨a0, a1, a2, a3, a4⟩ := T.a
  simp only at b0 b1 b2 b3 b4 a0 a1 a2 a3 a4
  go_wp2_with fail
  refine (rplace_at hq _).mono ?_
  rintro e w1 ⟨rfl, hb⟩
  replace T := T.keep hb
  clear b0 b1 b2 b3 b4 a0 a1 a2 a3 a4 hb
  obtain ⟨b0, b1, b2, b3, b4⟩ := T.b
  obtain ⟨a0, a1, a2, a3, a4⟩ := T.a
  simp only at b0 b1 b2 b3 b4 a0 a1 a2 a3 a4
  go_wp2_with fail
  go_ret
  refine ⟨?_, T.below⟩
  first | rfl | (show Ending.returned (Value.bool _) = Ending.returned (Value.bool _); simp_all)
set_option maxHeartbeats 4000000 in
theorem both_t {sa : Int} {ta la ua tb lb' ub : ByteArray} {na nb : Bool} (w : World) (hp : pl ⟨sa, ta, la, ua, na⟩ = true) (hq : pl ⟨sa, tb, lb', ub, nb⟩ = true) (ht : ¬ (ta.toList = tb.toList)) :
    Calls Tryd.prog 54 #[.agg #[.int .i64 sa, .string ta, .string la, .string ua, .bool na], .agg #[.int .i64 sa, .string tb, .string lb', .string ub, .bool nb]] w fun e w' => e = .returned (.bool false) ∧ Below w.heap.size w w' := by
  go_enter Tryd.func54, Tryd.ntmps54
  go_wp2_with fail
  refine (rplace_at hp _).mono ?_
  rintro e w1 ⟨rfl, hb⟩
  have T := two_first (a := ⟨sa, ta, la, ua, na⟩) (b := ⟨sa, tb, lb', ub, nb⟩) hb
  clear hb
  obtain ⟨b0, b1, b2, b3, b4⟩ := T.b
  obtain ⟨a0, a1, a2, a3, a4⟩ := T.a
  simp only at b0 b1 b2 b3 b4 a0 a1 a2 a3 a4
  go_wp2_with fail
  refine (rplace_at hq _).mono ?_
  rintro e w1 ⟨rfl, hb⟩
  replace T := T.keep hb
  clear b0 b1 b2 b3 b4 a0 a1 a2 a3 a4 hb
  obtain ⟨b0, b1, b2, b3, b4⟩ := T.b
  obtain ⟨a0, a1, a2, a3, a4⟩ := T.a
  simp only at b0 b1 b2 b3 b4 a0 a1 a2 a3 a4
  go_wp2_with fail
  go_ret
  refine ⟨?_, T.below⟩
  first | rfl | (show Ending.returned (Value.bool _) = Ending.returned (Value.bool _); simp_all)
set_option maxHeartbeats 4000000 in
theorem both_y {sa : Int} {ta la ua tb lb' ub : ByteArray} {na nb : Bool} (w : World) (hp : pl ⟨sa, ta, la, ua, na⟩ = true) (hq : pl ⟨sa, tb, lb', ub, nb⟩ = true) (ht : ta.toList = tb.toList) :
    Calls Tryd.prog 54 #[.agg #[.int .i64 sa, .string ta, .string la, .string ua, .bool na], .agg #[.int .i64 sa, .string tb, .string lb', .string ub, .bool nb]] w fun e w' => e = .returned (.bool true) ∧ Below w.heap.size w w' := by
  go_enter Tryd.func54, Tryd.ntmps54
  go_wp2_with fail
  refine (rplace_at hp _).mono ?_
  rintro e w1 ⟨rfl, hb⟩
  have T := two_first (a := ⟨sa, ta, la, ua, na⟩) (b := ⟨sa, tb, lb', ub, nb⟩) hb
  clear hb
  obtain ⟨b0, b1, b2, b3, b4⟩ := T.b
  obtain ⟨a0, a1, a2, a3, a4⟩ := T.a
  simp only at b0 b1 b2 b3 b4 a0 a1 a2 a3 a4
  go_wp2_with fail
  refine (rplace_at hq _).mono ?_
  rintro e w1 ⟨rfl, hb⟩
  replace T := T.keep hb
  clear b0 b1 b2 b3 b4 a0 a1 a2 a3 a4 hb
  obtain ⟨b0, b1, b2, b3, b4⟩ := T.b
  obtain ⟨a0, a1, a2, a3, a4⟩ := T.a
  simp only at b0 b1 b2 b3 b4 a0 a1 a2 a3 a4
  go_wp2_with fail
  go_ret
  refine ⟨?_, T.below⟩
  first | rfl | (show Ending.returned (Value.bool _) = Ending.returned (Value.bool _); simp_all)
set_option maxHeartbeats 4000000 in
theorem both_tf {sa sb : Int} {ta la ua tb lb' ub : ByteArray} {na nb : Bool} (w : World) (hp : pl ⟨sa, ta, la, ua, na⟩ = true) (hq : pl ⟨sb, tb, lb', ub, nb⟩ = false) :
    Calls Tryd.prog 54 #[.agg #[.int .i64 sa, .string ta, .string la, .string ua, .bool na], .agg #[.int .i64 sb, .string tb, .string lb', .string ub, .bool nb]] w fun e w' => e = .returned (.bool false) ∧ Below w.heap.size w w' := by
  go_enter Tryd.func54, Tryd.ntmps54
  go_wp2_with fail
  refine (rplace_at hp _).mono ?_
  rintro e w1 ⟨rfl, hb⟩
  have T := two_first (a := ⟨sa, ta, la, ua, na⟩) (b := ⟨sb, tb, lb', ub, nb⟩) hb
  clear hb
  obtain ⟨b0, b1, b2, b3, b4⟩ := T.b
  obtain ⟨a0, a1, a2, a3, a4⟩ := T.a
  simp only at b0 b1 b2 b3 b4 a0 a1 a2 a3 a4
  go_wp2_with fail
  refine (rplace_at hq _).mono ?_
  rintro e w1 ⟨rfl, hb⟩
  replace T := T.keep hb
  clear b0 b1 b2 b3 b4 a0 a1 a2 a3 a4 hb
  obtain ⟨b0, b1, b2, b3, b4⟩ := T.b
  obtain ⟨a0, a1, a2, a3, a4⟩ := T.a
  simp only at b0 b1 b2 b3 b4 a0 a1 a2 a3 a4
  go_wp2_with fail
  go_ret
  refine ⟨?_, T.below⟩
  first | rfl | (show Ending.returned (Value.bool _) = Ending.returned (Value.bool _); simp_all)
set_option maxHeartbeats 4000000 in
theorem both_ft {sa sb : Int} {ta la ua tb lb' ub : ByteArray} {na nb : Bool} (w : World) (hp : pl ⟨sa, ta, la, ua, na⟩ = false) (hq : pl ⟨sb, tb, lb', ub, nb⟩ = true) :
    Calls Tryd.prog 54 #[.agg #[.int .i64 sa, .string ta, .string la, .string ua, .bool na], .agg #[.int .i64 sb, .string tb, .string lb', .string ub, .bool nb]] w fun e w' => e = .returned (.bool false) ∧ Below w.heap.size w w' := by
  go_enter Tryd.func54, Tryd.ntmps54
  go_wp2_with fail
  refine (rplace_at hp _).mono ?_
  rintro e w1 ⟨rfl, hb⟩
  have T := two_first (a := ⟨sa, ta, la, ua, na⟩) (b := ⟨sb, tb, lb', ub, nb⟩) hb
  clear hb
  obtain ⟨b0, b1, b2, b3, b4⟩ := T.b
  obtain ⟨a0, a1, a2, a3, a4⟩ := T.a
  simp only at b0 b1 b2 b3 b4 a0 a1 a2 a3 a4
  go_wp2_with fail
  refine (rplace_at hq _).mono ?_
  rintro e w1 ⟨rfl, hb⟩
  replace T := T.keep hb
  clear b0 b1 b2 b3 b4 a0 a1 a2 a3 a4 hb
  obtain ⟨b0, b1, b2, b3, b4⟩ := T.b
  obtain ⟨a0, a1, a2, a3, a4⟩ := T.a
  simp only at b0 b1 b2 b3 b4 a0 a1 a2 a3 a4
  go_wp2_with fail
  go_ret
  refine ⟨?_, T.below⟩
  first | rfl | (show Ending.returned (Value.bool _) = Ending.returned (Value.bool _); simp_all)
set_option maxHeartbeats 4000000 in
theorem both_ff {sa sb : Int} {ta la ua tb lb' ub : ByteArray} {na nb : Bool} (w : World) (hp : pl ⟨sa, ta, la, ua, na⟩ = false) (hq : pl ⟨sb, tb, lb', ub, nb⟩ = false) :
    Calls Tryd.prog 54 #[.agg #[.int .i64 sa, .string ta, .string la, .string ua, .bool na], .agg #[.int .i64 sb, .string tb, .string lb', .string ub, .bool nb]] w fun e w' => e = .returned (.bool false) ∧ Below w.heap.size w w' := by
  go_enter Tryd.func54, Tryd.ntmps54
  go_wp2_with fail
  refine (rplace_at hp _).mono ?_
  rintro e w1 ⟨rfl, hb⟩
  have T := two_first (a := ⟨sa, ta, la, ua, na⟩) (b := ⟨sb, tb, lb', ub, nb⟩) hb
  clear hb
  obtain ⟨b0, b1, b2, b3, b4⟩ := T.b
  obtain ⟨a0, a1, a2, a3, a4⟩ := T.a
  simp only at b0 b1 b2 b3 b4 a0 a1 a2 a3 a4
  go_wp2_with fail
  refine (rplace_at hq _).mono ?_
  rintro e w1 ⟨rfl, hb⟩
  replace T := T.keep hb
  clear b0 b1 b2 b3 b4 a0 a1 a2 a3 a4 hb
  obtain ⟨b0, b1, b2, b3, b4⟩ := T.b
  obtain ⟨a0, a1, a2, a3, a4⟩ := T.a
  simp only at b0 b1 b2 b3 b4 a0 a1 a2 a3 a4
  go_wp2_with fail
  go_ret
  refine ⟨?_, T.below⟩
  first | rfl | (show Ending.returned (Value.bool _) = Ending.returned (Value.bool _); simp_all)
theorem both_at {sa sb : Int} {ta la ua tb lb' ub : ByteArray} {na nb : Bool} {t : Bool} (h : bs ⟨sa, ta, la, ua, na⟩ ⟨sb, tb, lb', ub, nb⟩ = t) (w : World) :
    Calls Tryd.prog 54 #[.agg #[.int .i64 sa, .string ta, .string la, .string ua, .bool na], .agg #[.int .i64 sb, .string tb, .string lb', .string ub, .bool nb]] w fun e w' => e = .returned (.bool t) ∧ Below w.heap.size w w' := by
  subst h
  cases hp : pl ⟨sa, ta, la, ua, na⟩ with
  | false =>
    rw [show bs ⟨sa, ta, la, ua, na⟩ ⟨sb, tb, lb', ub, nb⟩ = false by simp only [bs, hp]; simp]
    cases hq : pl ⟨sb, tb, lb', ub, nb⟩ with
    | false => exact both_ff w hp hq
    | true => exact both_ft w hp hq
  | true =>
    cases hq : pl ⟨sb, tb, lb', ub, nb⟩ with
    | false =>
      rw [show bs ⟨sa, ta, la, ua, na⟩ ⟨sb, tb, lb', ub, nb⟩ = false by simp only [bs, hq]; simp]
      exact both_tf w hp hq
    | true =>
      by_cases hs : sa = sb
      · subst hs
        by_cases ht : ta.toList = tb.toList
        · rw [show bs ⟨sa, ta, la, ua, na⟩ ⟨sa, tb, lb', ub, nb⟩ = true by simp only [bs, hp, hq]; simp [ht]]
          exact both_y w hp hq ht
        · rw [show bs ⟨sa, ta, la, ua, na⟩ ⟨sa, tb, lb', ub, nb⟩ = false by simp [bs, ht]]
          exact both_t w hp hq ht
      · rw [show bs ⟨sa, ta, la, ua, na⟩ ⟨sb, tb, lb', ub, nb⟩ = false by simp [bs, hs]]
        exact both_s w hp hq hs
set_option maxHeartbeats 4000000 in
theorem rmeet_n {sa sb : Int} {ta la ua tb lb' ub : ByteArray} {na nb : Bool} (w : World) (h : bs ⟨sa, ta, la, ua, na⟩ ⟨sb, tb, lb', ub, nb⟩ = false) :
    Calls Tryd.prog 30 #[.agg #[.int .i64 sa, .string ta, .string la, .string ua, .bool na], .agg #[.int .i64 sb, .string tb, .string lb', .string ub, .bool nb]] w fun e w' => e = .returned (.bool false) ∧ Below w.heap.size w w' := by
  go_enter Tryd.func30, Tryd.ntmps30
  go_wp2_with fail
  refine (both_at h _).mono ?_
  rintro e w1 ⟨rfl, hb⟩
  have T := two_first (a := ⟨sa, ta, la, ua, na⟩) (b := ⟨sb, tb, lb', ub, nb⟩) hb
  clear hb
  obtain ⟨b0, b1, b2, b3, b4⟩ := T.b
  obtain ⟨a0, a1, a2, a3, a4⟩ := T.a
  simp only at b0 b1 b2 b3 b4 a0 a1 a2 a3 a4
  go_wp2_with fail
  go_ret
  refine ⟨?_, T.below⟩
  first | rfl | (show Ending.returned (Value.bool _) = Ending.returned (Value.bool _); simp_all)
set_option maxHeartbeats 4000000 in
theorem rmeet_l {sa sb : Int} {ta la ua tb lb' ub : ByteArray} {na nb : Bool} (w : World) (h : bs ⟨sa, ta, la, ua, na⟩ ⟨sb, tb, lb', ub, nb⟩ = true) (hs : sa < 2) :
    Calls Tryd.prog 30 #[.agg #[.int .i64 sa, .string ta, .string la, .string ua, .bool na], .agg #[.int .i64 sb, .string tb, .string lb', .string ub, .bool nb]] w fun e w' => e = .returned (.bool true) ∧ Below w.heap.size w w' := by
  go_enter Tryd.func30, Tryd.ntmps30
  go_wp2_with fail
  refine (both_at h _).mono ?_
  rintro e w1 ⟨rfl, hb⟩
  have T := two_first (a := ⟨sa, ta, la, ua, na⟩) (b := ⟨sb, tb, lb', ub, nb⟩) hb
  clear hb
  obtain ⟨b0, b1, b2, b3, b4⟩ := T.b
  obtain ⟨a0, a1, a2, a3, a4⟩ := T.a
  simp only at b0 b1 b2 b3 b4 a0 a1 a2 a3 a4
  go_wp2_with fail
  go_ret
  refine ⟨?_, T.below⟩
  first | rfl | (show Ending.returned (Value.bool _) = Ending.returned (Value.bool _); simp_all)
set_option maxHeartbeats 4000000 in
theorem rwithin_n {sa sb : Int} {ta la ua tb lb' ub : ByteArray} {na nb : Bool} (w : World) (h : bs ⟨sa, ta, la, ua, na⟩ ⟨sb, tb, lb', ub, nb⟩ = false) :
    Calls Tryd.prog 56 #[.agg #[.int .i64 sa, .string ta, .string la, .string ua, .bool na], .agg #[.int .i64 sb, .string tb, .string lb', .string ub, .bool nb]] w fun e w' => e = .returned (.bool false) ∧ Below w.heap.size w w' := by
  go_enter Tryd.func56, Tryd.ntmps56
  go_wp2_with fail
  refine (both_at h _).mono ?_
  rintro e w1 ⟨rfl, hb⟩
  have T := two_first (a := ⟨sa, ta, la, ua, na⟩) (b := ⟨sb, tb, lb', ub, nb⟩) hb
  clear hb
  obtain ⟨b0, b1, b2, b3, b4⟩ := T.b
  obtain ⟨a0, a1, a2, a3, a4⟩ := T.a
  simp only at b0 b1 b2 b3 b4 a0 a1 a2 a3 a4
  go_wp2_with fail
  go_ret
  refine ⟨?_, T.below⟩
  first | rfl | (show Ending.returned (Value.bool _) = Ending.returned (Value.bool _); simp_all)
set_option maxHeartbeats 4000000 in
theorem rwithin_l {sa sb : Int} {ta la ua tb lb' ub : ByteArray} {na nb : Bool} (w : World) (h : bs ⟨sa, ta, la, ua, na⟩ ⟨sb, tb, lb', ub, nb⟩ = true) (hs : sa < 2) :
    Calls Tryd.prog 56 #[.agg #[.int .i64 sa, .string ta, .string la, .string ua, .bool na], .agg #[.int .i64 sb, .string tb, .string lb', .string ub, .bool nb]] w fun e w' => e = .returned (.bool true) ∧ Below w.heap.size w w' := by
  go_enter Tryd.func56, Tryd.ntmps56
  go_wp2_with fail
  refine (both_at h _).mono ?_
  rintro e w1 ⟨rfl, hb⟩
  have T := two_first (a := ⟨sa, ta, la, ua, na⟩) (b := ⟨sb, tb, lb', ub, nb⟩) hb
  clear hb
  obtain ⟨b0, b1, b2, b3, b4⟩ := T.b
  obtain ⟨a0, a1, a2, a3, a4⟩ := T.a
  simp only at b0 b1 b2 b3 b4 a0 a1 a2 a3 a4
  go_wp2_with fail
  go_ret
  refine ⟨?_, T.below⟩
  first | rfl | (show Ending.returned (Value.bool _) = Ending.returned (Value.bool _); simp_all)
set_option maxHeartbeats 4000000 in
theorem rmeet_tttt {sa sb : Int} {ta la ua tb lb' ub : ByteArray}  (w : World) (h : bs ⟨sa, ta, la, ua, true⟩ ⟨sb, tb, lb', ub, true⟩ = true) (hs : ¬ (sa < 2)) (hp : (Op.bytesLess la.toList ub.toList || la.toList == ub.toList) = true) (hq : (Op.bytesLess lb'.toList ua.toList || lb'.toList == ua.toList) = true) :
    Calls Tryd.prog 30 #[.agg #[.int .i64 sa, .string ta, .string la, .string ua, .bool true], .agg #[.int .i64 sb, .string tb, .string lb', .string ub, .bool true]] w fun e w' => e = .returned (.bool true) ∧ Below w.heap.size w w' := by
  go_enter Tryd.func30, Tryd.ntmps30
  go_wp2_with fail
  refine (both_at h _).mono ?_
  rintro e w1 ⟨rfl, hb⟩
  have T := two_first (a := ⟨sa, ta, la, ua, true⟩) (b := ⟨sb, tb, lb', ub, true⟩) hb
  clear hb
  obtain ⟨b0, b1, b2, b3, b4⟩ := T.b
  obtain ⟨a0, a1, a2, a3, a4⟩ := T.a
  simp only at b0 b1 b2 b3 b4 a0 a1 a2 a3 a4
  go_wp2_with fail
  go_ret
  refine ⟨?_, T.below⟩
  first | rfl | (show Ending.returned (Value.bool _) = Ending.returned (Value.bool _); simp_all)
set_option maxHeartbeats 4000000 in
theorem rwithin_tttt {sa sb : Int} {ta la ua tb lb' ub : ByteArray}  (w : World) (h : bs ⟨sa, ta, la, ua, true⟩ ⟨sb, tb, lb', ub, true⟩ = true) (hs : ¬ (sa < 2)) (hp : Op.bytesLess la.toList lb'.toList = true) (hq : (Op.bytesLess ua.toList ub.toList || ua.toList == ub.toList) = true) :
    Calls Tryd.prog 56 #[.agg #[.int .i64 sa, .string ta, .string la, .string ua, .bool true], .agg #[.int .i64 sb, .string tb, .string lb', .string ub, .bool true]] w fun e w' => e = .returned (.bool false) ∧ Below w.heap.size w w' := by
  go_enter Tryd.func56, Tryd.ntmps56
  go_wp2_with fail
  refine (both_at h _).mono ?_
  rintro e w1 ⟨rfl, hb⟩
  have T := two_first (a := ⟨sa, ta, la, ua, true⟩) (b := ⟨sb, tb, lb', ub, true⟩) hb
  clear hb
  obtain ⟨b0, b1, b2, b3, b4⟩ := T.b
  obtain ⟨a0, a1, a2, a3, a4⟩ := T.a
  simp only at b0 b1 b2 b3 b4 a0 a1 a2 a3 a4
  go_wp2_with fail
  go_ret
  refine ⟨?_, T.below⟩
  first | rfl | (show Ending.returned (Value.bool _) = Ending.returned (Value.bool _); simp_all)
set_option maxHeartbeats 4000000 in
theorem rmeet_tttf {sa sb : Int} {ta la ua tb lb' ub : ByteArray}  (w : World) (h : bs ⟨sa, ta, la, ua, true⟩ ⟨sb, tb, lb', ub, true⟩ = true) (hs : ¬ (sa < 2)) (hp : (Op.bytesLess la.toList ub.toList || la.toList == ub.toList) = true) (hq : (Op.bytesLess lb'.toList ua.toList || lb'.toList == ua.toList) = false) :
    Calls Tryd.prog 30 #[.agg #[.int .i64 sa, .string ta, .string la, .string ua, .bool true], .agg #[.int .i64 sb, .string tb, .string lb', .string ub, .bool true]] w fun e w' => e = .returned (.bool true) ∧ Below w.heap.size w w' := by
  go_enter Tryd.func30, Tryd.ntmps30
  go_wp2_with fail
  refine (both_at h _).mono ?_
  rintro e w1 ⟨rfl, hb⟩
  have T := two_first (a := ⟨sa, ta, la, ua, true⟩) (b := ⟨sb, tb, lb', ub, true⟩) hb
  clear hb
  obtain ⟨b0, b1, b2, b3, b4⟩ := T.b
  obtain ⟨a0, a1, a2, a3, a4⟩ := T.a
  simp only at b0 b1 b2 b3 b4 a0 a1 a2 a3 a4
  go_wp2_with fail
  go_ret
  refine ⟨?_, T.below⟩
  first | rfl | (show Ending.returned (Value.bool _) = Ending.returned (Value.bool _); simp_all)
set_option maxHeartbeats 4000000 in
theorem rwithin_tttf {sa sb : Int} {ta la ua tb lb' ub : ByteArray}  (w : World) (h : bs ⟨sa, ta, la, ua, true⟩ ⟨sb, tb, lb', ub, true⟩ = true) (hs : ¬ (sa < 2)) (hp : Op.bytesLess la.toList lb'.toList = true) (hq : (Op.bytesLess ua.toList ub.toList || ua.toList == ub.toList) = false) :
    Calls Tryd.prog 56 #[.agg #[.int .i64 sa, .string ta, .string la, .string ua, .bool true], .agg #[.int .i64 sb, .string tb, .string lb', .string ub, .bool true]] w fun e w' => e = .returned (.bool false) ∧ Below w.heap.size w w' := by
  go_enter Tryd.func56, Tryd.ntmps56
  go_wp2_with fail
  refine (both_at h _).mono ?_
  rintro e w1 ⟨rfl, hb⟩
  have T := two_first (a := ⟨sa, ta, la, ua, true⟩) (b := ⟨sb, tb, lb', ub, true⟩) hb
  clear hb
  obtain ⟨b0, b1, b2, b3, b4⟩ := T.b
  obtain ⟨a0, a1, a2, a3, a4⟩ := T.a
  simp only at b0 b1 b2 b3 b4 a0 a1 a2 a3 a4
  go_wp2_with fail
  go_ret
  refine ⟨?_, T.below⟩
  first | rfl | (show Ending.returned (Value.bool _) = Ending.returned (Value.bool _); simp_all)
set_option maxHeartbeats 4000000 in
theorem rmeet_ttft {sa sb : Int} {ta la ua tb lb' ub : ByteArray}  (w : World) (h : bs ⟨sa, ta, la, ua, true⟩ ⟨sb, tb, lb', ub, true⟩ = true) (hs : ¬ (sa < 2)) (hp : (Op.bytesLess la.toList ub.toList || la.toList == ub.toList) = false) (hq : (Op.bytesLess lb'.toList ua.toList || lb'.toList == ua.toList) = true) :
    Calls Tryd.prog 30 #[.agg #[.int .i64 sa, .string ta, .string la, .string ua, .bool true], .agg #[.int .i64 sb, .string tb, .string lb', .string ub, .bool true]] w fun e w' => e = .returned (.bool true) ∧ Below w.heap.size w w' := by
  go_enter Tryd.func30, Tryd.ntmps30
  go_wp2_with fail
  refine (both_at h _).mono ?_
  rintro e w1 ⟨rfl, hb⟩
  have T := two_first (a := ⟨sa, ta, la, ua, true⟩) (b := ⟨sb, tb, lb', ub, true⟩) hb
  clear hb
  obtain ⟨b0, b1, b2, b3, b4⟩ := T.b
  obtain ⟨a0, a1, a2, a3, a4⟩ := T.a
  simp only at b0 b1 b2 b3 b4 a0 a1 a2 a3 a4
  go_wp2_with fail
  go_ret
  refine ⟨?_, T.below⟩
  first | rfl | (show Ending.returned (Value.bool _) = Ending.returned (Value.bool _); simp_all)
set_option maxHeartbeats 4000000 in
theorem rwithin_ttft {sa sb : Int} {ta la ua tb lb' ub : ByteArray}  (w : World) (h : bs ⟨sa, ta, la, ua, true⟩ ⟨sb, tb, lb', ub, true⟩ = true) (hs : ¬ (sa < 2)) (hp : Op.bytesLess la.toList lb'.toList = false) (hq : (Op.bytesLess ua.toList ub.toList || ua.toList == ub.toList) = true) :
    Calls Tryd.prog 56 #[.agg #[.int .i64 sa, .string ta, .string la, .string ua, .bool true], .agg #[.int .i64 sb, .string tb, .string lb', .string ub, .bool true]] w fun e w' => e = .returned (.bool true) ∧ Below w.heap.size w w' := by
  go_enter Tryd.func56, Tryd.ntmps56
  go_wp2_with fail
  refine (both_at h _).mono ?_
  rintro e w1 ⟨rfl, hb⟩
  have T := two_first (a := ⟨sa, ta, la, ua, true⟩) (b := ⟨sb, tb, lb', ub, true⟩) hb
  clear hb
  obtain ⟨b0, b1, b2, b3, b4⟩ := T.b
  obtain ⟨a0, a1, a2, a3, a4⟩ := T.a
  simp only at b0 b1 b2 b3 b4 a0 a1 a2 a3 a4
  go_wp2_with fail
  go_ret
  refine ⟨?_, T.below⟩
  first | rfl | (show Ending.returned (Value.bool _) = Ending.returned (Value.bool _); simp_all)
set_option maxHeartbeats 4000000 in
theorem rmeet_ttff {sa sb : Int} {ta la ua tb lb' ub : ByteArray}  (w : World) (h : bs ⟨sa, ta, la, ua, true⟩ ⟨sb, tb, lb', ub, true⟩ = true) (hs : ¬ (sa < 2)) (hp : (Op.bytesLess la.toList ub.toList || la.toList == ub.toList) = false) (hq : (Op.bytesLess lb'.toList ua.toList || lb'.toList == ua.toList) = false) :
    Calls Tryd.prog 30 #[.agg #[.int .i64 sa, .string ta, .string la, .string ua, .bool true], .agg #[.int .i64 sb, .string tb, .string lb', .string ub, .bool true]] w fun e w' => e = .returned (.bool true) ∧ Below w.heap.size w w' := by
  go_enter Tryd.func30, Tryd.ntmps30
  go_wp2_with fail
  refine (both_at h _).mono ?_
  rintro e w1 ⟨rfl, hb⟩
  have T := two_first (a := ⟨sa, ta, la, ua, true⟩) (b := ⟨sb, tb, lb', ub, true⟩) hb
  clear hb
  obtain ⟨b0, b1, b2, b3, b4⟩ := T.b
  obtain ⟨a0, a1, a2, a3, a4⟩ := T.a
  simp only at b0 b1 b2 b3 b4 a0 a1 a2 a3 a4
  go_wp2_with fail
  go_ret
  refine ⟨?_, T.below⟩
  first | rfl | (show Ending.returned (Value.bool _) = Ending.returned (Value.bool _); simp_all)
set_option maxHeartbeats 4000000 in
theorem rwithin_ttff {sa sb : Int} {ta la ua tb lb' ub : ByteArray}  (w : World) (h : bs ⟨sa, ta, la, ua, true⟩ ⟨sb, tb, lb', ub, true⟩ = true) (hs : ¬ (sa < 2)) (hp : Op.bytesLess la.toList lb'.toList = false) (hq : (Op.bytesLess ua.toList ub.toList || ua.toList == ub.toList) = false) :
    Calls Tryd.prog 56 #[.agg #[.int .i64 sa, .string ta, .string la, .string ua, .bool true], .agg #[.int .i64 sb, .string tb, .string lb', .string ub, .bool true]] w fun e w' => e = .returned (.bool true) ∧ Below w.heap.size w w' := by
  go_enter Tryd.func56, Tryd.ntmps56
  go_wp2_with fail
  refine (both_at h _).mono ?_
  rintro e w1 ⟨rfl, hb⟩
  have T := two_first (a := ⟨sa, ta, la, ua, true⟩) (b := ⟨sb, tb, lb', ub, true⟩) hb
  clear hb
  obtain ⟨b0, b1, b2, b3, b4⟩ := T.b
  obtain ⟨a0, a1, a2, a3, a4⟩ := T.a
  simp only at b0 b1 b2 b3 b4 a0 a1 a2 a3 a4
  go_wp2_with fail
  go_ret
  refine ⟨?_, T.below⟩
  first | rfl | (show Ending.returned (Value.bool _) = Ending.returned (Value.bool _); simp_all)
set_option maxHeartbeats 4000000 in
theorem rmeet_tftt {sa sb : Int} {ta la ua tb lb' ub : ByteArray}  (w : World) (h : bs ⟨sa, ta, la, ua, true⟩ ⟨sb, tb, lb', ub, false⟩ = true) (hs : ¬ (sa < 2)) (hp : (Op.bytesLess la.toList ub.toList || la.toList == ub.toList) = true) (hq : (Op.bytesLess lb'.toList ua.toList || lb'.toList == ua.toList) = true) :
    Calls Tryd.prog 30 #[.agg #[.int .i64 sa, .string ta, .string la, .string ua, .bool true], .agg #[.int .i64 sb, .string tb, .string lb', .string ub, .bool false]] w fun e w' => e = .returned (.bool true) ∧ Below w.heap.size w w' := by
  go_enter Tryd.func30, Tryd.ntmps30
  go_wp2_with fail
  refine (both_at h _).mono ?_
  rintro e w1 ⟨rfl, hb⟩
  have T := two_first (a := ⟨sa, ta, la, ua, true⟩) (b := ⟨sb, tb, lb', ub, false⟩) hb
  clear hb
  obtain ⟨b0, b1, b2, b3, b4⟩ := T.b
  obtain ⟨a0, a1, a2, a3, a4⟩ := T.a
  simp only at b0 b1 b2 b3 b4 a0 a1 a2 a3 a4
  go_wp2_with fail
  go_ret
  refine ⟨?_, T.below⟩
  first | rfl | (show Ending.returned (Value.bool _) = Ending.returned (Value.bool _); simp_all)
set_option maxHeartbeats 4000000 in
theorem rwithin_tftt {sa sb : Int} {ta la ua tb lb' ub : ByteArray}  (w : World) (h : bs ⟨sa, ta, la, ua, true⟩ ⟨sb, tb, lb', ub, false⟩ = true) (hs : ¬ (sa < 2)) (hp : Op.bytesLess la.toList lb'.toList = true) (hq : (Op.bytesLess ua.toList ub.toList || ua.toList == ub.toList) = true) :
    Calls Tryd.prog 56 #[.agg #[.int .i64 sa, .string ta, .string la, .string ua, .bool true], .agg #[.int .i64 sb, .string tb, .string lb', .string ub, .bool false]] w fun e w' => e = .returned (.bool false) ∧ Below w.heap.size w w' := by
  go_enter Tryd.func56, Tryd.ntmps56
  go_wp2_with fail
  refine (both_at h _).mono ?_
  rintro e w1 ⟨rfl, hb⟩
  have T := two_first (a := ⟨sa, ta, la, ua, true⟩) (b := ⟨sb, tb, lb', ub, false⟩) hb
  clear hb
  obtain ⟨b0, b1, b2, b3, b4⟩ := T.b
  obtain ⟨a0, a1, a2, a3, a4⟩ := T.a
  simp only at b0 b1 b2 b3 b4 a0 a1 a2 a3 a4
  go_wp2_with fail
  go_ret
  refine ⟨?_, T.below⟩
  first | rfl | (show Ending.returned (Value.bool _) = Ending.returned (Value.bool _); simp_all)
set_option maxHeartbeats 4000000 in
theorem rmeet_tftf {sa sb : Int} {ta la ua tb lb' ub : ByteArray}  (w : World) (h : bs ⟨sa, ta, la, ua, true⟩ ⟨sb, tb, lb', ub, false⟩ = true) (hs : ¬ (sa < 2)) (hp : (Op.bytesLess la.toList ub.toList || la.toList == ub.toList) = true) (hq : (Op.bytesLess lb'.toList ua.toList || lb'.toList == ua.toList) = false) :
    Calls Tryd.prog 30 #[.agg #[.int .i64 sa, .string ta, .string la, .string ua, .bool true], .agg #[.int .i64 sb, .string tb, .string lb', .string ub, .bool false]] w fun e w' => e = .returned (.bool true) ∧ Below w.heap.size w w' := by
  go_enter Tryd.func30, Tryd.ntmps30
  go_wp2_with fail
  refine (both_at h _).mono ?_
  rintro e w1 ⟨rfl, hb⟩
  have T := two_first (a := ⟨sa, ta, la, ua, true⟩) (b := ⟨sb, tb, lb', ub, false⟩) hb
  clear hb
  obtain ⟨b0, b1, b2, b3, b4⟩ := T.b
  obtain ⟨a0, a1, a2, a3, a4⟩ := T.a
  simp only at b0 b1 b2 b3 b4 a0 a1 a2 a3 a4
  go_wp2_with fail
  go_ret
  refine ⟨?_, T.below⟩
  first | rfl | (show Ending.returned (Value.bool _) = Ending.returned (Value.bool _); simp_all)
set_option maxHeartbeats 4000000 in
theorem rwithin_tftf {sa sb : Int} {ta la ua tb lb' ub : ByteArray}  (w : World) (h : bs ⟨sa, ta, la, ua, true⟩ ⟨sb, tb, lb', ub, false⟩ = true) (hs : ¬ (sa < 2)) (hp : Op.bytesLess la.toList lb'.toList = true) (hq : (Op.bytesLess ua.toList ub.toList || ua.toList == ub.toList) = false) :
    Calls Tryd.prog 56 #[.agg #[.int .i64 sa, .string ta, .string la, .string ua, .bool true], .agg #[.int .i64 sb, .string tb, .string lb', .string ub, .bool false]] w fun e w' => e = .returned (.bool false) ∧ Below w.heap.size w w' := by
  go_enter Tryd.func56, Tryd.ntmps56
  go_wp2_with fail
  refine (both_at h _).mono ?_
  rintro e w1 ⟨rfl, hb⟩
  have T := two_first (a := ⟨sa, ta, la, ua, true⟩) (b := ⟨sb, tb, lb', ub, false⟩) hb
  clear hb
  obtain ⟨b0, b1, b2, b3, b4⟩ := T.b
  obtain ⟨a0, a1, a2, a3, a4⟩ := T.a
  simp only at b0 b1 b2 b3 b4 a0 a1 a2 a3 a4
  go_wp2_with fail
  go_ret
  refine ⟨?_, T.below⟩
  first | rfl | (show Ending.returned (Value.bool _) = Ending.returned (Value.bool _); simp_all)
set_option maxHeartbeats 4000000 in
theorem rmeet_tfft {sa sb : Int} {ta la ua tb lb' ub : ByteArray}  (w : World) (h : bs ⟨sa, ta, la, ua, true⟩ ⟨sb, tb, lb', ub, false⟩ = true) (hs : ¬ (sa < 2)) (hp : (Op.bytesLess la.toList ub.toList || la.toList == ub.toList) = false) (hq : (Op.bytesLess lb'.toList ua.toList || lb'.toList == ua.toList) = true) :
    Calls Tryd.prog 30 #[.agg #[.int .i64 sa, .string ta, .string la, .string ua, .bool true], .agg #[.int .i64 sb, .string tb, .string lb', .string ub, .bool false]] w fun e w' => e = .returned (.bool false) ∧ Below w.heap.size w w' := by
  go_enter Tryd.func30, Tryd.ntmps30
  go_wp2_with fail
  refine (both_at h _).mono ?_
  rintro e w1 ⟨rfl, hb⟩
  have T := two_first (a := ⟨sa, ta, la, ua, true⟩) (b := ⟨sb, tb, lb', ub, false⟩) hb
  clear hb
  obtain ⟨b0, b1, b2, b3, b4⟩ := T.b
  obtain ⟨a0, a1, a2, a3, a4⟩ := T.a
  simp only at b0 b1 b2 b3 b4 a0 a1 a2 a3 a4
  go_wp2_with fail
  go_ret
  refine ⟨?_, T.below⟩
  first | rfl | (show Ending.returned (Value.bool _) = Ending.returned (Value.bool _); simp_all)
set_option maxHeartbeats 4000000 in
theorem rwithin_tfft {sa sb : Int} {ta la ua tb lb' ub : ByteArray}  (w : World) (h : bs ⟨sa, ta, la, ua, true⟩ ⟨sb, tb, lb', ub, false⟩ = true) (hs : ¬ (sa < 2)) (hp : Op.bytesLess la.toList lb'.toList = false) (hq : (Op.bytesLess ua.toList ub.toList || ua.toList == ub.toList) = true) :
    Calls Tryd.prog 56 #[.agg #[.int .i64 sa, .string ta, .string la, .string ua, .bool true], .agg #[.int .i64 sb, .string tb, .string lb', .string ub, .bool false]] w fun e w' => e = .returned (.bool false) ∧ Below w.heap.size w w' := by
  go_enter Tryd.func56, Tryd.ntmps56
  go_wp2_with fail
  refine (both_at h _).mono ?_
  rintro e w1 ⟨rfl, hb⟩
  have T := two_first (a := ⟨sa, ta, la, ua, true⟩) (b := ⟨sb, tb, lb', ub, false⟩) hb
  clear hb
  obtain ⟨b0, b1, b2, b3, b4⟩ := T.b
  obtain ⟨a0, a1, a2, a3, a4⟩ := T.a
  simp only at b0 b1 b2 b3 b4 a0 a1 a2 a3 a4
  go_wp2_with fail
  go_ret
  refine ⟨?_, T.below⟩
  first | rfl | (show Ending.returned (Value.bool _) = Ending.returned (Value.bool _); simp_all)
set_option maxHeartbeats 4000000 in
theorem rmeet_tfff {sa sb : Int} {ta la ua tb lb' ub : ByteArray}  (w : World) (h : bs ⟨sa, ta, la, ua, true⟩ ⟨sb, tb, lb', ub, false⟩ = true) (hs : ¬ (sa < 2)) (hp : (Op.bytesLess la.toList ub.toList || la.toList == ub.toList) = false) (hq : (Op.bytesLess lb'.toList ua.toList || lb'.toList == ua.toList) = false) :
    Calls Tryd.prog 30 #[.agg #[.int .i64 sa, .string ta, .string la, .string ua, .bool true], .agg #[.int .i64 sb, .string tb, .string lb', .string ub, .bool false]] w fun e w' => e = .returned (.bool false) ∧ Below w.heap.size w w' := by
  go_enter Tryd.func30, Tryd.ntmps30
  go_wp2_with fail
  refine (both_at h _).mono ?_
  rintro e w1 ⟨rfl, hb⟩
  have T := two_first (a := ⟨sa, ta, la, ua, true⟩) (b := ⟨sb, tb, lb', ub, false⟩) hb
  clear hb
  obtain ⟨b0, b1, b2, b3, b4⟩ := T.b
  obtain ⟨a0, a1, a2, a3, a4⟩ := T.a
  simp only at b0 b1 b2 b3 b4 a0 a1 a2 a3 a4
  go_wp2_with fail
  go_ret
  refine ⟨?_, T.below⟩
  first | rfl | (show Ending.returned (Value.bool _) = Ending.returned (Value.bool _); simp_all)
set_option maxHeartbeats 4000000 in
theorem rwithin_tfff {sa sb : Int} {ta la ua tb lb' ub : ByteArray}  (w : World) (h : bs ⟨sa, ta, la, ua, true⟩ ⟨sb, tb, lb', ub, false⟩ = true) (hs : ¬ (sa < 2)) (hp : Op.bytesLess la.toList lb'.toList = false) (hq : (Op.bytesLess ua.toList ub.toList || ua.toList == ub.toList) = false) :
    Calls Tryd.prog 56 #[.agg #[.int .i64 sa, .string ta, .string la, .string ua, .bool true], .agg #[.int .i64 sb, .string tb, .string lb', .string ub, .bool false]] w fun e w' => e = .returned (.bool false) ∧ Below w.heap.size w w' := by
  go_enter Tryd.func56, Tryd.ntmps56
  go_wp2_with fail
  refine (both_at h _).mono ?_
  rintro e w1 ⟨rfl, hb⟩
  have T := two_first (a := ⟨sa, ta, la, ua, true⟩) (b := ⟨sb, tb, lb', ub, false⟩) hb
  clear hb
  obtain ⟨b0, b1, b2, b3, b4⟩ := T.b
  obtain ⟨a0, a1, a2, a3, a4⟩ := T.a
  simp only at b0 b1 b2 b3 b4 a0 a1 a2 a3 a4
  go_wp2_with fail
  go_ret
  refine ⟨?_, T.below⟩
  first | rfl | (show Ending.returned (Value.bool _) = Ending.returned (Value.bool _); simp_all)
set_option maxHeartbeats 4000000 in
theorem rmeet_fttt {sa sb : Int} {ta la ua tb lb' ub : ByteArray}  (w : World) (h : bs ⟨sa, ta, la, ua, false⟩ ⟨sb, tb, lb', ub, true⟩ = true) (hs : ¬ (sa < 2)) (hp : (Op.bytesLess la.toList ub.toList || la.toList == ub.toList) = true) (hq : (Op.bytesLess lb'.toList ua.toList || lb'.toList == ua.toList) = true) :
    Calls Tryd.prog 30 #[.agg #[.int .i64 sa, .string ta, .string la, .string ua, .bool false], .agg #[.int .i64 sb, .string tb, .string lb', .string ub, .bool true]] w fun e w' => e = .returned (.bool true) ∧ Below w.heap.size w w' := by
  go_enter Tryd.func30, Tryd.ntmps30
  go_wp2_with fail
  refine (both_at h _).mono ?_
  rintro e w1 ⟨rfl, hb⟩
  have T := two_first (a := ⟨sa, ta, la, ua, false⟩) (b := ⟨sb, tb, lb', ub, true⟩) hb
  clear hb
  obtain ⟨b0, b1, b2, b3, b4⟩ := T.b
  obtain ⟨a0, a1, a2, a3, a4⟩ := T.a
  simp only at b0 b1 b2 b3 b4 a0 a1 a2 a3 a4
  go_wp2_with fail
  go_ret
  refine ⟨?_, T.below⟩
  first | rfl | (show Ending.returned (Value.bool _) = Ending.returned (Value.bool _); simp_all)
set_option maxHeartbeats 4000000 in
theorem rwithin_fttt {sa sb : Int} {ta la ua tb lb' ub : ByteArray}  (w : World) (h : bs ⟨sa, ta, la, ua, false⟩ ⟨sb, tb, lb', ub, true⟩ = true) (hs : ¬ (sa < 2)) (hp : Op.bytesLess la.toList lb'.toList = true) (hq : (Op.bytesLess ua.toList ub.toList || ua.toList == ub.toList) = true) :
    Calls Tryd.prog 56 #[.agg #[.int .i64 sa, .string ta, .string la, .string ua, .bool false], .agg #[.int .i64 sb, .string tb, .string lb', .string ub, .bool true]] w fun e w' => e = .returned (.bool false) ∧ Below w.heap.size w w' := by
  go_enter Tryd.func56, Tryd.ntmps56
  go_wp2_with fail
  refine (both_at h _).mono ?_
  rintro e w1 ⟨rfl, hb⟩
  have T := two_first (a := ⟨sa, ta, la, ua, false⟩) (b := ⟨sb, tb, lb', ub, true⟩) hb
  clear hb
  obtain ⟨b0, b1, b2, b3, b4⟩ := T.b
  obtain ⟨a0, a1, a2, a3, a4⟩ := T.a
  simp only at b0 b1 b2 b3 b4 a0 a1 a2 a3 a4
  go_wp2_with fail
  go_ret
  refine ⟨?_, T.below⟩
  first | rfl | (show Ending.returned (Value.bool _) = Ending.returned (Value.bool _); simp_all)
set_option maxHeartbeats 4000000 in
theorem rmeet_fttf {sa sb : Int} {ta la ua tb lb' ub : ByteArray}  (w : World) (h : bs ⟨sa, ta, la, ua, false⟩ ⟨sb, tb, lb', ub, true⟩ = true) (hs : ¬ (sa < 2)) (hp : (Op.bytesLess la.toList ub.toList || la.toList == ub.toList) = true) (hq : (Op.bytesLess lb'.toList ua.toList || lb'.toList == ua.toList) = false) :
    Calls Tryd.prog 30 #[.agg #[.int .i64 sa, .string ta, .string la, .string ua, .bool false], .agg #[.int .i64 sb, .string tb, .string lb', .string ub, .bool true]] w fun e w' => e = .returned (.bool false) ∧ Below w.heap.size w w' := by
  go_enter Tryd.func30, Tryd.ntmps30
  go_wp2_with fail
  refine (both_at h _).mono ?_
  rintro e w1 ⟨rfl, hb⟩
  have T := two_first (a := ⟨sa, ta, la, ua, false⟩) (b := ⟨sb, tb, lb', ub, true⟩) hb
  clear hb
  obtain ⟨b0, b1, b2, b3, b4⟩ := T.b
  obtain ⟨a0, a1, a2, a3, a4⟩ := T.a
  simp only at b0 b1 b2 b3 b4 a0 a1 a2 a3 a4
  go_wp2_with fail
  go_ret
  refine ⟨?_, T.below⟩
  first | rfl | (show Ending.returned (Value.bool _) = Ending.returned (Value.bool _); simp_all)
set_option maxHeartbeats 4000000 in
theorem rwithin_fttf {sa sb : Int} {ta la ua tb lb' ub : ByteArray}  (w : World) (h : bs ⟨sa, ta, la, ua, false⟩ ⟨sb, tb, lb', ub, true⟩ = true) (hs : ¬ (sa < 2)) (hp : Op.bytesLess la.toList lb'.toList = true) (hq : (Op.bytesLess ua.toList ub.toList || ua.toList == ub.toList) = false) :
    Calls Tryd.prog 56 #[.agg #[.int .i64 sa, .string ta, .string la, .string ua, .bool false], .agg #[.int .i64 sb, .string tb, .string lb', .string ub, .bool true]] w fun e w' => e = .returned (.bool false) ∧ Below w.heap.size w w' := by
  go_enter Tryd.func56, Tryd.ntmps56
  go_wp2_with fail
  refine (both_at h _).mono ?_
  rintro e w1 ⟨rfl, hb⟩
  have T := two_first (a := ⟨sa, ta, la, ua, false⟩) (b := ⟨sb, tb, lb', ub, true⟩) hb
  clear hb
  obtain ⟨b0, b1, b2, b3, b4⟩ := T.b
  obtain ⟨a0, a1, a2, a3, a4⟩ := T.a
  simp only at b0 b1 b2 b3 b4 a0 a1 a2 a3 a4
  go_wp2_with fail
  go_ret
  refine ⟨?_, T.below⟩
  first | rfl | (show Ending.returned (Value.bool _) = Ending.returned (Value.bool _); simp_all)
set_option maxHeartbeats 4000000 in
theorem rmeet_ftft {sa sb : Int} {ta la ua tb lb' ub : ByteArray}  (w : World) (h : bs ⟨sa, ta, la, ua, false⟩ ⟨sb, tb, lb', ub, true⟩ = true) (hs : ¬ (sa < 2)) (hp : (Op.bytesLess la.toList ub.toList || la.toList == ub.toList) = false) (hq : (Op.bytesLess lb'.toList ua.toList || lb'.toList == ua.toList) = true) :
    Calls Tryd.prog 30 #[.agg #[.int .i64 sa, .string ta, .string la, .string ua, .bool false], .agg #[.int .i64 sb, .string tb, .string lb', .string ub, .bool true]] w fun e w' => e = .returned (.bool true) ∧ Below w.heap.size w w' := by
  go_enter Tryd.func30, Tryd.ntmps30
  go_wp2_with fail
  refine (both_at h _).mono ?_
  rintro e w1 ⟨rfl, hb⟩
  have T := two_first (a := ⟨sa, ta, la, ua, false⟩) (b := ⟨sb, tb, lb', ub, true⟩) hb
  clear hb
  obtain ⟨b0, b1, b2, b3, b4⟩ := T.b
  obtain ⟨a0, a1, a2, a3, a4⟩ := T.a
  simp only at b0 b1 b2 b3 b4 a0 a1 a2 a3 a4
  go_wp2_with fail
  go_ret
  refine ⟨?_, T.below⟩
  first | rfl | (show Ending.returned (Value.bool _) = Ending.returned (Value.bool _); simp_all)
set_option maxHeartbeats 4000000 in
theorem rwithin_ftft {sa sb : Int} {ta la ua tb lb' ub : ByteArray}  (w : World) (h : bs ⟨sa, ta, la, ua, false⟩ ⟨sb, tb, lb', ub, true⟩ = true) (hs : ¬ (sa < 2)) (hp : Op.bytesLess la.toList lb'.toList = false) (hq : (Op.bytesLess ua.toList ub.toList || ua.toList == ub.toList) = true) :
    Calls Tryd.prog 56 #[.agg #[.int .i64 sa, .string ta, .string la, .string ua, .bool false], .agg #[.int .i64 sb, .string tb, .string lb', .string ub, .bool true]] w fun e w' => e = .returned (.bool true) ∧ Below w.heap.size w w' := by
  go_enter Tryd.func56, Tryd.ntmps56
  go_wp2_with fail
  refine (both_at h _).mono ?_
  rintro e w1 ⟨rfl, hb⟩
  have T := two_first (a := ⟨sa, ta, la, ua, false⟩) (b := ⟨sb, tb, lb', ub, true⟩) hb
  clear hb
  obtain ⟨b0, b1, b2, b3, b4⟩ := T.b
  obtain ⟨a0, a1, a2, a3, a4⟩ := T.a
  simp only at b0 b1 b2 b3 b4 a0 a1 a2 a3 a4
  go_wp2_with fail
  go_ret
  refine ⟨?_, T.below⟩
  first | rfl | (show Ending.returned (Value.bool _) = Ending.returned (Value.bool _); simp_all)
set_option maxHeartbeats 4000000 in
theorem rmeet_ftff {sa sb : Int} {ta la ua tb lb' ub : ByteArray}  (w : World) (h : bs ⟨sa, ta, la, ua, false⟩ ⟨sb, tb, lb', ub, true⟩ = true) (hs : ¬ (sa < 2)) (hp : (Op.bytesLess la.toList ub.toList || la.toList == ub.toList) = false) (hq : (Op.bytesLess lb'.toList ua.toList || lb'.toList == ua.toList) = false) :
    Calls Tryd.prog 30 #[.agg #[.int .i64 sa, .string ta, .string la, .string ua, .bool false], .agg #[.int .i64 sb, .string tb, .string lb', .string ub, .bool true]] w fun e w' => e = .returned (.bool false) ∧ Below w.heap.size w w' := by
  go_enter Tryd.func30, Tryd.ntmps30
  go_wp2_with fail
  refine (both_at h _).mono ?_
  rintro e w1 ⟨rfl, hb⟩
  have T := two_first (a := ⟨sa, ta, la, ua, false⟩) (b := ⟨sb, tb, lb', ub, true⟩) hb
  clear hb
  obtain ⟨b0, b1, b2, b3, b4⟩ := T.b
  obtain ⟨a0, a1, a2, a3, a4⟩ := T.a
  simp only at b0 b1 b2 b3 b4 a0 a1 a2 a3 a4
  go_wp2_with fail
  go_ret
  refine ⟨?_, T.below⟩
  first | rfl | (show Ending.returned (Value.bool _) = Ending.returned (Value.bool _); simp_all)
set_option maxHeartbeats 4000000 in
theorem rwithin_ftff {sa sb : Int} {ta la ua tb lb' ub : ByteArray}  (w : World) (h : bs ⟨sa, ta, la, ua, false⟩ ⟨sb, tb, lb', ub, true⟩ = true) (hs : ¬ (sa < 2)) (hp : Op.bytesLess la.toList lb'.toList = false) (hq : (Op.bytesLess ua.toList ub.toList || ua.toList == ub.toList) = false) :
    Calls Tryd.prog 56 #[.agg #[.int .i64 sa, .string ta, .string la, .string ua, .bool false], .agg #[.int .i64 sb, .string tb, .string lb', .string ub, .bool true]] w fun e w' => e = .returned (.bool true) ∧ Below w.heap.size w w' := by
  go_enter Tryd.func56, Tryd.ntmps56
  go_wp2_with fail
  refine (both_at h _).mono ?_
  rintro e w1 ⟨rfl, hb⟩
  have T := two_first (a := ⟨sa, ta, la, ua, false⟩) (b := ⟨sb, tb, lb', ub, true⟩) hb
  clear hb
  obtain ⟨b0, b1, b2, b3, b4⟩ := T.b
  obtain ⟨a0, a1, a2, a3, a4⟩ := T.a
  simp only at b0 b1 b2 b3 b4 a0 a1 a2 a3 a4
  go_wp2_with fail
  go_ret
  refine ⟨?_, T.below⟩
  first | rfl | (show Ending.returned (Value.bool _) = Ending.returned (Value.bool _); simp_all)
set_option maxHeartbeats 4000000 in
theorem rmeet_fftt {sa sb : Int} {ta la ua tb lb' ub : ByteArray}  (w : World) (h : bs ⟨sa, ta, la, ua, false⟩ ⟨sb, tb, lb', ub, false⟩ = true) (hs : ¬ (sa < 2)) (hp : (Op.bytesLess la.toList ub.toList || la.toList == ub.toList) = true) (hq : (Op.bytesLess lb'.toList ua.toList || lb'.toList == ua.toList) = true) :
    Calls Tryd.prog 30 #[.agg #[.int .i64 sa, .string ta, .string la, .string ua, .bool false], .agg #[.int .i64 sb, .string tb, .string lb', .string ub, .bool false]] w fun e w' => e = .returned (.bool true) ∧ Below w.heap.size w w' := by
  go_enter Tryd.func30, Tryd.ntmps30
  go_wp2_with fail
  refine (both_at h _).mono ?_
  rintro e w1 ⟨rfl, hb⟩
  have T := two_first (a := ⟨sa, ta, la, ua, false⟩) (b := ⟨sb, tb, lb', ub, false⟩) hb
  clear hb
  obtain ⟨b0, b1, b2, b3, b4⟩ := T.b
  obtain ⟨a0, a1, a2, a3, a4⟩ := T.a
  simp only at b0 b1 b2 b3 b4 a0 a1 a2 a3 a4
  go_wp2_with fail
  go_ret
  refine ⟨?_, T.below⟩
  first | rfl | (show Ending.returned (Value.bool _) = Ending.returned (Value.bool _); simp_all)
set_option maxHeartbeats 4000000 in
theorem rwithin_fftt {sa sb : Int} {ta la ua tb lb' ub : ByteArray}  (w : World) (h : bs ⟨sa, ta, la, ua, false⟩ ⟨sb, tb, lb', ub, false⟩ = true) (hs : ¬ (sa < 2)) (hp : Op.bytesLess la.toList lb'.toList = true) (hq : (Op.bytesLess ua.toList ub.toList || ua.toList == ub.toList) = true) :
    Calls Tryd.prog 56 #[.agg #[.int .i64 sa, .string ta, .string la, .string ua, .bool false], .agg #[.int .i64 sb, .string tb, .string lb', .string ub, .bool false]] w fun e w' => e = .returned (.bool false) ∧ Below w.heap.size w w' := by
  go_enter Tryd.func56, Tryd.ntmps56
  go_wp2_with fail
  refine (both_at h _).mono ?_
  rintro e w1 ⟨rfl, hb⟩
  have T := two_first (a := ⟨sa, ta, la, ua, false⟩) (b := ⟨sb, tb, lb', ub, false⟩) hb
  clear hb
  obtain ⟨b0, b1, b2, b3, b4⟩ := T.b
  obtain ⟨a0, a1, a2, a3, a4⟩ := T.a
  simp only at b0 b1 b2 b3 b4 a0 a1 a2 a3 a4
  go_wp2_with fail
  go_ret
  refine ⟨?_, T.below⟩
  first | rfl | (show Ending.returned (Value.bool _) = Ending.returned (Value.bool _); simp_all)
set_option maxHeartbeats 4000000 in
theorem rmeet_fftf {sa sb : Int} {ta la ua tb lb' ub : ByteArray}  (w : World) (h : bs ⟨sa, ta, la, ua, false⟩ ⟨sb, tb, lb', ub, false⟩ = true) (hs : ¬ (sa < 2)) (hp : (Op.bytesLess la.toList ub.toList || la.toList == ub.toList) = true) (hq : (Op.bytesLess lb'.toList ua.toList || lb'.toList == ua.toList) = false) :
    Calls Tryd.prog 30 #[.agg #[.int .i64 sa, .string ta, .string la, .string ua, .bool false], .agg #[.int .i64 sb, .string tb, .string lb', .string ub, .bool false]] w fun e w' => e = .returned (.bool false) ∧ Below w.heap.size w w' := by
  go_enter Tryd.func30, Tryd.ntmps30
  go_wp2_with fail
  refine (both_at h _).mono ?_
  rintro e w1 ⟨rfl, hb⟩
  have T := two_first (a := ⟨sa, ta, la, ua, false⟩) (b := ⟨sb, tb, lb', ub, false⟩) hb
  clear hb
  obtain ⟨b0, b1, b2, b3, b4⟩ := T.b
  obtain ⟨a0, a1, a2, a3, a4⟩ := T.a
  simp only at b0 b1 b2 b3 b4 a0 a1 a2 a3 a4
  go_wp2_with fail
  go_ret
  refine ⟨?_, T.below⟩
  first | rfl | (show Ending.returned (Value.bool _) = Ending.returned (Value.bool _); simp_all)
set_option maxHeartbeats 4000000 in
theorem rwithin_fftf {sa sb : Int} {ta la ua tb lb' ub : ByteArray}  (w : World) (h : bs ⟨sa, ta, la, ua, false⟩ ⟨sb, tb, lb', ub, false⟩ = true) (hs : ¬ (sa < 2)) (hp : Op.bytesLess la.toList lb'.toList = true) (hq : (Op.bytesLess ua.toList ub.toList || ua.toList == ub.toList) = false) :
    Calls Tryd.prog 56 #[.agg #[.int .i64 sa, .string ta, .string la, .string ua, .bool false], .agg #[.int .i64 sb, .string tb, .string lb', .string ub, .bool false]] w fun e w' => e = .returned (.bool false) ∧ Below w.heap.size w w' := by
  go_enter Tryd.func56, Tryd.ntmps56
  go_wp2_with fail
  refine (both_at h _).mono ?_
  rintro e w1 ⟨rfl, hb⟩
  have T := two_first (a := ⟨sa, ta, la, ua, false⟩) (b := ⟨sb, tb, lb', ub, false⟩) hb
  clear hb
  obtain ⟨b0, b1, b2, b3, b4⟩ := T.b
  obtain ⟨a0, a1, a2, a3, a4⟩ := T.a
  simp only at b0 b1 b2 b3 b4 a0 a1 a2 a3 a4
  go_wp2_with fail
  go_ret
  refine ⟨?_, T.below⟩
  first | rfl | (show Ending.returned (Value.bool _) = Ending.returned (Value.bool _); simp_all)
set_option maxHeartbeats 4000000 in
theorem rmeet_ffft {sa sb : Int} {ta la ua tb lb' ub : ByteArray}  (w : World) (h : bs ⟨sa, ta, la, ua, false⟩ ⟨sb, tb, lb', ub, false⟩ = true) (hs : ¬ (sa < 2)) (hp : (Op.bytesLess la.toList ub.toList || la.toList == ub.toList) = false) (hq : (Op.bytesLess lb'.toList ua.toList || lb'.toList == ua.toList) = true) :
    Calls Tryd.prog 30 #[.agg #[.int .i64 sa, .string ta, .string la, .string ua, .bool false], .agg #[.int .i64 sb, .string tb, .string lb', .string ub, .bool false]] w fun e w' => e = .returned (.bool false) ∧ Below w.heap.size w w' := by
  go_enter Tryd.func30, Tryd.ntmps30
  go_wp2_with fail
  refine (both_at h _).mono ?_
  rintro e w1 ⟨rfl, hb⟩
  have T := two_first (a := ⟨sa, ta, la, ua, false⟩) (b := ⟨sb, tb, lb', ub, false⟩) hb
  clear hb
  obtain ⟨b0, b1, b2, b3, b4⟩ := T.b
  obtain ⟨a0, a1, a2, a3, a4⟩ := T.a
  simp only at b0 b1 b2 b3 b4 a0 a1 a2 a3 a4
  go_wp2_with fail
  go_ret
  refine ⟨?_, T.below⟩
  first | rfl | (show Ending.returned (Value.bool _) = Ending.returned (Value.bool _); simp_all)
set_option maxHeartbeats 4000000 in
theorem rwithin_ffft {sa sb : Int} {ta la ua tb lb' ub : ByteArray}  (w : World) (h : bs ⟨sa, ta, la, ua, false⟩ ⟨sb, tb, lb', ub, false⟩ = true) (hs : ¬ (sa < 2)) (hp : Op.bytesLess la.toList lb'.toList = false) (hq : (Op.bytesLess ua.toList ub.toList || ua.toList == ub.toList) = true) :
    Calls Tryd.prog 56 #[.agg #[.int .i64 sa, .string ta, .string la, .string ua, .bool false], .agg #[.int .i64 sb, .string tb, .string lb', .string ub, .bool false]] w fun e w' => e = .returned (.bool true) ∧ Below w.heap.size w w' := by
  go_enter Tryd.func56, Tryd.ntmps56
  go_wp2_with fail
  refine (both_at h _).mono ?_
  rintro e w1 ⟨rfl, hb⟩
  have T := two_first (a := ⟨sa, ta, la, ua, false⟩) (b := ⟨sb, tb, lb', ub, false⟩) hb
  clear hb
  obtain ⟨b0, b1, b2, b3, b4⟩ := T.b
  obtain ⟨a0, a1, a2, a3, a4⟩ := T.a
  simp only at b0 b1 b2 b3 b4 a0 a1 a2 a3 a4
  go_wp2_with fail
  go_ret
  refine ⟨?_, T.below⟩
  first | rfl | (show Ending.returned (Value.bool _) = Ending.returned (Value.bool _); simp_all)
set_option maxHeartbeats 4000000 in
theorem rmeet_ffff {sa sb : Int} {ta la ua tb lb' ub : ByteArray}  (w : World) (h : bs ⟨sa, ta, la, ua, false⟩ ⟨sb, tb, lb', ub, false⟩ = true) (hs : ¬ (sa < 2)) (hp : (Op.bytesLess la.toList ub.toList || la.toList == ub.toList) = false) (hq : (Op.bytesLess lb'.toList ua.toList || lb'.toList == ua.toList) = false) :
    Calls Tryd.prog 30 #[.agg #[.int .i64 sa, .string ta, .string la, .string ua, .bool false], .agg #[.int .i64 sb, .string tb, .string lb', .string ub, .bool false]] w fun e w' => e = .returned (.bool false) ∧ Below w.heap.size w w' := by
  go_enter Tryd.func30, Tryd.ntmps30
  go_wp2_with fail
  refine (both_at h _).mono ?_
  rintro e w1 ⟨rfl, hb⟩
  have T := two_first (a := ⟨sa, ta, la, ua, false⟩) (b := ⟨sb, tb, lb', ub, false⟩) hb
  clear hb
  obtain ⟨b0, b1, b2, b3, b4⟩ := T.b
  obtain ⟨a0, a1, a2, a3, a4⟩ := T.a
  simp only at b0 b1 b2 b3 b4 a0 a1 a2 a3 a4
  go_wp2_with fail
  go_ret
  refine ⟨?_, T.below⟩
  first | rfl | (show Ending.returned (Value.bool _) = Ending.returned (Value.bool _); simp_all)
set_option maxHeartbeats 4000000 in
theorem rwithin_ffff {sa sb : Int} {ta la ua tb lb' ub : ByteArray}  (w : World) (h : bs ⟨sa, ta, la, ua, false⟩ ⟨sb, tb, lb', ub, false⟩ = true) (hs : ¬ (sa < 2)) (hp : Op.bytesLess la.toList lb'.toList = false) (hq : (Op.bytesLess ua.toList ub.toList || ua.toList == ub.toList) = false) :
    Calls Tryd.prog 56 #[.agg #[.int .i64 sa, .string ta, .string la, .string ua, .bool false], .agg #[.int .i64 sb, .string tb, .string lb', .string ub, .bool false]] w fun e w' => e = .returned (.bool false) ∧ Below w.heap.size w w' := by
  go_enter Tryd.func56, Tryd.ntmps56
  go_wp2_with fail
  refine (both_at h _).mono ?_
  rintro e w1 ⟨rfl, hb⟩
  have T := two_first (a := ⟨sa, ta, la, ua, false⟩) (b := ⟨sb, tb, lb', ub, false⟩) hb
  clear hb
  obtain ⟨b0, b1, b2, b3, b4⟩ := T.b
  obtain ⟨a0, a1, a2, a3, a4⟩ := T.a
  simp only at b0 b1 b2 b3 b4 a0 a1 a2 a3 a4
  go_wp2_with fail
  go_ret
  refine ⟨?_, T.below⟩
  first | rfl | (show Ending.returned (Value.bool _) = Ending.returned (Value.bool _); simp_all)
end Go.Proofs.YtmldpbgdjlblmaaDoor

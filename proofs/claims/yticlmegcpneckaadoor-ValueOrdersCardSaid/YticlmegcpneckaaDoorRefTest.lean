/- The walk of the document's own answer for a comparison, at every sign. -/
import Derived.Test.YticlmegcpneckaaDoorRefOrder
namespace Go.Proofs.YticlmegcpneckaaDoor
open Go.RowKit
set_option linter.unusedVariables false

set_option maxHeartbeats 1000000 in
theorem refTest_eq (op : ByteArray) (K1 N1 : Int) (S1 : ByteArray) (B1 : Bool) (K2 N2 : Int) (S2 : ByteArray) (B2 : Bool) (w : World) (hk : K1 = 0 ∨ K1 = 1 ∨ K1 = 2 ∨ K1 = 3) (h1 : S1.size ≤ maxLen) (h2 : S2.size ≤ maxLen) (dd : (op.toList == [61]) = true) :
    Calls Tryd.prog 11 #[.string op, val K1 N1 S1 B1, val K2 N2 S2 B2] w fun e w' => e = .returned (.tuple #[.int .i64 (testT op.toList K1 K2 (ordV (K1, N1, S1.data.toList, B1) (K2, N2, S2.data.toList, B2))), .string (testS op.toList K1 K2)]) ∧ Below w.heap.size w w' := by
  have kn : knownB op.toList = true := by simp [knownB, dd]
  have ho : holdB op.toList (ordV (K1, N1, S1.data.toList, B1) (K2, N2, S2.data.toList, B2)) = ((ordV (K1, N1, S1.data.toList, B1) (K2, N2, S2.data.toList, B2)) == 0) := by simp [holdB, dd]
  cases z1 : (K1 == 0)
  · cases z2 : (K2 == 0)
    · cases ne : (K1 != K2)
      · cases hd : ((ordV (K1, N1, S1.data.toList, B1) (K2, N2, S2.data.toList, B2)) == 0)
        all_goals
          go_enter Tryd.func11, Tryd.ntmps11
          go_wp2_with fail
          refine (refOrder_any K1 N1 S1 B1 K2 N2 S2 B2 _ hk h1 h2).mono ?_
          rintro e w1 ⟨rfl, hb⟩
          have hB : Below w.heap.size w w1 := (by repeat (first | exact Below.refl _ _ | assumption | refine Below.alloc ?_ (by first | (simp; done) | (simp; omega)) _ | refine Below.setCell ?_ (by first | (simp; done) | (simp; omega)) _ | refine Below.drew ?_ | refine below_drewN ?_ _ | refine Below.trans ?_ (hb.mono (by first | (simp; done) | (simp; omega)))))
          have u1 : Box w1 w.heap.size K1 N1 S1 B1 := ((Box.new w K1 N1 S1 B1 _).alloc _).keep hb
          have u2 : Box w1 (w.heap.size + 1) K2 N2 S2 B2 := (Box.newAt K2 N2 S2 B2 _ (by simp)).keep hb
          clear hb
          obtain ⟨e0, e1, e2, e3⟩ := u1
          obtain ⟨f0, f1, f2, f3⟩ := u2
          go_wp2
          all_goals
            go_ret2
            exact ⟨ret_is2 (by simp [testT, *]) (by simp [testS, *]), hB⟩
      · go_enter Tryd.func11, Tryd.ntmps11
        go_wp2_with fail
        refine (refOrder_any K1 N1 S1 B1 K2 N2 S2 B2 _ hk h1 h2).mono ?_
        rintro e w1 ⟨rfl, hb⟩
        have hB : Below w.heap.size w w1 := (by repeat (first | exact Below.refl _ _ | assumption | refine Below.alloc ?_ (by first | (simp; done) | (simp; omega)) _ | refine Below.setCell ?_ (by first | (simp; done) | (simp; omega)) _ | refine Below.drew ?_ | refine below_drewN ?_ _ | refine Below.trans ?_ (hb.mono (by first | (simp; done) | (simp; omega)))))
        have u1 : Box w1 w.heap.size K1 N1 S1 B1 := ((Box.new w K1 N1 S1 B1 _).alloc _).keep hb
        have u2 : Box w1 (w.heap.size + 1) K2 N2 S2 B2 := (Box.newAt K2 N2 S2 B2 _ (by simp)).keep hb
        clear hb
        obtain ⟨e0, e1, e2, e3⟩ := u1
        obtain ⟨f0, f1, f2, f3⟩ := u2
        go_wp2
        all_goals
          go_ret2
          exact ⟨ret_is2 (by simp [testT, *]) (by simp [testS, *]), hB⟩
    · go_enter Tryd.func11, Tryd.ntmps11
      go_wp2_with fail
      refine (refOrder_any K1 N1 S1 B1 K2 N2 S2 B2 _ hk h1 h2).mono ?_
      rintro e w1 ⟨rfl, hb⟩
      have hB : Below w.heap.size w w1 := (by repeat (first | exact Below.refl _ _ | assumption | refine Below.alloc ?_ (by first | (simp; done) | (simp; omega)) _ | refine Below.setCell ?_ (by first | (simp; done) | (simp; omega)) _ | refine Below.drew ?_ | refine below_drewN ?_ _ | refine Below.trans ?_ (hb.mono (by first | (simp; done) | (simp; omega)))))
      have u1 : Box w1 w.heap.size K1 N1 S1 B1 := ((Box.new w K1 N1 S1 B1 _).alloc _).keep hb
      have u2 : Box w1 (w.heap.size + 1) K2 N2 S2 B2 := (Box.newAt K2 N2 S2 B2 _ (by simp)).keep hb
      clear hb
      obtain ⟨e0, e1, e2, e3⟩ := u1
      obtain ⟨f0, f1, f2, f3⟩ := u2
      go_wp2
      all_goals
        go_ret2
        exact ⟨ret_is2 (by simp [testT, *]) (by simp [testS, *]), hB⟩
  · go_enter Tryd.func11, Tryd.ntmps11
    go_wp2_with fail
    refine (refOrder_any K1 N1 S1 B1 K2 N2 S2 B2 _ hk h1 h2).mono ?_
    rintro e w1 ⟨rfl, hb⟩
    have hB : Below w.heap.size w w1 := (by repeat (first | exact Below.refl _ _ | assumption | refine Below.alloc ?_ (by first | (simp; done) | (simp; omega)) _ | refine Below.setCell ?_ (by first | (simp; done) | (simp; omega)) _ | refine Below.drew ?_ | refine below_drewN ?_ _ | refine Below.trans ?_ (hb.mono (by first | (simp; done) | (simp; omega)))))
    have u1 : Box w1 w.heap.size K1 N1 S1 B1 := ((Box.new w K1 N1 S1 B1 _).alloc _).keep hb
    have u2 : Box w1 (w.heap.size + 1) K2 N2 S2 B2 := (Box.newAt K2 N2 S2 B2 _ (by simp)).keep hb
    clear hb
    obtain ⟨e0, e1, e2, e3⟩ := u1
    obtain ⟨f0, f1, f2, f3⟩ := u2
    go_wp2
    all_goals
      go_ret2
      exact ⟨ret_is2 (by simp [testT, *]) (by simp [testS, *]), hB⟩

set_option maxHeartbeats 1000000 in
theorem refTest_ne (op : ByteArray) (K1 N1 : Int) (S1 : ByteArray) (B1 : Bool) (K2 N2 : Int) (S2 : ByteArray) (B2 : Bool) (w : World) (hk : K1 = 0 ∨ K1 = 1 ∨ K1 = 2 ∨ K1 = 3) (h1 : S1.size ≤ maxLen) (h2 : S2.size ≤ maxLen) (d0 : (op.toList == [61]) = false) (dd : (op.toList == [60, 62]) = true) :
    Calls Tryd.prog 11 #[.string op, val K1 N1 S1 B1, val K2 N2 S2 B2] w fun e w' => e = .returned (.tuple #[.int .i64 (testT op.toList K1 K2 (ordV (K1, N1, S1.data.toList, B1) (K2, N2, S2.data.toList, B2))), .string (testS op.toList K1 K2)]) ∧ Below w.heap.size w w' := by
  have kn : knownB op.toList = true := by simp [knownB, dd]
  have ho : holdB op.toList (ordV (K1, N1, S1.data.toList, B1) (K2, N2, S2.data.toList, B2)) = ((ordV (K1, N1, S1.data.toList, B1) (K2, N2, S2.data.toList, B2)) != 0) := by simp [holdB, dd, d0]
  cases z1 : (K1 == 0)
  · cases z2 : (K2 == 0)
    · cases ne : (K1 != K2)
      · cases hd : ((ordV (K1, N1, S1.data.toList, B1) (K2, N2, S2.data.toList, B2)) != 0)
        all_goals
          go_enter Tryd.func11, Tryd.ntmps11
          go_wp2_with fail
          refine (refOrder_any K1 N1 S1 B1 K2 N2 S2 B2 _ hk h1 h2).mono ?_
          rintro e w1 ⟨rfl, hb⟩
          have hB : Below w.heap.size w w1 := (by repeat (first | exact Below.refl _ _ | assumption | refine Below.alloc ?_ (by first | (simp; done) | (simp; omega)) _ | refine Below.setCell ?_ (by first | (simp; done) | (simp; omega)) _ | refine Below.drew ?_ | refine below_drewN ?_ _ | refine Below.trans ?_ (hb.mono (by first | (simp; done) | (simp; omega)))))
          have u1 : Box w1 w.heap.size K1 N1 S1 B1 := ((Box.new w K1 N1 S1 B1 _).alloc _).keep hb
          have u2 : Box w1 (w.heap.size + 1) K2 N2 S2 B2 := (Box.newAt K2 N2 S2 B2 _ (by simp)).keep hb
          clear hb
          obtain ⟨e0, e1, e2, e3⟩ := u1
          obtain ⟨f0, f1, f2, f3⟩ := u2
          go_wp2
          all_goals
            go_ret2
            exact ⟨ret_is2 (by simp [testT, *]) (by simp [testS, *]), hB⟩
      · go_enter Tryd.func11, Tryd.ntmps11
        go_wp2_with fail
        refine (refOrder_any K1 N1 S1 B1 K2 N2 S2 B2 _ hk h1 h2).mono ?_
        rintro e w1 ⟨rfl, hb⟩
        have hB : Below w.heap.size w w1 := (by repeat (first | exact Below.refl _ _ | assumption | refine Below.alloc ?_ (by first | (simp; done) | (simp; omega)) _ | refine Below.setCell ?_ (by first | (simp; done) | (simp; omega)) _ | refine Below.drew ?_ | refine below_drewN ?_ _ | refine Below.trans ?_ (hb.mono (by first | (simp; done) | (simp; omega)))))
        have u1 : Box w1 w.heap.size K1 N1 S1 B1 := ((Box.new w K1 N1 S1 B1 _).alloc _).keep hb
        have u2 : Box w1 (w.heap.size + 1) K2 N2 S2 B2 := (Box.newAt K2 N2 S2 B2 _ (by simp)).keep hb
        clear hb
        obtain ⟨e0, e1, e2, e3⟩ := u1
        obtain ⟨f0, f1, f2, f3⟩ := u2
        go_wp2
        all_goals
          go_ret2
          exact ⟨ret_is2 (by simp [testT, *]) (by simp [testS, *]), hB⟩
    · go_enter Tryd.func11, Tryd.ntmps11
      go_wp2_with fail
      refine (refOrder_any K1 N1 S1 B1 K2 N2 S2 B2 _ hk h1 h2).mono ?_
      rintro e w1 ⟨rfl, hb⟩
      have hB : Below w.heap.size w w1 := (by repeat (first | exact Below.refl _ _ | assumption | refine Below.alloc ?_ (by first | (simp; done) | (simp; omega)) _ | refine Below.setCell ?_ (by first | (simp; done) | (simp; omega)) _ | refine Below.drew ?_ | refine below_drewN ?_ _ | refine Below.trans ?_ (hb.mono (by first | (simp; done) | (simp; omega)))))
      have u1 : Box w1 w.heap.size K1 N1 S1 B1 := ((Box.new w K1 N1 S1 B1 _).alloc _).keep hb
      have u2 : Box w1 (w.heap.size + 1) K2 N2 S2 B2 := (Box.newAt K2 N2 S2 B2 _ (by simp)).keep hb
      clear hb
      obtain ⟨e0, e1, e2, e3⟩ := u1
      obtain ⟨f0, f1, f2, f3⟩ := u2
      go_wp2
      all_goals
        go_ret2
        exact ⟨ret_is2 (by simp [testT, *]) (by simp [testS, *]), hB⟩
  · go_enter Tryd.func11, Tryd.ntmps11
    go_wp2_with fail
    refine (refOrder_any K1 N1 S1 B1 K2 N2 S2 B2 _ hk h1 h2).mono ?_
    rintro e w1 ⟨rfl, hb⟩
    have hB : Below w.heap.size w w1 := (by repeat (first | exact Below.refl _ _ | assumption | refine Below.alloc ?_ (by first | (simp; done) | (simp; omega)) _ | refine Below.setCell ?_ (by first | (simp; done) | (simp; omega)) _ | refine Below.drew ?_ | refine below_drewN ?_ _ | refine Below.trans ?_ (hb.mono (by first | (simp; done) | (simp; omega)))))
    have u1 : Box w1 w.heap.size K1 N1 S1 B1 := ((Box.new w K1 N1 S1 B1 _).alloc _).keep hb
    have u2 : Box w1 (w.heap.size + 1) K2 N2 S2 B2 := (Box.newAt K2 N2 S2 B2 _ (by simp)).keep hb
    clear hb
    obtain ⟨e0, e1, e2, e3⟩ := u1
    obtain ⟨f0, f1, f2, f3⟩ := u2
    go_wp2
    all_goals
      go_ret2
      exact ⟨ret_is2 (by simp [testT, *]) (by simp [testS, *]), hB⟩

set_option maxHeartbeats 1000000 in
theorem refTest_lt (op : ByteArray) (K1 N1 : Int) (S1 : ByteArray) (B1 : Bool) (K2 N2 : Int) (S2 : ByteArray) (B2 : Bool) (w : World) (hk : K1 = 0 ∨ K1 = 1 ∨ K1 = 2 ∨ K1 = 3) (h1 : S1.size ≤ maxLen) (h2 : S2.size ≤ maxLen) (d0 : (op.toList == [61]) = false) (d1 : (op.toList == [60, 62]) = false) (dd : (op.toList == [60]) = true) :
    Calls Tryd.prog 11 #[.string op, val K1 N1 S1 B1, val K2 N2 S2 B2] w fun e w' => e = .returned (.tuple #[.int .i64 (testT op.toList K1 K2 (ordV (K1, N1, S1.data.toList, B1) (K2, N2, S2.data.toList, B2))), .string (testS op.toList K1 K2)]) ∧ Below w.heap.size w w' := by
  have kn : knownB op.toList = true := by simp [knownB, dd]
  have ho : holdB op.toList (ordV (K1, N1, S1.data.toList, B1) (K2, N2, S2.data.toList, B2)) = (decide ((ordV (K1, N1, S1.data.toList, B1) (K2, N2, S2.data.toList, B2)) < 0)) := by simp [holdB, dd, d0, d1]
  cases z1 : (K1 == 0)
  · cases z2 : (K2 == 0)
    · cases ne : (K1 != K2)
      · cases hd : (decide ((ordV (K1, N1, S1.data.toList, B1) (K2, N2, S2.data.toList, B2)) < 0))
        all_goals
          go_enter Tryd.func11, Tryd.ntmps11
          go_wp2_with fail
          refine (refOrder_any K1 N1 S1 B1 K2 N2 S2 B2 _ hk h1 h2).mono ?_
          rintro e w1 ⟨rfl, hb⟩
          have hB : Below w.heap.size w w1 := (by repeat (first | exact Below.refl _ _ | assumption | refine Below.alloc ?_ (by first | (simp; done) | (simp; omega)) _ | refine Below.setCell ?_ (by first | (simp; done) | (simp; omega)) _ | refine Below.drew ?_ | refine below_drewN ?_ _ | refine Below.trans ?_ (hb.mono (by first | (simp; done) | (simp; omega)))))
          have u1 : Box w1 w.heap.size K1 N1 S1 B1 := ((Box.new w K1 N1 S1 B1 _).alloc _).keep hb
          have u2 : Box w1 (w.heap.size + 1) K2 N2 S2 B2 := (Box.newAt K2 N2 S2 B2 _ (by simp)).keep hb
          clear hb
          obtain ⟨e0, e1, e2, e3⟩ := u1
          obtain ⟨f0, f1, f2, f3⟩ := u2
          go_wp2
          all_goals
            go_ret2
            exact ⟨ret_is2 (by simp [testT, *]) (by simp [testS, *]), hB⟩
      · go_enter Tryd.func11, Tryd.ntmps11
        go_wp2_with fail
        refine (refOrder_any K1 N1 S1 B1 K2 N2 S2 B2 _ hk h1 h2).mono ?_
        rintro e w1 ⟨rfl, hb⟩
        have hB : Below w.heap.size w w1 := (by repeat (first | exact Below.refl _ _ | assumption | refine Below.alloc ?_ (by first | (simp; done) | (simp; omega)) _ | refine Below.setCell ?_ (by first | (simp; done) | (simp; omega)) _ | refine Below.drew ?_ | refine below_drewN ?_ _ | refine Below.trans ?_ (hb.mono (by first | (simp; done) | (simp; omega)))))
        have u1 : Box w1 w.heap.size K1 N1 S1 B1 := ((Box.new w K1 N1 S1 B1 _).alloc _).keep hb
        have u2 : Box w1 (w.heap.size + 1) K2 N2 S2 B2 := (Box.newAt K2 N2 S2 B2 _ (by simp)).keep hb
        clear hb
        obtain ⟨e0, e1, e2, e3⟩ := u1
        obtain ⟨f0, f1, f2, f3⟩ := u2
        go_wp2
        all_goals
          go_ret2
          exact ⟨ret_is2 (by simp [testT, *]) (by simp [testS, *]), hB⟩
    · go_enter Tryd.func11, Tryd.ntmps11
      go_wp2_with fail
      refine (refOrder_any K1 N1 S1 B1 K2 N2 S2 B2 _ hk h1 h2).mono ?_
      rintro e w1 ⟨rfl, hb⟩
      have hB : Below w.heap.size w w1 := (by repeat (first | exact Below.refl _ _ | assumption | refine Below.alloc ?_ (by first | (simp; done) | (simp; omega)) _ | refine Below.setCell ?_ (by first | (simp; done) | (simp; omega)) _ | refine Below.drew ?_ | refine below_drewN ?_ _ | refine Below.trans ?_ (hb.mono (by first | (simp; done) | (simp; omega)))))
      have u1 : Box w1 w.heap.size K1 N1 S1 B1 := ((Box.new w K1 N1 S1 B1 _).alloc _).keep hb
      have u2 : Box w1 (w.heap.size + 1) K2 N2 S2 B2 := (Box.newAt K2 N2 S2 B2 _ (by simp)).keep hb
      clear hb
      obtain ⟨e0, e1, e2, e3⟩ := u1
      obtain ⟨f0, f1, f2, f3⟩ := u2
      go_wp2
      all_goals
        go_ret2
        exact ⟨ret_is2 (by simp [testT, *]) (by simp [testS, *]), hB⟩
  · go_enter Tryd.func11, Tryd.ntmps11
    go_wp2_with fail
    refine (refOrder_any K1 N1 S1 B1 K2 N2 S2 B2 _ hk h1 h2).mono ?_
    rintro e w1 ⟨rfl, hb⟩
    have hB : Below w.heap.size w w1 := (by repeat (first | exact Below.refl _ _ | assumption | refine Below.alloc ?_ (by first | (simp; done) | (simp; omega)) _ | refine Below.setCell ?_ (by first | (simp; done) | (simp; omega)) _ | refine Below.drew ?_ | refine below_drewN ?_ _ | refine Below.trans ?_ (hb.mono (by first | (simp; done) | (simp; omega)))))
    have u1 : Box w1 w.heap.size K1 N1 S1 B1 := ((Box.new w K1 N1 S1 B1 _).alloc _).keep hb
    have u2 : Box w1 (w.heap.size + 1) K2 N2 S2 B2 := (Box.newAt K2 N2 S2 B2 _ (by simp)).keep hb
    clear hb
    obtain ⟨e0, e1, e2, e3⟩ := u1
    obtain ⟨f0, f1, f2, f3⟩ := u2
    go_wp2
    all_goals
      go_ret2
      exact ⟨ret_is2 (by simp [testT, *]) (by simp [testS, *]), hB⟩

set_option maxHeartbeats 1000000 in
theorem refTest_le (op : ByteArray) (K1 N1 : Int) (S1 : ByteArray) (B1 : Bool) (K2 N2 : Int) (S2 : ByteArray) (B2 : Bool) (w : World) (hk : K1 = 0 ∨ K1 = 1 ∨ K1 = 2 ∨ K1 = 3) (h1 : S1.size ≤ maxLen) (h2 : S2.size ≤ maxLen) (d0 : (op.toList == [61]) = false) (d1 : (op.toList == [60, 62]) = false) (d2 : (op.toList == [60]) = false) (dd : (op.toList == [60, 61]) = true) :
    Calls Tryd.prog 11 #[.string op, val K1 N1 S1 B1, val K2 N2 S2 B2] w fun e w' => e = .returned (.tuple #[.int .i64 (testT op.toList K1 K2 (ordV (K1, N1, S1.data.toList, B1) (K2, N2, S2.data.toList, B2))), .string (testS op.toList K1 K2)]) ∧ Below w.heap.size w w' := by
  have kn : knownB op.toList = true := by simp [knownB, dd]
  have ho : holdB op.toList (ordV (K1, N1, S1.data.toList, B1) (K2, N2, S2.data.toList, B2)) = (decide ((ordV (K1, N1, S1.data.toList, B1) (K2, N2, S2.data.toList, B2)) ≤ 0)) := by simp [holdB, dd, d0, d1, d2]
  cases z1 : (K1 == 0)
  · cases z2 : (K2 == 0)
    · cases ne : (K1 != K2)
      · cases hd : (decide ((ordV (K1, N1, S1.data.toList, B1) (K2, N2, S2.data.toList, B2)) ≤ 0))
        all_goals
          go_enter Tryd.func11, Tryd.ntmps11
          go_wp2_with fail
          refine (refOrder_any K1 N1 S1 B1 K2 N2 S2 B2 _ hk h1 h2).mono ?_
          rintro e w1 ⟨rfl, hb⟩
          have hB : Below w.heap.size w w1 := (by repeat (first | exact Below.refl _ _ | assumption | refine Below.alloc ?_ (by first | (simp; done) | (simp; omega)) _ | refine Below.setCell ?_ (by first | (simp; done) | (simp; omega)) _ | refine Below.drew ?_ | refine below_drewN ?_ _ | refine Below.trans ?_ (hb.mono (by first | (simp; done) | (simp; omega)))))
          have u1 : Box w1 w.heap.size K1 N1 S1 B1 := ((Box.new w K1 N1 S1 B1 _).alloc _).keep hb
          have u2 : Box w1 (w.heap.size + 1) K2 N2 S2 B2 := (Box.newAt K2 N2 S2 B2 _ (by simp)).keep hb
          clear hb
          obtain ⟨e0, e1, e2, e3⟩ := u1
          obtain ⟨f0, f1, f2, f3⟩ := u2
          go_wp2
          all_goals
            go_ret2
            exact ⟨ret_is2 (by simp [testT, *]) (by simp [testS, *]), hB⟩
      · go_enter Tryd.func11, Tryd.ntmps11
        go_wp2_with fail
        refine (refOrder_any K1 N1 S1 B1 K2 N2 S2 B2 _ hk h1 h2).mono ?_
        rintro e w1 ⟨rfl, hb⟩
        have hB : Below w.heap.size w w1 := (by repeat (first | exact Below.refl _ _ | assumption | refine Below.alloc ?_ (by first | (simp; done) | (simp; omega)) _ | refine Below.setCell ?_ (by first | (simp; done) | (simp; omega)) _ | refine Below.drew ?_ | refine below_drewN ?_ _ | refine Below.trans ?_ (hb.mono (by first | (simp; done) | (simp; omega)))))
        have u1 : Box w1 w.heap.size K1 N1 S1 B1 := ((Box.new w K1 N1 S1 B1 _).alloc _).keep hb
        have u2 : Box w1 (w.heap.size + 1) K2 N2 S2 B2 := (Box.newAt K2 N2 S2 B2 _ (by simp)).keep hb
        clear hb
        obtain ⟨e0, e1, e2, e3⟩ := u1
        obtain ⟨f0, f1, f2, f3⟩ := u2
        go_wp2
        all_goals
          go_ret2
          exact ⟨ret_is2 (by simp [testT, *]) (by simp [testS, *]), hB⟩
    · go_enter Tryd.func11, Tryd.ntmps11
      go_wp2_with fail
      refine (refOrder_any K1 N1 S1 B1 K2 N2 S2 B2 _ hk h1 h2).mono ?_
      rintro e w1 ⟨rfl, hb⟩
      have hB : Below w.heap.size w w1 := (by repeat (first | exact Below.refl _ _ | assumption | refine Below.alloc ?_ (by first | (simp; done) | (simp; omega)) _ | refine Below.setCell ?_ (by first | (simp; done) | (simp; omega)) _ | refine Below.drew ?_ | refine below_drewN ?_ _ | refine Below.trans ?_ (hb.mono (by first | (simp; done) | (simp; omega)))))
      have u1 : Box w1 w.heap.size K1 N1 S1 B1 := ((Box.new w K1 N1 S1 B1 _).alloc _).keep hb
      have u2 : Box w1 (w.heap.size + 1) K2 N2 S2 B2 := (Box.newAt K2 N2 S2 B2 _ (by simp)).keep hb
      clear hb
      obtain ⟨e0, e1, e2, e3⟩ := u1
      obtain ⟨f0, f1, f2, f3⟩ := u2
      go_wp2
      all_goals
        go_ret2
        exact ⟨ret_is2 (by simp [testT, *]) (by simp [testS, *]), hB⟩
  · go_enter Tryd.func11, Tryd.ntmps11
    go_wp2_with fail
    refine (refOrder_any K1 N1 S1 B1 K2 N2 S2 B2 _ hk h1 h2).mono ?_
    rintro e w1 ⟨rfl, hb⟩
    have hB : Below w.heap.size w w1 := (by repeat (first | exact Below.refl _ _ | assumption | refine Below.alloc ?_ (by first | (simp; done) | (simp; omega)) _ | refine Below.setCell ?_ (by first | (simp; done) | (simp; omega)) _ | refine Below.drew ?_ | refine below_drewN ?_ _ | refine Below.trans ?_ (hb.mono (by first | (simp; done) | (simp; omega)))))
    have u1 : Box w1 w.heap.size K1 N1 S1 B1 := ((Box.new w K1 N1 S1 B1 _).alloc _).keep hb
    have u2 : Box w1 (w.heap.size + 1) K2 N2 S2 B2 := (Box.newAt K2 N2 S2 B2 _ (by simp)).keep hb
    clear hb
    obtain ⟨e0, e1, e2, e3⟩ := u1
    obtain ⟨f0, f1, f2, f3⟩ := u2
    go_wp2
    all_goals
      go_ret2
      exact ⟨ret_is2 (by simp [testT, *]) (by simp [testS, *]), hB⟩

set_option maxHeartbeats 1000000 in
theorem refTest_gt (op : ByteArray) (K1 N1 : Int) (S1 : ByteArray) (B1 : Bool) (K2 N2 : Int) (S2 : ByteArray) (B2 : Bool) (w : World) (hk : K1 = 0 ∨ K1 = 1 ∨ K1 = 2 ∨ K1 = 3) (h1 : S1.size ≤ maxLen) (h2 : S2.size ≤ maxLen) (d0 : (op.toList == [61]) = false) (d1 : (op.toList == [60, 62]) = false) (d2 : (op.toList == [60]) = false) (d3 : (op.toList == [60, 61]) = false) (dd : (op.toList == [62]) = true) :
    Calls Tryd.prog 11 #[.string op, val K1 N1 S1 B1, val K2 N2 S2 B2] w fun e w' => e = .returned (.tuple #[.int .i64 (testT op.toList K1 K2 (ordV (K1, N1, S1.data.toList, B1) (K2, N2, S2.data.toList, B2))), .string (testS op.toList K1 K2)]) ∧ Below w.heap.size w w' := by
  have kn : knownB op.toList = true := by simp [knownB, dd]
  have ho : holdB op.toList (ordV (K1, N1, S1.data.toList, B1) (K2, N2, S2.data.toList, B2)) = (decide ((ordV (K1, N1, S1.data.toList, B1) (K2, N2, S2.data.toList, B2)) > 0)) := by simp [holdB, dd, d0, d1, d2, d3]
  cases z1 : (K1 == 0)
  · cases z2 : (K2 == 0)
    · cases ne : (K1 != K2)
      · cases hd : (decide ((ordV (K1, N1, S1.data.toList, B1) (K2, N2, S2.data.toList, B2)) > 0))
        all_goals
          go_enter Tryd.func11, Tryd.ntmps11
          go_wp2_with fail
          refine (refOrder_any K1 N1 S1 B1 K2 N2 S2 B2 _ hk h1 h2).mono ?_
          rintro e w1 ⟨rfl, hb⟩
          have hB : Below w.heap.size w w1 := (by repeat (first | exact Below.refl _ _ | assumption | refine Below.alloc ?_ (by first | (simp; done) | (simp; omega)) _ | refine Below.setCell ?_ (by first | (simp; done) | (simp; omega)) _ | refine Below.drew ?_ | refine below_drewN ?_ _ | refine Below.trans ?_ (hb.mono (by first | (simp; done) | (simp; omega)))))
          have u1 : Box w1 w.heap.size K1 N1 S1 B1 := ((Box.new w K1 N1 S1 B1 _).alloc _).keep hb
          have u2 : Box w1 (w.heap.size + 1) K2 N2 S2 B2 := (Box.newAt K2 N2 S2 B2 _ (by simp)).keep hb
          clear hb
          obtain ⟨e0, e1, e2, e3⟩ := u1
          obtain ⟨f0, f1, f2, f3⟩ := u2
          go_wp2
          all_goals
            go_ret2
            exact ⟨ret_is2 (by simp [testT, *]) (by simp [testS, *]), hB⟩
      · go_enter Tryd.func11, Tryd.ntmps11
        go_wp2_with fail
        refine (refOrder_any K1 N1 S1 B1 K2 N2 S2 B2 _ hk h1 h2).mono ?_
        rintro e w1 ⟨rfl, hb⟩
        have hB : Below w.heap.size w w1 := (by repeat (first | exact Below.refl _ _ | assumption | refine Below.alloc ?_ (by first | (simp; done) | (simp; omega)) _ | refine Below.setCell ?_ (by first | (simp; done) | (simp; omega)) _ | refine Below.drew ?_ | refine below_drewN ?_ _ | refine Below.trans ?_ (hb.mono (by first | (simp; done) | (simp; omega)))))
        have u1 : Box w1 w.heap.size K1 N1 S1 B1 := ((Box.new w K1 N1 S1 B1 _).alloc _).keep hb
        have u2 : Box w1 (w.heap.size + 1) K2 N2 S2 B2 := (Box.newAt K2 N2 S2 B2 _ (by simp)).keep hb
        clear hb
        obtain ⟨e0, e1, e2, e3⟩ := u1
        obtain ⟨f0, f1, f2, f3⟩ := u2
        go_wp2
        all_goals
          go_ret2
          exact ⟨ret_is2 (by simp [testT, *]) (by simp [testS, *]), hB⟩
    · go_enter Tryd.func11, Tryd.ntmps11
      go_wp2_with fail
      refine (refOrder_any K1 N1 S1 B1 K2 N2 S2 B2 _ hk h1 h2).mono ?_
      rintro e w1 ⟨rfl, hb⟩
      have hB : Below w.heap.size w w1 := (by repeat (first | exact Below.refl _ _ | assumption | refine Below.alloc ?_ (by first | (simp; done) | (simp; omega)) _ | refine Below.setCell ?_ (by first | (simp; done) | (simp; omega)) _ | refine Below.drew ?_ | refine below_drewN ?_ _ | refine Below.trans ?_ (hb.mono (by first | (simp; done) | (simp; omega)))))
      have u1 : Box w1 w.heap.size K1 N1 S1 B1 := ((Box.new w K1 N1 S1 B1 _).alloc _).keep hb
      have u2 : Box w1 (w.heap.size + 1) K2 N2 S2 B2 := (Box.newAt K2 N2 S2 B2 _ (by simp)).keep hb
      clear hb
      obtain ⟨e0, e1, e2, e3⟩ := u1
      obtain ⟨f0, f1, f2, f3⟩ := u2
      go_wp2
      all_goals
        go_ret2
        exact ⟨ret_is2 (by simp [testT, *]) (by simp [testS, *]), hB⟩
  · go_enter Tryd.func11, Tryd.ntmps11
    go_wp2_with fail
    refine (refOrder_any K1 N1 S1 B1 K2 N2 S2 B2 _ hk h1 h2).mono ?_
    rintro e w1 ⟨rfl, hb⟩
    have hB : Below w.heap.size w w1 := (by repeat (first | exact Below.refl _ _ | assumption | refine Below.alloc ?_ (by first | (simp; done) | (simp; omega)) _ | refine Below.setCell ?_ (by first | (simp; done) | (simp; omega)) _ | refine Below.drew ?_ | refine below_drewN ?_ _ | refine Below.trans ?_ (hb.mono (by first | (simp; done) | (simp; omega)))))
    have u1 : Box w1 w.heap.size K1 N1 S1 B1 := ((Box.new w K1 N1 S1 B1 _).alloc _).keep hb
    have u2 : Box w1 (w.heap.size + 1) K2 N2 S2 B2 := (Box.newAt K2 N2 S2 B2 _ (by simp)).keep hb
    clear hb
    obtain ⟨e0, e1, e2, e3⟩ := u1
    obtain ⟨f0, f1, f2, f3⟩ := u2
    go_wp2
    all_goals
      go_ret2
      exact ⟨ret_is2 (by simp [testT, *]) (by simp [testS, *]), hB⟩

set_option maxHeartbeats 1000000 in
theorem refTest_ge (op : ByteArray) (K1 N1 : Int) (S1 : ByteArray) (B1 : Bool) (K2 N2 : Int) (S2 : ByteArray) (B2 : Bool) (w : World) (hk : K1 = 0 ∨ K1 = 1 ∨ K1 = 2 ∨ K1 = 3) (h1 : S1.size ≤ maxLen) (h2 : S2.size ≤ maxLen) (d0 : (op.toList == [61]) = false) (d1 : (op.toList == [60, 62]) = false) (d2 : (op.toList == [60]) = false) (d3 : (op.toList == [60, 61]) = false) (d4 : (op.toList == [62]) = false) (dd : (op.toList == [62, 61]) = true) :
    Calls Tryd.prog 11 #[.string op, val K1 N1 S1 B1, val K2 N2 S2 B2] w fun e w' => e = .returned (.tuple #[.int .i64 (testT op.toList K1 K2 (ordV (K1, N1, S1.data.toList, B1) (K2, N2, S2.data.toList, B2))), .string (testS op.toList K1 K2)]) ∧ Below w.heap.size w w' := by
  have kn : knownB op.toList = true := by simp [knownB, dd]
  have ho : holdB op.toList (ordV (K1, N1, S1.data.toList, B1) (K2, N2, S2.data.toList, B2)) = (decide ((ordV (K1, N1, S1.data.toList, B1) (K2, N2, S2.data.toList, B2)) ≥ 0)) := by simp [holdB, dd, d0, d1, d2, d3, d4]
  cases z1 : (K1 == 0)
  · cases z2 : (K2 == 0)
    · cases ne : (K1 != K2)
      · cases hd : (decide ((ordV (K1, N1, S1.data.toList, B1) (K2, N2, S2.data.toList, B2)) ≥ 0))
        all_goals
          go_enter Tryd.func11, Tryd.ntmps11
          go_wp2_with fail
          refine (refOrder_any K1 N1 S1 B1 K2 N2 S2 B2 _ hk h1 h2).mono ?_
          rintro e w1 ⟨rfl, hb⟩
          have hB : Below w.heap.size w w1 := (by repeat (first | exact Below.refl _ _ | assumption | refine Below.alloc ?_ (by first | (simp; done) | (simp; omega)) _ | refine Below.setCell ?_ (by first | (simp; done) | (simp; omega)) _ | refine Below.drew ?_ | refine below_drewN ?_ _ | refine Below.trans ?_ (hb.mono (by first | (simp; done) | (simp; omega)))))
          have u1 : Box w1 w.heap.size K1 N1 S1 B1 := ((Box.new w K1 N1 S1 B1 _).alloc _).keep hb
          have u2 : Box w1 (w.heap.size + 1) K2 N2 S2 B2 := (Box.newAt K2 N2 S2 B2 _ (by simp)).keep hb
          clear hb
          obtain ⟨e0, e1, e2, e3⟩ := u1
          obtain ⟨f0, f1, f2, f3⟩ := u2
          go_wp2
          all_goals
            go_ret2
            exact ⟨ret_is2 (by simp [testT, *]) (by simp [testS, *]), hB⟩
      · go_enter Tryd.func11, Tryd.ntmps11
        go_wp2_with fail
        refine (refOrder_any K1 N1 S1 B1 K2 N2 S2 B2 _ hk h1 h2).mono ?_
        rintro e w1 ⟨rfl, hb⟩
        have hB : Below w.heap.size w w1 := (by repeat (first | exact Below.refl _ _ | assumption | refine Below.alloc ?_ (by first | (simp; done) | (simp; omega)) _ | refine Below.setCell ?_ (by first | (simp; done) | (simp; omega)) _ | refine Below.drew ?_ | refine below_drewN ?_ _ | refine Below.trans ?_ (hb.mono (by first | (simp; done) | (simp; omega)))))
        have u1 : Box w1 w.heap.size K1 N1 S1 B1 := ((Box.new w K1 N1 S1 B1 _).alloc _).keep hb
        have u2 : Box w1 (w.heap.size + 1) K2 N2 S2 B2 := (Box.newAt K2 N2 S2 B2 _ (by simp)).keep hb
        clear hb
        obtain ⟨e0, e1, e2, e3⟩ := u1
        obtain ⟨f0, f1, f2, f3⟩ := u2
        go_wp2
        all_goals
          go_ret2
          exact ⟨ret_is2 (by simp [testT, *]) (by simp [testS, *]), hB⟩
    · go_enter Tryd.func11, Tryd.ntmps11
      go_wp2_with fail
      refine (refOrder_any K1 N1 S1 B1 K2 N2 S2 B2 _ hk h1 h2).mono ?_
      rintro e w1 ⟨rfl, hb⟩
      have hB : Below w.heap.size w w1 := (by repeat (first | exact Below.refl _ _ | assumption | refine Below.alloc ?_ (by first | (simp; done) | (simp; omega)) _ | refine Below.setCell ?_ (by first | (simp; done) | (simp; omega)) _ | refine Below.drew ?_ | refine below_drewN ?_ _ | refine Below.trans ?_ (hb.mono (by first | (simp; done) | (simp; omega)))))
      have u1 : Box w1 w.heap.size K1 N1 S1 B1 := ((Box.new w K1 N1 S1 B1 _).alloc _).keep hb
      have u2 : Box w1 (w.heap.size + 1) K2 N2 S2 B2 := (Box.newAt K2 N2 S2 B2 _ (by simp)).keep hb
      clear hb
      obtain ⟨e0, e1, e2, e3⟩ := u1
      obtain ⟨f0, f1, f2, f3⟩ := u2
      go_wp2
      all_goals
        go_ret2
        exact ⟨ret_is2 (by simp [testT, *]) (by simp [testS, *]), hB⟩
  · go_enter Tryd.func11, Tryd.ntmps11
    go_wp2_with fail
    refine (refOrder_any K1 N1 S1 B1 K2 N2 S2 B2 _ hk h1 h2).mono ?_
    rintro e w1 ⟨rfl, hb⟩
    have hB : Below w.heap.size w w1 := (by repeat (first | exact Below.refl _ _ | assumption | refine Below.alloc ?_ (by first | (simp; done) | (simp; omega)) _ | refine Below.setCell ?_ (by first | (simp; done) | (simp; omega)) _ | refine Below.drew ?_ | refine below_drewN ?_ _ | refine Below.trans ?_ (hb.mono (by first | (simp; done) | (simp; omega)))))
    have u1 : Box w1 w.heap.size K1 N1 S1 B1 := ((Box.new w K1 N1 S1 B1 _).alloc _).keep hb
    have u2 : Box w1 (w.heap.size + 1) K2 N2 S2 B2 := (Box.newAt K2 N2 S2 B2 _ (by simp)).keep hb
    clear hb
    obtain ⟨e0, e1, e2, e3⟩ := u1
    obtain ⟨f0, f1, f2, f3⟩ := u2
    go_wp2
    all_goals
      go_ret2
      exact ⟨ret_is2 (by simp [testT, *]) (by simp [testS, *]), hB⟩

set_option maxHeartbeats 1000000 in
theorem refTest_no (op : ByteArray) (K1 N1 : Int) (S1 : ByteArray) (B1 : Bool) (K2 N2 : Int) (S2 : ByteArray) (B2 : Bool) (w : World) (hk : K1 = 0 ∨ K1 = 1 ∨ K1 = 2 ∨ K1 = 3) (h1 : S1.size ≤ maxLen) (h2 : S2.size ≤ maxLen) (d0 : (op.toList == [61]) = false) (d1 : (op.toList == [60, 62]) = false) (d2 : (op.toList == [60]) = false) (d3 : (op.toList == [60, 61]) = false) (d4 : (op.toList == [62]) = false) (d5 : (op.toList == [62, 61]) = false) :
    Calls Tryd.prog 11 #[.string op, val K1 N1 S1 B1, val K2 N2 S2 B2] w fun e w' => e = .returned (.tuple #[.int .i64 (testT op.toList K1 K2 (ordV (K1, N1, S1.data.toList, B1) (K2, N2, S2.data.toList, B2))), .string (testS op.toList K1 K2)]) ∧ Below w.heap.size w w' := by
  have kn : knownB op.toList = false := by simp [knownB, d0, d1, d2, d3, d4, d5]
  go_enter Tryd.func11, Tryd.ntmps11
  go_wp2_with fail
  refine (refOrder_any K1 N1 S1 B1 K2 N2 S2 B2 _ hk h1 h2).mono ?_
  rintro e w1 ⟨rfl, hb⟩
  have hB : Below w.heap.size w w1 := (by repeat (first | exact Below.refl _ _ | assumption | refine Below.alloc ?_ (by first | (simp; done) | (simp; omega)) _ | refine Below.setCell ?_ (by first | (simp; done) | (simp; omega)) _ | refine Below.drew ?_ | refine below_drewN ?_ _ | refine Below.trans ?_ (hb.mono (by first | (simp; done) | (simp; omega)))))
  have u1 : Box w1 w.heap.size K1 N1 S1 B1 := ((Box.new w K1 N1 S1 B1 _).alloc _).keep hb
  have u2 : Box w1 (w.heap.size + 1) K2 N2 S2 B2 := (Box.newAt K2 N2 S2 B2 _ (by simp)).keep hb
  clear hb
  obtain ⟨e0, e1, e2, e3⟩ := u1
  obtain ⟨f0, f1, f2, f3⟩ := u2
  go_wp2
  all_goals
    go_ret2
    exact ⟨ret_is2 (by simp [testT, *]) (by simp [testS, *]), hB⟩

theorem refTest_any (op : ByteArray) (K1 N1 : Int) (S1 : ByteArray) (B1 : Bool) (K2 N2 : Int) (S2 : ByteArray) (B2 : Bool) (w : World) (hk : K1 = 0 ∨ K1 = 1 ∨ K1 = 2 ∨ K1 = 3) (h1 : S1.size ≤ maxLen) (h2 : S2.size ≤ maxLen) :
    Calls Tryd.prog 11 #[.string op, val K1 N1 S1 B1, val K2 N2 S2 B2] w fun e w' => e = .returned (.tuple #[.int .i64 (testT op.toList K1 K2 (ordV (K1, N1, S1.data.toList, B1) (K2, N2, S2.data.toList, B2))), .string (testS op.toList K1 K2)]) ∧ Below w.heap.size w w' := by
  cases c0 : (op.toList == [61])
  rotate_left
  · exact refTest_eq op K1 N1 S1 B1 K2 N2 S2 B2 w hk h1 h2 c0
  cases c1 : (op.toList == [60, 62])
  rotate_left
  · exact refTest_ne op K1 N1 S1 B1 K2 N2 S2 B2 w hk h1 h2 c0 c1
  cases c2 : (op.toList == [60])
  rotate_left
  · exact refTest_lt op K1 N1 S1 B1 K2 N2 S2 B2 w hk h1 h2 c0 c1 c2
  cases c3 : (op.toList == [60, 61])
  rotate_left
  · exact refTest_le op K1 N1 S1 B1 K2 N2 S2 B2 w hk h1 h2 c0 c1 c2 c3
  cases c4 : (op.toList == [62])
  rotate_left
  · exact refTest_gt op K1 N1 S1 B1 K2 N2 S2 B2 w hk h1 h2 c0 c1 c2 c3 c4
  cases c5 : (op.toList == [62, 61])
  rotate_left
  · exact refTest_ge op K1 N1 S1 B1 K2 N2 S2 B2 w hk h1 h2 c0 c1 c2 c3 c4 c5
  exact refTest_no op K1 N1 S1 B1 K2 N2 S2 B2 w hk h1 h2 c0 c1 c2 c3 c4 c5
end Go.Proofs.YticlmegcpneckaaDoor

/- The walks of value.holds and value.Test at every sign. -/
import Derived.Test.YticlmegcpneckabDoorOrderAny
import Derived.Test.YticlmegcpneckabDoorBoxes
namespace Go.Proofs.YticlmegcpneckabDoor
open Go.RowKit
set_option linter.unusedVariables false

abbrev sSyn : ByteArray := ⟨#[52, 50, 54, 48, 49]⟩
abbrev sMis2 : ByteArray := ⟨#[52, 50, 56, 48, 52]⟩
def knownB (op : List UInt8) : Bool := op == [61] || op == [60, 62] || op == [60] || op == [60, 61] || op == [62] || op == [62, 61]
def holdB (op : List UInt8) (c : Int) : Bool :=
  if op == [61] then c == 0 else if op == [60, 62] then c != 0 else if op == [60] then decide (c < 0) else if op == [60, 61] then decide (c ≤ 0) else if op == [62] then decide (c > 0) else if op == [62, 61] then decide (c ≥ 0) else false
theorem ret_bb {a b c d : Bool} (h : a = b) (h2 : c = d) : Ending.returned (.tuple #[.bool a, .bool c]) = .returned (.tuple #[.bool b, .bool d]) := by rw [h, h2]

set_option maxHeartbeats 400000 in
theorem holds_any (op : ByteArray) (c : Int) (w : World) :
    Calls Tryd.prog 25 #[.string op, .int .i64 c] w fun e w' => e = .returned (.tuple #[.bool (holdB op.toList c), .bool (knownB op.toList)]) ∧ w' = w := by
  cases c1 : (op.toList == [61])
  · cases c2 : (op.toList == [60, 62])
    · cases c3 : (op.toList == [60])
      · cases c4 : (op.toList == [60, 61])
        · cases c5 : (op.toList == [62])
          · cases c6 : (op.toList == [62, 61])
            all_goals
              go_enter Tryd.func25, Tryd.ntmps25
              go_wp2
              go_ret2
              exact ⟨ret_bb (by simp [holdB, *]) (by simp [knownB, *]), rfl⟩
          · go_enter Tryd.func25, Tryd.ntmps25
            go_wp2
            go_ret2
            exact ⟨ret_bb (by simp [holdB, *]) (by simp [knownB, *]), rfl⟩
        · go_enter Tryd.func25, Tryd.ntmps25
          go_wp2
          go_ret2
          exact ⟨ret_bb (by simp [holdB, *]) (by simp [knownB, *]), rfl⟩
      · go_enter Tryd.func25, Tryd.ntmps25
        go_wp2
        go_ret2
        exact ⟨ret_bb (by simp [holdB, *]) (by simp [knownB, *]), rfl⟩
    · go_enter Tryd.func25, Tryd.ntmps25
      go_wp2
      go_ret2
      exact ⟨ret_bb (by simp [holdB, *]) (by simp [knownB, *]), rfl⟩
  · go_enter Tryd.func25, Tryd.ntmps25
    go_wp2
    go_ret2
    exact ⟨ret_bb (by simp [holdB, *]) (by simp [knownB, *]), rfl⟩

def testT (op : List UInt8) (K1 K2 c : Int) : Int := if knownB op then (if K1 == 0 then 1 else if K2 == 0 then 1 else if K1 != K2 then 1 else if holdB op c then 2 else 0) else 1
def testS (op : List UInt8) (K1 K2 : Int) : ByteArray := if knownB op then (if K1 == 0 then sDone else if K2 == 0 then sDone else if K1 != K2 then sMis2 else sDone) else sSyn
theorem ret_is2 {a b : Int} {s t : ByteArray} (h : a = b) (h2 : s = t) : Ending.returned (.tuple #[.int .i64 a, .string s]) = .returned (.tuple #[.int .i64 b, .string t]) := by rw [h, h2]
set_option maxHeartbeats 1000000 in
theorem test_any (op : ByteArray) (K1 N1 : Int) (S1 : ByteArray) (B1 : Bool) (K2 N2 : Int) (S2 : ByteArray) (B2 : Bool) (w : World) (hk : K1 = 0 ∨ K1 = 1 ∨ K1 = 2 ∨ K1 = 3) (h1 : S1.size ≤ maxLen) (h2 : S2.size ≤ maxLen) :
    Calls Tryd.prog 13 #[.string op, val K1 N1 S1 B1, val K2 N2 S2 B2] w fun e w' => e = .returned (.tuple #[.int .i64 (testT op.toList K1 K2 (ordV (K1, N1, S1.data.toList, B1) (K2, N2, S2.data.toList, B2))), .string (testS op.toList K1 K2)]) ∧ Below w.heap.size w w' := by
  cases kn : knownB op.toList
  · go_enter Tryd.func13, Tryd.ntmps13
    go_wp2_with fail
    refine (order_any K1 N1 S1 B1 K2 N2 S2 B2 _ hk h1 h2).mono ?_
    rintro e w1 ⟨rfl, hb⟩
    have hB : Below w.heap.size w w1 := (by repeat (first | exact Below.refl _ _ | assumption | refine Below.alloc ?_ (by first | (simp; done) | (simp; omega)) _ | refine Below.setCell ?_ (by first | (simp; done) | (simp; omega)) _ | refine Below.drew ?_ | refine below_drewN ?_ _ | refine Below.trans ?_ (hb.mono (by first | (simp; done) | (simp; omega)))))
    have u1 : Box w1 w.heap.size K1 N1 S1 B1 := ((Box.new w K1 N1 S1 B1 _).alloc _).keep hb
    have u2 : Box w1 (w.heap.size + 1) K2 N2 S2 B2 := (Box.newAt K2 N2 S2 B2 _ (by simp)).keep hb
    clear hb
    obtain ⟨e0, e1, e2, e3⟩ := u1
    obtain ⟨f0, f1, f2, f3⟩ := u2
    go_wp2_with (go_at_call 25; refine (holds_any _ _ _).mono ?_; rintro e w' ⟨rfl, rfl⟩)
    go_ret2
    exact ⟨ret_is2 (by simp [testT, *]) (by simp [testS, *]), hB⟩
  · cases z1 : (K1 == 0)
    · cases z2 : (K2 == 0)
      · cases ne : (K1 != K2)
        · cases hd : holdB op.toList (ordV (K1, N1, S1.data.toList, B1) (K2, N2, S2.data.toList, B2))
          · go_enter Tryd.func13, Tryd.ntmps13
            go_wp2_with fail
            refine (order_any K1 N1 S1 B1 K2 N2 S2 B2 _ hk h1 h2).mono ?_
            rintro e w1 ⟨rfl, hb⟩
            have hB : Below w.heap.size w w1 := (by repeat (first | exact Below.refl _ _ | assumption | refine Below.alloc ?_ (by first | (simp; done) | (simp; omega)) _ | refine Below.setCell ?_ (by first | (simp; done) | (simp; omega)) _ | refine Below.drew ?_ | refine below_drewN ?_ _ | refine Below.trans ?_ (hb.mono (by first | (simp; done) | (simp; omega)))))
            have u1 : Box w1 w.heap.size K1 N1 S1 B1 := ((Box.new w K1 N1 S1 B1 _).alloc _).keep hb
            have u2 : Box w1 (w.heap.size + 1) K2 N2 S2 B2 := (Box.newAt K2 N2 S2 B2 _ (by simp)).keep hb
            clear hb
            obtain ⟨e0, e1, e2, e3⟩ := u1
            obtain ⟨f0, f1, f2, f3⟩ := u2
            go_wp2_with (go_at_call 25; refine (holds_any _ _ _).mono ?_; rintro e w' ⟨rfl, rfl⟩)
            go_ret2
            exact ⟨ret_is2 (by simp [testT, *]) (by simp [testS, *]), hB⟩
          · go_enter Tryd.func13, Tryd.ntmps13
            go_wp2_with fail
            refine (order_any K1 N1 S1 B1 K2 N2 S2 B2 _ hk h1 h2).mono ?_
            rintro e w1 ⟨rfl, hb⟩
            have hB : Below w.heap.size w w1 := (by repeat (first | exact Below.refl _ _ | assumption | refine Below.alloc ?_ (by first | (simp; done) | (simp; omega)) _ | refine Below.setCell ?_ (by first | (simp; done) | (simp; omega)) _ | refine Below.drew ?_ | refine below_drewN ?_ _ | refine Below.trans ?_ (hb.mono (by first | (simp; done) | (simp; omega)))))
            have u1 : Box w1 w.heap.size K1 N1 S1 B1 := ((Box.new w K1 N1 S1 B1 _).alloc _).keep hb
            have u2 : Box w1 (w.heap.size + 1) K2 N2 S2 B2 := (Box.newAt K2 N2 S2 B2 _ (by simp)).keep hb
            clear hb
            obtain ⟨e0, e1, e2, e3⟩ := u1
            obtain ⟨f0, f1, f2, f3⟩ := u2
            go_wp2_with (go_at_call 25; refine (holds_any _ _ _).mono ?_; rintro e w' ⟨rfl, rfl⟩)
            go_ret2
            exact ⟨ret_is2 (by simp [testT, *]) (by simp [testS, *]), hB⟩
        · go_enter Tryd.func13, Tryd.ntmps13
          go_wp2_with fail
          refine (order_any K1 N1 S1 B1 K2 N2 S2 B2 _ hk h1 h2).mono ?_
          rintro e w1 ⟨rfl, hb⟩
          have hB : Below w.heap.size w w1 := (by repeat (first | exact Below.refl _ _ | assumption | refine Below.alloc ?_ (by first | (simp; done) | (simp; omega)) _ | refine Below.setCell ?_ (by first | (simp; done) | (simp; omega)) _ | refine Below.drew ?_ | refine below_drewN ?_ _ | refine Below.trans ?_ (hb.mono (by first | (simp; done) | (simp; omega)))))
          have u1 : Box w1 w.heap.size K1 N1 S1 B1 := ((Box.new w K1 N1 S1 B1 _).alloc _).keep hb
          have u2 : Box w1 (w.heap.size + 1) K2 N2 S2 B2 := (Box.newAt K2 N2 S2 B2 _ (by simp)).keep hb
          clear hb
          obtain ⟨e0, e1, e2, e3⟩ := u1
          obtain ⟨f0, f1, f2, f3⟩ := u2
          go_wp2_with (go_at_call 25; refine (holds_any _ _ _).mono ?_; rintro e w' ⟨rfl, rfl⟩)
          go_ret2
          exact ⟨ret_is2 (by simp [testT, *]) (by simp [testS, *]), hB⟩
      · go_enter Tryd.func13, Tryd.ntmps13
        go_wp2_with fail
        refine (order_any K1 N1 S1 B1 K2 N2 S2 B2 _ hk h1 h2).mono ?_
        rintro e w1 ⟨rfl, hb⟩
        have hB : Below w.heap.size w w1 := (by repeat (first | exact Below.refl _ _ | assumption | refine Below.alloc ?_ (by first | (simp; done) | (simp; omega)) _ | refine Below.setCell ?_ (by first | (simp; done) | (simp; omega)) _ | refine Below.drew ?_ | refine below_drewN ?_ _ | refine Below.trans ?_ (hb.mono (by first | (simp; done) | (simp; omega)))))
        have u1 : Box w1 w.heap.size K1 N1 S1 B1 := ((Box.new w K1 N1 S1 B1 _).alloc _).keep hb
        have u2 : Box w1 (w.heap.size + 1) K2 N2 S2 B2 := (Box.newAt K2 N2 S2 B2 _ (by simp)).keep hb
        clear hb
        obtain ⟨e0, e1, e2, e3⟩ := u1
        obtain ⟨f0, f1, f2, f3⟩ := u2
        go_wp2_with (go_at_call 25; refine (holds_any _ _ _).mono ?_; rintro e w' ⟨rfl, rfl⟩)
        go_ret2
        exact ⟨ret_is2 (by simp [testT, *]) (by simp [testS, *]), hB⟩
    · go_enter Tryd.func13, Tryd.ntmps13
      go_wp2_with fail
      refine (order_any K1 N1 S1 B1 K2 N2 S2 B2 _ hk h1 h2).mono ?_
      rintro e w1 ⟨rfl, hb⟩
      have hB : Below w.heap.size w w1 := (by repeat (first | exact Below.refl _ _ | assumption | refine Below.alloc ?_ (by first | (simp; done) | (simp; omega)) _ | refine Below.setCell ?_ (by first | (simp; done) | (simp; omega)) _ | refine Below.drew ?_ | refine below_drewN ?_ _ | refine Below.trans ?_ (hb.mono (by first | (simp; done) | (simp; omega)))))
      have u1 : Box w1 w.heap.size K1 N1 S1 B1 := ((Box.new w K1 N1 S1 B1 _).alloc _).keep hb
      have u2 : Box w1 (w.heap.size + 1) K2 N2 S2 B2 := (Box.newAt K2 N2 S2 B2 _ (by simp)).keep hb
      clear hb
      obtain ⟨e0, e1, e2, e3⟩ := u1
      obtain ⟨f0, f1, f2, f3⟩ := u2
      go_wp2_with (go_at_call 25; refine (holds_any _ _ _).mono ?_; rintro e w' ⟨rfl, rfl⟩)
      go_ret2
      exact ⟨ret_is2 (by simp [testT, *]) (by simp [testS, *]), hB⟩
end Go.Proofs.YticlmegcpneckabDoor

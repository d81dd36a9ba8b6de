/- The walk of the law ValueThree: of two values one of three is so. -/
import Derived.Test.YticlmegcpneckabDoorSigns
namespace Go.Proofs.YticlmegcpneckabDoor
open Go.RowKit
set_option linter.unusedVariables false

theorem sizeOf3 {S s : ByteArray} (h : S = ⟨#[]⟩ ∨ S = s) (hs : s.size ≤ maxLen) : S.size ≤ maxLen := by
  rcases h with rfl | rfl
  · decide
  · exact hs
theorem test_is (op : ByteArray) (l : List UInt8) (t : Int) (st : ByteArray) (K1 N1 : Int) (S1 : ByteArray) (B1 : Bool) (K2 N2 : Int) (S2 : ByteArray) (B2 : Bool) (w : World) (hk : K1 = 0 ∨ K1 = 1 ∨ K1 = 2 ∨ K1 = 3) (h1 : S1.size ≤ maxLen) (h2 : S2.size ≤ maxLen)
    (hl : op.data.toList = l) (hT : testT l K1 K2 (ordV (K1, N1, S1.data.toList, B1) (K2, N2, S2.data.toList, B2)) = t) (hS : testS l K1 K2 = st) :
    Calls Tryd.prog 13 #[.string op, val K1 N1 S1 B1, val K2 N2 S2 B2] w fun e w' => e = .returned (.tuple #[.int .i64 t, .string st]) ∧ Below w.heap.size w w' := by
  have h := test_any op K1 N1 S1 B1 K2 N2 S2 B2 w hk h1 h2
  rw [Lib.toList_data, hl, hT, hS] at h
  exact h
/-- What the six signs come to. -/
structure SixAre (K1 K2 c lt eq gt ne ge le : Int) (st : ByteArray) : Prop where
  tlt : testT [60] K1 K2 c = lt
  teq : testT [61] K1 K2 c = eq
  tgt : testT [62] K1 K2 c = gt
  tne : testT [60, 62] K1 K2 c = ne
  tge : testT [62, 61] K1 K2 c = ge
  tle : testT [60, 61] K1 K2 c = le
  slt : testS [60] K1 K2 = st
  seq : testS [61] K1 K2 = st
  sgt : testS [62] K1 K2 = st
  sne : testS [60, 62] K1 K2 = st
  sge : testS [62, 61] K1 K2 = st
  sle : testS [60, 61] K1 K2 = st
theorem six (K1 K2 c : Int) (hc : -1 ≤ c ∧ c ≤ 1) :
    ((K1 == 0) = true ∧ SixAre K1 K2 c 1 1 1 1 1 1 sDone) ∨ (((K1 == 0) = false ∧ (K2 == 0) = true) ∧ SixAre K1 K2 c 1 1 1 1 1 1 sDone) ∨ (((K1 == 0) = false ∧ (K2 == 0) = false) ∧ SixAre K1 K2 c 1 1 1 1 1 1 sMis2) ∨
    (((K1 == 0) = false ∧ (K2 == 0) = false) ∧ SixAre K1 K2 c 2 0 0 2 0 2 sDone) ∨ (((K1 == 0) = false ∧ (K2 == 0) = false) ∧ SixAre K1 K2 c 0 2 0 0 2 2 sDone) ∨ (((K1 == 0) = false ∧ (K2 == 0) = false) ∧ SixAre K1 K2 c 0 0 2 2 2 0 sDone) := by
  cases z1 : (K1 == 0)
  · cases z2 : (K2 == 0)
    · cases ne : (K1 != K2)
      · have : c = -1 ∨ c = 0 ∨ c = 1 := by omega
        rcases this with rfl | rfl | rfl
        · refine Or.inr (Or.inr (Or.inr (Or.inl ⟨⟨rfl, rfl⟩, ?_⟩)))
          constructor <;> simp [testT, testS, knownB, holdB, z1, z2, ne]
        · refine Or.inr (Or.inr (Or.inr (Or.inr (Or.inl ⟨⟨rfl, rfl⟩, ?_⟩))))
          constructor <;> simp [testT, testS, knownB, holdB, z1, z2, ne]
        · refine Or.inr (Or.inr (Or.inr (Or.inr (Or.inr ⟨⟨rfl, rfl⟩, ?_⟩))))
          constructor <;> simp [testT, testS, knownB, holdB, z1, z2, ne]
      · refine Or.inr (Or.inr (Or.inl ⟨⟨rfl, rfl⟩, ?_⟩))
        constructor <;> simp [testT, testS, knownB, z1, z2, ne]
    · refine Or.inr (Or.inl ⟨⟨rfl, rfl⟩, ?_⟩)
      constructor <;> simp [testT, testS, knownB, z1, z2]
  · refine Or.inl ⟨rfl, ?_⟩
    constructor <;> simp [testT, testS, knownB, z1]

set_option maxHeartbeats 4000000 in
theorem three_law (k1 n1 : Int) (s1 : ByteArray) (b1 : Bool) (k2 n2 : Int) (s2 : ByteArray) (b2 : Bool) (w : World)
    (hk1 : -9223372036854775808 ≤ k1 ∧ k1 ≤ 9223372036854775807) (hk2 : -9223372036854775808 ≤ k2 ∧ k2 ≤ 9223372036854775807) (hs1 : s1.size ≤ maxLen) (hs2 : s2.size ≤ maxLen) :
    Calls Tryd.prog 4 #[val k1 n1 s1 b1, val k2 n2 s2 b2] w fun e w' => e = .returned (.bool true) ∧ Below w.heap.size w w' := by
  go_enter Tryd.func4, Tryd.ntmps4
  go_wp2_with fail
  refine (rawValue_any k1 n1 s1 b1 _ hk1).mono ?_
  rintro e w1 ⟨⟨K1, N1, S1, B1, rfl, HR1, -, HS1⟩, hb⟩
  have Z1 : Hid (S1.size ≤ maxLen) := sizeOf3 HS1 hs1
  have Q1 : Hid (K1 = 0 ∨ K1 = 1 ∨ K1 = 2 ∨ K1 = 3) := HR1.kind
  have h1 : Below w.heap.size w w1 := (by repeat (first | exact Below.refl _ _ | assumption | refine Below.alloc ?_ (by first | (simp; done) | (simp; omega)) _ | refine Below.setCell ?_ (by first | (simp; done) | (simp; omega)) _ | refine Below.drew ?_ | refine below_drewN ?_ _ | refine Below.trans ?_ (hb.mono (by first | (simp; done) | (simp; omega)))))
  have y2 : Box w1 (w.heap.size + 1) k2 n2 s2 b2 := (Box.newAt k2 n2 s2 b2 _ (by simp)).keep hb
  clear hb HR1 HS1 hk1 hs1
  obtain ⟨e0, e1, e2, e3⟩ := y2
  have ltb : w.heap.size + 1 < w1.heap.size := World.block_lt_of_cell? w1 _ e0
  go_wp2_with fail
  refine (rawValue_any k2 n2 s2 b2 _ hk2).mono ?_
  rintro e w2 ⟨⟨K2, N2, S2, B2, rfl, HR2, -, HS2⟩, hb⟩
  have Z2 : Hid (S2.size ≤ maxLen) := sizeOf3 HS2 hs2
  have h2 : Below w.heap.size w w2 := keepA (below_alloc h1 _) hb
  have x1 : Box w2 w1.heap.size K1 N1 S1 B1 := (Box.new w1 K1 N1 S1 B1 _).keep hb
  clear hb HR2 HS2 hk2 hs2 h1 e0 e1 e2 e3 ltb
  obtain ⟨e0, e1, e2, e3⟩ := x1
  have lt1 : w1.heap.size < w2.heap.size := World.block_lt_of_cell? w2 _ e0
  have hc := (line_val (K1, N1, S1.data.toList, B1) (K2, N2, S2.data.toList, B2) (K1, N1, S1.data.toList, B1)).2.2.1
  have HX : Hid _ := six K1 K2 (ordV (K1, N1, S1.data.toList, B1) (K2, N2, S2.data.toList, B2)) hc
  clear hc
  go_wp2_with fail
  rcases HX.out with ⟨z1, X⟩ | ⟨⟨z1, z2⟩, X⟩ | ⟨⟨z1, z2⟩, X⟩ | ⟨⟨z1, z2⟩, X⟩ | ⟨⟨z1, z2⟩, X⟩ | ⟨⟨z1, z2⟩, X⟩
  all_goals
    clear HX
    refine (test_is ⟨#[60]⟩ [60] _ _ K1 N1 S1 B1 K2 N2 S2 B2 _ Q1.out Z1.out Z2.out rfl X.tlt X.slt).mono ?_
    rintro e w3 ⟨rfl, hb⟩
    have h3 : Below w.heap.size w w3 := keepA (below_alloc h2 _) hb
    have u1 : Box w3 w1.heap.size K1 N1 S1 B1 := ((Box.mk e0 e1 e2 e3).alloc _).keep hb
    have u2 : Box w3 w2.heap.size K2 N2 S2 B2 := (Box.new w2 K2 N2 S2 B2 _).keep hb
    clear hb h2 e0 e1 e2 e3 lt1
    obtain ⟨e0, e1, e2, e3⟩ := u1
    obtain ⟨f0, f1, f2, f3⟩ := u2
    go_wp2_with fail
    refine (test_is ⟨#[61]⟩ [61] _ _ K1 N1 S1 B1 K2 N2 S2 B2 _ Q1.out Z1.out Z2.out rfl X.teq X.seq).mono ?_
    rintro e w4 ⟨rfl, hb⟩
    have h4 : Below w.heap.size w w4 := keepA h3 hb
    have u1 : Box w4 w1.heap.size K1 N1 S1 B1 := (Box.mk e0 e1 e2 e3).keep hb
    have u2 : Box w4 w2.heap.size K2 N2 S2 B2 := (Box.mk f0 f1 f2 f3).keep hb
    clear hb h3 e0 e1 e2 e3 f0 f1 f2 f3
    obtain ⟨e0, e1, e2, e3⟩ := u1
    obtain ⟨f0, f1, f2, f3⟩ := u2
    go_wp2_with fail
    refine (test_is ⟨#[62]⟩ [62] _ _ K1 N1 S1 B1 K2 N2 S2 B2 _ Q1.out Z1.out Z2.out rfl X.tgt X.sgt).mono ?_
    rintro e w5 ⟨rfl, hb⟩
    have h5 : Below w.heap.size w w5 := keepA h4 hb
    have u1 : Box w5 w1.heap.size K1 N1 S1 B1 := (Box.mk e0 e1 e2 e3).keep hb
    have u2 : Box w5 w2.heap.size K2 N2 S2 B2 := (Box.mk f0 f1 f2 f3).keep hb
    clear hb h4 e0 e1 e2 e3 f0 f1 f2 f3
    obtain ⟨e0, e1, e2, e3⟩ := u1
    obtain ⟨f0, f1, f2, f3⟩ := u2
    go_wp2_with fail
    refine (test_is ⟨#[60, 62]⟩ [60, 62] _ _ K1 N1 S1 B1 K2 N2 S2 B2 _ Q1.out Z1.out Z2.out rfl X.tne X.sne).mono ?_
    rintro e w6 ⟨rfl, hb⟩
    have h6 : Below w.heap.size w w6 := keepA h5 hb
    have u1 : Box w6 w1.heap.size K1 N1 S1 B1 := (Box.mk e0 e1 e2 e3).keep hb
    have u2 : Box w6 w2.heap.size K2 N2 S2 B2 := (Box.mk f0 f1 f2 f3).keep hb
    clear hb h5 e0 e1 e2 e3 f0 f1 f2 f3
    obtain ⟨e0, e1, e2, e3⟩ := u1
    obtain ⟨f0, f1, f2, f3⟩ := u2
    go_wp2_with fail
    refine (test_is ⟨#[62, 61]⟩ [62, 61] _ _ K1 N1 S1 B1 K2 N2 S2 B2 _ Q1.out Z1.out Z2.out rfl X.tge X.sge).mono ?_
    rintro e w7 ⟨rfl, hb⟩
    have h7 : Below w.heap.size w w7 := keepA h6 hb
    have u1 : Box w7 w1.heap.size K1 N1 S1 B1 := (Box.mk e0 e1 e2 e3).keep hb
    have u2 : Box w7 w2.heap.size K2 N2 S2 B2 := (Box.mk f0 f1 f2 f3).keep hb
    clear hb h6 e0 e1 e2 e3 f0 f1 f2 f3
    obtain ⟨e0, e1, e2, e3⟩ := u1
    obtain ⟨f0, f1, f2, f3⟩ := u2
    go_wp2_with fail
    refine (test_is ⟨#[60, 61]⟩ [60, 61] _ _ K1 N1 S1 B1 K2 N2 S2 B2 _ Q1.out Z1.out Z2.out rfl X.tle X.sle).mono ?_
    rintro e w8 ⟨rfl, hb⟩
    have h8 : Below w.heap.size w w8 := keepA h7 hb
    have u1 : Box w8 w1.heap.size K1 N1 S1 B1 := (Box.mk e0 e1 e2 e3).keep hb
    have u2 : Box w8 w2.heap.size K2 N2 S2 B2 := (Box.mk f0 f1 f2 f3).keep hb
    clear hb h7 e0 e1 e2 e3 f0 f1 f2 f3
    obtain ⟨e0, e1, e2, e3⟩ := u1
    obtain ⟨f0, f1, f2, f3⟩ := u2
    clear X Q1 Z1 Z2
    have m0 : notI 0 = 2 := rfl
    have m1 : notI 1 = 1 := rfl
    have m2 : notI 2 = 0 := rfl
    go_wp2_with (first
      | (go_at_call 14; refine (not_any _ _).mono ?_; rintro e w' ⟨rfl, rfl⟩)
      | (go_at_call 10; refine (alive_any _).mono ?_; rintro e w' ⟨rfl, hb⟩; have hk := keepA (W0 := w) (by assumption) hb; clear hb))
  · go_ret
    exact ⟨rfl, by assumption⟩
  · go_ret
    exact ⟨rfl, by assumption⟩
  · go_ret
    exact ⟨rfl, by assumption⟩
  all_goals
    refine wp_loop_rounds 4 ?_
    rw [rounds_succ]
    go_wp2
    rw [rounds_succ]
    go_wp2
    rw [rounds_succ]
    go_wp2
    rw [rounds_succ]
    go_wp2_with (go_at_call 10; refine (alive_any _).mono ?_; rintro e w' ⟨rfl, hb⟩; have hk := keepA (W0 := w) (below_alloc (by assumption) _) hb; clear hb)
    go_ret
    exact ⟨rfl, by assumption⟩
end Go.Proofs.YticlmegcpneckabDoor

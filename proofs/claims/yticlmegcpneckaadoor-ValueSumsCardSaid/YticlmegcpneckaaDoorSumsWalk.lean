/- The walk of the law ValueSums: sums, products, quotients and joined texts are the document's. -/
import Derived.Test.YticlmegcpneckaaDoorRefNeg
import Derived.Test.YticlmegcpneckaaDoorRawValue
namespace Go.Proofs.YticlmegcpneckaaDoor
open Go.RowKit
set_option linter.unusedVariables false

abbrev In64 (x : Int) : Prop := -9223372036854775808 ≤ x ∧ x ≤ 9223372036854775807
theorem pairAdd (K1 N1 : Int) (S1 : ByteArray) (B1 : Bool) (K2 N2 : Int) (S2 : ByteArray) (B2 : Bool) (hx : In64 N1) (hy : In64 N2) :
    ∃ (k n : Int) (s st : ByteArray), (∀ w, Calls Tryd.prog 27 #[val K1 N1 S1 B1, val K2 N2 S2 B2] w fun e w' => e = .returned (.tuple #[val k n s false, .string st]) ∧ Below w.heap.size w w') ∧ (∀ w, Calls Tryd.prog 28 #[val K1 N1 S1 B1, val K2 N2 S2 B2] w fun e w' => e = .returned (.tuple #[val k n s false, .string st]) ∧ Below w.heap.size w w') :=
  ⟨_, _, _, _, fun w => add_any K1 N1 S1 B1 K2 N2 S2 B2 w hx hy, fun w => refAdd_any K1 N1 S1 B1 K2 N2 S2 B2 w hx hy⟩
theorem pairSub (K1 N1 : Int) (S1 : ByteArray) (B1 : Bool) (K2 N2 : Int) (S2 : ByteArray) (B2 : Bool) (hx : In64 N1) (hy : In64 N2) :
    ∃ (k n : Int) (s st : ByteArray), (∀ w, Calls Tryd.prog 29 #[val K1 N1 S1 B1, val K2 N2 S2 B2] w fun e w' => e = .returned (.tuple #[val k n s false, .string st]) ∧ Below w.heap.size w w') ∧ (∀ w, Calls Tryd.prog 30 #[val K1 N1 S1 B1, val K2 N2 S2 B2] w fun e w' => e = .returned (.tuple #[val k n s false, .string st]) ∧ Below w.heap.size w w') :=
  ⟨_, _, _, _, fun w => sub_any K1 N1 S1 B1 K2 N2 S2 B2 w hx hy, fun w => refSub_any K1 N1 S1 B1 K2 N2 S2 B2 w hx hy⟩
theorem pairMul (K1 N1 : Int) (S1 : ByteArray) (B1 : Bool) (K2 N2 : Int) (S2 : ByteArray) (B2 : Bool) (hx : In64 N1) (hy : In64 N2) :
    ∃ (k n : Int) (s st : ByteArray), (∀ w, Calls Tryd.prog 31 #[val K1 N1 S1 B1, val K2 N2 S2 B2] w fun e w' => e = .returned (.tuple #[val k n s false, .string st]) ∧ Below w.heap.size w w') ∧ (∀ w, Calls Tryd.prog 32 #[val K1 N1 S1 B1, val K2 N2 S2 B2] w fun e w' => e = .returned (.tuple #[val k n s false, .string st]) ∧ Below w.heap.size w w') :=
  ⟨_, _, _, _, fun w => mul_any K1 N1 S1 B1 K2 N2 S2 B2 w hx hy, fun w => refMul_any K1 N1 S1 B1 K2 N2 S2 B2 w hx hy⟩
theorem pairDiv (K1 N1 : Int) (S1 : ByteArray) (B1 : Bool) (K2 N2 : Int) (S2 : ByteArray) (B2 : Bool) (hx : In64 N1) (hy : In64 N2) :
    ∃ (k n : Int) (s st : ByteArray), (∀ w, Calls Tryd.prog 33 #[val K1 N1 S1 B1, val K2 N2 S2 B2] w fun e w' => e = .returned (.tuple #[val k n s false, .string st]) ∧ Below w.heap.size w w') ∧ (∀ w, Calls Tryd.prog 34 #[val K1 N1 S1 B1, val K2 N2 S2 B2] w fun e w' => e = .returned (.tuple #[val k n s false, .string st]) ∧ Below w.heap.size w w') :=
  ⟨_, _, _, _, fun w => div_any K1 N1 S1 B1 K2 N2 S2 B2 w hx hy, fun w => refDiv_any K1 N1 S1 B1 K2 N2 S2 B2 w hx hy⟩
theorem pairNeg (K1 N1 : Int) (S1 : ByteArray) (B1 : Bool) (hx : In64 N1) :
    ∃ (k n : Int) (s st : ByteArray), (∀ w, Calls Tryd.prog 35 #[val K1 N1 S1 B1] w fun e w' => e = .returned (.tuple #[val k n s false, .string st]) ∧ Below w.heap.size w w') ∧ (∀ w, Calls Tryd.prog 36 #[val K1 N1 S1 B1] w fun e w' => e = .returned (.tuple #[val k n s false, .string st]) ∧ Below w.heap.size w w') :=
  ⟨_, _, _, _, fun w => neg_any K1 N1 S1 B1 w hx, fun w => refNeg_any K1 N1 S1 B1 w hx⟩
theorem pairConcat (K1 N1 : Int) (S1 : ByteArray) (B1 : Bool) (K2 N2 : Int) (S2 : ByteArray) (B2 : Bool) (hs : S1.size + S2.size ≤ 9223372036854775807) :
    ∃ (k n : Int) (s st : ByteArray), (∀ w, Calls Tryd.prog 37 #[val K1 N1 S1 B1, val K2 N2 S2 B2] w fun e w' => e = .returned (.tuple #[val k n s false, .string st]) ∧ Below w.heap.size w w') ∧ (∀ w, Calls Tryd.prog 38 #[val K1 N1 S1 B1, val K2 N2 S2 B2] w fun e w' => e = .returned (.tuple #[val k n s false, .string st]) ∧ Below w.heap.size w w') :=
  ⟨_, _, _, _, fun w => concat_any K1 N1 S1 B1 K2 N2 S2 B2 w hs, fun w => refConcat_any K1 N1 S1 B1 K2 N2 S2 B2 w hs⟩
theorem in_of {N n : Int} (h : N = 0 ∨ N = n) (hn : In64 n) : In64 N := by
  rcases h with rfl | rfl
  · exact ⟨by omega, by omega⟩
  · exact hn
theorem small_of {S s : ByteArray} (h : S = ⟨#[]⟩ ∨ S = s) (hs : s.size ≤ 140737488355328) : S.size ≤ 140737488355328 := by
  rcases h with rfl | rfl
  · decide
  · exact hs

set_option maxRecDepth 100000 in
set_option maxHeartbeats 8000000 in
theorem sums_law (k1 n1 : Int) (s1 : ByteArray) (b1 : Bool) (k2 n2 : Int) (s2 : ByteArray) (b2 : Bool) (w : World)
    (hk1 : In64 k1) (hk2 : In64 k2) (hn1 : In64 n1) (hn2 : In64 n2) (hs1 : s1.size ≤ 140737488355328) (hs2 : s2.size ≤ 140737488355328) :
    Calls Tryd.prog 5 #[val k1 n1 s1 b1, val k2 n2 s2 b2] w fun e w' => e = .returned (.bool true) ∧ Below w.heap.size w w' := by
  go_enter Tryd.func5, Tryd.ntmps5
  go_wp2_with fail
  refine (rawValue_any k1 n1 s1 b1 _ hk1).mono ?_
  rintro e w1 ⟨⟨K1, N1, S1, B1, rfl, -, HN1, HS1⟩, hb⟩
  have Z1 : Hid (S1.size ≤ 140737488355328) := small_of HS1 hs1
  have I1 : Hid (In64 N1) := in_of HN1 hn1
  have h1 : Below w.heap.size w w1 := (by repeat (first | exact Below.refl _ _ | assumption | refine Below.alloc ?_ (by first | (simp; done) | (simp; omega)) _ | refine Below.setCell ?_ (by first | (simp; done) | (simp; omega)) _ | refine Below.drew ?_ | refine below_drewN ?_ _ | refine Below.trans ?_ (hb.mono (by first | (simp; done) | (simp; omega)))))
  have y2 : Box w1 (w.heap.size + 1) k2 n2 s2 b2 := (Box.newAt k2 n2 s2 b2 _ (by simp)).keep hb
  clear hb HN1 HS1 hk1 hs1 hn1
  obtain ⟨e0, e1, e2, e3⟩ := y2
  have ltb : w.heap.size + 1 < w1.heap.size := World.block_lt_of_cell? w1 _ e0
  go_wp2_with fail
  refine (rawValue_any k2 n2 s2 b2 _ hk2).mono ?_
  rintro e w2 ⟨⟨K2, N2, S2, B2, rfl, -, HN2, HS2⟩, hb⟩
  have Z2 : Hid (S2.size ≤ 140737488355328) := small_of HS2 hs2
  have I2 : Hid (In64 N2) := in_of HN2 hn2
  have h2 : Below w.heap.size w w2 := keepA (below_alloc h1 _) hb
  have x1 : Box w2 w1.heap.size K1 N1 S1 B1 := (Box.new w1 K1 N1 S1 B1 _).keep hb
  clear hb HN2 HS2 hk2 hs2 hn2 h1 e0 e1 e2 e3 ltb
  obtain ⟨e0, e1, e2, e3⟩ := x1
  have lt1 : w1.heap.size < w2.heap.size := World.block_lt_of_cell? w2 _ e0
  obtain ⟨kAdd, nAdd, sAdd, tAdd, P, Q⟩ := pairAdd K1 N1 S1 B1 K2 N2 S2 B2 I1.out I2.out
  have HP : Hid (∀ w, Calls Tryd.prog 27 #[val K1 N1 S1 B1, val K2 N2 S2 B2] w fun e w' => e = .returned (.tuple #[val kAdd nAdd sAdd false, .string tAdd]) ∧ Below w.heap.size w w') := P
  have HQ : Hid (∀ w, Calls Tryd.prog 28 #[val K1 N1 S1 B1, val K2 N2 S2 B2] w fun e w' => e = .returned (.tuple #[val kAdd nAdd sAdd false, .string tAdd]) ∧ Below w.heap.size w w') := Q
  clear P Q
  go_wp2_with fail
  refine (HP.out _).mono ?_
  rintro e w3 ⟨rfl, hb⟩
  have h3 : Below w.heap.size w w3 := keepA (below_alloc h2 _) hb
  have u1 : Box w3 w1.heap.size K1 N1 S1 B1 := ((Box.mk e0 e1 e2 e3).alloc _).keep hb
  have u2 : Box w3 w2.heap.size K2 N2 S2 B2 := (Box.new w2 K2 N2 S2 B2 _).keep hb
  clear hb h2 e0 e1 e2 e3 lt1
  obtain ⟨e0, e1, e2, e3⟩ := u1
  obtain ⟨f0, f1, f2, f3⟩ := u2
  have lt1 : w1.heap.size < w3.heap.size := World.block_lt_of_cell? w3 _ e0
  have lt2 : w2.heap.size < w3.heap.size := World.block_lt_of_cell? w3 _ f0
  go_wp2_with fail
  refine (HQ.out _).mono ?_
  rintro e w4 ⟨rfl, hb⟩
  have h4 : Below w.heap.size w w4 := keepA (below_alloc h3 _) hb
  have u1 : Box w4 w1.heap.size K1 N1 S1 B1 := ((Box.mk e0 e1 e2 e3).alloc _).keep hb
  have u2 : Box w4 w2.heap.size K2 N2 S2 B2 := ((Box.mk f0 f1 f2 f3).alloc _).keep hb
  have r3 : Box w4 w3.heap.size kAdd nAdd sAdd false := (Box.new w3 kAdd nAdd sAdd false _).keep hb
  clear hb h3 e0 e1 e2 e3 lt1 f0 f1 f2 f3 lt2
  obtain ⟨e0, e1, e2, e3⟩ := u1
  obtain ⟨f0, f1, f2, f3⟩ := u2
  have lt1 : w1.heap.size < w4.heap.size := World.block_lt_of_cell? w4 _ e0
  have lt2 : w2.heap.size < w4.heap.size := World.block_lt_of_cell? w4 _ f0
  clear HP HQ
  obtain ⟨kSub, nSub, sSub, tSub, P, Q⟩ := pairSub K1 N1 S1 B1 K2 N2 S2 B2 I1.out I2.out
  have HP : Hid (∀ w, Calls Tryd.prog 29 #[val K1 N1 S1 B1, val K2 N2 S2 B2] w fun e w' => e = .returned (.tuple #[val kSub nSub sSub false, .string tSub]) ∧ Below w.heap.size w w') := P
  have HQ : Hid (∀ w, Calls Tryd.prog 30 #[val K1 N1 S1 B1, val K2 N2 S2 B2] w fun e w' => e = .returned (.tuple #[val kSub nSub sSub false, .string tSub]) ∧ Below w.heap.size w w') := Q
  clear P Q
  go_wp2_with fail
  refine (HP.out _).mono ?_
  rintro e w5 ⟨rfl, hb⟩
  have h5 : Below w.heap.size w w5 := keepA (below_alloc h4 _) hb
  have u1 : Box w5 w1.heap.size K1 N1 S1 B1 := ((Box.mk e0 e1 e2 e3).alloc _).keep hb
  have u2 : Box w5 w2.heap.size K2 N2 S2 B2 := ((Box.mk f0 f1 f2 f3).alloc _).keep hb
  replace r3 := (r3.alloc _).keep hb
  have r4 : Box w5 w4.heap.size kAdd nAdd sAdd false := (Box.new w4 kAdd nAdd sAdd false _).keep hb
  clear hb h4 e0 e1 e2 e3 lt1 f0 f1 f2 f3 lt2
  obtain ⟨e0, e1, e2, e3⟩ := u1
  obtain ⟨f0, f1, f2, f3⟩ := u2
  have lt1 : w1.heap.size < w5.heap.size := World.block_lt_of_cell? w5 _ e0
  have lt2 : w2.heap.size < w5.heap.size := World.block_lt_of_cell? w5 _ f0
  go_wp2_with fail
  refine (HQ.out _).mono ?_
  rintro e w6 ⟨rfl, hb⟩
  have h6 : Below w.heap.size w w6 := keepA (below_alloc h5 _) hb
  have u1 : Box w6 w1.heap.size K1 N1 S1 B1 := ((Box.mk e0 e1 e2 e3).alloc _).keep hb
  have u2 : Box w6 w2.heap.size K2 N2 S2 B2 := ((Box.mk f0 f1 f2 f3).alloc _).keep hb
  replace r3 := (r3.alloc _).keep hb
  replace r4 := (r4.alloc _).keep hb
  have r5 : Box w6 w5.heap.size kSub nSub sSub false := (Box.new w5 kSub nSub sSub false _).keep hb
  clear hb h5 e0 e1 e2 e3 lt1 f0 f1 f2 f3 lt2
  obtain ⟨e0, e1, e2, e3⟩ := u1
  obtain ⟨f0, f1, f2, f3⟩ := u2
  have lt1 : w1.heap.size < w6.heap.size := World.block_lt_of_cell? w6 _ e0
  have lt2 : w2.heap.size < w6.heap.size := World.block_lt_of_cell? w6 _ f0
  clear HP HQ
  obtain ⟨kMul, nMul, sMul, tMul, P, Q⟩ := pairMul K1 N1 S1 B1 K2 N2 S2 B2 I1.out I2.out
  have HP : Hid (∀ w, Calls Tryd.prog 31 #[val K1 N1 S1 B1, val K2 N2 S2 B2] w fun e w' => e = .returned (.tuple #[val kMul nMul sMul false, .string tMul]) ∧ Below w.heap.size w w') := P
  have HQ : Hid (∀ w, Calls Tryd.prog 32 #[val K1 N1 S1 B1, val K2 N2 S2 B2] w fun e w' => e = .returned (.tuple #[val kMul nMul sMul false, .string tMul]) ∧ Below w.heap.size w w') := Q
  clear P Q
  go_wp2_with fail
  refine (HP.out _).mono ?_
  rintro e w7 ⟨rfl, hb⟩
  have h7 : Below w.heap.size w w7 := keepA (below_alloc h6 _) hb
  have u1 : Box w7 w1.heap.size K1 N1 S1 B1 := ((Box.mk e0 e1 e2 e3).alloc _).keep hb
  have u2 : Box w7 w2.heap.size K2 N2 S2 B2 := ((Box.mk f0 f1 f2 f3).alloc _).keep hb
  replace r3 := (r3.alloc _).keep hb
  replace r4 := (r4.alloc _).keep hb
  replace r5 := (r5.alloc _).keep hb
  have r6 : Box w7 w6.heap.size kSub nSub sSub false := (Box.new w6 kSub nSub sSub false _).keep hb
  clear hb h6 e0 e1 e2 e3 lt1 f0 f1 f2 f3 lt2
  obtain ⟨e0, e1, e2, e3⟩ := u1
  obtain ⟨f0, f1, f2, f3⟩ := u2
  have lt1 : w1.heap.size < w7.heap.size := World.block_lt_of_cell? w7 _ e0
  have lt2 : w2.heap.size < w7.heap.size := World.block_lt_of_cell? w7 _ f0
  go_wp2_with fail
  refine (HQ.out _).mono ?_
  rintro e w8 ⟨rfl, hb⟩
  have h8 : Below w.heap.size w w8 := keepA (below_alloc h7 _) hb
  have u1 : Box w8 w1.heap.size K1 N1 S1 B1 := ((Box.mk e0 e1 e2 e3).alloc _).keep hb
  have u2 : Box w8 w2.heap.size K2 N2 S2 B2 := ((Box.mk f0 f1 f2 f3).alloc _).keep hb
  replace r3 := (r3.alloc _).keep hb
  replace r4 := (r4.alloc _).keep hb
  replace r5 := (r5.alloc _).keep hb
  replace r6 := (r6.alloc _).keep hb
  have r7 : Box w8 w7.heap.size kMul nMul sMul false := (Box.new w7 kMul nMul sMul false _).keep hb
  clear hb h7 e0 e1 e2 e3 lt1 f0 f1 f2 f3 lt2
  obtain ⟨e0, e1, e2, e3⟩ := u1
  obtain ⟨f0, f1, f2, f3⟩ := u2
  have lt1 : w1.heap.size < w8.heap.size := World.block_lt_of_cell? w8 _ e0
  have lt2 : w2.heap.size < w8.heap.size := World.block_lt_of_cell? w8 _ f0
  clear HP HQ
  obtain ⟨kDiv, nDiv, sDiv, tDiv, P, Q⟩ := pairDiv K1 N1 S1 B1 K2 N2 S2 B2 I1.out I2.out
  have HP : Hid (∀ w, Calls Tryd.prog 33 #[val K1 N1 S1 B1, val K2 N2 S2 B2] w fun e w' => e = .returned (.tuple #[val kDiv nDiv sDiv false, .string tDiv]) ∧ Below w.heap.size w w') := P
  have HQ : Hid (∀ w, Calls Tryd.prog 34 #[val K1 N1 S1 B1, val K2 N2 S2 B2] w fun e w' => e = .returned (.tuple #[val kDiv nDiv sDiv false, .string tDiv]) ∧ Below w.heap.size w w') := Q
  clear P Q
  go_wp2_with fail
  refine (HP.out _).mono ?_
  rintro e w9 ⟨rfl, hb⟩
  have h9 : Below w.heap.size w w9 := keepA (below_alloc h8 _) hb
  have u1 : Box w9 w1.heap.size K1 N1 S1 B1 := ((Box.mk e0 e1 e2 e3).alloc _).keep hb
  have u2 : Box w9 w2.heap.size K2 N2 S2 B2 := ((Box.mk f0 f1 f2 f3).alloc _).keep hb
  replace r3 := (r3.alloc _).keep hb
  replace r4 := (r4.alloc _).keep hb
  replace r5 := (r5.alloc _).keep hb
  replace r6 := (r6.alloc _).keep hb
  replace r7 := (r7.alloc _).keep hb
  have r8 : Box w9 w8.heap.size kMul nMul sMul false := (Box.new w8 kMul nMul sMul false _).keep hb
  clear hb h8 e0 e1 e2 e3 lt1 f0 f1 f2 f3 lt2
  obtain ⟨e0, e1, e2, e3⟩ := u1
  obtain ⟨f0, f1, f2, f3⟩ := u2
  have lt1 : w1.heap.size < w9.heap.size := World.block_lt_of_cell? w9 _ e0
  have lt2 : w2.heap.size < w9.heap.size := World.block_lt_of_cell? w9 _ f0
  go_wp2_with fail
  refine (HQ.out _).mono ?_
  rintro e w10 ⟨rfl, hb⟩
  have h10 : Below w.heap.size w w10 := keepA (below_alloc h9 _) hb
  have u1 : Box w10 w1.heap.size K1 N1 S1 B1 := ((Box.mk e0 e1 e2 e3).alloc _).keep hb
  have u2 : Box w10 w2.heap.size K2 N2 S2 B2 := ((Box.mk f0 f1 f2 f3).alloc _).keep hb
  replace r3 := (r3.alloc _).keep hb
  replace r4 := (r4.alloc _).keep hb
  replace r5 := (r5.alloc _).keep hb
  replace r6 := (r6.alloc _).keep hb
  replace r7 := (r7.alloc _).keep hb
  replace r8 := (r8.alloc _).keep hb
  have r9 : Box w10 w9.heap.size kDiv nDiv sDiv false := (Box.new w9 kDiv nDiv sDiv false _).keep hb
  clear hb h9 e0 e1 e2 e3 lt1 f0 f1 f2 f3 lt2
  obtain ⟨e0, e1, e2, e3⟩ := u1
  obtain ⟨f0, f1, f2, f3⟩ := u2
  have lt1 : w1.heap.size < w10.heap.size := World.block_lt_of_cell? w10 _ e0
  have lt2 : w2.heap.size < w10.heap.size := World.block_lt_of_cell? w10 _ f0
  clear HP HQ
  obtain ⟨kNeg, nNeg, sNeg, tNeg, P, Q⟩ := pairNeg K1 N1 S1 B1 I1.out
  have HP : Hid (∀ w, Calls Tryd.prog 35 #[val K1 N1 S1 B1] w fun e w' => e = .returned (.tuple #[val kNeg nNeg sNeg false, .string tNeg]) ∧ Below w.heap.size w w') := P
  have HQ : Hid (∀ w, Calls Tryd.prog 36 #[val K1 N1 S1 B1] w fun e w' => e = .returned (.tuple #[val kNeg nNeg sNeg false, .string tNeg]) ∧ Below w.heap.size w w') := Q
  clear P Q
  go_wp2_with fail
  refine (HP.out _).mono ?_
  rintro e w11 ⟨rfl, hb⟩
  have h11 : Below w.heap.size w w11 := keepA (below_alloc h10 _) hb
  have u1 : Box w11 w1.heap.size K1 N1 S1 B1 := ((Box.mk e0 e1 e2 e3).alloc _).keep hb
  have u2 : Box w11 w2.heap.size K2 N2 S2 B2 := ((Box.mk f0 f1 f2 f3).alloc _).keep hb
  replace r3 := (r3.alloc _).keep hb
  replace r4 := (r4.alloc _).keep hb
  replace r5 := (r5.alloc _).keep hb
  replace r6 := (r6.alloc _).keep hb
  replace r7 := (r7.alloc _).keep hb
  replace r8 := (r8.alloc _).keep hb
  replace r9 := (r9.alloc _).keep hb
  have r10 : Box w11 w10.heap.size kDiv nDiv sDiv false := (Box.new w10 kDiv nDiv sDiv false _).keep hb
  clear hb h10 e0 e1 e2 e3 lt1 f0 f1 f2 f3 lt2
  obtain ⟨e0, e1, e2, e3⟩ := u1
  obtain ⟨f0, f1, f2, f3⟩ := u2
  have lt1 : w1.heap.size < w11.heap.size := World.block_lt_of_cell? w11 _ e0
  have lt2 : w2.heap.size < w11.heap.size := World.block_lt_of_cell? w11 _ f0
  go_wp2_with fail
  refine (HQ.out _).mono ?_
  rintro e w12 ⟨rfl, hb⟩
  have h12 : Below w.heap.size w w12 := keepA (below_alloc h11 _) hb
  have u1 : Box w12 w1.heap.size K1 N1 S1 B1 := ((Box.mk e0 e1 e2 e3).alloc _).keep hb
  have u2 : Box w12 w2.heap.size K2 N2 S2 B2 := ((Box.mk f0 f1 f2 f3).alloc _).keep hb
  replace r3 := (r3.alloc _).keep hb
  replace r4 := (r4.alloc _).keep hb
  replace r5 := (r5.alloc _).keep hb
  replace r6 := (r6.alloc _).keep hb
  replace r7 := (r7.alloc _).keep hb
  replace r8 := (r8.alloc _).keep hb
  replace r9 := (r9.alloc _).keep hb
  replace r10 := (r10.alloc _).keep hb
  have r11 : Box w12 w11.heap.size kNeg nNeg sNeg false := (Box.new w11 kNeg nNeg sNeg false _).keep hb
  clear hb h11 e0 e1 e2 e3 lt1 f0 f1 f2 f3 lt2
  obtain ⟨e0, e1, e2, e3⟩ := u1
  obtain ⟨f0, f1, f2, f3⟩ := u2
  have lt1 : w1.heap.size < w12.heap.size := World.block_lt_of_cell? w12 _ e0
  have lt2 : w2.heap.size < w12.heap.size := World.block_lt_of_cell? w12 _ f0
  clear HP HQ
  obtain ⟨kConcat, nConcat, sConcat, tConcat, P, Q⟩ := pairConcat K1 N1 S1 B1 K2 N2 S2 B2 (by have := Z1.out; have := Z2.out; omega)
  have HP : Hid (∀ w, Calls Tryd.prog 37 #[val K1 N1 S1 B1, val K2 N2 S2 B2] w fun e w' => e = .returned (.tuple #[val kConcat nConcat sConcat false, .string tConcat]) ∧ Below w.heap.size w w') := P
  have HQ : Hid (∀ w, Calls Tryd.prog 38 #[val K1 N1 S1 B1, val K2 N2 S2 B2] w fun e w' => e = .returned (.tuple #[val kConcat nConcat sConcat false, .string tConcat]) ∧ Below w.heap.size w w') := Q
  clear P Q
  go_wp2_with fail
  refine (HP.out _).mono ?_
  rintro e w13 ⟨rfl, hb⟩
  have h13 : Below w.heap.size w w13 := keepA (below_alloc h12 _) hb
  have u1 : Box w13 w1.heap.size K1 N1 S1 B1 := ((Box.mk e0 e1 e2 e3).alloc _).keep hb
  have u2 : Box w13 w2.heap.size K2 N2 S2 B2 := ((Box.mk f0 f1 f2 f3).alloc _).keep hb
  replace r3 := (r3.alloc _).keep hb
  replace r4 := (r4.alloc _).keep hb
  replace r5 := (r5.alloc _).keep hb
  replace r6 := (r6.alloc _).keep hb
  replace r7 := (r7.alloc _).keep hb
  replace r8 := (r8.alloc _).keep hb
  replace r9 := (r9.alloc _).keep hb
  replace r10 := (r10.alloc _).keep hb
  replace r11 := (r11.alloc _).keep hb
  have r12 : Box w13 w12.heap.size kNeg nNeg sNeg false := (Box.new w12 kNeg nNeg sNeg false _).keep hb
  clear hb h12 e0 e1 e2 e3 lt1 f0 f1 f2 f3 lt2
  obtain ⟨e0, e1, e2, e3⟩ := u1
  obtain ⟨f0, f1, f2, f3⟩ := u2
  have lt1 : w1.heap.size < w13.heap.size := World.block_lt_of_cell? w13 _ e0
  have lt2 : w2.heap.size < w13.heap.size := World.block_lt_of_cell? w13 _ f0
  go_wp2_with fail
  refine (HQ.out _).mono ?_
  rintro e w14 ⟨rfl, hb⟩
  have h14 : Below w.heap.size w w14 := keepA (below_alloc h13 _) hb
  have u1 : Box w14 w1.heap.size K1 N1 S1 B1 := ((Box.mk e0 e1 e2 e3).alloc _).keep hb
  have u2 : Box w14 w2.heap.size K2 N2 S2 B2 := ((Box.mk f0 f1 f2 f3).alloc _).keep hb
  replace r3 := (r3.alloc _).keep hb
  replace r4 := (r4.alloc _).keep hb
  replace r5 := (r5.alloc _).keep hb
  replace r6 := (r6.alloc _).keep hb
  replace r7 := (r7.alloc _).keep hb
  replace r8 := (r8.alloc _).keep hb
  replace r9 := (r9.alloc _).keep hb
  replace r10 := (r10.alloc _).keep hb
  replace r11 := (r11.alloc _).keep hb
  replace r12 := (r12.alloc _).keep hb
  have r13 : Box w14 w13.heap.size kConcat nConcat sConcat false := (Box.new w13 kConcat nConcat sConcat false _).keep hb
  clear hb h13 e0 e1 e2 e3 lt1 f0 f1 f2 f3 lt2
  obtain ⟨e0, e1, e2, e3⟩ := u1
  obtain ⟨f0, f1, f2, f3⟩ := u2
  have lt1 : w1.heap.size < w14.heap.size := World.block_lt_of_cell? w14 _ e0
  have lt2 : w2.heap.size < w14.heap.size := World.block_lt_of_cell? w14 _ f0
  clear HP HQ
  clear e0 e1 e2 e3 f0 f1 f2 f3 lt1 lt2
  have l3 := r3.lt
  obtain ⟨p3, q3, v3, x3⟩ := r3
  have l4 := r4.lt
  obtain ⟨p4, q4, v4, x4⟩ := r4
  have l5 := r5.lt
  obtain ⟨p5, q5, v5, x5⟩ := r5
  have l6 := r6.lt
  obtain ⟨p6, q6, v6, x6⟩ := r6
  have l7 := r7.lt
  obtain ⟨p7, q7, v7, x7⟩ := r7
  have l8 := r8.lt
  obtain ⟨p8, q8, v8, x8⟩ := r8
  have l9 := r9.lt
  obtain ⟨p9, q9, v9, x9⟩ := r9
  have l10 := r10.lt
  obtain ⟨p10, q10, v10, x10⟩ := r10
  have l11 := r11.lt
  obtain ⟨p11, q11, v11, x11⟩ := r11
  have l12 := r12.lt
  obtain ⟨p12, q12, v12, x12⟩ := r12
  have l13 := r13.lt
  obtain ⟨p13, q13, v13, x13⟩ := r13
  go_wp2_with (go_at_call 12; refine (alive_any _).mono ?_; rintro e w' ⟨rfl, hb⟩; have hk := keepA (W0 := w) (below_alloc (by assumption) _) hb; clear hb)
  go_ret
  exact ⟨rfl, by assumption⟩
end Go.Proofs.YticlmegcpneckaaDoor

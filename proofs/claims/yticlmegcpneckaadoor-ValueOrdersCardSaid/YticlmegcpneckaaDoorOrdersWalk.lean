/- The walk of the law ValueOrders: which values are right, how they stand and what a comparison comes to is the document's. -/
import Derived.Test.YticlmegcpneckaaDoorRefTest
import Derived.Test.YticlmegcpneckaaDoorRights
import Derived.Deep.RegionHeld3
namespace Go.Proofs.YticlmegcpneckaaDoor
open Go.RowKit
set_option linter.unusedVariables false

theorem RightV.right {K N : Int} {S : ByteArray} {B : Bool} (h : RightV K N S B) : rightB K N S.toList B = true := by
  have e : (⟨#[]⟩ : ByteArray).toList = [] := by rw [Lib.toList_data]
  rcases h with ⟨rfl, rfl, rfl, rfl⟩ | ⟨rfl, rfl, rfl⟩ | ⟨rfl, rfl, rfl⟩ | ⟨rfl, rfl, rfl⟩ <;> simp [rightB, e]
theorem sizeOf {S s : ByteArray} (h : S = ⟨#[]⟩ ∨ S = s) (hs : s.size ≤ maxLen) : S.size ≤ maxLen := by
  rcases h with rfl | rfl
  · decide
  · exact hs
def cellsAre (w : World) (b : Nat) (K N : Int) (S : ByteArray) (B : Bool) : Prop := Box w b K N S B
theorem keepF {P : Prop} {W0 W w' : World} (h : Below W0.heap.size W0 W ∧ P) (hb : Below W.heap.size W w') : Below W0.heap.size W0 w' := keepA h.1 hb
theorem keepO {w5 w' : World} {p1 p2 p3 : Nat} {K1 N1 K2 N2 K3 N3 : Int} {S1 S2 S3 : ByteArray} {B1 B2 B3 : Bool} (x : Box w5 p1 K1 N1 S1 B1) (y : Box w5 p2 K2 N2 S2 B2) (z : Box w5 p3 K3 N3 S3 B3) (h : Below w5.heap.size w5 w') :
    Below w5.heap.size w5 w' ∧ w'.cell? ⟨p1, 0, none⟩ = some (.int .i64 K1) ∧ w'.cell? ⟨p1, 1, none⟩ = some (.int .i64 N1) ∧ w'.cell? ⟨p1, 2, none⟩ = some (.string S1) ∧ w'.cell? ⟨p1, 3, none⟩ = some (.bool B1) ∧
    w'.cell? ⟨p2, 0, none⟩ = some (.int .i64 K2) ∧ w'.cell? ⟨p2, 1, none⟩ = some (.int .i64 N2) ∧ w'.cell? ⟨p2, 2, none⟩ = some (.string S2) ∧ w'.cell? ⟨p2, 3, none⟩ = some (.bool B2) ∧
    w'.cell? ⟨p3, 0, none⟩ = some (.int .i64 K3) ∧ w'.cell? ⟨p3, 1, none⟩ = some (.int .i64 N3) ∧ w'.cell? ⟨p3, 2, none⟩ = some (.string S3) ∧ w'.cell? ⟨p3, 3, none⟩ = some (.bool B3) := by
  have x' := x.keep h
  have y' := y.keep h
  have z' := z.keep h
  exact ⟨h, x'.c0, x'.c1, x'.c2, x'.c3, y'.c0, y'.c1, y'.c2, y'.c3, z'.c0, z'.c1, z'.c2, z'.c3⟩

set_option maxHeartbeats 2000000 in
theorem orders_law (k1 n1 : Int) (s1 : ByteArray) (b1 : Bool) (k2 n2 : Int) (s2 : ByteArray) (b2 : Bool) (op : ByteArray) (w : World)
    (hk1 : -9223372036854775808 ≤ k1 ∧ k1 ≤ 9223372036854775807) (hk2 : -9223372036854775808 ≤ k2 ∧ k2 ≤ 9223372036854775807)
    (hs1 : s1.size ≤ maxLen) (hs2 : s2.size ≤ maxLen) :
    Calls Tryd.prog 3 #[val k1 n1 s1 b1, val k2 n2 s2 b2, .string op] w fun e w' => e = .returned (.bool true) ∧ Below w.heap.size w w' := by
  go_enter Tryd.func3, Tryd.ntmps3
  go_wp2_with fail
  refine (rawValue_any k1 n1 s1 b1 _ hk1).mono ?_
  rintro e w1 ⟨⟨K1, N1, S1, B1, rfl, HR1, -, HS1⟩, hb⟩
  have Z1 : Hid (S1.size ≤ maxLen) := sizeOf HS1 hs1
  have Q1 : Hid (K1 = 0 ∨ K1 = 1 ∨ K1 = 2 ∨ K1 = 3) := HR1.kind
  have R1 : Hid (rightB K1 N1 S1.toList B1 = true) := HR1.right
  have h1 : Below w.heap.size w w1 := (by repeat (first | exact Below.refl _ _ | assumption | refine Below.alloc ?_ (by first | (simp; done) | (simp; omega)) _ | refine Below.setCell ?_ (by first | (simp; done) | (simp; omega)) _ | refine Below.drew ?_ | refine below_drewN ?_ _ | refine Below.trans ?_ (hb.mono (by first | (simp; done) | (simp; omega)))))
  have y1 : Box w1 w.heap.size k1 n1 s1 b1 := ((Box.new w k1 n1 s1 b1 _).alloc _).keep hb
  have y2 : Box w1 (w.heap.size + 1) k2 n2 s2 b2 := (Box.newAt k2 n2 s2 b2 _ (by simp)).keep hb
  clear hb HR1 HS1 hk1 hs1
  obtain ⟨e0, e1, e2, e3⟩ := y2
  have ltb : w.heap.size + 1 < w1.heap.size := World.block_lt_of_cell? w1 _ e0
  go_wp2_with fail
  refine (rawValue_any k2 n2 s2 b2 _ hk2).mono ?_
  rintro e w2 ⟨⟨K2, N2, S2, B2, rfl, HR2, -, HS2⟩, hb⟩
  have Z2 : Hid (S2.size ≤ maxLen) := sizeOf HS2 hs2
  have h2 : Below w.heap.size w w2 := keepA (below_alloc h1 _) hb
  have x1 : Box w2 w1.heap.size K1 N1 S1 B1 := (Box.new w1 K1 N1 S1 B1 _).keep hb
  have z1 : Box w2 w.heap.size k1 n1 s1 b1 := (y1.alloc _).keep hb
  clear hb HR2 HS2 hk2 hs2 y1 h1 e0 e1 e2 e3 ltb
  obtain ⟨e0, e1, e2, e3⟩ := x1
  obtain ⟨f0, f1, f2, f3⟩ := z1
  have lt1 : w1.heap.size < w2.heap.size := World.block_lt_of_cell? w2 _ e0
  have lt2 : w.heap.size < w2.heap.size := World.block_lt_of_cell? w2 _ f0
  go_wp2_with fail
  refine (test_any op K1 N1 S1 B1 K2 N2 S2 B2 _ Q1.out Z1.out Z2.out).mono ?_
  rintro e w3 ⟨rfl, hb⟩
  have h3 : Below w.heap.size w w3 := keepA (below_alloc (below_alloc h2 _) _) hb
  have u1 : Box w3 w1.heap.size K1 N1 S1 B1 := (((Box.mk e0 e1 e2 e3).alloc _).alloc _).keep hb
  have u2 : Box w3 w2.heap.size K2 N2 S2 B2 := ((Box.new w2 K2 N2 S2 B2 _).alloc _).keep hb
  have u3 : Box w3 (w2.heap.size + 1) k1 n1 s1 b1 := (Box.newAt k1 n1 s1 b1 _ (by simp)).keep hb
  clear hb h2 e0 e1 e2 e3 f0 f1 f2 f3 lt1 lt2
  obtain ⟨e0, e1, e2, e3⟩ := u1
  obtain ⟨f0, f1, f2, f3⟩ := u2
  go_wp2_with fail
  refine (refTest_any op K1 N1 S1 B1 K2 N2 S2 B2 _ Q1.out Z1.out Z2.out).mono ?_
  rintro e w5 ⟨rfl, hb⟩
  have h5 : Below w.heap.size w w5 := keepA h3 hb
  have v1 : Box w5 w1.heap.size K1 N1 S1 B1 := (Box.mk e0 e1 e2 e3).keep hb
  have v2 : Box w5 w2.heap.size K2 N2 S2 B2 := (Box.mk f0 f1 f2 f3).keep hb
  have v3 : Box w5 (w2.heap.size + 1) k1 n1 s1 b1 := u3.keep hb
  clear hb h3 e0 e1 e2 e3 f0 f1 f2 f3 u3
  have r1 := R1.out
  go_wp2_with fail
  go_region_held3 (fun w' => Below w5.heap.size w5 w' ∧ w'.cell? ⟨w1.heap.size, 0, none⟩ = some (.int .i64 K1) ∧ w'.cell? ⟨w1.heap.size, 1, none⟩ = some (.int .i64 N1) ∧ w'.cell? ⟨w1.heap.size, 2, none⟩ = some (.string S1) ∧ w'.cell? ⟨w1.heap.size, 3, none⟩ = some (.bool B1) ∧
    w'.cell? ⟨w2.heap.size, 0, none⟩ = some (.int .i64 K2) ∧ w'.cell? ⟨w2.heap.size, 1, none⟩ = some (.int .i64 N2) ∧ w'.cell? ⟨w2.heap.size, 2, none⟩ = some (.string S2) ∧ w'.cell? ⟨w2.heap.size, 3, none⟩ = some (.bool B2) ∧
    w'.cell? ⟨w2.heap.size + 1, 0, none⟩ = some (.int .i64 k1) ∧ w'.cell? ⟨w2.heap.size + 1, 1, none⟩ = some (.int .i64 n1) ∧ w'.cell? ⟨w2.heap.size + 1, 2, none⟩ = some (.string s1) ∧ w'.cell? ⟨w2.heap.size + 1, 3, none⟩ = some (.bool b1)) (first | exact keepO v1 v2 v3 (by assumption) | exact keepO v1 v2 v3 (Below.refl _ _).drew | exact keepO v1 v2 v3 (Below.refl _ _))
    (first
      | (go_at_call 12; refine (alive_any _).mono ?_; rintro e w' ⟨rfl, hb⟩; have hk := keepF (by assumption) hb; clear hb)
      | (go_at_call 13; refine (right_any _ _ _ _ _).mono ?_; rintro e w' ⟨rfl, hb⟩; have hk := keepF (by assumption) hb; clear hb)
      | (go_at_call 14; refine (refRight_any _ _ _ _ _).mono ?_; rintro e w' ⟨rfl, hb⟩; have hk := keepF (by assumption) hb; clear hb)
      | (go_at_call 15; refine (order_any K1 N1 S1 B1 K2 N2 S2 B2 _ Q1.out Z1.out Z2.out).mono ?_; rintro e w' ⟨rfl, hb⟩; have hk := keepF (by assumption) hb; clear hb)
      | (go_at_call 16; refine (refOrder_any K1 N1 S1 B1 K2 N2 S2 B2 _ Q1.out Z1.out Z2.out).mono ?_; rintro e w' ⟨rfl, hb⟩; have hk := keepF (by assumption) hb; clear hb))
  all_goals go_wp2
  all_goals
    go_ret
    exact ⟨rfl, keepA h5 (by assumption)⟩
end Go.Proofs.YticlmegcpneckaaDoor

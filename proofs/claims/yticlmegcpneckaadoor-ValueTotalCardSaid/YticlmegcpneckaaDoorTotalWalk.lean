/- The walk of the law ValueTotal: values stand in one line. -/
import Derived.Test.YticlmegcpneckaaDoorOrderAny
import Derived.Test.YticlmegcpneckaaDoorBoxes
namespace Go.Proofs.YticlmegcpneckaaDoor
open Go.RowKit
set_option linter.unusedVariables false

theorem size_of {S s : ByteArray} (h : S = ⟨#[]⟩ ∨ S = s) (hs : s.size ≤ maxLen) : S.size ≤ maxLen := by
  rcases h with rfl | rfl
  · decide
  · exact hs

set_option maxHeartbeats 2000000 in
theorem total_law (k1 n1 : Int) (s1 : ByteArray) (b1 : Bool) (k2 n2 : Int) (s2 : ByteArray) (b2 : Bool) (k3 n3 : Int) (s3 : ByteArray) (b3 : Bool) (w : World)
    (hk1 : -9223372036854775808 ≤ k1 ∧ k1 ≤ 9223372036854775807) (hk2 : -9223372036854775808 ≤ k2 ∧ k2 ≤ 9223372036854775807) (hk3 : -9223372036854775808 ≤ k3 ∧ k3 ≤ 9223372036854775807)
    (hs1 : s1.size ≤ maxLen) (hs2 : s2.size ≤ maxLen) (hs3 : s3.size ≤ maxLen) :
    Calls Tryd.prog 7 #[val k1 n1 s1 b1, val k2 n2 s2 b2, val k3 n3 s3 b3] w fun e w' => e = .returned (.bool true) ∧ Below w.heap.size w w' := by
  go_enter Tryd.func7, Tryd.ntmps7
  go_wp2_with fail
  refine (rawValue_any k1 n1 s1 b1 _ hk1).mono ?_
  rintro e w1 ⟨⟨K1, N1, S1, B1, rfl, HR1, -, HS1⟩, hb⟩
  have Z1 : Hid (S1.size ≤ maxLen) := size_of HS1 hs1
  have Q1 : Hid (K1 = 0 ∨ K1 = 1 ∨ K1 = 2 ∨ K1 = 3) := HR1.kind
  have h1 : Below w.heap.size w w1 := (by repeat (first | exact Below.refl _ _ | assumption | refine Below.alloc ?_ (by first | (simp; done) | (simp; omega)) _ | refine Below.setCell ?_ (by first | (simp; done) | (simp; omega)) _ | refine Below.drew ?_ | refine below_drewN ?_ _ | refine Below.trans ?_ (hb.mono (by first | (simp; done) | (simp; omega)))))
  have y2 : Box w1 (w.heap.size + 1) k2 n2 s2 b2 := ((Box.newAt k2 n2 s2 b2 _ (by simp)).alloc _).keep hb
  have y3 : Box w1 (w.heap.size + 1 + 1) k3 n3 s3 b3 := (Box.newAt k3 n3 s3 b3 _ (by simp)).keep hb
  clear hb HR1 HS1 hk1 hs1
  obtain ⟨e0, e1, e2, e3⟩ := y2
  have ltb : w.heap.size + 1 < w1.heap.size := World.block_lt_of_cell? w1 _ e0
  go_wp2_with fail
  refine (rawValue_any k2 n2 s2 b2 _ hk2).mono ?_
  rintro e w2 ⟨⟨K2, N2, S2, B2, rfl, HR2, -, HS2⟩, hb⟩
  have Z2 : Hid (S2.size ≤ maxLen) := size_of HS2 hs2
  have Q2 : Hid (K2 = 0 ∨ K2 = 1 ∨ K2 = 2 ∨ K2 = 3) := HR2.kind
  have h2 : Below w.heap.size w w2 := keepA (below_alloc h1 _) hb
  have x1 : Box w2 w1.heap.size K1 N1 S1 B1 := (Box.new w1 K1 N1 S1 B1 _).keep hb
  have z3 : Box w2 (w.heap.size + 1 + 1) k3 n3 s3 b3 := (y3.alloc _).keep hb
  clear hb HR2 HS2 hk2 hs2 y3 h1 e0 e1 e2 e3 ltb
  obtain ⟨e0, e1, e2, e3⟩ := z3
  have ltb : w.heap.size + 1 + 1 < w2.heap.size := World.block_lt_of_cell? w2 _ e0
  go_wp2_with fail
  refine (rawValue_any k3 n3 s3 b3 _ hk3).mono ?_
  rintro e w3 ⟨⟨K3, N3, S3, B3, rfl, HR3, -, HS3⟩, hb⟩
  have Z3 : Hid (S3.size ≤ maxLen) := size_of HS3 hs3
  have h3 : Below w.heap.size w w3 := keepA (below_alloc h2 _) hb
  have u1 : Box w3 w1.heap.size K1 N1 S1 B1 := (x1.alloc _).keep hb
  have u2 : Box w3 w2.heap.size K2 N2 S2 B2 := (Box.new w2 K2 N2 S2 B2 _).keep hb
  clear hb HR3 HS3 hk3 hs3 h2 e0 e1 e2 e3 ltb x1
  obtain ⟨e0, e1, e2, e3⟩ := u1
  obtain ⟨f0, f1, f2, f3⟩ := u2
  have lt1 : w1.heap.size < w3.heap.size := World.block_lt_of_cell? w3 _ e0
  have lt2 : w2.heap.size < w3.heap.size := World.block_lt_of_cell? w3 _ f0
  go_wp2_with fail
  refine (order_any K1 N1 S1 B1 K2 N2 S2 B2 _ Q1.out Z1.out Z2.out).mono ?_
  rintro e w4 ⟨rfl, hb⟩
  have h4 : Below w.heap.size w w4 := keepA (below_alloc h3 _) hb
  have u1 : Box w4 w1.heap.size K1 N1 S1 B1 := ((Box.mk e0 e1 e2 e3).alloc _).keep hb
  have u2 : Box w4 w2.heap.size K2 N2 S2 B2 := ((Box.mk f0 f1 f2 f3).alloc _).keep hb
  have u3 : Box w4 w3.heap.size K3 N3 S3 B3 := (Box.new w3 K3 N3 S3 B3 _).keep hb
  clear hb h3 e0 e1 e2 e3 f0 f1 f2 f3 lt1 lt2
  obtain ⟨e0, e1, e2, e3⟩ := u1
  obtain ⟨f0, f1, f2, f3⟩ := u2
  obtain ⟨g0, g1, g2, g3⟩ := u3
  obtain ⟨a1, a2, ⟨a3, a4⟩, a5, a6, a7⟩ := line_val (K1, N1, S1.data.toList, B1) (K2, N2, S2.data.toList, B2) (K3, N3, S3.data.toList, B3)
  obtain ⟨-, -, ⟨a8, a9⟩, -, -, -⟩ := line_val (K2, N2, S2.data.toList, B2) (K3, N3, S3.data.toList, B3) (K3, N3, S3.data.toList, B3)
  obtain ⟨-, -, ⟨a10, a11⟩, -, -, -⟩ := line_val (K1, N1, S1.data.toList, B1) (K3, N3, S3.data.toList, B3) (K3, N3, S3.data.toList, B3)
  have L : Hid (ordV (K1, N1, S1.data.toList, B1) (K1, N1, S1.data.toList, B1) = 0 ∧ ordV (K1, N1, S1.data.toList, B1) (K2, N2, S2.data.toList, B2) = -ordV (K2, N2, S2.data.toList, B2) (K1, N1, S1.data.toList, B1) ∧ (ordV (K1, N1, S1.data.toList, B1) (K2, N2, S2.data.toList, B2) = -1 ∨ ordV (K1, N1, S1.data.toList, B1) (K2, N2, S2.data.toList, B2) = 0 ∨ ordV (K1, N1, S1.data.toList, B1) (K2, N2, S2.data.toList, B2) = 1) ∧ (ordV (K2, N2, S2.data.toList, B2) (K3, N3, S3.data.toList, B3) = -1 ∨ ordV (K2, N2, S2.data.toList, B2) (K3, N3, S3.data.toList, B3) = 0 ∨ ordV (K2, N2, S2.data.toList, B2) (K3, N3, S3.data.toList, B3) = 1) ∧ (ordV (K1, N1, S1.data.toList, B1) (K3, N3, S3.data.toList, B3) = -1 ∨ ordV (K1, N1, S1.data.toList, B1) (K3, N3, S3.data.toList, B3) = 0 ∨ ordV (K1, N1, S1.data.toList, B1) (K3, N3, S3.data.toList, B3) = 1) ∧
      (ordV (K1, N1, S1.data.toList, B1) (K2, N2, S2.data.toList, B2) ≤ 0 → ordV (K2, N2, S2.data.toList, B2) (K3, N3, S3.data.toList, B3) ≤ 0 → ordV (K1, N1, S1.data.toList, B1) (K3, N3, S3.data.toList, B3) ≤ 0) ∧ (ordV (K1, N1, S1.data.toList, B1) (K2, N2, S2.data.toList, B2) < 0 → ordV (K2, N2, S2.data.toList, B2) (K3, N3, S3.data.toList, B3) ≤ 0 → ordV (K1, N1, S1.data.toList, B1) (K3, N3, S3.data.toList, B3) < 0) ∧ (ordV (K1, N1, S1.data.toList, B1) (K2, N2, S2.data.toList, B2) = 0 → ordV (K1, N1, S1.data.toList, B1) (K3, N3, S3.data.toList, B3) = ordV (K2, N2, S2.data.toList, B2) (K3, N3, S3.data.toList, B3))) := ⟨a1, a2, by omega, by omega, by omega, a5, a6, a7⟩
  clear a1 a2 a3 a4 a5 a6 a7 a8 a9 a10 a11
  generalize ordV (K1, N1, S1.data.toList, B1) (K2, N2, S2.data.toList, B2) = xy at *
  go_wp2_with fail
  refine (order_any K2 N2 S2 B2 K3 N3 S3 B3 _ Q2.out Z2.out Z3.out).mono ?_
  rintro e w5 ⟨rfl, hb⟩
  have h5 : Below w.heap.size w w5 := keepA h4 hb
  have u1 : Box w5 w1.heap.size K1 N1 S1 B1 := (Box.mk e0 e1 e2 e3).keep hb
  have u2 : Box w5 w2.heap.size K2 N2 S2 B2 := (Box.mk f0 f1 f2 f3).keep hb
  have u3 : Box w5 w3.heap.size K3 N3 S3 B3 := (Box.mk g0 g1 g2 g3).keep hb
  clear hb h4 e0 e1 e2 e3 f0 f1 f2 f3 g0 g1 g2 g3
  obtain ⟨e0, e1, e2, e3⟩ := u1
  obtain ⟨f0, f1, f2, f3⟩ := u2
  obtain ⟨g0, g1, g2, g3⟩ := u3
  generalize ordV (K2, N2, S2.data.toList, B2) (K3, N3, S3.data.toList, B3) = yz at *
  go_wp2_with fail
  refine (order_any K1 N1 S1 B1 K3 N3 S3 B3 _ Q1.out Z1.out Z3.out).mono ?_
  rintro e w6 ⟨rfl, hb⟩
  have h6 : Below w.heap.size w w6 := keepA h5 hb
  have u1 : Box w6 w1.heap.size K1 N1 S1 B1 := (Box.mk e0 e1 e2 e3).keep hb
  have u2 : Box w6 w2.heap.size K2 N2 S2 B2 := (Box.mk f0 f1 f2 f3).keep hb
  have u3 : Box w6 w3.heap.size K3 N3 S3 B3 := (Box.mk g0 g1 g2 g3).keep hb
  clear hb h5 e0 e1 e2 e3 f0 f1 f2 f3 g0 g1 g2 g3
  obtain ⟨e0, e1, e2, e3⟩ := u1
  obtain ⟨f0, f1, f2, f3⟩ := u2
  obtain ⟨g0, g1, g2, g3⟩ := u3
  generalize ordV (K1, N1, S1.data.toList, B1) (K3, N3, S3.data.toList, B3) = xz at *
  go_wp2_with fail
  refine (order_any K1 N1 S1 B1 K1 N1 S1 B1 _ Q1.out Z1.out Z1.out).mono ?_
  rintro e w7 ⟨rfl, hb⟩
  have h7 : Below w.heap.size w w7 := keepA h6 hb
  have u1 : Box w7 w1.heap.size K1 N1 S1 B1 := (Box.mk e0 e1 e2 e3).keep hb
  have u2 : Box w7 w2.heap.size K2 N2 S2 B2 := (Box.mk f0 f1 f2 f3).keep hb
  clear hb h6 e0 e1 e2 e3 f0 f1 f2 f3 g0 g1 g2 g3
  obtain ⟨e0, e1, e2, e3⟩ := u1
  obtain ⟨f0, f1, f2, f3⟩ := u2
  generalize ordV (K1, N1, S1.data.toList, B1) (K1, N1, S1.data.toList, B1) = xx at *
  obtain ⟨M1, M⟩ := L.out
  clear L
  subst M1
  obtain ⟨M2, M3, M4, M5, M6, M7, M8⟩ := M
  go_wp2_with fail
  refine (order_any K2 N2 S2 B2 K1 N1 S1 B1 _ Q2.out Z2.out Z1.out).mono ?_
  rintro e w8 ⟨rfl, hb⟩
  have h8 : Below w.heap.size w w8 := keepA h7 hb
  clear hb h7 e0 e1 e2 e3 f0 f1 f2 f3
  generalize ordV (K2, N2, S2.data.toList, B2) (K1, N1, S1.data.toList, B1) = yx at *
  obtain rfl : yx = -xy := by omega
  clear M2 Q1 Q2 Z1 Z2 Z3
  rcases M3 with rfl | rfl | rfl <;> rcases M4 with rfl | rfl | rfl <;> rcases M5 with rfl | rfl | rfl
  all_goals first
    | (exfalso; omega)
    | (clear M6 M7 M8
       go_wp2_with (go_at_call 12; refine (alive_any _).mono ?_; rintro e w' ⟨rfl, hb⟩; have hk := keepA (W0 := w) (by assumption) hb; clear hb)
       go_ret
       exact ⟨rfl, by assumption⟩)
end Go.Proofs.YticlmegcpneckaaDoor

/- The walks of the document's own sums, differences, quotients and joined texts. -/
import Derived.Test.YticlmegcpneckaaDoorRefSums
namespace Go.Proofs.YticlmegcpneckaaDoor
open Go.RowKit
set_option linter.unusedVariables false

set_option maxHeartbeats 1000000 in
theorem refAdd_in1 (x y : Int) (S1 S2 : ByteArray) (B1 B2 : Bool) (w : World) (x1 : -9223372036854775808 ≤ x) (x2 : x ≤ 9223372036854775807) (y1 : -9223372036854775808 ≤ y) (y2 : y ≤ 9223372036854775807) (h1 : -9223372036854775808 ≤ x + y) (h2 : x + y ≤ 9223372036854775807) (c1 : 0 ≤ x) (c2 : 0 ≤ y) :
    Calls Tryd.prog 28 #[val 1 x S1 B1, val 1 y S2 B2] w fun e w' => e = .returned (.tuple #[val 1 (x + y) ⟨#[]⟩ false, .string sDone]) ∧ Below w.heap.size w w' := by
  go_enter Tryd.func28, Tryd.ntmps28
  go_wp2_with fail
  refine (refBoth_go 1 x S1 B1 y S2 B2 rfl _).mono ?_
  rintro e w1 ⟨rfl, hb⟩
  obtain ⟨hcl, hfr⟩ := bcell hb
  have hB1 : Below w.heap.size w w1 := (by repeat (first | exact Below.refl _ _ | assumption | refine Below.alloc ?_ (by first | (simp; done) | (simp; omega)) _ | refine Below.setCell ?_ (by first | (simp; done) | (simp; omega)) _ | refine Below.drew ?_ | refine below_drewN ?_ _ | refine Below.trans ?_ (hb.mono (by first | (simp; done) | (simp; omega)))))
  have hz := hb.size
  simp at hz
  go_wp2_with fail
  refine (num_any _ _).mono ?_
  rintro e w2 ⟨rfl, hb2⟩
  obtain ⟨hcl2, hfr2⟩ := bcell hb2
  have hB : Below w.heap.size w w2 := keepA hB1 hb2
  have hz2 : w.heap.size + 1 + 1 < w1.heap.size := by omega
  go_wp2
  exact bodyPost_ret (v := .tuple #[val 1 (x + y) ⟨#[]⟩ false, .string sDone]) (by simp [results, Tryd.results28, go_sem, hcl, hcl2, hz2]) rfl ⟨rfl, (by repeat (first | exact hB | refine Below.setCell ?_ (by first | (simp; done) | (simp; omega)) _))⟩
set_option maxHeartbeats 1000000 in
theorem refAdd_in2 (x y : Int) (S1 S2 : ByteArray) (B1 B2 : Bool) (w : World) (x1 : -9223372036854775808 ≤ x) (x2 : x ≤ 9223372036854775807) (y1 : -9223372036854775808 ≤ y) (y2 : y ≤ 9223372036854775807) (h1 : -9223372036854775808 ≤ x + y) (h2 : x + y ≤ 9223372036854775807) (c1 : 0 ≤ x) (c2 : y < 0) :
    Calls Tryd.prog 28 #[val 1 x S1 B1, val 1 y S2 B2] w fun e w' => e = .returned (.tuple #[val 1 (x + y) ⟨#[]⟩ false, .string sDone]) ∧ Below w.heap.size w w' := by
  go_enter Tryd.func28, Tryd.ntmps28
  go_wp2_with fail
  refine (refBoth_go 1 x S1 B1 y S2 B2 rfl _).mono ?_
  rintro e w1 ⟨rfl, hb⟩
  obtain ⟨hcl, hfr⟩ := bcell hb
  have hB1 : Below w.heap.size w w1 := (by repeat (first | exact Below.refl _ _ | assumption | refine Below.alloc ?_ (by first | (simp; done) | (simp; omega)) _ | refine Below.setCell ?_ (by first | (simp; done) | (simp; omega)) _ | refine Below.drew ?_ | refine below_drewN ?_ _ | refine Below.trans ?_ (hb.mono (by first | (simp; done) | (simp; omega)))))
  have hz := hb.size
  simp at hz
  go_wp2_with fail
  refine (num_any _ _).mono ?_
  rintro e w2 ⟨rfl, hb2⟩
  obtain ⟨hcl2, hfr2⟩ := bcell hb2
  have hB : Below w.heap.size w w2 := keepA hB1 hb2
  have hz2 : w.heap.size + 1 + 1 < w1.heap.size := by omega
  go_wp2
  exact bodyPost_ret (v := .tuple #[val 1 (x + y) ⟨#[]⟩ false, .string sDone]) (by simp [results, Tryd.results28, go_sem, hcl, hcl2, hz2]) rfl ⟨rfl, (by repeat (first | exact hB | refine Below.setCell ?_ (by first | (simp; done) | (simp; omega)) _))⟩
set_option maxHeartbeats 1000000 in
theorem refAdd_in3 (x y : Int) (S1 S2 : ByteArray) (B1 B2 : Bool) (w : World) (x1 : -9223372036854775808 ≤ x) (x2 : x ≤ 9223372036854775807) (y1 : -9223372036854775808 ≤ y) (y2 : y ≤ 9223372036854775807) (h1 : -9223372036854775808 ≤ x + y) (h2 : x + y ≤ 9223372036854775807) (c1 : x < 0) (c2 : 0 ≤ y) :
    Calls Tryd.prog 28 #[val 1 x S1 B1, val 1 y S2 B2] w fun e w' => e = .returned (.tuple #[val 1 (x + y) ⟨#[]⟩ false, .string sDone]) ∧ Below w.heap.size w w' := by
  go_enter Tryd.func28, Tryd.ntmps28
  go_wp2_with fail
  refine (refBoth_go 1 x S1 B1 y S2 B2 rfl _).mono ?_
  rintro e w1 ⟨rfl, hb⟩
  obtain ⟨hcl, hfr⟩ := bcell hb
  have hB1 : Below w.heap.size w w1 := (by repeat (first | exact Below.refl _ _ | assumption | refine Below.alloc ?_ (by first | (simp; done) | (simp; omega)) _ | refine Below.setCell ?_ (by first | (simp; done) | (simp; omega)) _ | refine Below.drew ?_ | refine below_drewN ?_ _ | refine Below.trans ?_ (hb.mono (by first | (simp; done) | (simp; omega)))))
  have hz := hb.size
  simp at hz
  go_wp2_with fail
  refine (num_any _ _).mono ?_
  rintro e w2 ⟨rfl, hb2⟩
  obtain ⟨hcl2, hfr2⟩ := bcell hb2
  have hB : Below w.heap.size w w2 := keepA hB1 hb2
  have hz2 : w.heap.size + 1 + 1 < w1.heap.size := by omega
  go_wp2
  exact bodyPost_ret (v := .tuple #[val 1 (x + y) ⟨#[]⟩ false, .string sDone]) (by simp [results, Tryd.results28, go_sem, hcl, hcl2, hz2]) rfl ⟨rfl, (by repeat (first | exact hB | refine Below.setCell ?_ (by first | (simp; done) | (simp; omega)) _))⟩
set_option maxHeartbeats 1000000 in
theorem refAdd_in4 (x y : Int) (S1 S2 : ByteArray) (B1 B2 : Bool) (w : World) (x1 : -9223372036854775808 ≤ x) (x2 : x ≤ 9223372036854775807) (y1 : -9223372036854775808 ≤ y) (y2 : y ≤ 9223372036854775807) (h1 : -9223372036854775808 ≤ x + y) (h2 : x + y ≤ 9223372036854775807) (c1 : x < 0) (c2 : y < 0) :
    Calls Tryd.prog 28 #[val 1 x S1 B1, val 1 y S2 B2] w fun e w' => e = .returned (.tuple #[val 1 (x + y) ⟨#[]⟩ false, .string sDone]) ∧ Below w.heap.size w w' := by
  go_enter Tryd.func28, Tryd.ntmps28
  go_wp2_with fail
  refine (refBoth_go 1 x S1 B1 y S2 B2 rfl _).mono ?_
  rintro e w1 ⟨rfl, hb⟩
  obtain ⟨hcl, hfr⟩ := bcell hb
  have hB1 : Below w.heap.size w w1 := (by repeat (first | exact Below.refl _ _ | assumption | refine Below.alloc ?_ (by first | (simp; done) | (simp; omega)) _ | refine Below.setCell ?_ (by first | (simp; done) | (simp; omega)) _ | refine Below.drew ?_ | refine below_drewN ?_ _ | refine Below.trans ?_ (hb.mono (by first | (simp; done) | (simp; omega)))))
  have hz := hb.size
  simp at hz
  go_wp2_with fail
  refine (num_any _ _).mono ?_
  rintro e w2 ⟨rfl, hb2⟩
  obtain ⟨hcl2, hfr2⟩ := bcell hb2
  have hB : Below w.heap.size w w2 := keepA hB1 hb2
  have hz2 : w.heap.size + 1 + 1 < w1.heap.size := by omega
  go_wp2
  exact bodyPost_ret (v := .tuple #[val 1 (x + y) ⟨#[]⟩ false, .string sDone]) (by simp [results, Tryd.results28, go_sem, hcl, hcl2, hz2]) rfl ⟨rfl, (by repeat (first | exact hB | refine Below.setCell ?_ (by first | (simp; done) | (simp; omega)) _))⟩
set_option maxHeartbeats 1000000 in
theorem refAdd_out1 (x y : Int) (S1 S2 : ByteArray) (B1 B2 : Bool) (w : World) (c1 : 0 ≤ x) (c2 : 0 ≤ y) (hw : wrap64 (x + y) < 0) :
    Calls Tryd.prog 28 #[val 1 x S1 B1, val 1 y S2 B2] w fun e w' => e = .returned (.tuple #[nullV, .string sOut]) ∧ Below w.heap.size w w' := by
  go_enter Tryd.func28, Tryd.ntmps28
  go_wp2_with fail
  refine (refBoth_go 1 x S1 B1 y S2 B2 rfl _).mono ?_
  rintro e w1 ⟨rfl, hb⟩
  obtain ⟨hcl, hfr⟩ := bcell hb
  go_wp2
  exact bodyPost_ret (v := .tuple #[nullV, .string sOut]) (by simp [results, Tryd.results28, go_sem, hcl]) rfl ⟨rfl, (by repeat (first | exact Below.refl _ _ | assumption | refine Below.alloc ?_ (by first | (simp; done) | (simp; omega)) _ | refine Below.setCell ?_ (by first | (simp; done) | (simp; omega)) _ | refine Below.drew ?_ | refine below_drewN ?_ _ | refine Below.trans ?_ (hb.mono (by first | (simp; done) | (simp; omega)))))⟩
set_option maxHeartbeats 1000000 in
theorem refAdd_out2 (x y : Int) (S1 S2 : ByteArray) (B1 B2 : Bool) (w : World) (c1 : x < 0) (c2 : y < 0) (hw : 0 ≤ wrap64 (x + y)) :
    Calls Tryd.prog 28 #[val 1 x S1 B1, val 1 y S2 B2] w fun e w' => e = .returned (.tuple #[nullV, .string sOut]) ∧ Below w.heap.size w w' := by
  go_enter Tryd.func28, Tryd.ntmps28
  go_wp2_with fail
  refine (refBoth_go 1 x S1 B1 y S2 B2 rfl _).mono ?_
  rintro e w1 ⟨rfl, hb⟩
  obtain ⟨hcl, hfr⟩ := bcell hb
  go_wp2
  exact bodyPost_ret (v := .tuple #[nullV, .string sOut]) (by simp [results, Tryd.results28, go_sem, hcl]) rfl ⟨rfl, (by repeat (first | exact Below.refl _ _ | assumption | refine Below.alloc ?_ (by first | (simp; done) | (simp; omega)) _ | refine Below.setCell ?_ (by first | (simp; done) | (simp; omega)) _ | refine Below.drew ?_ | refine below_drewN ?_ _ | refine Below.trans ?_ (hb.mono (by first | (simp; done) | (simp; omega)))))⟩
set_option maxHeartbeats 1000000 in
theorem refSub_in1 (x y : Int) (S1 S2 : ByteArray) (B1 B2 : Bool) (w : World) (x1 : -9223372036854775808 ≤ x) (x2 : x ≤ 9223372036854775807) (y1 : -9223372036854775808 ≤ y) (y2 : y ≤ 9223372036854775807) (h1 : -9223372036854775808 ≤ x - y) (h2 : x - y ≤ 9223372036854775807) (c1 : 0 ≤ x) (c2 : 0 ≤ y) :
    Calls Tryd.prog 30 #[val 1 x S1 B1, val 1 y S2 B2] w fun e w' => e = .returned (.tuple #[val 1 (x - y) ⟨#[]⟩ false, .string sDone]) ∧ Below w.heap.size w w' := by
  go_enter Tryd.func30, Tryd.ntmps30
  go_wp2_with fail
  refine (refBoth_go 1 x S1 B1 y S2 B2 rfl _).mono ?_
  rintro e w1 ⟨rfl, hb⟩
  obtain ⟨hcl, hfr⟩ := bcell hb
  have hB1 : Below w.heap.size w w1 := (by repeat (first | exact Below.refl _ _ | assumption | refine Below.alloc ?_ (by first | (simp; done) | (simp; omega)) _ | refine Below.setCell ?_ (by first | (simp; done) | (simp; omega)) _ | refine Below.drew ?_ | refine below_drewN ?_ _ | refine Below.trans ?_ (hb.mono (by first | (simp; done) | (simp; omega)))))
  have hz := hb.size
  simp at hz
  go_wp2_with fail
  refine (num_any _ _).mono ?_
  rintro e w2 ⟨rfl, hb2⟩
  obtain ⟨hcl2, hfr2⟩ := bcell hb2
  have hB : Below w.heap.size w w2 := keepA hB1 hb2
  have hz2 : w.heap.size + 1 + 1 < w1.heap.size := by omega
  go_wp2
  exact bodyPost_ret (v := .tuple #[val 1 (x - y) ⟨#[]⟩ false, .string sDone]) (by simp [results, Tryd.results30, go_sem, hcl, hcl2, hz2]) rfl ⟨rfl, (by repeat (first | exact hB | refine Below.setCell ?_ (by first | (simp; done) | (simp; omega)) _))⟩
set_option maxHeartbeats 1000000 in
theorem refSub_in2 (x y : Int) (S1 S2 : ByteArray) (B1 B2 : Bool) (w : World) (x1 : -9223372036854775808 ≤ x) (x2 : x ≤ 9223372036854775807) (y1 : -9223372036854775808 ≤ y) (y2 : y ≤ 9223372036854775807) (h1 : -9223372036854775808 ≤ x - y) (h2 : x - y ≤ 9223372036854775807) (c1 : 0 ≤ x) (c2 : y < 0) :
    Calls Tryd.prog 30 #[val 1 x S1 B1, val 1 y S2 B2] w fun e w' => e = .returned (.tuple #[val 1 (x - y) ⟨#[]⟩ false, .string sDone]) ∧ Below w.heap.size w w' := by
  go_enter Tryd.func30, Tryd.ntmps30
  go_wp2_with fail
  refine (refBoth_go 1 x S1 B1 y S2 B2 rfl _).mono ?_
  rintro e w1 ⟨rfl, hb⟩
  obtain ⟨hcl, hfr⟩ := bcell hb
  have hB1 : Below w.heap.size w w1 := (by repeat (first | exact Below.refl _ _ | assumption | refine Below.alloc ?_ (by first | (simp; done) | (simp; omega)) _ | refine Below.setCell ?_ (by first | (simp; done) | (simp; omega)) _ | refine Below.drew ?_ | refine below_drewN ?_ _ | refine Below.trans ?_ (hb.mono (by first | (simp; done) | (simp; omega)))))
  have hz := hb.size
  simp at hz
  go_wp2_with fail
  refine (num_any _ _).mono ?_
  rintro e w2 ⟨rfl, hb2⟩
  obtain ⟨hcl2, hfr2⟩ := bcell hb2
  have hB : Below w.heap.size w w2 := keepA hB1 hb2
  have hz2 : w.heap.size + 1 + 1 < w1.heap.size := by omega
  go_wp2
  exact bodyPost_ret (v := .tuple #[val 1 (x - y) ⟨#[]⟩ false, .string sDone]) (by simp [results, Tryd.results30, go_sem, hcl, hcl2, hz2]) rfl ⟨rfl, (by repeat (first | exact hB | refine Below.setCell ?_ (by first | (simp; done) | (simp; omega)) _))⟩
set_option maxHeartbeats 1000000 in
theorem refSub_in3 (x y : Int) (S1 S2 : ByteArray) (B1 B2 : Bool) (w : World) (x1 : -9223372036854775808 ≤ x) (x2 : x ≤ 9223372036854775807) (y1 : -9223372036854775808 ≤ y) (y2 : y ≤ 9223372036854775807) (h1 : -9223372036854775808 ≤ x - y) (h2 : x - y ≤ 9223372036854775807) (c1 : x < 0) (c2 : 0 ≤ y) :
    Calls Tryd.prog 30 #[val 1 x S1 B1, val 1 y S2 B2] w fun e w' => e = .returned (.tuple #[val 1 (x - y) ⟨#[]⟩ false, .string sDone]) ∧ Below w.heap.size w w' := by
  go_enter Tryd.func30, Tryd.ntmps30
  go_wp2_with fail
  refine (refBoth_go 1 x S1 B1 y S2 B2 rfl _).mono ?_
  rintro e w1 ⟨rfl, hb⟩
  obtain ⟨hcl, hfr⟩ := bcell hb
  have hB1 : Below w.heap.size w w1 := (by repeat (first | exact Below.refl _ _ | assumption | refine Below.alloc ?_ (by first | (simp; done) | (simp; omega)) _ | refine Below.setCell ?_ (by first | (simp; done) | (simp; omega)) _ | refine Below.drew ?_ | refine below_drewN ?_ _ | refine Below.trans ?_ (hb.mono (by first | (simp; done) | (simp; omega)))))
  have hz := hb.size
  simp at hz
  go_wp2_with fail
  refine (num_any _ _).mono ?_
  rintro e w2 ⟨rfl, hb2⟩
  obtain ⟨hcl2, hfr2⟩ := bcell hb2
  have hB : Below w.heap.size w w2 := keepA hB1 hb2
  have hz2 : w.heap.size + 1 + 1 < w1.heap.size := by omega
  go_wp2
  exact bodyPost_ret (v := .tuple #[val 1 (x - y) ⟨#[]⟩ false, .string sDone]) (by simp [results, Tryd.results30, go_sem, hcl, hcl2, hz2]) rfl ⟨rfl, (by repeat (first | exact hB | refine Below.setCell ?_ (by first | (simp; done) | (simp; omega)) _))⟩
set_option maxHeartbeats 1000000 in
theorem refSub_in4 (x y : Int) (S1 S2 : ByteArray) (B1 B2 : Bool) (w : World) (x1 : -9223372036854775808 ≤ x) (x2 : x ≤ 9223372036854775807) (y1 : -9223372036854775808 ≤ y) (y2 : y ≤ 9223372036854775807) (h1 : -9223372036854775808 ≤ x - y) (h2 : x - y ≤ 9223372036854775807) (c1 : x < 0) (c2 : y < 0) :
    Calls Tryd.prog 30 #[val 1 x S1 B1, val 1 y S2 B2] w fun e w' => e = .returned (.tuple #[val 1 (x - y) ⟨#[]⟩ false, .string sDone]) ∧ Below w.heap.size w w' := by
  go_enter Tryd.func30, Tryd.ntmps30
  go_wp2_with fail
  refine (refBoth_go 1 x S1 B1 y S2 B2 rfl _).mono ?_
  rintro e w1 ⟨rfl, hb⟩
  obtain ⟨hcl, hfr⟩ := bcell hb
  have hB1 : Below w.heap.size w w1 := (by repeat (first | exact Below.refl _ _ | assumption | refine Below.alloc ?_ (by first | (simp; done) | (simp; omega)) _ | refine Below.setCell ?_ (by first | (simp; done) | (simp; omega)) _ | refine Below.drew ?_ | refine below_drewN ?_ _ | refine Below.trans ?_ (hb.mono (by first | (simp; done) | (simp; omega)))))
  have hz := hb.size
  simp at hz
  go_wp2_with fail
  refine (num_any _ _).mono ?_
  rintro e w2 ⟨rfl, hb2⟩
  obtain ⟨hcl2, hfr2⟩ := bcell hb2
  have hB : Below w.heap.size w w2 := keepA hB1 hb2
  have hz2 : w.heap.size + 1 + 1 < w1.heap.size := by omega
  go_wp2
  exact bodyPost_ret (v := .tuple #[val 1 (x - y) ⟨#[]⟩ false, .string sDone]) (by simp [results, Tryd.results30, go_sem, hcl, hcl2, hz2]) rfl ⟨rfl, (by repeat (first | exact hB | refine Below.setCell ?_ (by first | (simp; done) | (simp; omega)) _))⟩
set_option maxHeartbeats 1000000 in
theorem refSub_out1 (x y : Int) (S1 S2 : ByteArray) (B1 B2 : Bool) (w : World) (c1 : 0 ≤ x) (c2 : y < 0) (hw : wrap64 (x - y) < 0) :
    Calls Tryd.prog 30 #[val 1 x S1 B1, val 1 y S2 B2] w fun e w' => e = .returned (.tuple #[nullV, .string sOut]) ∧ Below w.heap.size w w' := by
  go_enter Tryd.func30, Tryd.ntmps30
  go_wp2_with fail
  refine (refBoth_go 1 x S1 B1 y S2 B2 rfl _).mono ?_
  rintro e w1 ⟨rfl, hb⟩
  obtain ⟨hcl, hfr⟩ := bcell hb
  go_wp2
  exact bodyPost_ret (v := .tuple #[nullV, .string sOut]) (by simp [results, Tryd.results30, go_sem, hcl]) rfl ⟨rfl, (by repeat (first | exact Below.refl _ _ | assumption | refine Below.alloc ?_ (by first | (simp; done) | (simp; omega)) _ | refine Below.setCell ?_ (by first | (simp; done) | (simp; omega)) _ | refine Below.drew ?_ | refine below_drewN ?_ _ | refine Below.trans ?_ (hb.mono (by first | (simp; done) | (simp; omega)))))⟩
set_option maxHeartbeats 1000000 in
theorem refSub_out2 (x y : Int) (S1 S2 : ByteArray) (B1 B2 : Bool) (w : World) (c1 : x < 0) (c2 : 0 ≤ y) (hw : 0 ≤ wrap64 (x - y)) :
    Calls Tryd.prog 30 #[val 1 x S1 B1, val 1 y S2 B2] w fun e w' => e = .returned (.tuple #[nullV, .string sOut]) ∧ Below w.heap.size w w' := by
  go_enter Tryd.func30, Tryd.ntmps30
  go_wp2_with fail
  refine (refBoth_go 1 x S1 B1 y S2 B2 rfl _).mono ?_
  rintro e w1 ⟨rfl, hb⟩
  obtain ⟨hcl, hfr⟩ := bcell hb
  go_wp2
  exact bodyPost_ret (v := .tuple #[nullV, .string sOut]) (by simp [results, Tryd.results30, go_sem, hcl]) rfl ⟨rfl, (by repeat (first | exact Below.refl _ _ | assumption | refine Below.alloc ?_ (by first | (simp; done) | (simp; omega)) _ | refine Below.setCell ?_ (by first | (simp; done) | (simp; omega)) _ | refine Below.drew ?_ | refine below_drewN ?_ _ | refine Below.trans ?_ (hb.mono (by first | (simp; done) | (simp; omega)))))⟩
set_option maxHeartbeats 1000000 in
theorem refConcat_in (x y : Int) (S1 S2 : ByteArray) (B1 B2 : Bool) (w : World) (h : S1.size + S2.size ≤ 400) :
    Calls Tryd.prog 38 #[val 2 x S1 B1, val 2 y S2 B2] w fun e w' => e = .returned (.tuple #[val 2 0 (S1 ++ S2) false, .string sDone]) ∧ Below w.heap.size w w' := by
  go_enter Tryd.func38, Tryd.ntmps38
  go_wp2_with fail
  refine (refBoth_go 2 x S1 B1 y S2 B2 rfl _).mono ?_
  rintro e w1 ⟨rfl, hb⟩
  obtain ⟨hcl, hfr⟩ := bcell hb
  have hB1 : Below w.heap.size w w1 := (by repeat (first | exact Below.refl _ _ | assumption | refine Below.alloc ?_ (by first | (simp; done) | (simp; omega)) _ | refine Below.setCell ?_ (by first | (simp; done) | (simp; omega)) _ | refine Below.drew ?_ | refine below_drewN ?_ _ | refine Below.trans ?_ (hb.mono (by first | (simp; done) | (simp; omega)))))
  have hz := hb.size
  simp at hz
  go_wp2_with fail
  refine (text_any _ _).mono ?_
  rintro e w2 ⟨rfl, hb2⟩
  obtain ⟨hcl2, hfr2⟩ := bcell hb2
  have hB : Below w.heap.size w w2 := keepA hB1 hb2
  have hz2 : w.heap.size + 1 + 1 < w1.heap.size := by omega
  go_wp2
  exact bodyPost_ret (v := .tuple #[val 2 0 (S1 ++ S2) false, .string sDone]) (by simp [results, Tryd.results38, go_sem, hcl, hcl2, hz2]) rfl ⟨rfl, (by repeat (first | exact hB | refine Below.setCell ?_ (by first | (simp; done) | (simp; omega)) _))⟩
set_option maxHeartbeats 1000000 in
theorem refConcat_long (x y : Int) (S1 S2 : ByteArray) (B1 B2 : Bool) (w : World) (h : 400 < S1.size + S2.size) (hs : S1.size + S2.size ≤ 9223372036854775807) :
    Calls Tryd.prog 38 #[val 2 x S1 B1, val 2 y S2 B2] w fun e w' => e = .returned (.tuple #[nullV, .string sLong]) ∧ Below w.heap.size w w' := by
  go_enter Tryd.func38, Tryd.ntmps38
  go_wp2_with fail
  refine (refBoth_go 2 x S1 B1 y S2 B2 rfl _).mono ?_
  rintro e w1 ⟨rfl, hb⟩
  obtain ⟨hcl, hfr⟩ := bcell hb
  go_wp2
  exact bodyPost_ret (v := .tuple #[nullV, .string sLong]) (by simp [results, Tryd.results38, go_sem, hcl]) rfl ⟨rfl, (by repeat (first | exact Below.refl _ _ | assumption | refine Below.alloc ?_ (by first | (simp; done) | (simp; omega)) _ | refine Below.setCell ?_ (by first | (simp; done) | (simp; omega)) _ | refine Below.drew ?_ | refine below_drewN ?_ _ | refine Below.trans ?_ (hb.mono (by first | (simp; done) | (simp; omega)))))⟩
set_option maxHeartbeats 1000000 in
theorem refDiv_zero (x : Int) (S1 S2 : ByteArray) (B1 B2 : Bool) (w : World)  :
    Calls Tryd.prog 34 #[val 1 x S1 B1, val 1 0 S2 B2] w fun e w' => e = .returned (.tuple #[nullV, .string sZero]) ∧ Below w.heap.size w w' := by
  go_enter Tryd.func34, Tryd.ntmps34
  go_wp2_with fail
  refine (refBoth_go 1 x S1 B1 0 S2 B2 rfl _).mono ?_
  rintro e w1 ⟨rfl, hb⟩
  obtain ⟨hcl, hfr⟩ := bcell hb
  go_wp2
  exact bodyPost_ret (v := .tuple #[nullV, .string sZero]) (by simp [results, Tryd.results34, go_sem, hcl]) rfl ⟨rfl, (by repeat (first | exact Below.refl _ _ | assumption | refine Below.alloc ?_ (by first | (simp; done) | (simp; omega)) _ | refine Below.setCell ?_ (by first | (simp; done) | (simp; omega)) _ | refine Below.drew ?_ | refine below_drewN ?_ _ | refine Below.trans ?_ (hb.mono (by first | (simp; done) | (simp; omega)))))⟩
set_option maxHeartbeats 1000000 in
theorem refDiv_in (x y : Int) (S1 S2 : ByteArray) (B1 B2 : Bool) (w : World) (h0 : (y == 0) = false) (hm : (y == -1) = false) (hn : y ≠ 0) :
    Calls Tryd.prog 34 #[val 1 x S1 B1, val 1 y S2 B2] w fun e w' => e = .returned (.tuple #[val 1 (wrap64 (x.tdiv y)) ⟨#[]⟩ false, .string sDone]) ∧ Below w.heap.size w w' := by
  go_enter Tryd.func34, Tryd.ntmps34
  go_wp2_with fail
  refine (refBoth_go 1 x S1 B1 y S2 B2 rfl _).mono ?_
  rintro e w1 ⟨rfl, hb⟩
  obtain ⟨hcl, hfr⟩ := bcell hb
  have hB1 : Below w.heap.size w w1 := (by repeat (first | exact Below.refl _ _ | assumption | refine Below.alloc ?_ (by first | (simp; done) | (simp; omega)) _ | refine Below.setCell ?_ (by first | (simp; done) | (simp; omega)) _ | refine Below.drew ?_ | refine below_drewN ?_ _ | refine Below.trans ?_ (hb.mono (by first | (simp; done) | (simp; omega)))))
  have hz := hb.size
  simp at hz
  go_wp2_with fail
  refine (num_any _ _).mono ?_
  rintro e w2 ⟨rfl, hb2⟩
  obtain ⟨hcl2, hfr2⟩ := bcell hb2
  have hB : Below w.heap.size w w2 := keepA hB1 hb2
  have hz2 : w.heap.size + 1 + 1 < w1.heap.size := by omega
  go_wp2
  exact bodyPost_ret (v := .tuple #[val 1 (wrap64 (x.tdiv y)) ⟨#[]⟩ false, .string sDone]) (by simp [results, Tryd.results34, go_sem, hcl, hcl2, hz2]) rfl ⟨rfl, (by repeat (first | exact hB | refine Below.setCell ?_ (by first | (simp; done) | (simp; omega)) _))⟩
end Go.Proofs.YticlmegcpneckaaDoor

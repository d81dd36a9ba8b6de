/- The walk of the law ValueNumbers: whole numbers are whole. -/
import Derived.Test.YticlmegcpneckabDoorArithAny
import Derived.Test.YticlmegcpneckabDoorBoxes
namespace Go.Proofs.YticlmegcpneckabDoor
open Go.RowKit
set_option linter.unusedVariables false

abbrev R64 (x : Int) : Prop := -9223372036854775808 ≤ x ∧ x ≤ 9223372036854775807
theorem add_yes (x y : Int) (w : World) (hx : R64 x) (hy : R64 y) (h : inR (x + y) = true) :
    Calls Tryd.prog 7 #[val 1 x ⟨#[]⟩ false, val 1 y ⟨#[]⟩ false] w fun e w' => e = .returned (.tuple #[val 1 (x + y) ⟨#[]⟩ false, .string sDone]) ∧ Below w.heap.size w w' := by
  have g := add_any 1 x ⟨#[]⟩ false 1 y ⟨#[]⟩ false w hx hy
  rw [h] at g
  exact g
theorem add_no (x y : Int) (w : World) (hx : R64 x) (hy : R64 y) (h : inR (x + y) = false) :
    Calls Tryd.prog 7 #[val 1 x ⟨#[]⟩ false, val 1 y ⟨#[]⟩ false] w fun e w' => e = .returned (.tuple #[nullV, .string sOut]) ∧ Below w.heap.size w w' := by
  have g := add_any 1 x ⟨#[]⟩ false 1 y ⟨#[]⟩ false w hx hy
  rw [h] at g
  exact g
theorem sub_yes (x y : Int) (w : World) (hx : R64 x) (hy : R64 y) (h : inR (x - y) = true) :
    Calls Tryd.prog 8 #[val 1 x ⟨#[]⟩ false, val 1 y ⟨#[]⟩ false] w fun e w' => e = .returned (.tuple #[val 1 (x - y) ⟨#[]⟩ false, .string sDone]) ∧ Below w.heap.size w w' := by
  have g := sub_any 1 x ⟨#[]⟩ false 1 y ⟨#[]⟩ false w hx hy
  rw [h] at g
  exact g
theorem mul_yes (x y : Int) (w : World) (hx : R64 x) (hy : R64 y) (h : inR (x * y) = true) :
    Calls Tryd.prog 11 #[val 1 x ⟨#[]⟩ false, val 1 y ⟨#[]⟩ false] w fun e w' => e = .returned (.tuple #[val 1 (x * y) ⟨#[]⟩ false, .string sDone]) ∧ Below w.heap.size w w' := by
  have g := mul_any 1 x ⟨#[]⟩ false 1 y ⟨#[]⟩ false w hx hy
  rw [h] at g
  exact g
theorem div_yes (x y : Int) (w : World) (hx : R64 x) (hy : R64 y) (h : divOk x y = true) :
    Calls Tryd.prog 9 #[val 1 x ⟨#[]⟩ false, val 1 y ⟨#[]⟩ false] w fun e w' => e = .returned (.tuple #[val 1 (x.tdiv y) ⟨#[]⟩ false, .string sDone]) ∧ Below w.heap.size w w' := by
  have g := div_any 1 x ⟨#[]⟩ false 1 y ⟨#[]⟩ false w hx hy
  rw [h] at g
  exact g
theorem div_no (x y : Int) (w : World) (hx : R64 x) (hy : R64 y) (h : divOk x y = false) :
    Calls Tryd.prog 9 #[val 1 x ⟨#[]⟩ false, val 1 y ⟨#[]⟩ false] w fun e w' => e = .returned (.tuple #[nullV, .string (divSt y)]) ∧ Below w.heap.size w w' := by
  have g := div_any 1 x ⟨#[]⟩ false 1 y ⟨#[]⟩ false w hx hy
  rw [h] at g
  exact g
theorem rest_facts (a b : Int) (h0 : b ≠ 0) : (a - a.tdiv b * b = 0 ∨ (0 < a - a.tdiv b * b ∧ 0 < a ∧ (a - a.tdiv b * b < b ∨ b < -(a - a.tdiv b * b))) ∨ (a - a.tdiv b * b < 0 ∧ a < 0 ∧ (b < a - a.tdiv b * b ∨ -(a - a.tdiv b * b) < b))) ∧
    (0 ≤ a → 0 ≤ a.tdiv b * b ∧ a.tdiv b * b ≤ a) ∧ (a ≤ 0 → a.tdiv b * b ≤ 0 ∧ a ≤ a.tdiv b * b) := by
  have e := Int.tmod_add_mul_tdiv a b
  have r : (a.tmod b).natAbs = a.natAbs % b.natAbs := Int.natAbs_tmod a b
  have rl : a.natAbs % b.natAbs < b.natAbs := Nat.mod_lt _ (by omega)
  have rm : a.natAbs % b.natAbs ≤ a.natAbs := Nat.mod_le _ _
  rw [Int.mul_comm b] at e
  have s : (0 ≤ a → 0 ≤ a.tmod b) ∧ (a ≤ 0 → a.tmod b ≤ 0) := by
    refine ⟨fun h => Int.tmod_nonneg b h, fun h => ?_⟩
    have := Int.tmod_nonneg (a := -a) b (by omega)
    rw [Int.neg_tmod] at this
    omega
  generalize a.tmod b = R at *
  generalize a.tdiv b * b = Z at *
  omega
theorem least_of {a b : Int} (ha : R64 a) (h0 : b ≠ 0) (h : divOk a b = false) : b = -1 := by
  by_cases m : b = -1
  · exact m
  · exfalso
    have := tdiv_in a b ha h0 (by omega)
    have : divOk a b = true := by simp [divOk, h0, inR_true.2 this]
    rw [this] at h; cases h

theorem divOk_true {a b : Int} (h : divOk a b = true) : b ≠ 0 ∧ R64 (a.tdiv b) := by
  simp only [divOk, Bool.and_eq_true] at h
  exact ⟨by rintro rfl; simp at h, inR_true.1 h.2⟩
set_option maxHeartbeats 4000000 in
theorem numbers_law (a b : Int) (w : World) (ha : R64 a) (hb : R64 b) :
    Calls Tryd.prog 3 #[.int .i64 a, .int .i64 b] w fun e w' => e = .returned (.bool true) ∧ Below w.heap.size w w' := by
  have HA : Hid (R64 a) := ha
  have HB : Hid (R64 b) := hb
  clear ha hb
  go_enter Tryd.func3, Tryd.ntmps3
  go_wp2_with fail
  refine (num_any _ _).mono ?_
  rintro e w1 ⟨rfl, h1⟩
  go_wp2_with fail
  refine (num_any _ _).mono ?_
  rintro e w2 ⟨rfl, hb⟩
  have h2 : Below w.heap.size w w2 := keepA (below_alloc h1 _) hb
  have x1 : Box w2 w1.heap.size 1 a ⟨#[]⟩ false := (Box.new w1 1 a ⟨#[]⟩ false _).keep hb
  clear hb h1
  obtain ⟨e0, e1, e2, e3⟩ := x1
  have lt1 : w1.heap.size < w2.heap.size := World.block_lt_of_cell? w2 _ e0
  go_wp2_with fail
  cases hin : inR (a + b)
  · have Hin : Hid (inR (a + b) = false) := hin
    clear hin
    refine (add_no a b _ HA.out HB.out Hin.out).mono ?_
    rintro e w3 ⟨rfl, hb⟩
    have h3 : Below w.heap.size w w3 := keepA (below_alloc h2 _) hb
    have u1 : Box w3 w1.heap.size 1 a ⟨#[]⟩ false := ((Box.mk e0 e1 e2 e3).alloc _).keep hb
    have u2 : Box w3 w2.heap.size 1 b ⟨#[]⟩ false := (Box.new w2 1 b ⟨#[]⟩ false _).keep hb
    clear hb h2 e0 e1 e2 e3 lt1
    obtain ⟨e0, e1, e2, e3⟩ := u1
    obtain ⟨f0, f1, f2, f3⟩ := u2
    have lt1 : w1.heap.size < w3.heap.size := World.block_lt_of_cell? w3 _ e0
    have lt2 : w2.heap.size < w3.heap.size := World.block_lt_of_cell? w3 _ f0
    go_wp2_with fail
    cases hok : divOk a b
    · have Hok : Hid (divOk a b = false) := hok
      clear hok
      refine (div_no a b _ HA.out HB.out Hok.out).mono ?_
      rintro e w5 ⟨rfl, hb⟩
      have h5 : Below w.heap.size w w5 := keepA (below_alloc h3 _) hb
      clear hb h3 e0 e1 e2 e3 f0 f1 f2 f3 lt1 lt2
      by_cases hz : b = 0
      · subst hz
        rw [show divSt 0 = sZero from rfl]
        clear HB Hin Hok
        go_wp2_with (go_at_call 10; refine (alive_any _).mono ?_; rintro e w' ⟨rfl, hb⟩; have hk := keepA (W0 := w) (below_alloc (by assumption) _) hb; clear hb)
        go_ret
        exact ⟨rfl, by assumption⟩
      · obtain rfl : b = -1 := least_of HA.out hz Hok.out
        rw [show divSt (-1) = sOut from rfl]
        clear HB Hin Hok hz
        go_wp2_with (go_at_call 10; refine (alive_any _).mono ?_; rintro e w' ⟨rfl, hb⟩; have hk := keepA (W0 := w) (below_alloc (by assumption) _) hb; clear hb)
        go_ret
        exact ⟨rfl, by assumption⟩
    · have Hok : Hid (divOk a b = true) := hok
      clear hok
      refine (div_yes a b _ HA.out HB.out Hok.out).mono ?_
      rintro e w5 ⟨rfl, hb⟩
      have h5 : Below w.heap.size w w5 := keepA (below_alloc h3 _) hb
      have u1 : Box w5 w1.heap.size 1 a ⟨#[]⟩ false := ((Box.mk e0 e1 e2 e3).alloc _).keep hb
      have u2 : Box w5 w2.heap.size 1 b ⟨#[]⟩ false := ((Box.mk f0 f1 f2 f3).alloc _).keep hb
      clear hb h3 e0 e1 e2 e3 f0 f1 f2 f3 lt1 lt2
      obtain ⟨e0, e1, e2, e3⟩ := u1
      obtain ⟨f0, f1, f2, f3⟩ := u2
      have lt1 : w1.heap.size < w5.heap.size := World.block_lt_of_cell? w5 _ e0
      have lt2 : w2.heap.size < w5.heap.size := World.block_lt_of_cell? w5 _ f0
      obtain ⟨hd0, hdr⟩ := divOk_true Hok.out
      obtain ⟨F1, F2, F3⟩ := rest_facts a b hd0
      have G1 : Hid (inR (a.tdiv b * b) = true) := inR_true.2 (by have := HA.out; unfold R64 at this; omega)
      have G2 : Hid (inR (a - a.tdiv b * b) = true) := inR_true.2 (by have := HA.out; unfold R64 at this; omega)
      have F : Hid _ := F1
      clear F1 F2 F3 hd0
      have HD : Hid (R64 (a.tdiv b)) := hdr
      clear hdr
      go_wp2_with fail
      refine (mul_yes (a.tdiv b) b _ HD.out HB.out G1.out).mono ?_
      rintro e w6 ⟨rfl, hb⟩
      have h6 : Below w.heap.size w w6 := keepA (below_alloc h5 _) hb
      have u1 : Box w6 w1.heap.size 1 a ⟨#[]⟩ false := ((Box.mk e0 e1 e2 e3).alloc _).keep hb
      clear hb h5 e0 e1 e2 e3 f0 f1 f2 f3 lt1 lt2
      obtain ⟨e0, e1, e2, e3⟩ := u1
      have lt1 : w1.heap.size < w6.heap.size := World.block_lt_of_cell? w6 _ e0
      go_wp2_with fail
      refine (sub_yes a (a.tdiv b * b) _ HA.out (inR_true.1 G1.out) G2.out).mono ?_
      rintro e w7 ⟨rfl, hb⟩
      have h7 : Below w.heap.size w w7 := keepA (below_alloc h6 _) hb
      clear hb h6 e0 e1 e2 e3 lt1
      have F1 := F.out
      have F2 := inR_true.1 G2.out
      clear F G1 G2 HD Hok Hin
      obtain ⟨a1, a2⟩ := HA.out
      obtain ⟨b1, b2⟩ := HB.out
      clear HA HB
      generalize a - a.tdiv b * b = R at *
      generalize a.tdiv b * b = Z at *
      generalize a.tdiv b = Q at *
      obtain ⟨r1, r2⟩ := F2
      rcases F1 with rfl | ⟨c1, c2, c3 | c3⟩ | ⟨c1, c2, c3 | c3⟩
      all_goals
        go_wp2_with (go_at_call 10; refine (alive_any _).mono ?_; rintro e w' ⟨rfl, hb⟩; have hk := keepA (W0 := w) (below_alloc (by assumption) _) hb; clear hb)
        all_goals
          go_ret
          exact ⟨rfl, by assumption⟩
  · have Hin : Hid (inR (a + b) = true) := hin
    clear hin
    refine (add_yes a b _ HA.out HB.out Hin.out).mono ?_
    rintro e w3 ⟨rfl, hb⟩
    have h3 : Below w.heap.size w w3 := keepA (below_alloc h2 _) hb
    have u1 : Box w3 w1.heap.size 1 a ⟨#[]⟩ false := ((Box.mk e0 e1 e2 e3).alloc _).keep hb
    have u2 : Box w3 w2.heap.size 1 b ⟨#[]⟩ false := (Box.new w2 1 b ⟨#[]⟩ false _).keep hb
    clear hb h2 e0 e1 e2 e3 lt1
    obtain ⟨e0, e1, e2, e3⟩ := u1
    obtain ⟨f0, f1, f2, f3⟩ := u2
    have lt1 : w1.heap.size < w3.heap.size := World.block_lt_of_cell? w3 _ e0
    have lt2 : w2.heap.size < w3.heap.size := World.block_lt_of_cell? w3 _ f0
    go_wp2_with fail
    refine (sub_yes (a + b) b _ (inR_true.1 Hin.out) HB.out (inR_true.2 (by have := HA.out; unfold R64 at this; omega))).mono ?_
    rintro e w4 ⟨rfl, hb⟩
    have h4 : Below w.heap.size w w4 := keepA (below_alloc h3 _) hb
    have u1 : Box w4 w1.heap.size 1 a ⟨#[]⟩ false := ((Box.mk e0 e1 e2 e3).alloc _).keep hb
    have u2 : Box w4 w2.heap.size 1 b ⟨#[]⟩ false := ((Box.mk f0 f1 f2 f3).alloc _).keep hb
    clear hb h3 e0 e1 e2 e3 f0 f1 f2 f3 lt1 lt2
    obtain ⟨e0, e1, e2, e3⟩ := u1
    obtain ⟨f0, f1, f2, f3⟩ := u2
    have lt1 : w1.heap.size < w4.heap.size := World.block_lt_of_cell? w4 _ e0
    have lt2 : w2.heap.size < w4.heap.size := World.block_lt_of_cell? w4 _ f0
    rw [show a + b - b = a by omega]
    go_wp2_with fail
    cases hok : divOk a b
    · have Hok : Hid (divOk a b = false) := hok
      clear hok
      refine (div_no a b _ HA.out HB.out Hok.out).mono ?_
      rintro e w5 ⟨rfl, hb⟩
      have h5 : Below w.heap.size w w5 := keepA (below_alloc h4 _) hb
      clear hb h4 e0 e1 e2 e3 f0 f1 f2 f3 lt1 lt2
      by_cases hz : b = 0
      · subst hz
        rw [show divSt 0 = sZero from rfl]
        clear HB Hin Hok
        go_wp2_with (go_at_call 10; refine (alive_any _).mono ?_; rintro e w' ⟨rfl, hb⟩; have hk := keepA (W0 := w) (below_alloc (by assumption) _) hb; clear hb)
        go_ret
        exact ⟨rfl, by assumption⟩
      · obtain rfl : b = -1 := least_of HA.out hz Hok.out
        rw [show divSt (-1) = sOut from rfl]
        clear HB Hin Hok hz
        go_wp2_with (go_at_call 10; refine (alive_any _).mono ?_; rintro e w' ⟨rfl, hb⟩; have hk := keepA (W0 := w) (below_alloc (by assumption) _) hb; clear hb)
        go_ret
        exact ⟨rfl, by assumption⟩
    · have Hok : Hid (divOk a b = true) := hok
      clear hok
      refine (div_yes a b _ HA.out HB.out Hok.out).mono ?_
      rintro e w5 ⟨rfl, hb⟩
      have h5 : Below w.heap.size w w5 := keepA (below_alloc h4 _) hb
      have u1 : Box w5 w1.heap.size 1 a ⟨#[]⟩ false := ((Box.mk e0 e1 e2 e3).alloc _).keep hb
      have u2 : Box w5 w2.heap.size 1 b ⟨#[]⟩ false := ((Box.mk f0 f1 f2 f3).alloc _).keep hb
      clear hb h4 e0 e1 e2 e3 f0 f1 f2 f3 lt1 lt2
      obtain ⟨e0, e1, e2, e3⟩ := u1
      obtain ⟨f0, f1, f2, f3⟩ := u2
      have lt1 : w1.heap.size < w5.heap.size := World.block_lt_of_cell? w5 _ e0
      have lt2 : w2.heap.size < w5.heap.size := World.block_lt_of_cell? w5 _ f0
      obtain ⟨hd0, hdr⟩ := divOk_true Hok.out
      obtain ⟨F1, F2, F3⟩ := rest_facts a b hd0
      have G1 : Hid (inR (a.tdiv b * b) = true) := inR_true.2 (by have := HA.out; unfold R64 at this; omega)
      have G2 : Hid (inR (a - a.tdiv b * b) = true) := inR_true.2 (by have := HA.out; unfold R64 at this; omega)
      have F : Hid _ := F1
      clear F1 F2 F3 hd0
      have HD : Hid (R64 (a.tdiv b)) := hdr
      clear hdr
      go_wp2_with fail
      refine (mul_yes (a.tdiv b) b _ HD.out HB.out G1.out).mono ?_
      rintro e w6 ⟨rfl, hb⟩
      have h6 : Below w.heap.size w w6 := keepA (below_alloc h5 _) hb
      have u1 : Box w6 w1.heap.size 1 a ⟨#[]⟩ false := ((Box.mk e0 e1 e2 e3).alloc _).keep hb
      clear hb h5 e0 e1 e2 e3 f0 f1 f2 f3 lt1 lt2
      obtain ⟨e0, e1, e2, e3⟩ := u1
      have lt1 : w1.heap.size < w6.heap.size := World.block_lt_of_cell? w6 _ e0
      go_wp2_with fail
      refine (sub_yes a (a.tdiv b * b) _ HA.out (inR_true.1 G1.out) G2.out).mono ?_
      rintro e w7 ⟨rfl, hb⟩
      have h7 : Below w.heap.size w w7 := keepA (below_alloc h6 _) hb
      clear hb h6 e0 e1 e2 e3 lt1
      have F1 := F.out
      have F2 := inR_true.1 G2.out
      clear F G1 G2 HD Hok Hin
      obtain ⟨a1, a2⟩ := HA.out
      obtain ⟨b1, b2⟩ := HB.out
      clear HA HB
      generalize a - a.tdiv b * b = R at *
      generalize a.tdiv b * b = Z at *
      generalize a.tdiv b = Q at *
      obtain ⟨r1, r2⟩ := F2
      rcases F1 with rfl | ⟨c1, c2, c3 | c3⟩ | ⟨c1, c2, c3 | c3⟩
      all_goals
        go_wp2_with (go_at_call 10; refine (alive_any _).mono ?_; rintro e w' ⟨rfl, hb⟩; have hk := keepA (W0 := w) (below_alloc (by assumption) _) hb; clear hb)
        all_goals
          go_ret
          exact ⟨rfl, by assumption⟩
end Go.Proofs.YticlmegcpneckabDoor

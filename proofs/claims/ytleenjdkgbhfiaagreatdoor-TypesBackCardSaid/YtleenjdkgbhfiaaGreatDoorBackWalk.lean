/- The walk of the law TypesBack: numbers and truth values go there and back. -/
import Derived.Test.YtleenjdkgbhfiaaGreatDoorT2Set2
import Derived.Test.YtleenjdkgbhfiaaGreatDoorT2Cast
import Derived.Test.YtleenjdkgbhfiaaGreatDoorT2BackMath
import Derived.Deep.Cut
import Derived.Deep.DeepCutAuto
namespace Go.Proofs.YtleenjdkgbhfiaaGreatDoor
open Go.RowKit Go.Joins
set_option linter.unusedVariables false

theorem tmod81 {x : Int} (h : x ≤ 0) : -80 ≤ x.tmod 81 ∧ x.tmod 81 ≤ 0 := by
  obtain ⟨n, hn⟩ := Int.eq_ofNat_of_zero_le (a := -x) (by omega)
  obtain rfl : x = -(n : Int) := by omega
  rw [Int.neg_tmod, Int.tmod_eq_emod_of_nonneg (by omega)]
  omega
theorem there_num (n base l : Int) (a : Addr) (hb : base = 4 ∨ base = 5) (hl : 20 ≤ l ∧ l ≤ 100) (hn : -9223372036854775808 ≤ n ∧ n ≤ 9223372036854775807) : ∃ S : ByteArray,
    (∀ w : World, LibW a w → Calls Tryz.prog 19 #[val 1 n ⟨#[]⟩ false, typ base l] w fun e w' => e = .returned (.tuple #[val 2 0 S false, .string sDone]) ∧ Below w.heap.size w w') ∧
    (∀ w : World, LibW a w → Calls Tryz.prog 19 #[val 2 0 S false, typ 3 0] w fun e w' => e = .returned (.tuple #[val 1 n ⟨#[]⟩ false, .string sDone]) ∧ Below w.heap.size w w') := by
  have hk : kindT base l = 2 := by rcases hb with rfl | rfl <;> simp [kindT, rightT] <;> omega
  have hlen := itoa_len hn
  refine ⟨⟨(padL (Lib.itoa n) base l).toArray⟩, fun w hL => ?_, fun w hL => ?_⟩
  · have g := tcast_any 1 n ⟨#[]⟩ false base l a w (Or.inr (Or.inl ⟨rfl, rfl, rfl⟩)) hn (by decide) hL
    rw [show castA 1 n (⟨#[]⟩ : ByteArray).data.toList false base l = ansText (padL (Lib.itoa n) base l) by simp only [castA, hk]; simp [toldA]; omega] at g
    exact g
  · have hsz : (padL (Lib.itoa n) base l).length ≤ 200 := by
      unfold padL
      split
      · rw [List.length_append, List.length_replicate]; omega
      · omega
    have g := tcast_any 2 0 ⟨(padL (Lib.itoa n) base l).toArray⟩ false 3 0 a w (Or.inr (Or.inr (Or.inl ⟨rfl, rfl, rfl⟩))) (by decide) (by show (padL (Lib.itoa n) base l).toArray.size ≤ _; rw [List.size_toArray]; omega) hL
    rw [show castA 2 0 (⟨(padL (Lib.itoa n) base l).toArray⟩ : ByteArray).data.toList false 3 0 = ansNum n from back_num hn base l] at g
    exact g
theorem there_bool (b : Bool) (base l : Int) (a : Addr) (hb : base = 4 ∨ base = 5) (hl : 20 ≤ l ∧ l ≤ 100) : ∃ S : ByteArray,
    (∀ w : World, LibW a w → Calls Tryz.prog 19 #[val 3 0 ⟨#[]⟩ b, typ base l] w fun e w' => e = .returned (.tuple #[val 2 0 S false, .string sDone]) ∧ Below w.heap.size w w') ∧
    (∀ w : World, LibW a w → Calls Tryz.prog 19 #[val 2 0 S false, typ 6 0] w fun e w' => e = .returned (.tuple #[val 3 0 ⟨#[]⟩ b, .string sDone]) ∧ Below w.heap.size w w') := by
  have hk : kindT base l = 2 := by rcases hb with rfl | rfl <;> simp [kindT, rightT] <;> omega
  have hlen : (wordB b).length ≤ 5 := by cases b <;> decide
  refine ⟨⟨(padL (wordB b) base l).toArray⟩, fun w hL => ?_, fun w hL => ?_⟩
  · have g := tcast_any 3 0 ⟨#[]⟩ b base l a w (Or.inr (Or.inr (Or.inr ⟨rfl, rfl, rfl⟩))) (by decide) (by decide) hL
    rw [show castA 3 0 (⟨#[]⟩ : ByteArray).data.toList b base l = ansText (padL (wordB b) base l) by simp only [castA, hk]; simp [toldA]; omega] at g
    exact g
  · have hsz : (padL (wordB b) base l).length ≤ 200 := by
      unfold padL
      split
      · rw [List.length_append, List.length_replicate]; omega
      · omega
    have g := tcast_any 2 0 ⟨(padL (wordB b) base l).toArray⟩ false 6 0 a w (Or.inr (Or.inr (Or.inl ⟨rfl, rfl, rfl⟩))) (by decide) (by show (padL (wordB b) base l).toArray.size ≤ _; rw [List.size_toArray]; omega) hL
    rw [show castA 2 0 (⟨(padL (wordB b) base l).toArray⟩ : ByteArray).data.toList false 6 0 = ansBool b from back_bool b base l] at g
    exact g
theorem keepVV {w4 w' : World} {p1 p2 : Nat} {K1 N1 K2 N2 : Int} {S1 S2 : ByteArray} {B1 B2 : Bool} (x : Box w4 p1 K1 N1 S1 B1) (y : Box w4 p2 K2 N2 S2 B2) (h : Below w4.heap.size w4 w') :
    Below w4.heap.size w4 w' ∧ w'.cell? ⟨p1, 0, none⟩ = some (.int .i64 K1) ∧ w'.cell? ⟨p1, 1, none⟩ = some (.int .i64 N1) ∧ w'.cell? ⟨p1, 2, none⟩ = some (.string S1) ∧ w'.cell? ⟨p1, 3, none⟩ = some (.bool B1) ∧ w'.cell? ⟨p2, 0, none⟩ = some (.int .i64 K2) ∧ w'.cell? ⟨p2, 1, none⟩ = some (.int .i64 N2) ∧ w'.cell? ⟨p2, 2, none⟩ = some (.string S2) ∧ w'.cell? ⟨p2, 3, none⟩ = some (.bool B2) :=
  ⟨h, cell_keep h x.c0, cell_keep h x.c1, cell_keep h x.c2, cell_keep h x.c3, cell_keep h y.c0, cell_keep h y.c1, cell_keep h y.c2, cell_keep h y.c3⟩
set_option maxHeartbeats 20000000 in
set_option maxRecDepth 100000 in
theorem back_law (n : Int) (b : Bool) (z : Int) (f : Bool) (a : Addr) (w : World) (hn : -9223372036854775808 ≤ n ∧ n ≤ 9223372036854775807) (hz : -9223372036854775808 ≤ z ∧ z ≤ 9223372036854775807) (hL : LibW a w) :
    Calls Tryz.prog 7 #[.agg #[.int .i64 n, .bool b, .int .i64 z, .bool f]] w fun e w' => e = .returned (.bool true) ∧ Below w.heap.size w w' := by
  have HN : Hid (-9223372036854775808 ≤ n ∧ n ≤ 9223372036854775807) := hn
  clear hn
  go_enter Tryz.func7, Tryz.ntmps7
  go_wp2_with fail
  go_quiet (fail)
  go_upto_if 25 with fail
  go_cut [5] (fun v5 wx => ∃ q : Int, v5 = .int .i64 q ∧ (0 ≤ q ∧ q ≤ 9223372036854775807) ∧ Below w.heap.size w wx)
  case first =>
    by_cases hz0 : z < 0
    · go_wp2_with fail
      go_meet
      case rel => exact ⟨_, rfl, by omega, below_drewN (below_alloc (Below.refl _ _) _) _⟩
    · go_wp2_with fail
      go_meet
      case rel => exact ⟨_, rfl, by omega, below_drewN (below_alloc (Below.refl _ _) _) _⟩
  case rest =>
  obtain ⟨q, rfl, hq, kk⟩ := hcut
  clear hz
  have hq81 : 0 ≤ q % 81 ∧ q % 81 ≤ 80 := by omega
  go_upto_if 33 with fail
  go_cut [7] (fun v7 wx => ∃ (pt : Nat) (base l : Int), v7 = .pointer (some ⟨pt, 0, none⟩) ∧ (base = 4 ∨ base = 5) ∧ (20 ≤ l ∧ l ≤ 100) ∧ TB wx pt base l ∧ Below w.heap.size w wx)
  case first =>
    cases f
    · go_wp2_with fail
      go_meet
      case rel => exact ⟨_, 5, _, rfl, Or.inr rfl, by omega, TB.newAt _ _ _ rfl, below_alloc kk _⟩
    · go_wp2_with fail
      go_meet
      case rel => exact ⟨_, 4, _, rfl, Or.inl rfl, by omega, TB.newAt _ _ _ rfl, below_alloc kk _⟩
  case rest =>
  clear hq hq81 kk
  obtain ⟨pt, base, l, rfl, hbs, hl, tb, kk⟩ := hcut
  obtain ⟨S1, TC1, TC2⟩ := there_num n base l a hbs hl HN.out
  obtain ⟨S3, TC3, TC4⟩ := there_bool b base l a hbs hl
  have NUM := fun w => num_any n w
  clear hbs hl HN
  go_wp2_with fail
  go_cut [8, 9] (fun vv ee wx => ∃ p : Nat, vv = .pointer (some ⟨p, 0, none⟩) ∧ ee = .string sDone ∧ Box wx p 2 0 S1 false ∧ TB wx pt base l ∧ Below w.heap.size w wx)
  case first =>
    have l_tb := World.block_lt_of_cell? wc _ tb.d0
    obtain ⟨d_tb0, d_tb1⟩ := id tb
    go_region_with (first
      | (go_at_call 23; (first | refine (drewC NUM _).mono ?_ | refine (NUM _).mono ?_); rintro e w1a ⟨rfl, hb⟩; have tb_0 : TB w1a pt base l := (by first | exact tb.keep hb | exact (tb.alloc _).keep hb); have l_tb_0 := World.block_lt_of_cell? w1a _ tb_0.d0; obtain ⟨d_tb_00, d_tb_01⟩ := id tb_0; have kk_0 : Below w.heap.size w w1a := (by first | exact keepA kk hb | exact keepA (below_alloc kk _) hb); (try (have y0_0 : Box w1a wc.heap.size 0 0 ⟨#[]⟩ false := (Box.new wc 0 0 ⟨#[]⟩ false _).keep hb; have ly0_0 := y0_0.lt; have oy0_0 : Open4 w1a wc.heap.size := (Open4.newAt (W := wc) (b := wc.heap.size) 0 0 ⟨#[]⟩ false _ rfl).keep (by simp) hb; obtain ⟨cy0_00, cy0_01, cy0_02, cy0_03⟩ := id y0_0; obtain ⟨gy0_00, gy0_01, gy0_02, gy0_03⟩ := id oy0_0)); clear hb d_tb0 d_tb1)
      | (go_at_call 19; (first | refine (drewL TC1 _ (by first | exact hL.keep kk_0 | exact hL.keep (below_alloc kk_0 _))).mono ?_ | refine (TC1 _ (by first | exact hL.keep kk_0 | exact hL.keep (below_alloc kk_0 _))).mono ?_); rintro e w1b ⟨rfl, hb⟩; have tb_1 : TB w1b pt base l := (by first | exact tb_0.keep hb | exact (tb_0.alloc _).keep hb); have l_tb_1 := World.block_lt_of_cell? w1b _ tb_1.d0; obtain ⟨d_tb_10, d_tb_11⟩ := id tb_1; have kk_1 : Below w.heap.size w w1b := (by first | exact keepA kk_0 hb | exact keepA (below_alloc kk_0 _) hb); (try (have y0_1 : Box w1b wc.heap.size 0 0 ⟨#[]⟩ false := y0_0.keep hb; have ly0_1 := y0_1.lt; have oy0_1 : Open4 w1b wc.heap.size := oy0_0.keep y0_0.lt hb; obtain ⟨cy0_10, cy0_11, cy0_12, cy0_13⟩ := id y0_1; obtain ⟨gy0_10, gy0_11, gy0_12, gy0_13⟩ := id oy0_1)); (try (have y1_1 : Box w1b w1a.heap.size 0 0 ⟨#[]⟩ false := (Box.new w1a 0 0 ⟨#[]⟩ false _).keep hb; have ly1_1 := y1_1.lt; have oy1_1 : Open4 w1b w1a.heap.size := (Open4.newAt (W := w1a) (b := w1a.heap.size) 0 0 ⟨#[]⟩ false _ rfl).keep (by simp) hb; obtain ⟨cy1_10, cy1_11, cy1_12, cy1_13⟩ := id y1_1; obtain ⟨gy1_10, gy1_11, gy1_12, gy1_13⟩ := id oy1_1)); clear hb d_tb_00 d_tb_01))
    all_goals go_wp2_with fail
    all_goals go_meet
    all_goals first
      | exact ⟨_, rfl, rfl, Box.new _ _ _ _ _ _, tb_1.alloc _, below_alloc kk_1 _⟩
      | exact ⟨_, rfl, rfl, set4_box y0_1 _ _ _ _, tb_1.set4 (by omega), set4_below kk_1 (by first | (have := kk.size; omega) | (have := kk_0.size; omega))⟩
      | exact ⟨_, rfl, rfl, set4_box y1_1 _ _ _ _, tb_1.set4 (by omega), set4_below kk_1 (by first | (have := kk.size; omega) | (have := kk_0.size; omega))⟩
  case rest =>
  obtain ⟨p1, rfl, rfl, x1, tb, kk⟩ := hcut
  have l_x1 := x1.lt
  obtain ⟨c_x10, c_x11, c_x12, c_x13⟩ := id x1
  have l_tb := World.block_lt_of_cell? _ _ tb.d0
  obtain ⟨d_tb0, d_tb1⟩ := id tb
  go_wp2_with fail
  refine (TC2 _ (by first | exact hL.keep kk | exact hL.keep (below_alloc kk _))).mono ?_
  rintro e w2 ⟨rfl, hb⟩
  replace x1 := (by first | exact x1.keep hb | exact (x1.alloc _).keep hb : Box w2 _ _ _ _ _)
  replace tb := (by first | exact tb.keep hb | exact (tb.alloc _).keep hb : TB w2 _ _ _)
  replace kk : Below w.heap.size w w2 := (by first | exact keepA kk hb | exact keepA (below_alloc kk _) hb)
  clear hb l_x1 c_x10 c_x11 c_x12 c_x13 l_tb d_tb0 d_tb1
  clear x1
  have l_tb := World.block_lt_of_cell? _ _ tb.d0
  obtain ⟨d_tb0, d_tb1⟩ := id tb
  go_wp2_with fail
  refine (TC3 _ (by first | exact hL.keep kk | exact hL.keep (below_alloc kk _))).mono ?_
  rintro e w3 ⟨rfl, hb⟩
  have x2 := (Box.new w2 1 n ⟨#[]⟩ false _).keep hb
  replace tb := (by first | exact tb.keep hb | exact (tb.alloc _).keep hb : TB w3 _ _ _)
  replace kk : Below w.heap.size w w3 := (by first | exact keepA kk hb | exact keepA (below_alloc kk _) hb)
  clear hb  l_tb d_tb0 d_tb1
  clear tb
  have l_x2 := x2.lt
  obtain ⟨c_x20, c_x21, c_x22, c_x23⟩ := id x2
  go_wp2_with fail
  refine (TC4 _ (by first | exact hL.keep kk | exact hL.keep (below_alloc kk _))).mono ?_
  rintro e w4 ⟨rfl, hb⟩
  replace x2 := (by first | exact x2.keep hb | exact (x2.alloc _).keep hb : Box w4 _ _ _ _ _)
  replace kk : Below w.heap.size w w4 := (by first | exact keepA kk hb | exact keepA (below_alloc kk _) hb)
  clear hb l_x2 c_x20 c_x21 c_x22 c_x23 
  go_wp2_with fail
  have x4 := Box.new w4 3 0 ⟨#[]⟩ b 34
  replace x2 := x2.alloc (.cells #[.int .i64 3, .int .i64 0, .string ⟨#[]⟩, .bool b] 34)
  replace kk := below_alloc kk (.cells #[.int .i64 3, .int .i64 0, .string ⟨#[]⟩, .bool b] 34)
  generalize (w4.alloc (.cells #[.int .i64 3, .int .i64 0, .string ⟨#[]⟩, .bool b] 34)) = w5 at x4 x2 kk ⊢
  have LL := hL.keep kk
  go_region_held3 (fun w' => Below w5.heap.size w5 w' ∧ w'.cell? ⟨w2.heap.size, 0, none⟩ = some (.int .i64 1) ∧ w'.cell? ⟨w2.heap.size, 1, none⟩ = some (.int .i64 n) ∧ w'.cell? ⟨w2.heap.size, 2, none⟩ = some (.string ⟨#[]⟩) ∧ w'.cell? ⟨w2.heap.size, 3, none⟩ = some (.bool false) ∧ w'.cell? ⟨w4.heap.size, 0, none⟩ = some (.int .i64 3) ∧ w'.cell? ⟨w4.heap.size, 1, none⟩ = some (.int .i64 0) ∧ w'.cell? ⟨w4.heap.size, 2, none⟩ = some (.string ⟨#[]⟩) ∧ w'.cell? ⟨w4.heap.size, 3, none⟩ = some (.bool b)) (first | exact keepVV x2 x4 (by assumption) | exact keepVV x2 x4 (Below.refl _ _).drew | exact keepVV x2 x4 (Below.refl _ _))
    (first
      | (go_at_call 9; refine (alive_any a _ (libAt LL (by assumption))).mono ?_; rintro e w' ⟨rfl, hb⟩; have hk := keepF (by assumption) hb; clear hb)
      | (go_at_call 23; refine (num_any _ _).mono ?_; rintro e w' ⟨rfl, hb⟩; have hk := keepF (by assumption) hb; clear hb))
  all_goals go_wp2
  all_goals
    go_ret
    exact ⟨rfl, keepA kk (by assumption)⟩
end Go.Proofs.YtleenjdkgbhfiaaGreatDoor

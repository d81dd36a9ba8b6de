/- The walk of the law TypesCasts: what any value comes to as one of any type is as the document says; what the document's own Cast comes to is a hypothesis. -/
import Derived.Test.YtfmnlgepllgpnaaGreatDoorT2Set2
import Derived.Test.YtfmnlgepllgpnaaGreatDoorT2Cast
import Derived.Test.YtfmnlgepllgpnaaGreatDoorT2Raw
import Derived.Test.YtfmnlgepllgpnaaGreatDoorT2Alive
import Derived.Deep.Cut
import Derived.Deep.DeepCutAuto
namespace Go.Proofs.YtfmnlgepllgpnaaGreatDoor
open Go.RowKit Go.Joins
set_option linter.unusedVariables false

set_option maxHeartbeats 20000000 in
set_option maxRecDepth 100000 in
theorem casts_given (k n : Int) (s : ByteArray) (b : Bool) (base size : Int) (a : Addr) (w : World) (hk : -9223372036854775808 ≤ k ∧ k ≤ 9223372036854775807) (hn : -9223372036854775808 ≤ n ∧ n ≤ 9223372036854775807) (hs : s.size ≤ 140737488355328) (hL : LibW a w)
    (RC0 : ∀ (K N : Int) (S : ByteArray) (B : Bool) (w : World), RightV K N S B → (-9223372036854775808 ≤ N ∧ N ≤ 9223372036854775807) → S.size ≤ 140737488355328 → Calls Tryz.prog 6 #[val K N S B, typ base size] w fun e w' => e = .returned ((castA K N S.data.toList B base size).ret) ∧ Below w.heap.size w w') :
    Calls Tryz.prog 3 #[val k n s b, .int .i64 base, .int .i64 size] w fun e w' => e = .returned (.bool true) ∧ Below w.heap.size w w' := by
  have HK : Hid (-9223372036854775808 ≤ k ∧ k ≤ 9223372036854775807) := hk
  have HN := rvN_in (k := k) hn
  have HS := rvS_le (k := k) hs
  have HR := raw_right k n s b
  have RV := fun w => rawValue_is k n s b w HK
  clear hk hn hs HK
  generalize p4 k = K at *
  generalize rvN k n = N at *
  generalize rvS k s = S at *
  generalize rvB k b = B at *
  have TC := fun w hL => tcast_any K N S B base size a w HR HN HS hL
  have RC := fun w => RC0 K N S B w HR HN HS
  generalize castA K N S.data.toList B base size = A at *
  clear HN HS HR RC0
  go_enter Tryz.func3, Tryz.ntmps3
  go_wp2_with fail
  obtain ⟨xr, tb, kk⟩ := start_boxes w k n s b base size 23 26
  generalize ((w.alloc (.cells #[.int .i64 k, .int .i64 n, .string s, .bool b] 23)).alloc (.cells #[.int .i64 base, .int .i64 size] 26)) = w0 at xr tb kk ⊢
  go_cut [8, 9] (fun vv ee wx => ∃ p : Nat, vv = .pointer (some ⟨p, 0, none⟩) ∧ ee = .string A.st ∧ Box wx p A.k A.n A.s A.b ∧ Box wx w.heap.size k n s b ∧ TB wx (w.heap.size + 1) base size ∧ Below w.heap.size w wx)
  case first =>
    have l_xr := xr.lt
    obtain ⟨c_xr0, c_xr1, c_xr2, c_xr3⟩ := id xr
    have l_tb := World.block_lt_of_cell? w0 _ tb.d0
    obtain ⟨d_tb0, d_tb1⟩ := id tb
    go_region_with (first
      | (go_at_call 5; (first | refine (drewC RV _).mono ?_ | refine (RV _).mono ?_); rintro e w1a ⟨rfl, hb⟩; have xr_0 : Box w1a w.heap.size k n s b := (by first | exact xr.keep hb | exact (xr.alloc _).keep hb); have l_xr_0 := xr_0.lt; obtain ⟨c_xr_00, c_xr_01, c_xr_02, c_xr_03⟩ := id xr_0; have tb_0 : TB w1a (w.heap.size + 1) base size := (by first | exact tb.keep hb | exact (tb.alloc _).keep hb); have l_tb_0 := World.block_lt_of_cell? w1a _ tb_0.d0; obtain ⟨d_tb_00, d_tb_01⟩ := id tb_0; have kk_0 : Below w.heap.size w w1a := (by first | exact keepA kk hb | exact keepA (below_alloc kk _) hb); (try (have y0_0 : Box w1a w0.heap.size 0 0 ⟨#[]⟩ false := (Box.new w0 0 0 ⟨#[]⟩ false _).keep hb; have ly0_0 := y0_0.lt; have oy0_0 : Open4 w1a w0.heap.size := (Open4.newAt (W := w0) (b := w0.heap.size) 0 0 ⟨#[]⟩ false _ rfl).keep (by simp) hb; obtain ⟨cy0_00, cy0_01, cy0_02, cy0_03⟩ := id y0_0; obtain ⟨gy0_00, gy0_01, gy0_02, gy0_03⟩ := id oy0_0)); clear hb c_xr0 c_xr1 c_xr2 c_xr3 d_tb0 d_tb1)
      | (go_at_call 4; (first | refine (drewL TC _ (by first | exact hL.keep kk_0 | exact hL.keep (below_alloc kk_0 _))).mono ?_ | refine (TC _ (by first | exact hL.keep kk_0 | exact hL.keep (below_alloc kk_0 _))).mono ?_); rintro e w1b ⟨rfl, hb⟩; have xr_1 : Box w1b w.heap.size k n s b := (by first | exact xr_0.keep hb | exact (xr_0.alloc _).keep hb); have l_xr_1 := xr_1.lt; obtain ⟨c_xr_10, c_xr_11, c_xr_12, c_xr_13⟩ := id xr_1; have tb_1 : TB w1b (w.heap.size + 1) base size := (by first | exact tb_0.keep hb | exact (tb_0.alloc _).keep hb); have l_tb_1 := World.block_lt_of_cell? w1b _ tb_1.d0; obtain ⟨d_tb_10, d_tb_11⟩ := id tb_1; have kk_1 : Below w.heap.size w w1b := (by first | exact keepA kk_0 hb | exact keepA (below_alloc kk_0 _) hb); (try (have y0_1 : Box w1b w0.heap.size 0 0 ⟨#[]⟩ false := y0_0.keep hb; have ly0_1 := y0_1.lt; have oy0_1 : Open4 w1b w0.heap.size := oy0_0.keep y0_0.lt hb; obtain ⟨cy0_10, cy0_11, cy0_12, cy0_13⟩ := id y0_1; obtain ⟨gy0_10, gy0_11, gy0_12, gy0_13⟩ := id oy0_1)); (try (have y1_1 : Box w1b w1a.heap.size 0 0 ⟨#[]⟩ false := (Box.new w1a 0 0 ⟨#[]⟩ false _).keep hb; have ly1_1 := y1_1.lt; have oy1_1 : Open4 w1b w1a.heap.size := (Open4.newAt (W := w1a) (b := w1a.heap.size) 0 0 ⟨#[]⟩ false _ rfl).keep (by simp) hb; obtain ⟨cy1_10, cy1_11, cy1_12, cy1_13⟩ := id y1_1; obtain ⟨gy1_10, gy1_11, gy1_12, gy1_13⟩ := id oy1_1)); clear hb c_xr_00 c_xr_01 c_xr_02 c_xr_03 d_tb_00 d_tb_01))
    all_goals go_wp2_with fail
    all_goals go_meet
    all_goals first
      | exact ⟨_, rfl, rfl, Box.new _ _ _ _ _ _, xr_1.alloc _, tb_1.alloc _, below_alloc kk_1 _⟩
      | exact ⟨_, rfl, rfl, set4_box y0_1 _ _ _ _, set4_keep xr_1 (by omega), tb_1.set4 (by omega), set4_below kk_1 (by first | (have := kk.size; omega) | (have := kk_0.size; omega))⟩
      | exact ⟨_, rfl, rfl, set4_box y1_1 _ _ _ _, set4_keep xr_1 (by omega), tb_1.set4 (by omega), set4_below kk_1 (by first | (have := kk.size; omega) | (have := kk_0.size; omega))⟩
  case rest =>
  obtain ⟨p1, rfl, rfl, x1, xr, tb, kk⟩ := hcut
  go_wp2_with fail
  go_cut [10, 11] (fun vv ee wx => ∃ p : Nat, vv = .pointer (some ⟨p, 0, none⟩) ∧ ee = .string A.st ∧ Box wx p A.k A.n A.s A.b ∧ Box wx w.heap.size k n s b ∧ Box wx p1 A.k A.n A.s A.b ∧ TB wx (w.heap.size + 1) base size ∧ Below w.heap.size w wx)
  case first =>
    have l_xr := xr.lt
    obtain ⟨c_xr0, c_xr1, c_xr2, c_xr3⟩ := id xr
    have l_x1 := x1.lt
    obtain ⟨c_x10, c_x11, c_x12, c_x13⟩ := id x1
    have l_tb := World.block_lt_of_cell? wc _ tb.d0
    obtain ⟨d_tb0, d_tb1⟩ := id tb
    go_region_with (first
      | (go_at_call 5; (first | refine (drewC RV _).mono ?_ | refine (RV _).mono ?_); rintro e w2a ⟨rfl, hb⟩; have xr_0 : Box w2a w.heap.size k n s b := (by first | exact xr.keep hb | exact (xr.alloc _).keep hb); have l_xr_0 := xr_0.lt; obtain ⟨c_xr_00, c_xr_01, c_xr_02, c_xr_03⟩ := id xr_0; have x1_0 : Box w2a p1 A.k A.n A.s A.b := (by first | exact x1.keep hb | exact (x1.alloc _).keep hb); have l_x1_0 := x1_0.lt; obtain ⟨c_x1_00, c_x1_01, c_x1_02, c_x1_03⟩ := id x1_0; have tb_0 : TB w2a (w.heap.size + 1) base size := (by first | exact tb.keep hb | exact (tb.alloc _).keep hb); have l_tb_0 := World.block_lt_of_cell? w2a _ tb_0.d0; obtain ⟨d_tb_00, d_tb_01⟩ := id tb_0; have kk_0 : Below w.heap.size w w2a := (by first | exact keepA kk hb | exact keepA (below_alloc kk _) hb); (try (have y0_0 : Box w2a wc.heap.size 0 0 ⟨#[]⟩ false := (Box.new wc 0 0 ⟨#[]⟩ false _).keep hb; have ly0_0 := y0_0.lt; have oy0_0 : Open4 w2a wc.heap.size := (Open4.newAt (W := wc) (b := wc.heap.size) 0 0 ⟨#[]⟩ false _ rfl).keep (by simp) hb; obtain ⟨cy0_00, cy0_01, cy0_02, cy0_03⟩ := id y0_0; obtain ⟨gy0_00, gy0_01, gy0_02, gy0_03⟩ := id oy0_0)); clear hb c_xr0 c_xr1 c_xr2 c_xr3 c_x10 c_x11 c_x12 c_x13 d_tb0 d_tb1)
      | (go_at_call 6; (first | refine (drewC RC _).mono ?_ | refine (RC _).mono ?_); rintro e w2b ⟨rfl, hb⟩; have xr_1 : Box w2b w.heap.size k n s b := (by first | exact xr_0.keep hb | exact (xr_0.alloc _).keep hb); have l_xr_1 := xr_1.lt; obtain ⟨c_xr_10, c_xr_11, c_xr_12, c_xr_13⟩ := id xr_1; have x1_1 : Box w2b p1 A.k A.n A.s A.b := (by first | exact x1_0.keep hb | exact (x1_0.alloc _).keep hb); have l_x1_1 := x1_1.lt; obtain ⟨c_x1_10, c_x1_11, c_x1_12, c_x1_13⟩ := id x1_1; have tb_1 : TB w2b (w.heap.size + 1) base size := (by first | exact tb_0.keep hb | exact (tb_0.alloc _).keep hb); have l_tb_1 := World.block_lt_of_cell? w2b _ tb_1.d0; obtain ⟨d_tb_10, d_tb_11⟩ := id tb_1; have kk_1 : Below w.heap.size w w2b := (by first | exact keepA kk_0 hb | exact keepA (below_alloc kk_0 _) hb); (try (have y0_1 : Box w2b wc.heap.size 0 0 ⟨#[]⟩ false := y0_0.keep hb; have ly0_1 := y0_1.lt; have oy0_1 : Open4 w2b wc.heap.size := oy0_0.keep y0_0.lt hb; obtain ⟨cy0_10, cy0_11, cy0_12, cy0_13⟩ := id y0_1; obtain ⟨gy0_10, gy0_11, gy0_12, gy0_13⟩ := id oy0_1)); (try (have y1_1 : Box w2b w2a.heap.size 0 0 ⟨#[]⟩ false := (Box.new w2a 0 0 ⟨#[]⟩ false _).keep hb; have ly1_1 := y1_1.lt; have oy1_1 : Open4 w2b w2a.heap.size := (Open4.newAt (W := w2a) (b := w2a.heap.size) 0 0 ⟨#[]⟩ false _ rfl).keep (by simp) hb; obtain ⟨cy1_10, cy1_11, cy1_12, cy1_13⟩ := id y1_1; obtain ⟨gy1_10, gy1_11, gy1_12, gy1_13⟩ := id oy1_1)); clear hb c_xr_00 c_xr_01 c_xr_02 c_xr_03 c_x1_00 c_x1_01 c_x1_02 c_x1_03 d_tb_00 d_tb_01))
    all_goals go_wp2_with fail
    all_goals go_meet
    all_goals first
      | exact ⟨_, rfl, rfl, Box.new _ _ _ _ _ _, xr_1.alloc _, x1_1.alloc _, tb_1.alloc _, below_alloc kk_1 _⟩
      | exact ⟨_, rfl, rfl, set4_box y0_1 _ _ _ _, set4_keep xr_1 (by omega), set4_keep x1_1 (by omega), tb_1.set4 (by omega), set4_below kk_1 (by first | (have := kk.size; omega) | (have := kk_0.size; omega))⟩
      | exact ⟨_, rfl, rfl, set4_box y1_1 _ _ _ _, set4_keep xr_1 (by omega), set4_keep x1_1 (by omega), tb_1.set4 (by omega), set4_below kk_1 (by first | (have := kk.size; omega) | (have := kk_0.size; omega))⟩
  case rest =>
  obtain ⟨p2, rfl, rfl, x2, xr, x1, tb, kk⟩ := hcut
  have LL := hL.keep kk
  go_wp2_with fail
  refine (alive_any a _ LL).mono ?_
  rintro e w9 ⟨rfl, hb⟩
  have z1 := x1.keep hb
  have z2 := x2.keep hb
  replace kk := keepA kk hb
  clear hb
  obtain ⟨a0, a1, a2, a3⟩ := id z1
  obtain ⟨b0, b1, b2, b3⟩ := id z2
  go_wp2_with fail
  all_goals (try go_quiet (fail))
  all_goals go_wp2
  all_goals
    go_ret
    exact ⟨rfl, by first | exact kk | exact below_drewN kk _ | exact kk.drew⟩
end Go.Proofs.YtfmnlgepllgpnaaGreatDoor

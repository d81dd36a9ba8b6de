/- The walk of the law TypesFixed: what stands in a column stays. -/
import Derived.Test.YtjajngngajnnpabGreatDoorFixMath
import Derived.Deep.Cut
import Derived.Deep.DeepCutAuto
namespace Go.Proofs.YtjajngngajnnpabGreatDoor
open Go.RowKit Go.Joins
set_option linter.unusedVariables false

theorem keep4 {W w' : World} {p1 p2 p3 p4 : Nat} {K1 N1 K2 N2 K3 N3 K4 N4 : Int} {S1 S2 S3 S4 : ByteArray} {B1 B2 B3 B4 : Bool} (x : Box W p1 K1 N1 S1 B1) (y : Box W p2 K2 N2 S2 B2) (z : Box W p3 K3 N3 S3 B3) (u : Box W p4 K4 N4 S4 B4) (h : Below W.heap.size W w') :
    Below W.heap.size W w' ∧ w'.cell? ⟨p1, 0, none⟩ = some (.int .i64 K1) ∧ w'.cell? ⟨p1, 1, none⟩ = some (.int .i64 N1) ∧ w'.cell? ⟨p1, 2, none⟩ = some (.string S1) ∧ w'.cell? ⟨p1, 3, none⟩ = some (.bool B1) ∧ w'.cell? ⟨p2, 0, none⟩ = some (.int .i64 K2) ∧ w'.cell? ⟨p2, 1, none⟩ = some (.int .i64 N2) ∧ w'.cell? ⟨p2, 2, none⟩ = some (.string S2) ∧ w'.cell? ⟨p2, 3, none⟩ = some (.bool B2) ∧ w'.cell? ⟨p3, 0, none⟩ = some (.int .i64 K3) ∧ w'.cell? ⟨p3, 1, none⟩ = some (.int .i64 N3) ∧ w'.cell? ⟨p3, 2, none⟩ = some (.string S3) ∧ w'.cell? ⟨p3, 3, none⟩ = some (.bool B3) ∧ w'.cell? ⟨p4, 0, none⟩ = some (.int .i64 K4) ∧ w'.cell? ⟨p4, 1, none⟩ = some (.int .i64 N4) ∧ w'.cell? ⟨p4, 2, none⟩ = some (.string S4) ∧ w'.cell? ⟨p4, 3, none⟩ = some (.bool B4) :=
  ⟨h, cell_keep h x.c0, cell_keep h x.c1, cell_keep h x.c2, cell_keep h x.c3, cell_keep h y.c0, cell_keep h y.c1, cell_keep h y.c2, cell_keep h y.c3, cell_keep h z.c0, cell_keep h z.c1, cell_keep h z.c2, cell_keep h z.c3, cell_keep h u.c0, cell_keep h u.c1, cell_keep h u.c2, cell_keep h u.c3⟩
theorem keep2 {W w' : World} {p1 pt : Nat} {K1 N1 : Int} {S1 : ByteArray} {B1 : Bool} {b l : Int} (x : Box W p1 K1 N1 S1 B1) (t : TB W pt b l) (h : Below W.heap.size W w') :
    Below W.heap.size W w' ∧ w'.cell? ⟨p1, 0, none⟩ = some (.int .i64 K1) ∧ w'.cell? ⟨pt, 0, none⟩ = some (.int .i64 b) ∧ w'.cell? ⟨pt, 1, none⟩ = some (.int .i64 l) :=
  ⟨h, cell_keep h x.c0, cell_keep h t.d0, cell_keep h t.d1⟩

set_option maxHeartbeats 20000000 in
set_option maxRecDepth 100000 in
theorem fixed_law (k n : Int) (s : ByteArray) (b : Bool) (base size : Int) (a : Addr) (w : World) (hk : -9223372036854775808 ≤ k ∧ k ≤ 9223372036854775807) (hn : -9223372036854775808 ≤ n ∧ n ≤ 9223372036854775807) (hs : s.size ≤ 140737488355328) (hL : LibW a w) :
    Calls Tryz.prog 3 #[val k n s b, .int .i64 base, .int .i64 size] w fun e w' => e = .returned (.bool true) ∧ Below w.heap.size w w' := by
  have HK : Hid (-9223372036854775808 ≤ k ∧ k ≤ 9223372036854775807) := hk
  have HN := rvN_in (k := k) hn
  have HS := rvS_le (k := k) hs
  have HR := raw_right k n s b
  have RV := fun w => rawValue_is k n s b w HK
  clear hk hn hs HK
  generalize p4 k = K at *
  generalize rvN k n = N at *
  generalize rvS k s = S at *
  generalize rvB k b = B at *
  have TA := fun w => tassign_any K N S B base size w HR HN (Nat.le_trans HS (by unfold maxLen; omega))
  have FC := fixed_cases K N S B base size HR HN
  have HS2 : Hid (S.size ≤ maxLen) := Nat.le_trans HS (by unfold maxLen; omega)
  generalize assignA K N S.data.toList B base size = A at *
  clear HN HS HR
  go_enter Tryz.func3, Tryz.ntmps3
  go_wp2_with fail
  obtain ⟨xr, tb, kk⟩ := start_boxes w k n s b base size 23 26
  generalize ((w.alloc (.cells #[.int .i64 k, .int .i64 n, .string s, .bool b] 23)).alloc (.cells #[.int .i64 base, .int .i64 size] 26)) = w0 at xr tb kk ⊢
  go_cut [8, 9] (fun vv ee wx => ∃ p : Nat, vv = .pointer (some ⟨p, 0, none⟩) ∧ ee = .string A.st ∧ Box wx p A.k A.n A.s A.b ∧ Box wx w.heap.size k n s b ∧ TB wx (w.heap.size + 1) base size ∧ Below w.heap.size w wx)
  case first =>
    have l_xr := xr.lt
    obtain ⟨c_xr0, c_xr1, c_xr2, c_xr3⟩ := id xr
    have l_tb := World.block_lt_of_cell? w0 _ tb.d0
    obtain ⟨d_tb0, d_tb1⟩ := id tb
    go_region_with (first
      | (go_at_call 6; (first | refine (drewC RV _).mono ?_ | refine (RV _).mono ?_); rintro e w1a ⟨rfl, hb⟩; have xr_0 : Box w1a w.heap.size k n s b := (by first | exact xr.keep hb | exact (xr.alloc _).keep hb); have l_xr_0 := xr_0.lt; obtain ⟨c_xr_00, c_xr_01, c_xr_02, c_xr_03⟩ := id xr_0; have tb_0 : TB w1a (w.heap.size + 1) base size := (by first | exact tb.keep hb | exact (tb.alloc _).keep hb); have l_tb_0 := World.block_lt_of_cell? w1a _ tb_0.d0; obtain ⟨d_tb_00, d_tb_01⟩ := id tb_0; have kk_0 : Below w.heap.size w w1a := (by first | exact keepA kk hb | exact keepA (below_alloc kk _) hb); (try (have y0_0 : Box w1a w0.heap.size 0 0 ⟨#[]⟩ false := (Box.new w0 0 0 ⟨#[]⟩ false _).keep hb; have ly0_0 := y0_0.lt; have oy0_0 : Open4 w1a w0.heap.size := (Open4.newAt (W := w0) (b := w0.heap.size) 0 0 ⟨#[]⟩ false _ rfl).keep (by simp) hb; obtain ⟨cy0_00, cy0_01, cy0_02, cy0_03⟩ := id y0_0; obtain ⟨gy0_00, gy0_01, gy0_02, gy0_03⟩ := id oy0_0)); clear hb c_xr0 c_xr1 c_xr2 c_xr3 d_tb0 d_tb1)
      | (go_at_call 5; (first | refine (drewC TA _).mono ?_ | refine (TA _).mono ?_); rintro e w1b ⟨rfl, hb⟩; have xr_1 : Box w1b w.heap.size k n s b := (by first | exact xr_0.keep hb | exact (xr_0.alloc _).keep hb); have l_xr_1 := xr_1.lt; obtain ⟨c_xr_10, c_xr_11, c_xr_12, c_xr_13⟩ := id xr_1; have tb_1 : TB w1b (w.heap.size + 1) base size := (by first | exact tb_0.keep hb | exact (tb_0.alloc _).keep hb); have l_tb_1 := World.block_lt_of_cell? w1b _ tb_1.d0; obtain ⟨d_tb_10, d_tb_11⟩ := id tb_1; have kk_1 : Below w.heap.size w w1b := (by first | exact keepA kk_0 hb | exact keepA (below_alloc kk_0 _) hb); (try (have y0_1 : Box w1b w0.heap.size 0 0 ⟨#[]⟩ false := y0_0.keep hb; have ly0_1 := y0_1.lt; have oy0_1 : Open4 w1b w0.heap.size := oy0_0.keep y0_0.lt hb; obtain ⟨cy0_10, cy0_11, cy0_12, cy0_13⟩ := id y0_1; obtain ⟨gy0_10, gy0_11, gy0_12, gy0_13⟩ := id oy0_1)); (try (have y1_1 : Box w1b w1a.heap.size 0 0 ⟨#[]⟩ false := (Box.new w1a 0 0 ⟨#[]⟩ false _).keep hb; have ly1_1 := y1_1.lt; have oy1_1 : Open4 w1b w1a.heap.size := (Open4.newAt (W := w1a) (b := w1a.heap.size) 0 0 ⟨#[]⟩ false _ rfl).keep (by simp) hb; obtain ⟨cy1_10, cy1_11, cy1_12, cy1_13⟩ := id y1_1; obtain ⟨gy1_10, gy1_11, gy1_12, gy1_13⟩ := id oy1_1)); clear hb c_xr_00 c_xr_01 c_xr_02 c_xr_03 d_tb_00 d_tb_01))
    all_goals go_wp2_with fail
    all_goals go_meet
    all_goals first
      | exact ⟨_, rfl, rfl, Box.new _ _ _ _ _ _, xr_1.alloc _, tb_1.alloc _, below_alloc kk_1 _⟩
      | exact ⟨_, rfl, rfl, set4_box y0_1 _ _ _ _, set4_keep xr_1 (by omega), tb_1.set4 (by omega), set4_below kk_1 (by first | (have := kk.size; omega) | (have := kk_0.size; omega))⟩
      | exact ⟨_, rfl, rfl, set4_box y1_1 _ _ _ _, set4_keep xr_1 (by omega), tb_1.set4 (by omega), set4_below kk_1 (by first | (have := kk.size; omega) | (have := kk_0.size; omega))⟩
  case rest =>
  obtain ⟨p1, rfl, rfl, x1, xr, tb, kk⟩ := hcut
  clear TA
  have eD : (⟨#[48, 48, 48, 48, 48]⟩ : ByteArray).toList = [48, 48, 48, 48, 48] := by rw [Lib.toList_data]
  rcases FC with ⟨st, hst, rfl⟩ | FS
  · have y1 : Box wc p1 0 0 ⟨#[]⟩ false := x1
    have LL := hL.keep kk
    simp only [ansNo]
    unfold Bad at hst
    clear xr tb x1 RV HS2
    go_wp2_with fail
    refine (alive_any a _ LL).mono ?_
    rintro e w9 ⟨rfl, hb⟩
    obtain ⟨a4, a5, a6, a7⟩ := y1.keep hb
    replace kk := keepA kk hb
    clear hb
    go_wp2
    go_ret
    exact ⟨rfl, kk⟩
  obtain ⟨ak, an, as_, ab, ast⟩ := A
  obtain ⟨e1, e2, e3, hR, hN, hlen, hO, hkd⟩ := FS
  simp only at e1 e2 e3 hR hN hlen hO hkd x1 ⊢
  subst e1
  have hka : ak = 0 ∨ ak = 1 ∨ ak = 2 ∨ ak = 3 := by
    rcases hR with h | h | h | h
    · exact Or.inl h.1
    · exact Or.inr (Or.inl h.1)
    · exact Or.inr (Or.inr (Or.inl h.1))
    · exact Or.inr (Or.inr (Or.inr h.1))
  have TA2 : ∀ w : World, Calls Tryz.prog 5 #[val ak an as_ ab, typ base size] w fun e w' => e = .returned (.tuple #[val ak an as_ ab, .string sDone]) ∧ Below w.heap.size w w' := fun w => by
    have g := tassign_any ak an as_ ab base size w hR hN (by unfold maxLen; omega)
    rw [e2] at g; exact g
  have TC2 : ∀ w : World, LibW a w → Calls Tryz.prog 8 #[val ak an as_ ab, typ base size] w fun e w' => e = .returned (.tuple #[val ak an as_ ab, .string sDone]) ∧ Below w.heap.size w w' := fun w hL => by
    have g := tcast_any ak an as_ ab base size a w hR hN (by omega) hL
    rw [e3] at g; exact g
  have RT : ∀ w : World, Calls Tryz.prog 10 #[val ak an as_ ab] w fun e w' => e = .returned (.bool true) ∧ Below w.heap.size w w' := fun w => by
    have g := vright_any ak an as_ ab w
    rw [right_is hR] at g; exact g
  have OD : ∀ w : World, Calls Tryz.prog 11 #[val ak an as_ ab, val K N S B] w fun e w' => e = .returned (.int .i64 0) ∧ Below w.heap.size w w' := fun w => by
    have g := order_any ak an as_ ab K N S B w hka (by unfold maxLen; omega) HS2.out
    rw [hO] at g; exact g
  have KO : ∀ w : World, Calls Tryz.prog 9 #[typ base size] w fun e w' => e = .returned (.int .i64 (kindT base size)) ∧ Below w.heap.size w w' := fun w => tkind_any base size w
  have HKD : Hid (ak = 0 ∨ ak = kindT base size) := hkd
  clear e2 e3 hR hN hlen hO hkd hka HS2
  generalize kindT base size = kd at *
  have l_x1 := x1.lt
  have l_tb := World.block_lt_of_cell? _ _ tb.d0
  obtain ⟨c0, c1, c2, c3⟩ := id x1
  obtain ⟨d0, d1⟩ := id tb
  go_wp2_with fail
  refine (TA2 _).mono ?_
  rintro e w2 ⟨rfl, hb⟩
  replace x1 := x1.keep hb
  replace xr := xr.keep hb
  replace tb := tb.keep hb
  replace kk := keepA kk hb
  clear hb c0 c1 c2 c3 d0 d1 TA2 l_x1 l_tb
  have l_x1 := x1.lt
  have l_tb := World.block_lt_of_cell? _ _ tb.d0
  obtain ⟨c0, c1, c2, c3⟩ := id x1
  obtain ⟨d0, d1⟩ := id tb
  go_wp2_with fail
  refine (TC2 _ (hL.keep (below_alloc kk _))).mono ?_
  rintro e w3 ⟨rfl, hb⟩
  have x2 := (Box.new w2 ak an as_ ab _).keep hb
  replace x1 := (x1.alloc _).keep hb
  replace xr := (xr.alloc _).keep hb
  replace tb := (tb.alloc _).keep hb
  replace kk := keepA (below_alloc kk _) hb
  clear hb c0 c1 c2 c3 d0 d1 TC2 l_x1 l_tb
  go_wp2_with fail
  have x3 := Box.new w3 ak an as_ ab 29
  replace x1 := x1.alloc (.cells #[.int .i64 ak, .int .i64 an, .string as_, .bool ab] 29)
  replace x2 := x2.alloc (.cells #[.int .i64 ak, .int .i64 an, .string as_, .bool ab] 29)
  replace xr := xr.alloc (.cells #[.int .i64 ak, .int .i64 an, .string as_, .bool ab] 29)
  replace tb := tb.alloc (.cells #[.int .i64 ak, .int .i64 an, .string as_, .bool ab] 29)
  replace kk := below_alloc kk (.cells #[.int .i64 ak, .int .i64 an, .string as_, .bool ab] 29)
  generalize (w3.alloc (.cells #[.int .i64 ak, .int .i64 an, .string as_, .bool ab] 29)) = w4 at x1 x2 x3 xr tb kk ⊢
  go_cut [14] (fun v14 wx => v14 = .bool true ∧ Box wx p1 ak an as_ ab ∧ Box wx w2.heap.size ak an as_ ab ∧ Box wx w3.heap.size ak an as_ ab ∧ Box wx w.heap.size k n s b ∧ Below w.heap.size w wx)
  case first =>
    cases z : (ak == 0)
    · have hz : (ak == kd) = true := by
        rcases HKD.out with h | h
        · rw [h] at z; simp at z
        · rw [h]; simp
      go_region_held3 (fun w' => Below w4.heap.size w4 w' ∧ w'.cell? ⟨p1, 0, none⟩ = some (.int .i64 ak) ∧ w'.cell? ⟨w.heap.size + 1, 0, none⟩ = some (.int .i64 base) ∧ w'.cell? ⟨w.heap.size + 1, 1, none⟩ = some (.int .i64 size)) (first | exact keep2 x1 tb (by assumption) | exact keep2 x1 tb (Below.refl _ _).drew | exact keep2 x1 tb (Below.refl _ _))
        ((go_at_call 9; refine (KO _).mono ?_; rintro e w5 ⟨rfl, hb⟩; have hk5 : Below w4.heap.size w4 w5 := (by first | exact keepA (by assumption) hb | exact (Below.refl _ _).drew.trans hb); clear hb))
      all_goals go_wp2_with fail
      all_goals go_meet
      all_goals exact ⟨rfl, x1.keep hk5, x2.keep hk5, x3.keep hk5, xr.keep hk5, keepA kk hk5⟩
    · have c0 := x1.c0
      go_quiet (fail)
      go_wp2_with fail
      go_meet
      exact ⟨rfl, x1.keep (below_drewN (Below.refl _ _) _), x2.keep (below_drewN (Below.refl _ _) _), x3.keep (below_drewN (Below.refl _ _) _), xr.keep (below_drewN (Below.refl _ _) _), below_drewN kk _⟩
  case rest =>
  clear x1 x2 x3 xr tb kk KO HKD
  obtain ⟨rfl, x1, x2, x3, xr, kk⟩ := hcut
  have LL := hL.keep kk
  go_wp2_with fail
  go_region_held3 (fun w' => Below wc.heap.size wc w' ∧ w'.cell? ⟨p1, 0, none⟩ = some (.int .i64 ak) ∧ w'.cell? ⟨p1, 1, none⟩ = some (.int .i64 an) ∧ w'.cell? ⟨p1, 2, none⟩ = some (.string as_) ∧ w'.cell? ⟨p1, 3, none⟩ = some (.bool ab) ∧ w'.cell? ⟨w2.heap.size, 0, none⟩ = some (.int .i64 ak) ∧ w'.cell? ⟨w2.heap.size, 1, none⟩ = some (.int .i64 an) ∧ w'.cell? ⟨w2.heap.size, 2, none⟩ = some (.string as_) ∧ w'.cell? ⟨w2.heap.size, 3, none⟩ = some (.bool ab) ∧ w'.cell? ⟨w3.heap.size, 0, none⟩ = some (.int .i64 ak) ∧ w'.cell? ⟨w3.heap.size, 1, none⟩ = some (.int .i64 an) ∧ w'.cell? ⟨w3.heap.size, 2, none⟩ = some (.string as_) ∧ w'.cell? ⟨w3.heap.size, 3, none⟩ = some (.bool ab) ∧ w'.cell? ⟨w.heap.size, 0, none⟩ = some (.int .i64 k) ∧ w'.cell? ⟨w.heap.size, 1, none⟩ = some (.int .i64 n) ∧ w'.cell? ⟨w.heap.size, 2, none⟩ = some (.string s) ∧ w'.cell? ⟨w.heap.size, 3, none⟩ = some (.bool b)) (first | exact keep4 x1 x2 x3 xr (by assumption) | exact keep4 x1 x2 x3 xr (Below.refl _ _).drew | exact keep4 x1 x2 x3 xr (Below.refl _ _))
    (first
      | (go_at_call 7; refine (alive_any a _ (libAt LL (by assumption))).mono ?_; rintro e w' ⟨rfl, hb⟩; have hk := keepF (by assumption) hb; clear hb)
      | (go_at_call 10; refine (RT _).mono ?_; rintro e w' ⟨rfl, hb⟩; have hk := keepF (by assumption) hb; clear hb)
      | (go_at_call 6; refine (RV _).mono ?_; rintro e w' ⟨rfl, hb⟩; have hk := keepF (by assumption) hb; clear hb)
      | (go_at_call 11; refine (OD _).mono ?_; rintro e w' ⟨rfl, hb⟩; have hk := keepF (by assumption) hb; clear hb))
  all_goals go_wp2
  all_goals
    go_ret
    exact ⟨rfl, keepA kk (by assumption)⟩
end Go.Proofs.YtjajngngajnnpabGreatDoor

/- The walk of the law TypesLong: a text has room. -/
import Derived.Test.YtjajngngajnnpabGreatDoorT2Set2
import Derived.Test.YtjajngngajnnpabGreatDoorT2Cast
import Derived.Test.YtjajngngajnnpabGreatDoorT2Raw
import Derived.Test.YtjajngngajnnpabGreatDoorT2Alive
import Derived.Deep.Cut
import Derived.Deep.DeepCutAuto
namespace Go.Proofs.YtjajngngajnnpabGreatDoor
open Go.RowKit Go.Joins
set_option linter.unusedVariables false

/-- How long a text is that stands in a column, by its type. -/
def Room (f : Bool) (l : Int) (T : List UInt8) : Prop := (T.length : Int) = l ∨ (f = false ∧ (T.length : Int) < l)
theorem pad_room (f : Bool) (l : Int) (hl : 1 ≤ l ∧ l ≤ 100) (T : List UInt8) (h : (T.length : Int) ≤ l) : Room f l (padL T (if f then 4 else 5) l) := by
  cases f
  · have : padL T (if false then 4 else 5) l = T := by simp [padL]
    rw [this]
    by_cases e : (T.length : Int) = l
    · exact Or.inl e
    · exact Or.inr ⟨rfl, by omega⟩
  · refine Or.inl ?_
    have : padL T (if true then 4 else 5) l = T ++ List.replicate (l.toNat - T.length) 32 := by simp [padL]
    rw [this, List.length_append, List.length_replicate]
    omega
def Bad (st : ByteArray) : Prop := (st.toList == [48, 48, 48, 48, 48]) = false
theorem bad_mis : Bad sMis := by unfold Bad; rw [Lib.toList_data]; decide
theorem bad_long : Bad sLong := by unfold Bad; rw [Lib.toList_data]; decide
/-- What assigning and casting come to at a type of texts. -/
theorem long_cases (K N : Int) (S : List UInt8) (B f : Bool) (l : Int) (hK : K = 0 ∨ K = 1 ∨ K = 2 ∨ K = 3) (hl : 1 ≤ l ∧ l ≤ 100) :
    (assignA K N S B (if f then 4 else 5) l = ansNo sDone ∧ castA K N S B (if f then 4 else 5) l = ansNo sDone) ∨
    (∃ T, Room f l T ∧ assignA K N S B (if f then 4 else 5) l = ansText T ∧ castA K N S B (if f then 4 else 5) l = ansText T) ∨
    (∃ st T, Bad st ∧ Room f l T ∧ assignA K N S B (if f then 4 else 5) l = ansNo st ∧ castA K N S B (if f then 4 else 5) l = ansText T) ∨
    (∃ st st', Bad st ∧ Bad st' ∧ assignA K N S B (if f then 4 else 5) l = ansNo st ∧ castA K N S B (if f then 4 else 5) l = ansNo st') := by
  have hk : kindT (if f then 4 else 5) l = 2 := by cases f <;> simp [kindT, rightT] <;> omega
  have ha : assignA K N S B (if f then 4 else 5) l = if K == 0 then ansNo sDone else if K != 2 then ansNo sMis else if K == 1 then numA N (if f then 4 else 5) else if K == 2 then textA S (if f then 4 else 5) l else ansBool B := by
    unfold assignA; rw [hk]; rfl
  have hc : castA K N S B (if f then 4 else 5) l = if K == 0 then ansNo sDone else if K == 1 then toldA (Lib.itoa N) (if f then 4 else 5) l else if K == 2 then ansText (padL (S.take l.toNat) (if f then 4 else 5) l) else toldA (wordB B) (if f then 4 else 5) l := by
    unfold castA; rw [hk]; rfl
  have told : ∀ T : List UInt8, (∃ U, Room f l U ∧ toldA T (if f then 4 else 5) l = ansText U) ∨ toldA T (if f then 4 else 5) l = ansNo sLong := fun T => by
    unfold toldA
    by_cases h : (T.length : Int) ≤ l
    · rw [if_pos h]; exact Or.inl ⟨_, pad_room f l hl T h, rfl⟩
    · rw [if_neg h]; exact Or.inr rfl
  rw [ha, hc]
  rcases hK with rfl | rfl | rfl | rfl
  · exact Or.inl ⟨rfl, rfl⟩
  · rcases told (Lib.itoa N) with ⟨U, hU, e⟩ | e
    · exact Or.inr (Or.inr (Or.inl ⟨sMis, U, bad_mis, hU, rfl, e⟩))
    · exact Or.inr (Or.inr (Or.inr ⟨sMis, sLong, bad_mis, bad_long, rfl, e⟩))
  · show _ ∨ (∃ T, Room f l T ∧ textA S (if f then 4 else 5) l = ansText T ∧ ansText (padL (S.take l.toNat) (if f then 4 else 5) l) = ansText T) ∨ (∃ st T, Bad st ∧ Room f l T ∧ textA S (if f then 4 else 5) l = ansNo st ∧ ansText (padL (S.take l.toNat) (if f then 4 else 5) l) = ansText T) ∨ _
    have hr : Room f l (padL (S.take l.toNat) (if f then 4 else 5) l) := pad_room f l hl _ (by rw [List.length_take]; omega)
    unfold textA
    by_cases h : (S.length : Int) ≤ l
    · have : S.take l.toNat = S := List.take_of_length_le (by omega)
      rw [if_pos h]
      rw [this] at hr ⊢
      exact Or.inr (Or.inl ⟨_, hr, rfl, rfl⟩)
    · rw [if_neg h]
      by_cases h2 : trimL (S.drop l.toNat) = []
      · rw [if_pos h2]
        exact Or.inr (Or.inl ⟨_, hr, rfl, rfl⟩)
      · rw [if_neg h2]
        exact Or.inr (Or.inr (Or.inl ⟨sLong, _, bad_long, hr, rfl, rfl⟩))
  · rcases told (wordB B) with ⟨U, hU, e⟩ | e
    · exact Or.inr (Or.inr (Or.inl ⟨sMis, U, bad_mis, hU, rfl, e⟩))
    · exact Or.inr (Or.inr (Or.inr ⟨sMis, sLong, bad_mis, bad_long, rfl, e⟩))
theorem tmod100 {x : Int} (h : 0 ≤ x) : 0 ≤ x % 100 ∧ x % 100 ≤ 99 := by omega

set_option maxHeartbeats 20000000 in
set_option maxRecDepth 100000 in
theorem long_law (k n : Int) (s : ByteArray) (b : Bool) (z : Int) (f : Bool) (a : Addr) (w : World) (hk : -9223372036854775808 ≤ k ∧ k ≤ 9223372036854775807) (hn : -9223372036854775808 ≤ n ∧ n ≤ 9223372036854775807) (hz : -9223372036854775808 ≤ z ∧ z ≤ 9223372036854775807) (hs : s.size ≤ 140737488355328) (hL : LibW a w) :
    Calls Tryz.prog 4 #[val k n s b, .int .i64 z, .bool f] w fun e w' => e = .returned (.bool true) ∧ Below w.heap.size w w' := by
  have HK : Hid (-9223372036854775808 ≤ k ∧ k ≤ 9223372036854775807) := hk
  have HN := rvN_in (k := k) hn
  have HS := rvS_le (k := k) hs
  have HR := raw_right k n s b
  have RV := fun w => rawValue_is k n s b w HK
  have HP : Hid (p4 k = 0 ∨ p4 k = 1 ∨ p4 k = 2 ∨ p4 k = 3) := p4_range k
  clear hk hn hs HK
  generalize p4 k = K at *
  generalize rvN k n = N at *
  generalize rvS k s = S at *
  generalize rvB k b = B at *
  have xr0 : Box (w.alloc (.cells #[.int .i64 k, .int .i64 n, .string s, .bool b] 23)) w.heap.size k n s b := Box.new _ _ _ _ _ _
  have kk0 : Below w.heap.size w (w.alloc (.cells #[.int .i64 k, .int .i64 n, .string s, .bool b] 23)) := below_alloc (Below.refl _ _) _
  go_enter Tryz.func4, Tryz.ntmps4
  go_upto_if 15 with fail
  go_cut [1] (fun v1 wx => ∃ q : Int, v1 = .int .i64 q ∧ (0 ≤ q ∧ q ≤ 9223372036854775807) ∧ Box wx w.heap.size k n s b ∧ Below w.heap.size w wx)
  case first =>
    by_cases hz0 : z < 0
    · go_wp2_with fail
      go_meet
      case rel => exact ⟨_, rfl, by omega, xr0, kk0⟩
    · go_wp2_with fail
      go_meet
      case rel => exact ⟨_, rfl, by omega, xr0, kk0⟩
  case rest =>
  clear hz xr0 kk0
  obtain ⟨q, rfl, hq, xr, kk⟩ := hcut
  have hq100 : 0 ≤ q % 100 ∧ q % 100 ≤ 99 := by omega
  go_upto_if 23 with fail
  go_cut [7] (fun v7 wx => ∃ (pt : Nat) (l : Int), v7 = .pointer (some ⟨pt, 0, none⟩) ∧ (1 ≤ l ∧ l ≤ 100) ∧ TB wx pt (if f then 4 else 5) l ∧ Box wx w.heap.size k n s b ∧ Below w.heap.size w wx)
  case first =>
    cases f
    · go_wp2_with fail
      go_meet
      case rel => exact ⟨_, _, rfl, by omega, TB.newAt _ _ _ rfl, xr.alloc _, below_alloc kk _⟩
    · go_wp2_with fail
      go_meet
      case rel => exact ⟨_, _, rfl, by omega, TB.newAt _ _ _ rfl, xr.alloc _, below_alloc kk _⟩
  case rest =>
  clear hq hq100 kk xr
  obtain ⟨pt, l, rfl, hl, tb, xr, kk⟩ := hcut
  have LC := long_cases K N S.data.toList B f l HP hl
  have TA := fun w => tassign_any K N S B (if f then 4 else 5) l w HR HN (Nat.le_trans HS (by unfold maxLen; omega))
  have TC := fun w hL => tcast_any K N S B (if f then 4 else 5) l a w HR HN HS hL
  generalize (if f then (4 : Int) else 5) = base at *
  generalize assignA K N S.data.toList B base l = A at *
  generalize castA K N S.data.toList B base l = C at *
  clear HN HS HR HP
  go_wp2_with fail
  go_cut [8, 9] (fun vv ee wx => ∃ p : Nat, vv = .pointer (some ⟨p, 0, none⟩) ∧ ee = .string A.st ∧ Box wx p A.k A.n A.s A.b ∧ Box wx w.heap.size k n s b ∧ TB wx pt base l ∧ Below w.heap.size w wx)
  case first =>
    have l_xr := xr.lt
    obtain ⟨c_xr0, c_xr1, c_xr2, c_xr3⟩ := id xr
    have l_tb := World.block_lt_of_cell? wc _ tb.d0
    obtain ⟨d_tb0, d_tb1⟩ := id tb
    go_region_with (first
      | (go_at_call 6; (first | refine (drewC RV _).mono ?_ | refine (RV _).mono ?_); rintro e w1a ⟨rfl, hb⟩; have xr_0 : Box w1a w.heap.size k n s b := (by first | exact xr.keep hb | exact (xr.alloc _).keep hb); have l_xr_0 := xr_0.lt; obtain ⟨c_xr_00, c_xr_01, c_xr_02, c_xr_03⟩ := id xr_0; have tb_0 : TB w1a pt base l := (by first | exact tb.keep hb | exact (tb.alloc _).keep hb); have l_tb_0 := World.block_lt_of_cell? w1a _ tb_0.d0; obtain ⟨d_tb_00, d_tb_01⟩ := id tb_0; have kk_0 : Below w.heap.size w w1a := (by first | exact keepA kk hb | exact keepA (below_alloc kk _) hb); (try (have y0_0 : Box w1a wc.heap.size 0 0 ⟨#[]⟩ false := (Box.new wc 0 0 ⟨#[]⟩ false _).keep hb; have ly0_0 := y0_0.lt; have oy0_0 : Open4 w1a wc.heap.size := (Open4.newAt (W := wc) (b := wc.heap.size) 0 0 ⟨#[]⟩ false _ rfl).keep (by simp) hb; obtain ⟨cy0_00, cy0_01, cy0_02, cy0_03⟩ := id y0_0; obtain ⟨gy0_00, gy0_01, gy0_02, gy0_03⟩ := id oy0_0)); clear hb c_xr0 c_xr1 c_xr2 c_xr3 d_tb0 d_tb1)
      | (go_at_call 5; (first | refine (drewC TA _).mono ?_ | refine (TA _).mono ?_); rintro e w1b ⟨rfl, hb⟩; have xr_1 : Box w1b w.heap.size k n s b := (by first | exact xr_0.keep hb | exact (xr_0.alloc _).keep hb); have l_xr_1 := xr_1.lt; obtain ⟨c_xr_10, c_xr_11, c_xr_12, c_xr_13⟩ := id xr_1; have tb_1 : TB w1b pt base l := (by first | exact tb_0.keep hb | exact (tb_0.alloc _).keep hb); have l_tb_1 := World.block_lt_of_cell? w1b _ tb_1.d0; obtain ⟨d_tb_10, d_tb_11⟩ := id tb_1; have kk_1 : Below w.heap.size w w1b := (by first | exact keepA kk_0 hb | exact keepA (below_alloc kk_0 _) hb); (try (have y0_1 : Box w1b wc.heap.size 0 0 ⟨#[]⟩ false := y0_0.keep hb; have ly0_1 := y0_1.lt; have oy0_1 : Open4 w1b wc.heap.size := oy0_0.keep y0_0.lt hb; obtain ⟨cy0_10, cy0_11, cy0_12, cy0_13⟩ := id y0_1; obtain ⟨gy0_10, gy0_11, gy0_12, gy0_13⟩ := id oy0_1)); (try (have y1_1 : Box w1b w1a.heap.size 0 0 ⟨#[]⟩ false := (Box.new w1a 0 0 ⟨#[]⟩ false _).keep hb; have ly1_1 := y1_1.lt; have oy1_1 : Open4 w1b w1a.heap.size := (Open4.newAt (W := w1a) (b := w1a.heap.size) 0 0 ⟨#[]⟩ false _ rfl).keep (by simp) hb; obtain ⟨cy1_10, cy1_11, cy1_12, cy1_13⟩ := id y1_1; obtain ⟨gy1_10, gy1_11, gy1_12, gy1_13⟩ := id oy1_1)); clear hb c_xr_00 c_xr_01 c_xr_02 c_xr_03 d_tb_00 d_tb_01))
    all_goals go_wp2_with fail
    all_goals go_meet
    all_goals first
      | exact ⟨_, rfl, rfl, Box.new _ _ _ _ _ _, xr_1.alloc _, tb_1.alloc _, below_alloc kk_1 _⟩
      | exact ⟨_, rfl, rfl, set4_box y0_1 _ _ _ _, set4_keep xr_1 (by omega), tb_1.set4 (by omega), set4_below kk_1 (by first | (have := kk.size; omega) | (have := kk_0.size; omega))⟩
      | exact ⟨_, rfl, rfl, set4_box y1_1 _ _ _ _, set4_keep xr_1 (by omega), tb_1.set4 (by omega), set4_below kk_1 (by first | (have := kk.size; omega) | (have := kk_0.size; omega))⟩
  case rest =>
  obtain ⟨p1, rfl, rfl, x1, xr, tb, kk⟩ := hcut
  go_wp2_with fail
  go_cut [10, 11] (fun vv ee wx => ∃ p : Nat, vv = .pointer (some ⟨p, 0, none⟩) ∧ ee = .string C.st ∧ Box wx p C.k C.n C.s C.b ∧ Box wx w.heap.size k n s b ∧ Box wx p1 A.k A.n A.s A.b ∧ TB wx pt base l ∧ Below w.heap.size w wx)
  case first =>
    have l_xr := xr.lt
    obtain ⟨c_xr0, c_xr1, c_xr2, c_xr3⟩ := id xr
    have l_x1 := x1.lt
    obtain ⟨c_x10, c_x11, c_x12, c_x13⟩ := id x1
    have l_tb := World.block_lt_of_cell? wc _ tb.d0
    obtain ⟨d_tb0, d_tb1⟩ := id tb
    go_region_with (first
      | (go_at_call 6; (first | refine (drewC RV _).mono ?_ | refine (RV _).mono ?_); rintro e w2a ⟨rfl, hb⟩; have xr_0 : Box w2a w.heap.size k n s b := (by first | exact xr.keep hb | exact (xr.alloc _).keep hb); have l_xr_0 := xr_0.lt; obtain ⟨c_xr_00, c_xr_01, c_xr_02, c_xr_03⟩ := id xr_0; have x1_0 : Box w2a p1 A.k A.n A.s A.b := (by first | exact x1.keep hb | exact (x1.alloc _).keep hb); have l_x1_0 := x1_0.lt; obtain ⟨c_x1_00, c_x1_01, c_x1_02, c_x1_03⟩ := id x1_0; have tb_0 : TB w2a pt base l := (by first | exact tb.keep hb | exact (tb.alloc _).keep hb); have l_tb_0 := World.block_lt_of_cell? w2a _ tb_0.d0; obtain ⟨d_tb_00, d_tb_01⟩ := id tb_0; have kk_0 : Below w.heap.size w w2a := (by first | exact keepA kk hb | exact keepA (below_alloc kk _) hb); (try (have y0_0 : Box w2a wc.heap.size 0 0 ⟨#[]⟩ false := (Box.new wc 0 0 ⟨#[]⟩ false _).keep hb; have ly0_0 := y0_0.lt; have oy0_0 : Open4 w2a wc.heap.size := (Open4.newAt (W := wc) (b := wc.heap.size) 0 0 ⟨#[]⟩ false _ rfl).keep (by simp) hb; obtain ⟨cy0_00, cy0_01, cy0_02, cy0_03⟩ := id y0_0; obtain ⟨gy0_00, gy0_01, gy0_02, gy0_03⟩ := id oy0_0)); clear hb c_xr0 c_xr1 c_xr2 c_xr3 c_x10 c_x11 c_x12 c_x13 d_tb0 d_tb1)
      | (go_at_call 8; (first | refine (drewL TC _ (by first | exact hL.keep kk_0 | exact hL.keep (below_alloc kk_0 _))).mono ?_ | refine (TC _ (by first | exact hL.keep kk_0 | exact hL.keep (below_alloc kk_0 _))).mono ?_); rintro e w2b ⟨rfl, hb⟩; have xr_1 : Box w2b w.heap.size k n s b := (by first | exact xr_0.keep hb | exact (xr_0.alloc _).keep hb); have l_xr_1 := xr_1.lt; obtain ⟨c_xr_10, c_xr_11, c_xr_12, c_xr_13⟩ := id xr_1; have x1_1 : Box w2b p1 A.k A.n A.s A.b := (by first | exact x1_0.keep hb | exact (x1_0.alloc _).keep hb); have l_x1_1 := x1_1.lt; obtain ⟨c_x1_10, c_x1_11, c_x1_12, c_x1_13⟩ := id x1_1; have tb_1 : TB w2b pt base l := (by first | exact tb_0.keep hb | exact (tb_0.alloc _).keep hb); have l_tb_1 := World.block_lt_of_cell? w2b _ tb_1.d0; obtain ⟨d_tb_10, d_tb_11⟩ := id tb_1; have kk_1 : Below w.heap.size w w2b := (by first | exact keepA kk_0 hb | exact keepA (below_alloc kk_0 _) hb); (try (have y0_1 : Box w2b wc.heap.size 0 0 ⟨#[]⟩ false := y0_0.keep hb; have ly0_1 := y0_1.lt; have oy0_1 : Open4 w2b wc.heap.size := oy0_0.keep y0_0.lt hb; obtain ⟨cy0_10, cy0_11, cy0_12, cy0_13⟩ := id y0_1; obtain ⟨gy0_10, gy0_11, gy0_12, gy0_13⟩ := id oy0_1)); (try (have y1_1 : Box w2b w2a.heap.size 0 0 ⟨#[]⟩ false := (Box.new w2a 0 0 ⟨#[]⟩ false _).keep hb; have ly1_1 := y1_1.lt; have oy1_1 : Open4 w2b w2a.heap.size := (Open4.newAt (W := w2a) (b := w2a.heap.size) 0 0 ⟨#[]⟩ false _ rfl).keep (by simp) hb; obtain ⟨cy1_10, cy1_11, cy1_12, cy1_13⟩ := id y1_1; obtain ⟨gy1_10, gy1_11, gy1_12, gy1_13⟩ := id oy1_1)); clear hb c_xr_00 c_xr_01 c_xr_02 c_xr_03 c_x1_00 c_x1_01 c_x1_02 c_x1_03 d_tb_00 d_tb_01))
    all_goals go_wp2_with fail
    all_goals go_meet
    all_goals first
      | exact ⟨_, rfl, rfl, Box.new _ _ _ _ _ _, xr_1.alloc _, x1_1.alloc _, tb_1.alloc _, below_alloc kk_1 _⟩
      | exact ⟨_, rfl, rfl, set4_box y0_1 _ _ _ _, set4_keep xr_1 (by omega), set4_keep x1_1 (by omega), tb_1.set4 (by omega), set4_below kk_1 (by first | (have := kk.size; omega) | (have := kk_0.size; omega))⟩
      | exact ⟨_, rfl, rfl, set4_box y1_1 _ _ _ _, set4_keep xr_1 (by omega), set4_keep x1_1 (by omega), tb_1.set4 (by omega), set4_below kk_1 (by first | (have := kk.size; omega) | (have := kk_0.size; omega))⟩
  case rest =>
  obtain ⟨p2, rfl, rfl, x2, xr, x1, tb, kk⟩ := hcut
  clear RV TA TC xr
  obtain ⟨d0, d1⟩ := tb
  have LL := hL.keep kk
  have eD : (⟨#[48, 48, 48, 48, 48]⟩ : ByteArray).toList = [48, 48, 48, 48, 48] := by rw [Lib.toList_data]
  rcases LC with ⟨rfl, rfl⟩ | ⟨T, hT, rfl, rfl⟩ | ⟨st, T, hst, hT, rfl, rfl⟩ | ⟨st, st', hst, hst', rfl, rfl⟩
  · have y1 : Box wc p1 0 0 ⟨#[]⟩ false := x1
    have y2 : Box wc p2 0 0 ⟨#[]⟩ false := x2
    simp only [ansNo]
    obtain ⟨a0, a1, a2, a3⟩ := id y1
    obtain ⟨b0, b1, b2, b3⟩ := id y2
    go_wp2_with fail
    refine (alive_any a _ LL).mono ?_
    rintro e w9 ⟨rfl, hb⟩
    obtain ⟨a4, a5, a6, a7⟩ := y1.keep hb
    obtain ⟨b4, b5, b6, b7⟩ := y2.keep hb
    replace kk := keepA kk hb
    clear hb
    go_wp2
    go_ret
    exact ⟨rfl, kk⟩
  · have y1 : Box wc p1 2 0 ⟨T.toArray⟩ false := x1
    have y2 : Box wc p2 2 0 ⟨T.toArray⟩ false := x2
    simp only [ansText]
    obtain ⟨a0, a1, a2, a3⟩ := id y1
    obtain ⟨b0, b1, b2, b3⟩ := id y2
    rcases hT with e | ⟨rfl, e⟩
    · have q1 : ((T.length : Int) == l) = true := by simpa using e
      clear e
      go_wp2_with fail
      refine (alive_any a _ LL).mono ?_
      rintro e w9 ⟨rfl, hb⟩
      obtain ⟨a4, a5, a6, a7⟩ := y1.keep hb
      obtain ⟨b4, b5, b6, b7⟩ := y2.keep hb
      replace kk := keepA kk hb
      clear hb
      go_wp2
      go_ret
      exact ⟨rfl, kk⟩
    · have q1 : ((T.length : Int) == l) = false := by rw [beq_eq_false_iff_ne]; omega
      go_wp2_with fail
      refine (alive_any a _ LL).mono ?_
      rintro e w9 ⟨rfl, hb⟩
      obtain ⟨a4, a5, a6, a7⟩ := y1.keep hb
      obtain ⟨b4, b5, b6, b7⟩ := y2.keep hb
      replace kk := keepA kk hb
      clear hb
      go_wp2
      go_ret
      exact ⟨rfl, kk⟩
  · have y2 : Box wc p2 2 0 ⟨T.toArray⟩ false := x2
    simp only [ansText, ansNo]
    unfold Bad at hst
    obtain ⟨b0, b1, b2, b3⟩ := id y2
    rcases hT with e | ⟨rfl, e⟩
    · have q1 : ((T.length : Int) == l) = true := by simpa using e
      clear e
      go_wp2_with fail
      refine (alive_any a _ LL).mono ?_
      rintro e w9 ⟨rfl, hb⟩
      replace kk := keepA kk hb
      clear hb
      go_wp2
      go_ret
      exact ⟨rfl, kk⟩
    · have q1 : ((T.length : Int) == l) = false := by rw [beq_eq_false_iff_ne]; omega
      go_wp2_with fail
      refine (alive_any a _ LL).mono ?_
      rintro e w9 ⟨rfl, hb⟩
      replace kk := keepA kk hb
      clear hb
      go_wp2
      go_ret
      exact ⟨rfl, kk⟩
  · simp only [ansNo]
    unfold Bad at hst hst'
    go_wp2_with fail
    refine (alive_any a _ LL).mono ?_
    rintro e w9 ⟨rfl, hb⟩
    replace kk := keepA kk hb
    clear hb
    go_wp2
    go_ret
    exact ⟨rfl, kk⟩

end Go.Proofs.YtjajngngajnnpabGreatDoor

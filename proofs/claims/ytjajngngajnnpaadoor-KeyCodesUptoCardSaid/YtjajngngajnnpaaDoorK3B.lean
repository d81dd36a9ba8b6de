/- The walks of keycode's code of a value, and of values one behind the other. -/
import Derived.Test.YtjajngngajnnpaaDoorK3A
namespace Go.Proofs.YtjajngngajnnpaaDoor
open Go.RowKit
set_option linter.unusedVariables false

theorem keep_cell {w W w' : World} {v v' : Value} {base : Nat} {xs : List UInt8} {b o : Nat} {x : Value} (hg : GrowB W v w' v') (hown : OwnB base w v xs) (hb : w.heap.size ≤ b) (hlt : b < W.heap.size) (hc : W.cell? ⟨b, o, none⟩ = some x) : w'.cell? ⟨b, o, none⟩ = some x :=
  (hg.grown.cell_far ⟨b, o, none⟩ hlt (fun e => by have := own_lt hown b e.symm; omega)).trans hc

theorem new_at (w : World) (o : Obj) {B : Nat} (h : B = w.heap.size) : (w.alloc o).heap[B]? = some o := by subst h; exact heap_alloc_new _ _
theorem new_drew (w : World) (o : Obj) {B : Nat} (h : B = w.heap.size) : (w.alloc o).drew.heap[B]? = some o := new_at w o h

set_option maxHeartbeats 1000000 in
theorem appendValue_num (base : Nat) (v : Value) (xs : List UInt8) (N : Int) (S : ByteArray) (B : Bool) (w : World) (hown : OwnB base w v xs) (hb : base ≤ w.heap.size) (hl : xs.length ≤ 1099511627000) (hn : -9223372036854775808 ≤ N ∧ N ≤ 9223372036854775807) :
    Calls Tryd.prog 23 #[v, val 1 N S B] w fun e w' => ∃ v', e = .returned v' ∧ OwnB base w' v' (xs ++ [2] ++ beN 8 (N + 9223372036854775808).toNat) ∧ GrowB w v w' v' := by
  have HN : Hid (-9223372036854775808 ≤ N ∧ N ≤ 9223372036854775807) := hn
  clear hn
  have HO := hown.alloc (.cells #[.int .i64 1, .int .i64 N, .string S, .bool B] 39)
  have c1 : (w.alloc (.cells #[.int .i64 1, .int .i64 N, .string S, .bool B] 39)).cell? ⟨w.heap.size, 1, none⟩ = some (.int .i64 N) := by go_simp
  go_enter Tryd.func23, Tryd.ntmps23
  go_wp2_with fail
  go_region_held_law (fun w' => w'.cell? ⟨w.heap.size, 1, none⟩ = some (.int .i64 N)) (first | exact keep_cell hgrow2 hown (Nat.le_refl _) (by simp; omega) (by go_simp) | exact keep_cell hgrow hown (Nat.le_refl _) (by simp; omega) (by go_simp) | go_keep)
    ((first
      | (refine step_appB _ (by rfl) _ _ (by rfl) base v xs (by rfl) (by first | exact (HO.alloc _).drew | exact HO.alloc _) (w.heap.size + 1) 1 #[.int .u8 2] [2] (by rfl) (by first | exact new_drew _ _ (by simp) | exact new_at _ _ (by simp)) (by rfl) (by rfl) (by decide) (by omega) (by simp; omega) ?_; intro v1 w1 hown1 hgrow)
      | (go_at_call 32; refine (appendNum_any base _ (xs ++ [2]) N _ hown1 (by have := hgrow.grown.size; simp at this; omega) (by simp; omega) HN.out).mono ?_; rintro e w2 ⟨v2, rfl, hown2, hg2⟩; have hgrow2 := hgrow.trans hg2)))
  go_wp2
  go_ret
  have G : GrowB w v w2 v2 := (((GrowB.refl w v).alloc _).alloc _).drew.trans hgrow2
  exact ⟨_, rfl, hown2, G⟩
set_option maxHeartbeats 1000000 in
theorem appendValue_text (base : Nat) (v : Value) (xs : List UInt8) (N : Int) (S : ByteArray) (B : Bool) (w : World) (hown : OwnB base w v xs) (hb : base ≤ w.heap.size) (hl : xs.length ≤ 1099511627000) (hs : S.size ≤ 1099511627776) :
    Calls Tryd.prog 23 #[v, val 2 N S B] w fun e w' => ∃ v', e = .returned v' ∧ OwnB base w' v' (xs ++ [3] ++ (esc (trimL S.data.toList) ++ [0, 0])) ∧ GrowB w v w' v' := by
  have HO := hown.alloc (.cells #[.int .i64 2, .int .i64 N, .string S, .bool B] 39)
  have c1 : (w.alloc (.cells #[.int .i64 2, .int .i64 N, .string S, .bool B] 39)).cell? ⟨w.heap.size, 2, none⟩ = some (.string S) := by go_simp
  go_enter Tryd.func23, Tryd.ntmps23
  go_wp2_with fail
  go_region_held_law (fun w' => w'.cell? ⟨w.heap.size, 2, none⟩ = some (.string S)) (first | exact keep_cell hgrow2 hown (Nat.le_refl _) (by simp; omega) (by go_simp) | exact keep_cell hgrow hown (Nat.le_refl _) (by simp; omega) (by go_simp) | go_keep)
    ((first
      | (refine step_appB _ (by rfl) _ _ (by rfl) base v xs (by rfl) (by first | exact (HO.alloc _).drew | exact HO.alloc _) (w.heap.size + 1) 1 #[.int .u8 3] [3] (by rfl) (by first | exact new_drew _ _ (by simp) | exact new_at _ _ (by simp)) (by rfl) (by rfl) (by decide) (by omega) (by simp; omega) ?_; intro v1 w1 hown1 hgrow)
      | (go_at_call 33; refine (appendText_any base _ (xs ++ [3]) S _ hown1 (by have := hgrow.grown.size; simp at this; omega) (by simp; omega) hs).mono ?_; rintro e w2 ⟨v2, rfl, hown2, hg2⟩; have hgrow2 := hgrow.trans hg2)))
  go_wp2
  go_ret
  have G : GrowB w v w2 v2 := (((GrowB.refl w v).alloc _).alloc _).drew.trans hgrow2
  exact ⟨_, rfl, hown2, G⟩

set_option maxHeartbeats 1000000 in
theorem appendValue_bool (base : Nat) (v : Value) (xs : List UInt8) (N : Int) (S : ByteArray) (B : Bool) (w : World) (hown : OwnB base w v xs) (hb : base ≤ w.heap.size) (hl : xs.length ≤ 1099511627000) :
    Calls Tryd.prog 23 #[v, val 3 N S B] w fun e w' => ∃ v', e = .returned v' ∧ OwnB base w' v' (xs ++ [4, if B then 1 else 0]) ∧ GrowB w v w' v' := by
  cases B
  · have ht : ∀ w : World, Calls Tryd.prog 34 #[.bool false] w fun e w' => e = .returned (.int .u8 0) ∧ w' = w := fun w => truthByte_any false w
    have HO := hown.alloc (.cells #[.int .i64 3, .int .i64 N, .string S, .bool false] 39)
    go_enter Tryd.func23, Tryd.ntmps23
    go_wp2_with (first
      | (go_at_call 34; refine (ht _).mono ?_; rintro e w' ⟨rfl, rfl⟩)
      | (at_builtin; refine wp_appB _ rfl _ _ rfl base _ xs rfl (HO.alloc _) (w.heap.size + 1) 2 #[.int .u8 4, .int .u8 0] [4, 0] rfl (new_at _ _ (by simp)) rfl rfl (by decide) (by omega) (by simp; omega) ?_))
    intro v1 w1 hown1 hgrow
    go_wp2
    go_ret
    exact ⟨_, rfl, hown1, (((GrowB.refl w v).alloc _).alloc _).trans hgrow⟩
  · have ht : ∀ w : World, Calls Tryd.prog 34 #[.bool true] w fun e w' => e = .returned (.int .u8 1) ∧ w' = w := fun w => truthByte_any true w
    have HO := hown.alloc (.cells #[.int .i64 3, .int .i64 N, .string S, .bool true] 39)
    go_enter Tryd.func23, Tryd.ntmps23
    go_wp2_with (first
      | (go_at_call 34; refine (ht _).mono ?_; rintro e w' ⟨rfl, rfl⟩)
      | (at_builtin; refine wp_appB _ rfl _ _ rfl base _ xs rfl (HO.alloc _) (w.heap.size + 1) 2 #[.int .u8 4, .int .u8 1] [4, 1] rfl (new_at _ _ (by simp)) rfl rfl (by decide) (by omega) (by simp; omega) ?_))
    intro v1 w1 hown1 hgrow
    go_wp2
    go_ret
    exact ⟨_, rfl, hown1, (((GrowB.refl w v).alloc _).alloc _).trans hgrow⟩

set_option maxHeartbeats 1000000 in
theorem appendValue_null (base : Nat) (v : Value) (xs : List UInt8) (N : Int) (S : ByteArray) (B : Bool) (w : World) (hown : OwnB base w v xs) (hb : base ≤ w.heap.size) (hl : xs.length ≤ 1099511627000) :
    Calls Tryd.prog 23 #[v, val 0 N S B] w fun e w' => ∃ v', e = .returned v' ∧ OwnB base w' v' (xs ++ [1]) ∧ GrowB w v w' v' := by
  have HO := hown.alloc (.cells #[.int .i64 0, .int .i64 N, .string S, .bool B] 39)
  go_enter Tryd.func23, Tryd.ntmps23
  go_wp2_with (at_builtin; refine wp_appB _ rfl _ _ rfl base _ xs rfl (HO.alloc _) (w.heap.size + 1) 1 #[.int .u8 1] [1] rfl (new_at _ _ (by simp)) rfl rfl (by decide) (by omega) (by simp; omega) ?_)
  intro v1 w1 hown1 hgrow
  go_wp2
  go_ret
  exact ⟨_, rfl, hown1, (((GrowB.refl w v).alloc _).alloc _).trans hgrow⟩

theorem appendValue_any (base : Nat) (v : Value) (xs : List UInt8) (K N : Int) (S : ByteArray) (B : Bool) (w : World) (hown : OwnB base w v xs) (hb : base ≤ w.heap.size) (hl : xs.length ≤ 1099511627000) (hr : RightQ (K, N, S.data.toList, B)) (hs : S.size ≤ 1099511627776) :
    Calls Tryd.prog 23 #[v, val K N S B] w fun e w' => ∃ v', e = .returned v' ∧ OwnB base w' v' (xs ++ code1 (K, N, S.data.toList, B)) ∧ GrowB w v w' v' := by
  have hn := fun e => right_num hr e
  rcases right_kind hr with e | e | e | e
  all_goals
    simp only at e
    subst e
  · have h := appendValue_null base v xs N S B w hown hb hl
    rw [code_null (v := (0, N, S.data.toList, B)) rfl]
    exact h
  · have h := appendValue_num base v xs N S B w hown hb hl (hn rfl)
    rw [code_num (v := (1, N, S.data.toList, B)) rfl]
    simpa using h
  · have h := appendValue_text base v xs N S B w hown hb hl hs
    rw [code_text (v := (2, N, S.data.toList, B)) rfl]
    simpa using h
  · have h := appendValue_bool base v xs N S B w hown hb hl
    rw [code_bool (v := (3, N, S.data.toList, B)) rfl]
    exact h
end Go.Proofs.YtjajngngajnnpaaDoor

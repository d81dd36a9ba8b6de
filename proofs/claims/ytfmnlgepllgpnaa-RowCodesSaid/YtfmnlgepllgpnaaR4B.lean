/- The walks of rowcode's bytes of a value, of its questions of a row, of a row's form. -/
import Derived.Test.YtfmnlgepllgpnaaR4A
namespace Go.Proofs.Ytfmnlgepllgpnaa
open Go.RowKit
set_option linter.unusedVariables false

theorem wrap_len (n : Nat) (h : n ≤ 1099511627776) : IntKind.u64.wrap (n : Int) = (n : Int) := by
  rw [IntKind.wrap_u64]; omega

set_option maxHeartbeats 1000000 in
theorem appendValue_text (base : Nat) (v : Value) (xs : List UInt8) (N : Int) (S : ByteArray) (B : Bool) (w : World) (hown : OwnB base w v xs) (hb : base ≤ w.heap.size) (hl : xs.length ≤ 1099511627000) (hs : S.size ≤ 1099511627776) :
    Calls Try.prog 19 #[v, val 2 N S B] w fun e w' => ∃ v', e = .returned v' ∧ OwnB base w' v' (xs ++ [2] ++ leN 2 S.size ++ S.data.toList) ∧ Below base w w' := by
  have HO := hown.alloc (.cells #[.int .i64 2, .int .i64 N, .string S, .bool B] 40)
  have c1 : (w.alloc (.cells #[.int .i64 2, .int .i64 N, .string S, .bool B] 40)).cell? ⟨w.heap.size, 2, none⟩ = some (.string S) := by go_simp
  have HW := wrap_len S.size hs
  go_enter Try.func19, Try.ntmps19
  go_wp2_with fail
  go_region_held_law (fun w' => w'.cell? ⟨w.heap.size, 2, none⟩ = some (.string S)) (first | exact keep_cell hgrow2 hown (Nat.le_refl _) (by simp; omega) (by go_simp) | exact keep_cell hgrow hown (Nat.le_refl _) (by simp; omega) (by go_simp) | go_keep)
    ((first
      | (refine step_appB _ (by rfl) _ _ (by rfl) base v xs (by rfl) (by first | exact (HO.alloc _).drew | exact HO.alloc _) (w.heap.size + 1) 1 #[.int .u8 2] [2] (by rfl) (by first | exact new_drew _ _ (by simp) | exact new_at _ _ (by simp)) (by rfl) (by rfl) (by decide) (by omega) (by simp; omega) ?_; intro v1 w1 hown1 hgrow)
      | (go_at_call 28; refine (appendWhole_any base S.size 2 _ (xs ++ [2]) _ hown1 (by have := hgrow.grown.size; simp at this; omega) (by simp; omega) (by decide) (by omega)).mono ?_; rintro e w2 ⟨v2, rfl, hown2, hg2⟩; have hgrow2 := hgrow.trans hg2)))
  have G : GrowB w v w2 v2 := (((GrowB.refl w v).alloc _).alloc _).drew.trans hgrow2
  have c2 : w2.cell? ⟨w.heap.size, 2, none⟩ = some (.string S) := keep_cell hgrow2 hown (Nat.le_refl _) (by simp; omega) (by go_simp)
  have hb2 := G.grown.size
  have hl2 : (xs ++ [2] ++ leN 2 S.size).length ≤ 1099511627003 := by rw [List.length_append, List.length_append, leN_len]; simp; omega
  clear hgrow2 hgrow hg2 hown1 HO c1
  go_wp2_with (at_builtin; refine wp_appS _ rfl _ _ rfl base _ (xs ++ [2] ++ leN 2 S.size) rfl hown2 S rfl (by omega) (by omega) ?_)
  intro v3 w3 hown3 hb3
  go_wp2
  go_ret
  exact ⟨_, rfl, by simpa using hown3, (G.below hown hb).trans hb3⟩

set_option maxHeartbeats 1000000 in
theorem appendValue_bool (base : Nat) (v : Value) (xs : List UInt8) (N : Int) (S : ByteArray) (B : Bool) (w : World) (hown : OwnB base w v xs) (hb : base ≤ w.heap.size) (hl : xs.length ≤ 1099511627000) :
    Calls Try.prog 19 #[v, val 3 N S B] w fun e w' => ∃ v', e = .returned v' ∧ OwnB base w' v' (xs ++ [if B then 4 else 3]) ∧ Below base w w' := by
  cases B
  · have ht : ∀ w : World, Calls Try.prog 29 #[.bool false] w fun e w' => e = .returned (.int .u8 3) ∧ w' = w := fun w => truthMark_any false w
    have HO := hown.alloc (.cells #[.int .i64 3, .int .i64 N, .string S, .bool false] 40)
    go_enter Try.func19, Try.ntmps19
    go_wp2_with (first
      | (go_at_call 29; refine (ht _).mono ?_; rintro e w' ⟨rfl, rfl⟩)
      | (at_builtin; refine wp_appB _ rfl _ _ rfl base _ xs rfl (HO.alloc _) (w.heap.size + 1) 1 #[.int .u8 3] [3] rfl (new_at _ _ (by simp)) rfl rfl (by decide) (by omega) (by simp; omega) ?_))
    intro v1 w1 hown1 hgrow
    go_wp2
    go_ret
    exact ⟨_, rfl, hown1, ((((GrowB.refl w v).alloc _).alloc _).trans hgrow).below hown hb⟩
  · have ht : ∀ w : World, Calls Try.prog 29 #[.bool true] w fun e w' => e = .returned (.int .u8 4) ∧ w' = w := fun w => truthMark_any true w
    have HO := hown.alloc (.cells #[.int .i64 3, .int .i64 N, .string S, .bool true] 40)
    go_enter Try.func19, Try.ntmps19
    go_wp2_with (first
      | (go_at_call 29; refine (ht _).mono ?_; rintro e w' ⟨rfl, rfl⟩)
      | (at_builtin; refine wp_appB _ rfl _ _ rfl base _ xs rfl (HO.alloc _) (w.heap.size + 1) 1 #[.int .u8 4] [4] rfl (new_at _ _ (by simp)) rfl rfl (by decide) (by omega) (by simp; omega) ?_))
    intro v1 w1 hown1 hgrow
    go_wp2
    go_ret
    exact ⟨_, rfl, hown1, ((((GrowB.refl w v).alloc _).alloc _).trans hgrow).below hown hb⟩

set_option maxHeartbeats 1000000 in
theorem appendValue_null (base : Nat) (v : Value) (xs : List UInt8) (N : Int) (S : ByteArray) (B : Bool) (w : World) (hown : OwnB base w v xs) (hb : base ≤ w.heap.size) (hl : xs.length ≤ 1099511627000) :
    Calls Try.prog 19 #[v, val 0 N S B] w fun e w' => ∃ v', e = .returned v' ∧ OwnB base w' v' (xs ++ [0]) ∧ Below base w w' := by
  have HO := hown.alloc (.cells #[.int .i64 0, .int .i64 N, .string S, .bool B] 40)
  go_enter Try.func19, Try.ntmps19
  go_wp2_with (at_builtin; refine wp_appB _ rfl _ _ rfl base _ xs rfl (HO.alloc _) (w.heap.size + 1) 1 #[.int .u8 0] [0] rfl (new_at _ _ (by simp)) rfl rfl (by decide) (by omega) (by simp; omega) ?_)
  intro v1 w1 hown1 hgrow
  go_wp2
  go_ret
  exact ⟨_, rfl, hown1, ((((GrowB.refl w v).alloc _).alloc _).trans hgrow).below hown hb⟩

theorem right_kind {v : V4} (h : RightQ v) : v.1 = 0 ∨ v.1 = 1 ∨ v.1 = 2 ∨ v.1 = 3 := by
  rcases h with h | h | h | h
  · exact Or.inl h.1
  · exact Or.inr (Or.inl h.1)
  · exact Or.inr (Or.inr (Or.inl h.1))
  · exact Or.inr (Or.inr (Or.inr h.1))
theorem appendValue_any (base : Nat) (v : Value) (xs : List UInt8) (K N : Int) (S : ByteArray) (B : Bool) (w : World) (hown : OwnB base w v xs) (hb : base ≤ w.heap.size) (hl : xs.length ≤ 1099511627000) (hr : RightQ (K, N, S.data.toList, B)) (hs : S.size ≤ 1099511627776) :
    Calls Try.prog 19 #[v, val K N S B] w fun e w' => ∃ v', e = .returned v' ∧ OwnB base w' v' (xs ++ rc (K, N, S.data.toList, B)) ∧ Below base w w' := by
  rcases right_kind hr with e | e | e | e
  all_goals
    simp only at e
    subst e
  · have h := appendValue_null base v xs N S B w hown hb hl
    rw [rc_null']
    exact h
  · have h := appendValue_num base v xs N S B w hown hb hl
    rw [rc_num']
    simpa using h
  · have h := appendValue_text base v xs N S B w hown hb hl hs
    rw [rc_text', len_str]
    simpa using h
  · have h := appendValue_bool base v xs N S B w hown hb hl
    rw [rc_bool']
    exact h
end Go.Proofs.Ytfmnlgepllgpnaa

/- The law's own small, spelled. -/
import Derived.Test.YtifnmclidabkfaaDoorL13V
import Derived.Test.YtifnmclidabkfaaDoorL13Q
import Derived.Lib.Strings
namespace Go.Proofs.YtifnmclidabkfaaDoor
open Go.RowKit
set_option linter.unusedVariables false
set_option linter.unusedSimpArgs false

def lowI (x : Int) : Int := if 65 ≤ x ∧ x ≤ 90 then x + 32 else x
theorem lowI_of (c : UInt8) : lowI c.toNat = (lowc c).toNat := by
  have : ∀ n : Fin 256, lowI (UInt8.ofNat n.val).toNat = (lowc (UInt8.ofNat n.val)).toNat := by decide +kernel
  have h := this ⟨c.toNat, c.toNat_lt⟩
  simpa only [UInt8.ofNat_toNat] using h
theorem small_any (x : Int) (hx : 0 ≤ x ∧ x ≤ 255) (w : World) : Calls Tryd.prog 8 #[.int .u8 x] w fun e w' => e = .returned (.int .u8 (lowI x)) ∧ w' = w := by
  unfold lowI
  by_cases h1 : 65 ≤ x
  · by_cases h2 : x ≤ 90
    · rw [if_pos ⟨h1, h2⟩]
      go_enter Tryd.func8, Tryd.ntmps8
      go_wp2
      go_ret
      exact ⟨rfl, rfl⟩
    · rw [if_neg (by omega)]
      go_enter Tryd.func8, Tryd.ntmps8
      go_wp2
      go_ret
      exact ⟨rfl, rfl⟩
  · rw [if_neg (by omega)]
    go_enter Tryd.func8, Tryd.ntmps8
    go_wp2
    go_ret
    exact ⟨rfl, rfl⟩
theorem dbl_snoc : ∀ (s : List UInt8) (c : UInt8), dbl (s ++ [c]) = dbl s ++ (if c == 39 then [39, 39] else [c])
  | [], c => by
    simp only [List.nil_append, dbl]
  | d :: s, c => by
    rw [List.cons_append, dbl, dbl, dbl_snoc s c]
    split <;> simp
theorem dbl_len : ∀ s : List UInt8, (dbl s).length ≤ 2 * s.length
  | [] => by simp [dbl]
  | c :: s => by
    have := dbl_len s
    rw [dbl]
    split <;> simp <;> omega
theorem box4 (w : World) (a b c d : Value) (t : TypeId) (W : World) (hW : Below (w.alloc (.cells #[a, b, c, d] t)).heap.size (w.alloc (.cells #[a, b, c, d] t)) W) : W.cell? ⟨w.heap.size, 0, none⟩ = some a ∧ W.cell? ⟨w.heap.size, 1, none⟩ = some b ∧ W.cell? ⟨w.heap.size, 2, none⟩ = some c ∧ W.cell? ⟨w.heap.size, 3, none⟩ = some d := by
  have e : W.heap[w.heap.size]? = some (.cells #[a, b, c, d] t) := (hW.block w.heap.size (by simp)).trans (heap_alloc_new w _)
  refine ⟨by rw [cell_of_row W _ 0 _ _ _ e]; rfl, by rw [cell_of_row W _ 1 _ _ _ e]; rfl, by rw [cell_of_row W _ 2 _ _ _ e]; rfl, by rw [cell_of_row W _ 3 _ _ _ e]; rfl⟩
theorem take_snoc (S : ByteArray) {i : Nat} (h : i < S.size) : S.data.toList.take (i + 1) = S.data.toList.take i ++ [S[i]] := by
  rw [List.take_add_one, List.getElem?_eq_getElem (by simpa using h)]
  rfl
theorem ext_one (S : ByteArray) {i : Nat} (h : i < S.size) : (S.extract i (i + 1)).data.toList = [S[i]] := by
  rw [ext_take, rest_at S h]
  rfl
theorem size_list (b : ByteArray) : b.size = b.data.toList.length := by simp
set_option maxHeartbeats 2000000 in
set_option maxRecDepth 100000 in
theorem spelled_tx (S : ByteArray) (n at_ : Int) (hS : S.size ≤ 10000) (w : World) : Calls Tryd.prog 7 #[.agg #[.int .i64 2, .string S, .int .i64 n, .int .i64 at_]] w fun e w' => e = .returned (.string ⟨(39 :: (dbl S.data.toList ++ [39])).toArray⟩) ∧ Below w.heap.size w w' := by
  have HX := Go.Proofs.YtifnmclidabkfaaDoor.Hid.mk' (box4 w (.int .i64 2) (.string S) (.int .i64 n) (.int .i64 at_) 30)
  have HW : Hid (Below w.heap.size w (w.alloc (.cells #[.int .i64 2, .string S, .int .i64 n, .int .i64 at_] 30))) := (Below.refl _ _).alloc (Nat.le_refl _) _
  go_enter Tryd.func7, Tryd.ntmps7
  go_wp2_with fail
  generalize w.alloc (.cells #[.int .i64 2, .string S, .int .i64 n, .int .i64 at_] 30) = w0 at *
  go_loopw [3, 4] (fun x3 x4 wr => ∃ (i : Nat) (b : ByteArray), x3 = .string b ∧ x4 = .int .i64 i ∧ i ≤ S.size ∧ b.size ≤ 1 + 2 * i ∧ Hid (b.data.toList = 39 :: dbl (S.data.toList.take i)) ∧ Hid (Below w0.heap.size w0 wr)) (fun _ x4 _ => S.size - (intOf x4).toNat)
  case atStart => exact ⟨0, ⟨#[39]⟩, rfl, rfl, Nat.zero_le _, by decide, rfl, Below.refl _ _⟩
  case round =>
    rename World => wr
    obtain ⟨i, b, rfl, rfl, hi, hbs, HBL, HB⟩ := hrel
    obtain ⟨z0, z1, z2, z3⟩ := HX.out wr HB.out
    by_cases hlt : i < S.size
    · have tl : (i : Int) < (S.size : Int) := by omega
      have he1 : ((S.extract i (i + 1))).size = 1 := by rw [size_list, ext_one S hlt]; rfl
      by_cases h39 : (S[i].toNat : Int) = 39
      · have e39 : S[i] = 39 := (u8_eq (n := 39) (by omega)).1 h39
        have HN : Hid ((b ++ ⟨#[39]⟩ ++ S.extract i (i + 1)).data.toList = 39 :: dbl (S.data.toList.take (i + 1))) := by
          show _ = _
          rw [take_snoc S hlt, dbl_snoc, e39]
          simp only [ByteArray.data_append, Array.toList_append, HBL.out, ext_one S hlt, e39]
          simp
        have c1 : ¬ 9223372036854775807 < b.size + 1 := by omega
        have c2 : ¬ 9223372036854775807 < b.size + 1 + 1 := by omega
        clear HX HW HBL
        go_wp2_with fail
        go_roundw
        case rel => exact ⟨i + 1, _, rfl, by go_num, by omega, by rw [ByteArray.size_append, ByteArray.size_append, he1]; show b.size + 1 + 1 ≤ _; omega, HN, HB⟩
        case measure => simp [intOf]; omega
      · have h39' : ((S[i].toNat : Int) == 39) = false := by simpa using h39
        have e39 : (S[i] == 39) = false := by
          rw [beq_eq_false_iff_ne]
          exact fun e => h39 (by rw [e]; rfl)
        have HN : Hid ((b ++ S.extract i (i + 1)).data.toList = 39 :: dbl (S.data.toList.take (i + 1))) := by
          show _ = _
          rw [take_snoc S hlt, dbl_snoc, e39]
          simp only [ByteArray.data_append, Array.toList_append, HBL.out, ext_one S hlt]
          simp
        have c1 : ¬ 9223372036854775807 < b.size + 1 := by omega
        clear HX HW HBL
        go_wp2_with fail
        go_roundw
        case rel => exact ⟨i + 1, _, rfl, by go_num, by omega, by rw [ByteArray.size_append, he1]; omega, HN, HB⟩
        case measure => simp [intOf]; omega
    · have tl : ¬ (i : Int) < (S.size : Int) := by omega
      have HE : Hid (b ++ ⟨#[39]⟩ = ⟨(39 :: (dbl S.data.toList ++ [39])).toArray⟩) := by
        show _ = _
        apply ByteArray.ext
        apply Array.ext'
        have := HBL.out
        rw [List.take_of_length_le (by simp; omega)] at this
        simp [this]
      have HC := Go.Proofs.YtifnmclidabkfaaDoor.Hid.mk' (HW.out.trans (HB.out.mono HW.out.size))
      have c1 : ¬ 9223372036854775807 < b.size + 1 := by omega
      clear HX HBL
      go_wp2_with fail
      go_ret
      refine ⟨?_, HC.out⟩
      show Ending.returned (.string (b ++ ⟨#[39]⟩)) = _
      rw [HE.out]
set_option maxHeartbeats 2000000 in
set_option maxRecDepth 100000 in
theorem spelled_ws (k : Int) (hk : k = 0 ∨ k = 3) (S : ByteArray) (n at_ : Int) (w : World) : Calls Tryd.prog 7 #[.agg #[.int .i64 k, .string S, .int .i64 n, .int .i64 at_]] w fun e w' => e = .returned (.string S) ∧ Below w.heap.size w w' := by
  rcases hk with rfl | rfl
  · have HW : Hid (Below w.heap.size w (w.alloc (.cells #[.int .i64 0, .string S, .int .i64 n, .int .i64 at_] 30))) := (Below.refl _ _).alloc (Nat.le_refl _) _
    go_enter Tryd.func7, Tryd.ntmps7
    go_wp2_with fail
    go_ret
    exact ⟨rfl, HW.out⟩
  · have HW : Hid (Below w.heap.size w (w.alloc (.cells #[.int .i64 3, .string S, .int .i64 n, .int .i64 at_] 30))) := (Below.refl _ _).alloc (Nat.le_refl _) _
    go_enter Tryd.func7, Tryd.ntmps7
    go_wp2_with fail
    go_ret
    exact ⟨rfl, HW.out⟩
end Go.Proofs.YtifnmclidabkfaaDoor

/- The law's own small, spelled. -/
import Derived.Test.YtbkeaajnhalekaaGreatDoorL13V
import Derived.Test.YtbkeaajnhalekaaGreatDoorL13Q
import Derived.Lib.Strings
namespace Go.Proofs.YtbkeaajnhalekaaGreatDoor
open Go.RowKit
set_option linter.unusedVariables false
set_option linter.unusedSimpArgs false

def lowI (x : Int) : Int := if 65 ≤ x ∧ x ≤ 90 then x + 32 else x
theorem lowI_of (c : UInt8) : lowI c.toNat = (lowc c).toNat := by
  have : ∀ n : Fin 256, lowI (UInt8.ofNat n.val).toNat = (lowc (UInt8.ofNat n.val)).toNat := by decide +kernel
  have h := this ⟨c.toNat, c.toNat_lt⟩
  simpa only [UInt8.ofNat_toNat] using h
theorem dbl_snoc : ∀ (s : List UInt8) (c : UInt8), dbl (s ++ [c]) = dbl s ++ (if c == 39 then [39, 39] else [c])
  | [], c => by
    simp only [List.nil_append, dbl]
  | d :: s, c => by
    rw [List.cons_append, dbl, dbl, dbl_snoc s c]
    split <;> simp
theorem dbl_len : ∀ s : List UInt8, (dbl s).length ≤ 2 * s.length
  | [] => by simp [dbl]
  | c :: s => by
    have := dbl_len s
    rw [dbl]
    split <;> simp <;> omega
theorem box4 (w : World) (a b c d : Value) (t : TypeId) (W : World) (hW : Below (w.alloc (.cells #[a, b, c, d] t)).heap.size (w.alloc (.cells #[a, b, c, d] t)) W) : W.cell? ⟨w.heap.size, 0, none⟩ = some a ∧ W.cell? ⟨w.heap.size, 1, none⟩ = some b ∧ W.cell? ⟨w.heap.size, 2, none⟩ = some c ∧ W.cell? ⟨w.heap.size, 3, none⟩ = some d := by
  have e : W.heap[w.heap.size]? = some (.cells #[a, b, c, d] t) := (hW.block w.heap.size (by simp)).trans (heap_alloc_new w _)
  refine ⟨by rw [cell_of_row W _ 0 _ _ _ e]; rfl, by rw [cell_of_row W _ 1 _ _ _ e]; rfl, by rw [cell_of_row W _ 2 _ _ _ e]; rfl, by rw [cell_of_row W _ 3 _ _ _ e]; rfl⟩
theorem take_snoc (S : ByteArray) {i : Nat} (h : i < S.size) : S.data.toList.take (i + 1) = S.data.toList.take i ++ [S[i]] := by
  rw [List.take_add_one, List.getElem?_eq_getElem (by simpa using h)]
  rfl
theorem ext_one (S : ByteArray) {i : Nat} (h : i < S.size) : (S.extract i (i + 1)).data.toList = [S[i]] := by
  rw [ext_take, rest_at S h]
  rfl
theorem size_list (b : ByteArray) : b.size = b.data.toList.length := by simp
end Go.Proofs.YtbkeaajnhalekaaGreatDoor

/- What types.Cast leans on: texts without blanks at both ends, the words of truth values. -/
import Derived.Test.YtfmnlgepllgpnaaGreatDoorT2Name
namespace Go.Proofs.YtfmnlgepllgpnaaGreatDoor
open Go.RowKit Go.Joins
set_option linter.unusedVariables false

/-- A text without blanks at both ends. -/
def trimBA (s : ByteArray) : ByteArray := ⟨(Lib.trimB s.data.toList 32).toArray⟩
theorem trimBA_data (s : ByteArray) : (trimBA s).data.toList = Lib.trimB s.data.toList 32 := rfl
theorem trimBA_size (s : ByteArray) : (trimBA s).size ≤ s.size := by
  have h1 : (Lib.trimB s.data.toList 32).length ≤ s.data.toList.length := by
    unfold Lib.trimB Lib.trimLeftB Lib.trimRightB
    refine Nat.le_trans (List.dropWhile_sublist _).length_le ?_
    rw [List.length_reverse]
    refine Nat.le_trans (List.dropWhile_sublist _).length_le ?_
    rw [List.length_reverse]
    exact Nat.le_refl _
  have h2 : (trimBA s).data.toList.length = (trimBA s).size := by simp
  have h3 : s.data.toList.length = s.size := by simp
  rw [trimBA_data] at h2
  omega
theorem ttrim_any (s : ByteArray) (w : World) (hs : s.size ≤ maxLen) :
    Calls Tryz.prog 16 #[.string s, .string ⟨#[32]⟩] w fun e w' => e = .returned (.string (trimBA s)) ∧ Below w.heap.size w w' :=
  (Tryz.strings_Trim_one s 32 (by decide) w hs).mono fun e w' ⟨he, hw⟩ => ⟨he, by rcases hw with rfl | rfl; exact Below.refl _ _; exact (Below.refl _ _).drew⟩
theorem up_false : Lib.toUpperA (⟨#[102, 97, 108, 115, 101]⟩ : ByteArray).data.toList = [70, 65, 76, 83, 69] := by decide +kernel
theorem up_true : Lib.toUpperA (⟨#[116, 114, 117, 101]⟩ : ByteArray).data.toList = [84, 82, 85, 69] := by decide +kernel
theorem tupper_false (w : World) : Calls Tryz.prog 13 #[.string ⟨#[102, 97, 108, 115, 101]⟩] w fun e w' => e = .returned (.string ⟨#[70, 65, 76, 83, 69]⟩) ∧ Below w.heap.size w w' := by
  have := Tryz.strings_ToUpper_ascii ⟨#[102, 97, 108, 115, 101]⟩ w (by decide) (by
    intro j b h
    have hm : b ∈ [102, 97, 108, 115, 101] := List.mem_of_getElem? h
    simp at hm
    rcases hm with rfl | rfl | rfl | rfl | rfl <;> decide)
  rw [up_false] at this
  exact this
theorem tupper_true (w : World) : Calls Tryz.prog 13 #[.string ⟨#[116, 114, 117, 101]⟩] w fun e w' => e = .returned (.string ⟨#[84, 82, 85, 69]⟩) ∧ Below w.heap.size w w' := by
  have := Tryz.strings_ToUpper_ascii ⟨#[116, 114, 117, 101]⟩ w (by decide) (by
    intro j b h
    have hm : b ∈ [116, 114, 117, 101] := List.mem_of_getElem? h
    simp at hm
    rcases hm with rfl | rfl | rfl | rfl <;> decide)
  rw [up_true] at this
  exact this
end Go.Proofs.YtfmnlgepllgpnaaGreatDoor

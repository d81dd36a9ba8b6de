/- The program's scanner as it lies: its end, what kind a byte is of, what stands at its place, what is taken. -/
import Derived.Test.YtifnmclidabkfaaDoorL13A
import Derived.Test.YtifnmclidabkfaaDoorG11
import Derived.Lib.QuietBelow
namespace Go.Proofs.YtifnmclidabkfaaDoor
open Go.RowKit
set_option linter.unusedVariables false
set_option linter.unusedSimpArgs false

/-- A scanner: a text, and how far it has been taken. -/
structure Sc (w : World) (b : Nat) (s : ByteArray) (p : Nat) : Prop where
  hh : w.heap[b]? = some (.cells #[.string s, .int .i64 p] 35 (0, 0))
  le : p ≤ s.size
theorem Sc.lt {w : World} {b : Nat} {s : ByteArray} {p : Nat} (h : Sc w b s p) : b < w.heap.size := (Array.getElem?_eq_some_iff.1 h.hh).1
theorem Sc.keep {w w' : World} {b : Nat} {s : ByteArray} {p : Nat} {F : Nat → Prop} (h : Sc w b s p) (hf : Fr w w' F) (hb : ¬ F b) : Sc w' b s p := ⟨(hf.block b h.lt hb).trans h.hh, h.le⟩
theorem Sc.keepB {w w' : World} {b : Nat} {s : ByteArray} {p : Nat} (h : Sc w b s p) (hb : Below w.heap.size w w') : Sc w' b s p := h.keep (Fr.of_below (F := fun _ => False) hb) (fun h => h)
theorem Sc.c0 {w : World} {b : Nat} {s : ByteArray} {p : Nat} (h : Sc w b s p) : w.cell? ⟨b, 0, none⟩ = some (.string s) := by rw [cell_of_row w b 0 _ _ _ h.hh]; rfl
theorem Sc.c1 {w : World} {b : Nat} {s : ByteArray} {p : Nat} (h : Sc w b s p) : w.cell? ⟨b, 1, none⟩ = some (.int .i64 p) := by rw [cell_of_row w b 1 _ _ _ h.hh]; rfl
theorem Sc.fz {w : World} {b : Nat} {s : ByteArray} {p : Nat} (h : Sc w b s p) : w.frozen? ⟨b, 1, none⟩ = false := frozen_row h.hh 1
theorem Sc.to_ {w : World} {b : Nat} {s : ByteArray} {p q : Nat} (h : Sc w b s p) (hq : q ≤ s.size) : Sc (w.setCell ⟨b, 1, none⟩ (.int .i64 q)) b s q := by
  refine ⟨?_, hq⟩
  rw [heap_setCell_same w b 1 _ _ _ h.hh]
  rfl
theorem atEnd_any {w : World} {b : Nat} {s : ByteArray} {p : Nat} (h : Sc w b s p) (hs : s.size ≤ 10000) : Calls Tryd.prog 10 #[.pointer (some ⟨b, 0, none⟩)] w fun e w' => e = .returned (.bool (decide (p = s.size))) ∧ Below w.heap.size w w' := by
  have c0 := h.c0
  have c1 := h.c1
  have he : ((p : Int) == (s.size : Int)) = decide (p = s.size) := by
    by_cases e : p = s.size
    · simp [e]
    · rw [decide_eq_false e, beq_eq_false_iff_ne]; omega
  clear h
  go_enter Tryd.func10, Tryd.ntmps10
  go_wp2_with fail
  go_quiet (fail)
  go_wp2_with fail
  go_ret
  exact ⟨rfl, ⟨rfl, rfl, rfl, Nat.le_refl _, fun _ _ => rfl⟩⟩
theorem isBlank_any (x : Int) (w : World) : Calls Tryd.prog 15 #[.int .u8 x] w fun e w' => e = .returned (.bool (blI x)) ∧ w' = w := by
  by_cases h1 : x = 9
  · subst h1; go_enter Tryd.func15, Tryd.ntmps15; go_wp2; go_ret; exact ⟨rfl, rfl⟩
  by_cases h2 : x = 10
  · subst h2; go_enter Tryd.func15, Tryd.ntmps15; go_wp2; go_ret; exact ⟨rfl, rfl⟩
  by_cases h3 : x = 13
  · subst h3; go_enter Tryd.func15, Tryd.ntmps15; go_wp2; go_ret; exact ⟨rfl, rfl⟩
  by_cases h4 : x = 32
  · subst h4; go_enter Tryd.func15, Tryd.ntmps15; go_wp2; go_ret; exact ⟨rfl, rfl⟩
  have e1 : (x == 9) = false := by simpa using h1
  have e2 : (x == 10) = false := by simpa using h2
  have e3 : (x == 13) = false := by simpa using h3
  have e4 : (x == 32) = false := by simpa using h4
  simp only [blI, h1, h2, h3, h4]
  go_enter Tryd.func15, Tryd.ntmps15
  go_wp2
  go_ret
  exact ⟨rfl, rfl⟩
theorem isLetter_any (x : Int) (w : World) : Calls Tryd.prog 18 #[.int .u8 x] w fun e w' => e = .returned (.bool (ltI x)) ∧ w' = w := by
  by_cases h1 : 97 ≤ x <;> by_cases h2 : x ≤ 122 <;> by_cases h3 : 65 ≤ x <;> by_cases h4 : x ≤ 90 <;> by_cases h5 : x = 95
  all_goals first
    | omega
    | (have e5 : (x == 95) = decide (x = 95) := by by_cases h : x = 95 <;> simp [h]
       simp only [ltI, h1, h2, h3, h4, h5]
       go_enter Tryd.func18, Tryd.ntmps18
       go_wp2
       go_ret
       exact ⟨rfl, rfl⟩)
theorem isDigit_any (x : Int) (w : World) : Calls Tryd.prog 20 #[.int .u8 x] w fun e w' => e = .returned (.bool (dgI x)) ∧ w' = w := by
  by_cases h1 : 48 ≤ x <;> by_cases h2 : x ≤ 57
  all_goals first
    | omega
    | (simp only [dgI, h1, h2]
       go_enter Tryd.func20, Tryd.ntmps20
       go_wp2
       go_ret
       exact ⟨rfl, rfl⟩)
theorem wordKind_any (c : UInt8) (w : World) : Calls Tryd.prog 26 #[.int .u8 c.toNat] w fun e w' => e = .returned (.bool (isWd c)) ∧ w' = w := by
  have hl := isLetter_any (c.toNat : Int) w
  have hd := isDigit_any (c.toNat : Int) w
  rw [ltI_of] at hl
  rw [dgI_of] at hd
  unfold isWd
  generalize (c.toNat : Int) = x at *
  generalize isLt c = B1 at *
  generalize isDg c = B2 at *
  cases B1 with
  | true =>
    go_enter Tryd.func26, Tryd.ntmps26
    go_wp2_with fail
    refine hl.mono ?_
    rintro e w1 ⟨rfl, rfl⟩
    go_wp2_with fail
    go_ret
    exact ⟨rfl, rfl⟩
  | false =>
    go_enter Tryd.func26, Tryd.ntmps26
    go_wp2_with fail
    refine hl.mono ?_
    rintro e w1 ⟨rfl, rfl⟩
    go_wp2_with fail
    refine hd.mono ?_
    rintro e w1 ⟨rfl, rfl⟩
    go_wp2_with fail
    go_ret
    exact ⟨by simp, rfl⟩
theorem lineKind_any (c : UInt8) (w : World) : Calls Tryd.prog 17 #[.int .u8 c.toNat] w fun e w' => e = .returned (.bool (c != 10)) ∧ w' = w := by
  have hc : ((c.toNat : Int) != 10) = (c != 10) := by
    by_cases h : c = 10
    · subst h; rfl
    · have : ¬ (c.toNat : Int) = 10 := fun e => h ((u8_eq (n := 10) (by omega)).1 e)
      have h1 : ((c.toNat : Int) != 10) = true := by simpa using this
      have h2 : (c != 10) = true := by simpa using h
      rw [h1, h2]
  go_enter Tryd.func17, Tryd.ntmps17
  go_wp2
  go_ret
  first | exact ⟨rfl, rfl⟩ | exact ⟨by rw [← hc], rfl⟩ | (simp; done) | trace_state
end Go.Proofs.YtifnmclidabkfaaDoor

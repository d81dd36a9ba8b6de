/- The live question of layer 8. -/
import Derived.Test.YtkmgahembhgloaaH8Q
import Derived.Lib.SlBytesConst
namespace Go.Proofs.Ytkmgahembhgloaa
open Go.RowKit Go.Maps Go.Shelf
set_option linter.unusedVariables false
set_option linter.unusedSimpArgs false

theorem out_new {base : Nat} {w : World} {F : Nat → Prop} {hv : Value} {n : Nat} {R : Nat → List (List UInt8)} {t : Nat} (h : HeapAt base w F hv n R t) (m c : Nat) : OutB F (.slice (some ⟨w.heap.size, 0, none⟩) m c) := fun a n c e hF => by
  cases e
  have := (h.lo _ hF).2
  simp at this
theorem lit_bytesF (w : World) (xs : List UInt8) (hx : xs ≠ []) (fz : Nat × Nat) : Bytes (w.alloc (.cells (xs.map bv).toArray 5 fz)) (.slice (some ⟨w.heap.size, 0, none⟩) xs.length xs.length) xs := by
  refine Or.inr ⟨_, _, rfl, Nat.le_refl _, fun j hj => ?_⟩
  rw [Addr.add_mid, cell_of_row _ _ _ _ _ _ (heap_alloc_new w _)]
  simp [hj]
/-- A record of a heap of one page comes. -/
inductive One (w : World) (hv : Value) (rs : List (List UInt8)) (t : Nat) (w3 : World) : Prop
  | mk (F : Nat → Prop) (R : Nat → List (List UInt8)) (hH : HeapAt w.heap.size w3 F hv 1 R t) (hR : R 0 = rs) (hb : Below w.heap.size w w3)
theorem One.bytes {w : World} {hv : Value} {rs : List (List UInt8)} {t : Nat} {w3 : World} (h : One w hv rs t w3) (ht : t < 49000) (b : List UInt8) (hb : b ≠ []) (hl : ¬ (b.length = 0 ∨ b.length > 1500)) (hf : fitsP rs b.length = true) (fz : Nat × Nat) :
    Calls Try.prog 18 #[hv, .slice (some ⟨w3.heap.size, 0, none⟩) b.length b.length] (w3.alloc (.cells (b.map bv).toArray 5 fz)) fun e w4 => e = .returned (.tuple #[.int .i64 (freeAt rs), .int .i64 0]) ∧ Hid (One w hv (insP rs b) (t + 1) w4) := by
  obtain ⟨F, R, hH, hR, hbb⟩ := h
  have hba : Below w3.heap.size w3 (w3.alloc (.cells (b.map bv).toArray 5 fz)) := (Below.refl _ _).alloc (Nat.le_refl _) _
  have hss := hbb.size
  refine (hinsert_any (hH.keepB hba) (by omega) _ b (lit_bytesF w3 b hb fz) (out_new hH _ _) (by omega)).mono ?_
  rintro e w4 hO
  have hto : ∀ {R' w4}, HTo w.heap.size (w3.alloc (.cells (b.map bv).toArray 5 fz)) F hv 1 R' (t + 1) w4 → ∀ {rs'}, R' 0 = rs' → One w hv rs' (t + 1) w4 := fun hT rs' he => by
    obtain ⟨F', hH', hF', hfr⟩ := hT
    exact .mk F' _ hH' he ((hbb.trans (hba.mono hss)).trans (hfr.below (by have := hba.size; omega) (fun i hi => (hH.lo i hi).1)))
  cases hO with
  | long h1 => exact absurd h1 hl
  | full h1 h2 => have := h2 0 (by omega); rw [hR, hf] at this; cases this
  | ok h1 k hk h2 h3 h4 h5 =>
    obtain rfl : k = 0 := by omega
    rw [hR] at h4
    refine ⟨by rw [h4]; simp, hto h5 ?_⟩
    show (if 0 = 0 then insP (R 0) b else R 0) = _
    rw [if_pos rfl, hR]
theorem One.there {w : World} {hv : Value} {rs : List (List UInt8)} {t : Nat} {w3 : World} {F : Nat → Prop} {R : Nat → List (List UInt8)} (hR : R 0 = rs) (s : Nat) (hs : s < 256) (hy : thereP rs s) : ThereR 1 R (s : Int) := ⟨0, s, by omega, hs, by omega, by rw [hR]; exact hy⟩
theorem One.delete {w : World} {hv : Value} {rs : List (List UInt8)} {t : Nat} {w3 : World} (h : One w hv rs t w3) (ht : t < 49000) (s : Nat) (hs : s < 256) (hy : thereP rs s) :
    Calls Try.prog 21 #[hv, .int .i64 s] w3 fun e w4 => e = .returned (.int .i64 0) ∧ Hid (One w hv (rs.set s []) (t + 1) w4) := by
  obtain ⟨F, R, hH, hR, hbb⟩ := h
  refine (hdelete_any hH (by omega) s (by omega)).mono ?_
  rintro e w4 hO
  cases hO with
  | no hn => exact absurd (One.there (w := w) (hv := hv) (t := t) (w3 := w3) (F := F) hR s hs hy) hn
  | yes k s' hk hs' hid hy' he hT =>
    obtain rfl : k = 0 := by omega
    obtain rfl : s' = s := by omega
    obtain ⟨F', hH', hF', hfr⟩ := hT
    refine ⟨he, One.mk F' _ hH' ?_ (hbb.trans (hfr.below hbb.size (fun i hi => (hH.lo i hi).1)))⟩
    show (if 0 = 0 then (R 0).set s' [] else R 0) = _
    rw [if_pos rfl, hR]
theorem One.long {w : World} {hv : Value} {rs : List (List UInt8)} {t : Nat} {w3 : World} (h : One w hv rs t w3) (ht : t < 49000) (s : Nat) (hs : s < 256) (hy : thereP rs s) (b : List UInt8) (hb : b ≠ []) (hl : b.length > 1500) (hl2 : b.length ≤ 100000) (cells : Array Value) (hc : cells = (b.map bv).toArray) :
    Calls Try.prog 20 #[hv, .int .i64 s, .slice (some ⟨w3.heap.size, 0, none⟩) b.length b.length] (w3.alloc (.cells cells 5)) fun e w4 => e = .returned (.int .i64 81) ∧ Below w.heap.size w w4 := by
  subst hc
  obtain ⟨F, R, hH, hR, hbb⟩ := h
  have hba : Below w3.heap.size w3 (w3.alloc (.cells (b.map bv).toArray 5)) := (Below.refl _ _).alloc (Nat.le_refl _) _
  have hss := hbb.size
  refine (hupdate_any (hH.keepB hba) (by omega) s (by omega) _ b (lit_bytes w3 b hb) (out_new hH _ _) (by omega)).mono ?_
  rintro e w4 hO
  cases hO with
  | no hn => exact absurd (One.there (w := w) (hv := hv) (t := t) (w3 := w3) (F := F) hR s hs hy) hn
  | yes k s' hk hs' hid hy' he hT =>
    obtain ⟨F', hH', hF', hfr⟩ := hT
    refine ⟨?_, (hbb.trans (hba.mono hss)).trans (hfr.below (by have := hba.size; omega) (fun i hi => (hH.lo i hi).1))⟩
    rw [he]
    unfold updO
    rw [if_pos (Or.inr hl)]
theorem make2000 (w : World) : (Instr.makeSlice 30 (.int .i64 2000) (.int .i64 2000)).run Try.prog w = .ok (.slice (some ⟨w.heap.size, 0, none⟩) 2000 2000) (w.alloc (.cells (madeCells #[.int .u8 0] 2000) 5)) := by
  obtain ⟨i0, hi, hz0, hz1, hz2⟩ := info_parts infoB
  have hr := run_make (P := Try.prog) w 30 5 i0 (.int .u8 0) Try.underlying30 hi hz0 .i64 .i64 2000 2000 (by omega) (Int.le_refl _) (by rw [hz2]; omega) (by omega)
  rw [hz1] at hr
  exact hr
theorem made2000 : madeCells #[.int .u8 0] 2000 = ((List.replicate 2000 (0 : UInt8)).map bv).toArray := by
  apply Array.toList_inj.1
  rw [toList_madeCells_one, List.map_replicate]
  rfl
theorem conv_lit (w : World) (xs : List UInt8) : (convert 30 30 (.slice (some ⟨w.heap.size, 0, none⟩) xs.length xs.length)).run Try.prog (w.alloc (.cells (xs.map bv).toArray 5)) = .ok (.slice (some ⟨w.heap.size, 0, none⟩) xs.length xs.length) (w.alloc (.cells (xs.map bv).toArray 5 (xs.length, xs.length + 1))) := by
  have h := Lib.run_convert_bytes_const w 30 5 (xs.map bv).toArray xs.length xs.length Try.underlying30 Try.underlying5
  rw [show (xs.map bv).toArray.size = xs.length by simp] at h
  exact h
def abc : List UInt8 := [97, 98, 99]
def de_ : List UInt8 := [100, 101]
def f_ : List UInt8 := [102]
set_option maxRecDepth 20000 in
set_option maxHeartbeats 2000000 in
theorem alive_any (w : World) : Calls Try.prog 9 #[] w fun e w' => e = .returned (.bool true) ∧ Below w.heap.size w w' := by
  have hM := made_any 1 1 (by omega) (by omega) w
  go_enter Try.func9, Try.ntmps9
  go_wp2_with fail
  refine hM.mono ?_
  clear hM
  rintro e w1 ⟨hg, F1, rfl, hH1, hb1⟩
  have H1 : Hid (One w (.pointer (some ⟨hg, 0, none⟩)) [] 2 w1) := One.mk F1 _ hH1 rfl hb1
  clear hH1 hb1
  have hc1 := H1.out.bytes (by omega) abc (by decide) (by decide) (by decide) (3, 4)
  have hv1 := conv_lit w1 abc
  change (convert 30 30 (.slice (some ⟨w1.heap.size, 0, none⟩) 3 3)).run Try.prog (w1.alloc (.cells #[.int .u8 97, .int .u8 98, .int .u8 99] 5)) = .ok (.slice (some ⟨w1.heap.size, 0, none⟩) 3 3) (w1.alloc (.cells #[.int .u8 97, .int .u8 98, .int .u8 99] 5 (3, 4))) at hv1
  clear H1
  go_wp2_with fail
  change Calls Try.prog _ _ (w1.alloc (.cells (abc.map bv).toArray 5 (3, 4))) _
  refine hc1.mono ?_
  clear hc1 hv1
  rintro e w2 ⟨rfl, H2⟩
  rw [show (freeAt [] : Nat) = 0 from rfl]
  have hc2 := H2.out.bytes (by omega) de_ (by decide) (by decide) (by decide) (2, 3)
  have hv2 := conv_lit w2 de_
  change (convert 30 30 (.slice (some ⟨w2.heap.size, 0, none⟩) 2 2)).run Try.prog (w2.alloc (.cells #[.int .u8 100, .int .u8 101] 5)) = .ok (.slice (some ⟨w2.heap.size, 0, none⟩) 2 2) (w2.alloc (.cells #[.int .u8 100, .int .u8 101] 5 (2, 3))) at hv2
  clear H2
  go_wp2_with fail
  change Calls Try.prog _ _ (w2.alloc (.cells (de_.map bv).toArray 5 (2, 3))) _
  refine hc2.mono ?_
  clear hc2 hv2
  rintro e w3 ⟨rfl, H3⟩
  rw [show freeAt (insP [] abc) = 1 from by decide]
  have hc3 := H3.out.delete (by omega) 0 (by omega) (by unfold thereP; decide)
  clear H3
  go_wp2_with fail
  refine hc3.mono ?_
  clear hc3
  rintro e w4 ⟨rfl, H4⟩
  have hc4 := H4.out.bytes (by omega) f_ (by decide) (by decide) (by decide) (1, 2)
  have hv4 := conv_lit w4 f_
  change (convert 30 30 (.slice (some ⟨w4.heap.size, 0, none⟩) 1 1)).run Try.prog (w4.alloc (.cells #[.int .u8 102] 5)) = .ok (.slice (some ⟨w4.heap.size, 0, none⟩) 1 1) (w4.alloc (.cells #[.int .u8 102] 5 (1, 2))) at hv4
  clear H4
  go_wp2_with fail
  change Calls Try.prog _ _ (w4.alloc (.cells (f_.map bv).toArray 5 (1, 2))) _
  refine hc4.mono ?_
  clear hc4 hv4
  rintro e w5 ⟨rfl, H5⟩
  rw [show freeAt ((insP (insP [] abc) de_).set 0 []) = 0 from by decide]
  have hl0 : (List.replicate 2000 (0 : UInt8)).length = 2000 := List.length_replicate
  have hc5 := H5.out.long (by omega) 1 (by omega) (by unfold thereP; decide) (List.replicate 2000 0) (fun h => by rw [h] at hl0; cases hl0) (by rw [hl0]; omega) (by rw [hl0]; omega) (madeCells #[.int .u8 0] 2000) made2000
  rw [hl0] at hc5
  have hmk := make2000 w5
  clear H5 hl0
  go_wp2_with fail
  refine hc5.mono ?_
  clear hc5 hmk
  rintro e w6 ⟨rfl, hb6⟩
  go_wp2
  go_ret
  exact ⟨rfl, hb6⟩
end Go.Proofs.Ytkmgahembhgloaa

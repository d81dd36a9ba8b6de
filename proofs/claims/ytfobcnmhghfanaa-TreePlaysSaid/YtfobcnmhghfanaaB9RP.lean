/- A tree and the document's list beside it, and an op's box. -/
import Derived.Test.YtfobcnmhghfanaaB9RD
namespace Go.Proofs.Ytfobcnmhghfanaa
open Go.RowKit Go.Shelf
set_option linter.unusedVariables false
set_option linter.unusedSimpArgs false

theorem line_ins {L : List E} (h : Line L) (key : ByteArray) (n : Int) : Line (insO L key n).2 := by
  unfold insO
  split
  · exact h
  · split
    · exact line_add h _
    · split
      · exact line_set h _
      · exact h
theorem line_gho {L : List E} (h : Line L) (key : ByteArray) : Line (ghostO L key).2 := by
  unfold ghostO
  split
  · exact h
  · split
    · exact h
    · exact line_set h _
theorem line_pur {L : List E} (h : Line L) (key : ByteArray) : Line (purgeO L key).2 := by
  unfold purgeO
  split
  · exact h
  · split
    · exact line_filter h _
    · exact h
/-- Both, and the op's box. -/
def MR (w0 w : World) (a b B : Nat) (x : Op9) (La Lb : List E) : Prop := ∃ ro lv, TB w0 w ro (pt a) La ∧ RT w0.heap.size w b lv Lb ∧ Line Lb ∧ ro b = none ∧ (∀ k, lv.ownBlock = some k → ro k = none) ∧ ro B = none ∧ B ≠ b ∧ lv.ownBlock ≠ some B ∧ w.heap[B]? = some (.cells (cells9 x).toArray 32 (0, 0))
/-- Both, of one line. -/
def PR (w0 w : World) (a b m : Nat) : Prop := ∃ ro lv L, TB w0 w ro (pt a) L ∧ RT w0.heap.size w b lv L ∧ ro b = none ∧ (∀ k, lv.ownBlock = some k → ro k = none) ∧ L.length ≤ m
theorem MR.pr {w0 w : World} {a b B m : Nat} {x : Op9} {L : List E} (h : MR w0 w a b B x L L) (hm : L.length ≤ m) : PR w0 w a b m := by
  obtain ⟨ro, lv, h1, h2, h3, h4, h5, _⟩ := h
  exact ⟨ro, lv, L, h1, h2, h4, h5, hm⟩
theorem PR.bl {w0 w : World} {a b m : Nat} (h : PR w0 w a b m) : Below w0.heap.size w0 w := by obtain ⟨ro, lv, L, h, _⟩ := h; exact h.bl
theorem PR.below {w0 w w' : World} {a b m : Nat} (h : PR w0 w a b m) (hb : Below w.heap.size w w') : PR w0 w' a b m := by
  obtain ⟨ro, lv, L, h1, h2, h3, h4, h5⟩ := h
  exact ⟨ro, lv, L, h1.below hb, h2.below hb, h3, h4, h5⟩
theorem MR.bl {w0 w : World} {a b B : Nat} {x : Op9} {La Lb : List E} (h : MR w0 w a b B x La Lb) : Below w0.heap.size w0 w := by obtain ⟨ro, lv, h, _⟩ := h; exact h.bl
theorem MR.below {w0 w w' : World} {a b B : Nat} {x : Op9} {La Lb : List E} (h : MR w0 w a b B x La Lb) (hb : Below w.heap.size w w') : MR w0 w' a b B x La Lb := by
  obtain ⟨ro, lv, h1, h2, h3, h4, h5, h6, h7, h8, h9⟩ := h
  exact ⟨ro, lv, h1.below hb, h2.below hb, h3, h4, h5, h6, h7, h8, (hb.block B (Array.getElem?_eq_some_iff.1 h9).1).trans h9⟩
theorem MR.lineA {w0 w : World} {a b B : Nat} {x : Op9} {La Lb : List E} (h : MR w0 w a b B x La Lb) : Line La := by obtain ⟨ro, lv, h1, _⟩ := h; exact h1.tr.line
theorem MR.blk {w0 w : World} {a b B : Nat} {x : Op9} {La Lb : List E} (h : MR w0 w a b B x La Lb) : w.cell? ⟨B, 0, none⟩ = some (.int .i64 x.kind) ∧ w.cell? ⟨B, 1, none⟩ = some (.int .i64 x.n) ∧ w.cell? ⟨B, 2, none⟩ = some (.string x.key) ∧ w.cell? ⟨B, 3, none⟩ = some (.bool x.is) ∧ w.cell? ⟨B, 4, none⟩ = some (.bool x.near) := by
  obtain ⟨ro, lv, _, _, _, _, _, _, _, _, hb⟩ := h
  exact ⟨by rw [cell_of_row w B 0 _ _ _ hb]; rfl, by rw [cell_of_row w B 1 _ _ _ hb]; rfl, by rw [cell_of_row w B 2 _ _ _ hb]; rfl, by rw [cell_of_row w B 3 _ _ _ hb]; rfl, by rw [cell_of_row w B 4 _ _ _ hb]; rfl⟩
theorem PR.box {w0 w : World} {a b m : Nat} (h : PR w0 w a b m) (x : Op9) : ∃ L, L.length ≤ m ∧ MR w0 (w.alloc (.cells #[.int .i64 x.kind, .int .i64 x.n, .string x.key, .bool x.is, .bool x.near] 32)) a b w.heap.size x L L := by
  obtain ⟨ro, lv, L, h1, h2, h3, h4, h5⟩ := h
  have hb : Below w.heap.size w (w.alloc (.cells #[.int .i64 x.kind, .int .i64 x.n, .string x.key, .bool x.is, .bool x.near] 32)) := (Below.refl _ _).alloc (Nat.le_refl _) _
  refine ⟨L, h5, ro, lv, h1.below hb, h2.below hb, h1.tr.line, h3, h4, Classical.byContradiction fun hn => ?_, fun e => ?_, fun e => ?_, heap_alloc_new w _⟩
  · have := (h1.tr.lo _ hn).2; omega
  · have := h2.lt; omega
  · have := (h2.row.lo _ e).2; omega
theorem MR.putT {w0 w w' : World} {a b B : Nat} {x : Op9} {ro ro' : Ro} {lv : Value} {La' Lb : List E} (h2 : RT w0.heap.size w b lv Lb) (h3 : Line Lb) (h4 : ro b = none) (h5 : ∀ k, lv.ownBlock = some k → ro k = none) (h6 : ro B = none) (h7 : B ≠ b) (h8 : lv.ownBlock ≠ some B) (h9 : w.heap[B]? = some (.cells (cells9 x).toArray 32 (0, 0))) (ht : TB w0 w' ro' (pt a) La') (hto : TTo w ro w' ro') : MR w0 w' a b B x La' Lb := by
  have hB := (Array.getElem?_eq_some_iff.1 h9).1
  have hnew : ∀ k, ro k = none → k < w.heap.size → ro' k = none := fun k hk hlt => Classical.byContradiction fun hn => by
    rcases hto.gr k hn with h | h
    · exact h hk
    · omega
  exact ⟨ro', lv, ht, h2.keep hto.fr (fun h => h h4) (fun k hk h => h (h5 k hk)), h3, hnew b h4 h2.lt, fun k hk => hnew k (h5 k hk) (h2.row.lo k hk).2, hnew B h6 hB, h7, h8, (hto.fr.block B hB (fun h => h h6)).trans h9⟩
theorem MR.putW {w0 w w' : World} {a b B : Nat} {x : Op9} {ro : Ro} {lv lv' : Value} {La Lb Lb' : List E} (h1 : TB w0 w ro (pt a) La) (h2 : RT w0.heap.size w b lv Lb) (h4 : ro b = none) (h5 : ∀ k, lv.ownBlock = some k → ro k = none) (h6 : ro B = none) (h7 : B ≠ b) (h8 : lv.ownBlock ≠ some B) (h9 : w.heap[B]? = some (.cells (cells9 x).toArray 32 (0, 0))) (hr : RT w0.heap.size w' b lv' Lb') (hl : Line Lb') (hf : Fr w w' (fun k => k = b ∨ lv.ownBlock = some k)) (hn : ∀ k, lv'.ownBlock = some k → lv.ownBlock = some k ∨ w.heap.size ≤ k) : MR w0 w' a b B x La Lb' := by
  have hB := (Array.getElem?_eq_some_iff.1 h9).1
  have hG : ∀ k, ro k ≠ none → ¬ (k = b ∨ lv.ownBlock = some k) := fun k hk h => by
    rcases h with rfl | h
    · exact hk h4
    · exact hk (h5 k h)
  have hbl : Below w0.heap.size w w' := hf.below h1.bl.size (fun k hk => by
    rcases hk with rfl | h
    · exact h2.lo
    · exact (h2.row.lo k h).1)
  refine ⟨ro, lv', ⟨h1.tr.keep hf hG, h1.bl.trans hbl⟩, hr, hl, h4, fun k hk => ?_, h6, h7, fun e => ?_, (hf.block B hB (fun h => by rcases h with h | h; exact h7 h; exact h8 h)).trans h9⟩
  · rcases hn k hk with h | h
    · exact h5 k h
    · exact Classical.byContradiction fun hx => by have := (h1.tr.lo k hx).2; omega
  · rcases hn B e with h | h
    · exact h8 h
    · omega
theorem MR.tins {w0 w : World} {a b B : Nat} {x : Op9} {La Lb : List E} (h : MR w0 w a b B x La Lb) (hlen : La.length ≤ 90000) (key : ByteArray) (n : Int) : Calls Try.prog 14 #[(pt a), .string key, .int .i64 n] w fun e w' => e = .returned (.int .i64 (insO La key n).1) ∧ MR w0 w' a b B x (insO La key n).2 Lb := by
  obtain ⟨ro, lv, h1, h2, h3, h4, h5, h6, h7, h8, h9⟩ := h
  refine (h1.ins (by omega) key n).mono ?_
  rintro e w' ⟨ro', he, ht, hto⟩
  exact ⟨he, MR.putT h2 h3 h4 h5 h6 h7 h8 h9 ht hto⟩
theorem MR.wins {w0 w : World} {a b B : Nat} {x : Op9} {La Lb : List E} (h : MR w0 w a b B x La Lb) (hlen : Lb.length ≤ 90000) (key : ByteArray) (n : Int) : Calls Try.prog 21 #[(pt b), .string key, .int .i64 n] w fun e w' => e = .returned (.int .i64 (insO Lb key n).1) ∧ MR w0 w' a b B x La (insO Lb key n).2 := by
  obtain ⟨ro, lv, h1, h2, h3, h4, h5, h6, h7, h8, h9⟩ := h
  refine (rinsert_any h2 h3 hlen h1.bl.size key n).mono ?_
  rintro e w' ⟨lv', he, hr, hf, hn⟩
  exact ⟨he, MR.putW h1 h2 h4 h5 h6 h7 h8 h9 hr (line_ins h3 key n) hf hn⟩
theorem MR.tgho {w0 w : World} {a b B : Nat} {x : Op9} {La Lb : List E} (h : MR w0 w a b B x La Lb) (hlen : La.length ≤ 90000) (key : ByteArray) : Calls Try.prog 15 #[(pt a), .string key] w fun e w' => e = .returned (.int .i64 (ghostO La key).1) ∧ MR w0 w' a b B x (ghostO La key).2 Lb := by
  obtain ⟨ro, lv, h1, h2, h3, h4, h5, h6, h7, h8, h9⟩ := h
  refine (h1.gho (by omega) key).mono ?_
  rintro e w' ⟨ro', he, ht, hto⟩
  exact ⟨he, MR.putT h2 h3 h4 h5 h6 h7 h8 h9 ht hto⟩
theorem MR.wgho {w0 w : World} {a b B : Nat} {x : Op9} {La Lb : List E} (h : MR w0 w a b B x La Lb) (hlen : Lb.length ≤ 90000) (key : ByteArray) : Calls Try.prog 22 #[(pt b), .string key] w fun e w' => e = .returned (.int .i64 (ghostO Lb key).1) ∧ MR w0 w' a b B x La (ghostO Lb key).2 := by
  obtain ⟨ro, lv, h1, h2, h3, h4, h5, h6, h7, h8, h9⟩ := h
  refine (rghost_any h2 h3 hlen key).mono ?_
  rintro e w' ⟨lv', he, hr, hf, hn⟩
  exact ⟨he, MR.putW h1 h2 h4 h5 h6 h7 h8 h9 hr (line_gho h3 key) hf hn⟩
theorem MR.tpur {w0 w : World} {a b B : Nat} {x : Op9} {La Lb : List E} (h : MR w0 w a b B x La Lb) (hlen : La.length ≤ 90000) (key : ByteArray) : Calls Try.prog 16 #[(pt a), .string key] w fun e w' => e = .returned (.int .i64 (purgeO La key).1) ∧ MR w0 w' a b B x (purgeO La key).2 Lb := by
  obtain ⟨ro, lv, h1, h2, h3, h4, h5, h6, h7, h8, h9⟩ := h
  refine (h1.pur (by omega) key).mono ?_
  rintro e w' ⟨ro', he, ht, hto⟩
  exact ⟨he, MR.putT h2 h3 h4 h5 h6 h7 h8 h9 ht hto⟩
theorem MR.wpur {w0 w : World} {a b B : Nat} {x : Op9} {La Lb : List E} (h : MR w0 w a b B x La Lb) (hlen : Lb.length ≤ 90000) (key : ByteArray) : Calls Try.prog 23 #[(pt b), .string key] w fun e w' => e = .returned (.int .i64 (purgeO Lb key).1) ∧ MR w0 w' a b B x La (purgeO Lb key).2 := by
  obtain ⟨ro, lv, h1, h2, h3, h4, h5, h6, h7, h8, h9⟩ := h
  refine (rpurge_any h2 h3 hlen h1.bl.size key).mono ?_
  rintro e w' ⟨lv', he, hr, hf, hn⟩
  exact ⟨he, MR.putW h1 h2 h4 h5 h6 h7 h8 h9 hr (line_pur h3 key) hf hn⟩
theorem MR.tget {w0 w : World} {a b B : Nat} {x : Op9} {La Lb : List E} (h : MR w0 w a b B x La Lb) (hlen : La.length ≤ 900000) (key : ByteArray) : Calls Try.prog 20 #[(pt a), .string key] w fun e w' => e = .returned (getV (getL La key)) ∧ MR w0 w' a b B x La Lb := by
  have H := h
  obtain ⟨ro, lv, h1, h2, h3, h4⟩ := h
  refine (tget_any h1.tr key).mono ?_
  rintro e w' ⟨he, hb⟩
  exact ⟨he, H.below hb⟩
theorem MR.wget {w0 w : World} {a b B : Nat} {x : Op9} {La Lb : List E} (h : MR w0 w a b B x La Lb) (hlen : Lb.length ≤ 900000) (key : ByteArray) : Calls Try.prog 24 #[(pt b), .string key] w fun e w' => e = .returned (getV (getL Lb key)) ∧ MR w0 w' a b B x La Lb := by
  have H := h
  obtain ⟨ro, lv, h1, h2, h3, h4⟩ := h
  refine (rget_any h2 h3 hlen key).mono ?_
  rintro e w' ⟨he, hb⟩
  exact ⟨he, H.below hb⟩
theorem MR.tnext {w0 w : World} {a b B : Nat} {x : Op9} {La Lb : List E} (h : MR w0 w a b B x La Lb) (hlen : La.length ≤ 900000) (key : ByteArray) (is : Bool) : Calls Try.prog 19 #[(pt a), .string key, .bool is] w fun e w' => e = .returned (nextV (nextL La key is)) ∧ MR w0 w' a b B x La Lb := by
  have H := h
  obtain ⟨ro, lv, h1, h2, h3, h4⟩ := h
  refine (tnext_any h1.tr key is).mono ?_
  rintro e w' ⟨he, hb⟩
  exact ⟨he, H.below hb⟩
theorem MR.wnext {w0 w : World} {a b B : Nat} {x : Op9} {La Lb : List E} (h : MR w0 w a b B x La Lb) (hlen : Lb.length ≤ 900000) (key : ByteArray) (is : Bool) : Calls Try.prog 25 #[(pt b), .string key, .bool is] w fun e w' => e = .returned (nextV (nextL Lb key is)) ∧ MR w0 w' a b B x La Lb := by
  have H := h
  obtain ⟨ro, lv, h1, h2, h3, h4⟩ := h
  refine (rnext_any h2 h3 hlen key is).mono ?_
  rintro e w' ⟨he, hb⟩
  exact ⟨he, H.below hb⟩
end Go.Proofs.Ytfobcnmhghfanaa

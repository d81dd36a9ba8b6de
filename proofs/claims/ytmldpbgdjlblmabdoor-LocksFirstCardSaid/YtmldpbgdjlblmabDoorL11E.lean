/- The document's table of locks: held, Has; may as the list's. -/
import Derived.Test.YtmldpbgdjlblmabDoorL11D
import Derived.Test.YtmldpbgdjlblmabDoorL11S
namespace Go.Proofs.YtmldpbgdjlblmabDoor
open Go.RowKit Go.Joins
set_option linter.unusedVariables false
set_option linter.unusedSimpArgs false

theorem blk_not {L : List Rq} {k i : Nat} {r : Rq} (hr : L[i]? = some r) (h : blk L k i = true) : mayP (L.take i) r (L.drop (i + 1)) = false := by
  unfold blk at h
  split at h
  · rename_i g r' hg hr'
    rw [hr] at hr'
    cases hr'
    obtain ⟨hk, e⟩ := List.getElem?_eq_some_iff.1 hg
    simp only [Bool.and_eq_true, Bool.not_eq_true', decide_eq_false_iff_not] at h
    obtain ⟨hne, h2⟩ := h
    by_cases hlt : k < i
    · have hm : g ∈ L.take i := by rw [List.mem_take_iff_getElem]; exact ⟨k, by omega, e⟩
      split at h2
      · rename_i hgr
        have : gb (L.take i) r = true := by unfold gb; rw [List.any_eq_true]; exact ⟨g, hm, by simp [hgr, h2]⟩
        simp [mayP, this]
      · rename_i hgr
        simp only [Bool.and_eq_true, Bool.not_eq_true'] at h2
        have : wb (L.take i) r = true := by unfold wb; rw [List.any_eq_true]; exact ⟨g, hm, by simp only [Bool.not_eq_true] at hgr; simp [hgr]; simpa using h2.1.2⟩
        simp [mayP, this, h2.2]
    · split at h2
      · rename_i hgr
        have hm : g ∈ L.drop (i + 1) := by rw [List.mem_drop_iff_getElem]; exact ⟨k - (i + 1), by omega, by rw [← e]; congr 1; omega⟩
        have : gb (L.drop (i + 1)) r = true := by unfold gb; rw [List.any_eq_true]; exact ⟨g, hm, by simp [hgr, h2]⟩
        simp [mayP, this]
      · simp [hlt] at h2
  · cases h
theorem blk_like {L : List Rq} {i : Nat} {r : Rq} (hr : L[i]? = some r) (h : mayP (L.take i) r (L.drop (i + 1)) = false) : ∃ k, k < L.length ∧ blk L k i = true := by
  obtain ⟨hi, e⟩ := List.getElem?_eq_some_iff.1 hr
  have three : gb (L.take i) r = true ∨ gb (L.drop (i + 1)) r = true ∨ (cvn (L.take i) r = false ∧ wb (L.take i) r = true) := by
    unfold mayP at h
    cases h1 : gb (L.take i) r <;> cases h2 : gb (L.drop (i + 1)) r <;> cases h3 : cvn (L.take i) r <;> cases h4 : wb (L.take i) r <;> simp_all
  rcases three with h1 | h1 | ⟨h3, h1⟩
  · unfold gb at h1
    rw [List.any_eq_true] at h1
    obtain ⟨g, g1, g2⟩ := h1
    rw [List.mem_take_iff_getElem] at g1
    obtain ⟨k, hk, e1⟩ := g1
    refine ⟨k, by omega, ?_⟩
    simp only [Bool.and_eq_true] at g2
    simp only [blk, List.getElem?_eq_getElem (show k < L.length by omega), e1, hr, g2.1, g2.2]
    simp; omega
  · unfold gb at h1
    rw [List.any_eq_true] at h1
    obtain ⟨g, g1, g2⟩ := h1
    rw [List.mem_drop_iff_getElem] at g1
    obtain ⟨k, hk, e1⟩ := g1
    refine ⟨i + 1 + k, by omega, ?_⟩
    simp only [Bool.and_eq_true] at g2
    simp only [blk, List.getElem?_eq_getElem (show i + 1 + k < L.length by omega), e1, hr, g2.1, g2.2]
    simp; omega
  · unfold wb at h1
    rw [List.any_eq_true] at h1
    obtain ⟨g, g1, g2⟩ := h1
    rw [List.mem_take_iff_getElem] at g1
    obtain ⟨k, hk, e1⟩ := g1
    refine ⟨k, by omega, ?_⟩
    simp only [Bool.and_eq_true, Bool.not_eq_true'] at g2
    simp only [blk, List.getElem?_eq_getElem (show k < L.length by omega), e1, hr, g2.1, g2.2, h3]
    simp; omega
theorem may_all {L : List Rq} {i : Nat} {r : Rq} (hr : L[i]? = some r) : ((List.range L.length).all fun k => !blk L k i) = mayP (L.take i) r (L.drop (i + 1)) := by
  cases h : mayP (L.take i) r (L.drop (i + 1)) with
  | false =>
    obtain ⟨k, hk, hb⟩ := blk_like hr h
    rw [List.all_eq_false]
    exact ⟨k, by rw [List.mem_range]; exact hk, by simp [hb]⟩
  | true =>
    rw [List.all_eq_true]
    intro k _
    cases hb : blk L k i with
    | false => rfl
    | true => rw [blk_not hr hb] at h; cases h
theorem keepKO {w w' W : World} {t g cap k : Nat} {most : Int} {L : List Rq} {xt sa sb xm : Int} {ta la ua tb lb' ub : ByteArray} {na nb xg xs : Bool} (h : QTab W t most (some ⟨g, 0, none⟩) cap L) (hx : RqAt W g k ⟨xt, ⟨sa, ta, la, ua, na⟩, xm, xg, xs⟩) (ho : BoxO W w.heap.size ⟨sb, tb, lb', ub, nb⟩) (hb : Below W.heap.size W w') : Below W.heap.size W w' ∧ w'.cell? ⟨t, 1, none⟩ = some (.slice (some ⟨g, 0, none⟩) L.length cap) ∧ w'.cell? ⟨g, k * 9, none⟩ = some (.int .i64 xt) ∧ w'.cell? ⟨g, k * 9 + 1, none⟩ = some (.int .i64 sa) ∧ w'.cell? ⟨g, k * 9 + 2, none⟩ = some (.string ta) ∧ w'.cell? ⟨g, k * 9 + 3, none⟩ = some (.string la) ∧ w'.cell? ⟨g, k * 9 + 4, none⟩ = some (.string ua) ∧ w'.cell? ⟨g, k * 9 + 5, none⟩ = some (.bool na) ∧ w'.cell? ⟨g, k * 9 + 6, none⟩ = some (.int .i64 xm) ∧ w'.cell? ⟨g, k * 9 + 7, none⟩ = some (.bool xg) ∧ w'.cell? ⟨g, k * 9 + 8, none⟩ = some (.bool xs) ∧ w'.cell? ⟨w.heap.size, 0, none⟩ = some (.int .i64 sb) ∧ w'.cell? ⟨w.heap.size, 1, none⟩ = some (.string tb) ∧ w'.cell? ⟨w.heap.size, 2, none⟩ = some (.string lb') ∧ w'.cell? ⟨w.heap.size, 3, none⟩ = some (.string ub) ∧ w'.cell? ⟨w.heap.size, 4, none⟩ = some (.bool nb) :=
  have X := hx.keep hb
  have Y := ho.keep hb
  ⟨hb, (h.keep hb).l, X.c0, X.c1, X.c2, X.c3, X.c4, X.c5, X.c6, X.c7, X.c8, Y.c0, Y.c1, Y.c2, Y.c3, Y.c4⟩
def hB (tx : Int) (o : Ob) (m : Int) (g : Rq) : Bool := heldB g tx o m
end Go.Proofs.YtmldpbgdjlblmabDoor

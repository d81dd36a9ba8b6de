/- What goes over a page's slots: hasRecord, recordsOf. -/
import Derived.Test.YtkmgahembhgloaaH8E
import Derived.Test.YtkmgahembhgloaaH8D
namespace Go.Proofs.Ytkmgahembhgloaa
open Go.RowKit Go.Maps Go.Shelf
set_option linter.unusedVariables false
set_option linter.unusedSimpArgs false
attribute [local go_sem] Oper.semAt_some

theorem cell_new_l (W : World) (v : Value) (t : TypeId) : (W.alloc (.cells #[v] t)).cell? ⟨W.heap.size, 0, none⟩ = some v ∧ (W.alloc (.cells #[v] t)).frozen? ⟨W.heap.size, 0, none⟩ = false := ⟨(Boxed.new W t v).cell, (Boxed.new W t v).frozen⟩
theorem cell_alloc_l {W : World} {a : Addr} {v : Value} (o : Obj) (h : W.cell? a = some v) : (W.alloc o).cell? a = some v := ((Below.refl _ _).alloc (Nat.le_refl _) o).cell (p := a) (World.block_lt_of_cell? W _ h) |>.trans h
theorem frozen_alloc_l {W : World} {a : Addr} {v : Value} (o : Obj) (h : W.cell? a = some v) (hf : W.frozen? a = false) : (W.alloc o).frozen? a = false := by
  have hb := Below.heap_alloc W o a.block (World.block_lt_of_cell? W _ h)
  unfold World.frozen? at hf ⊢
  rw [hb]; exact hf
/-- The piece that a slot names. -/
def recV (a : Addr) (cap : Nat) (c : List UInt8) (s : Nat) : Value := pieceV a cap (numP c (2 + 4 * s)) (numP c (2 + 4 * s + 2))
theorem slotV_eq (a : Addr) (cap : Nat) (c : List UInt8) (x : Fin 256) : slotV a cap c x = #[.int .i64 (x.val : Int), recV a cap c x.val] := rfl
theorem recV_bytes {w : World} {a : Addr} {cap : Nat} {c : List UInt8} (h : Cont w a cap c) (s : Nat) : Bytes w (recV a cap c s) (recP c s) := pieceV_bytes h _ _
theorem recP_len {c : List UInt8} (hl : c.length = 2048) (s : Nat) : (recP c s).length ≤ 2048 := by
  unfold recP pieceP
  split
  · simp
  · simp; omega
--HAS
set_option maxRecDepth 100000 in
set_option maxHeartbeats 2000000 in
theorem hasRecord_any {w : World} {a : Addr} {cap : Nat} {c : List UInt8} (hC : Cont w a cap c) (s : Nat) (hs : s < 256) :
    Calls Try.prog 62 #[.slice (some a) 2048 cap, .int .i64 s] w fun e w' => e = .returned (.bool (decide (s < cntP c ∧ 0 < (recP c s).length))) ∧ Below w.heap.size w w' := by
  refine (callsIn_wide (n := 9)).1 ?_
  refine callsIn_of_wp_marks Try.func62 rfl trivial ?_ rfl
  simp only [Try.ntmps62, List.size_toArray, List.length_cons, List.length_nil, Nat.reduceAdd, Nat.reduceSub, Array.replicate_succ, Array.replicate_zero, List.push_toArray, List.append_toArray, List.nil_append, List.cons_append]
  gi_wp2_with (refine ⟨trivial, ?_⟩; gi_at_call 31; refine (callsIn_wide.2 (slots_any (some a) 2048 cap _)).mono ?_; rintro e w' ⟨rfl, rfl⟩)
  have c0 := cell_new_l w (.int .i64 s) 3
  have c1 := cell_new_l (w.alloc (.cells #[.int .i64 s] 3)) (.bool false) 4
  have c2 := cell_new_l ((w.alloc (.cells #[.int .i64 s] 3)).alloc (.cells #[.bool false] 4)) (.slice (some a) 2048 cap) 30
  simp only [World.size_alloc] at c1 c2
  have hB0 : Below w.heap.size w (((w.alloc (.cells #[.int .i64 s] 3)).alloc (.cells #[.bool false] 4)).alloc (.cells #[.slice (some a) 2048 cap] 30)) := (((Below.refl _ w).alloc (Nat.le_refl _) _).alloc (by simp) _).alloc (by simp; omega) _
  have hCl := hC.lt
  refine wpIn_rangeFunc_ownF (F := Fence.wide) (n := 9) rfl (by omega) (gf := 57) (lb := #[.pointer (some ⟨w.heap.size + 1 + 1, 0, none⟩)]) rfl trivial (enters_of Try.func57 (by kernel_rfl) rfl)
    (slots_stops 8 (by omega) (w.heap.size + 1 + 1) a cap c _ (by simp) c2.1 (hC.keep hB0)) Kc.trans (kc_b (by simp) (by simp; omega)) (Below.refl _ _) (fun _ => rfl)
    (fun (pre : List (Fin 256)) W => ((∀ y ∈ pre, y.val ≠ s) ∧ W.cell? ⟨w.heap.size, 0, none⟩ = some (.int .i64 s) ∧ W.cell? ⟨w.heap.size + 1, 0, none⟩ = some (.bool false) ∧ W.frozen? ⟨w.heap.size + 1, 0, none⟩ = false) ∧ Below w.heap.size w W)
    (fun k (pre : List (Fin 256)) W => (k = .ret ∧ (∃ y ∈ pre, y.val = s) ∧ W.cell? ⟨w.heap.size + 1, 0, none⟩ = some (.bool (decide (0 < (recP c s).length)))) ∧ Below w.heap.size w W)
    (OwnFrom.and (Own.from (fun s A B row hs hg hr => ⟨hs.1, cell_kept hs.2.1 hg hr, cell_kept hs.2.2.1 hg hr, (frozen_kept hs.2.2.1 hg hr).trans hs.2.2.2⟩) _) (ownFrom_below (Nat.le_refl _) (by simp; omega)))
    (fun c => OwnFrom.and (Own.from (fun s A B row hs hg hr => ⟨hs.1, hs.2.1, cell_kept hs.2.2 hg hr⟩) _) (ownFrom_below (Nat.le_refl _) (by simp; omega)))
    ⟨⟨by simp, cell_alloc_l _ (cell_alloc_l _ c0.1), cell_alloc_l _ c1.1, frozen_alloc_l _ c1.1 c1.2⟩, hB0⟩
    (fun (x : Fin 256) => { tmps := #[.slice (some a) 2048 cap, .int .i64 s, undef, .pointer (some ⟨w.heap.size, 0, none⟩), .pointer (some ⟨w.heap.size + 1, 0, none⟩), .int .i64 (x.val : Int), recV a cap c x.val, .slice (some a) 2048 cap, .func (.func 57) #[] #[.pointer (some ⟨w.heap.size + 1 + 1, 0, none⟩)], .int .i64 (x.val : Int), recV a cap c x.val, undef, undef, undef, undef, undef, undef], defers := [] }) ?assign ?body ?done ?stop
  case assign =>
    intro l x W K hK
    rw [slotV_eq]
    gi_wp2
    exact hK
  case body =>
    rintro l pre x W ⟨⟨hp, hcw, hcr, hfr⟩, hB⟩ _
    obtain ⟨ao, cp, hpv, _⟩ := (recV_bytes hC x.val).form
    rw [hpv]
    have hxl := x.isLt
    by_cases hx : x.val = s
    · subst hx
      generalize (recP c x.val).length = m at *
      by_cases hm : 0 < m
      · have hm' : (m : Int) > 0 := by omega
        rw [decide_eq_true hm]
        gi_wp2
        exact ⟨KeepsOthers.setCell _ _ _, ⟨rfl, ⟨x, List.mem_append.2 (.inr (by simp)), rfl⟩, World.cell?_setCell_same' _ _ _ (by rw [hcr]; rfl)⟩, hB.setCell (p := ⟨w.heap.size + 1, 0, none⟩) (by simp) _⟩
      · have hm' : ¬ (m : Int) > 0 := by omega
        rw [decide_eq_false hm]
        gi_wp2
        exact ⟨KeepsOthers.setCell _ _ _, ⟨rfl, ⟨x, List.mem_append.2 (.inr (by simp)), rfl⟩, World.cell?_setCell_same' _ _ _ (by rw [hcr]; rfl)⟩, hB.setCell (p := ⟨w.heap.size + 1, 0, none⟩) (by simp) _⟩
    · have hx' : ((x.val : Int) == (s : Int)) = false := by simp; omega
      gi_wp2
      exact ⟨KeepsOthers.refl _, Kc.refl _ _ _, ⟨fun y hy => (List.mem_append.1 hy).elim (hp y) (fun e => by simp at e; subst e; exact hx), hcw, hcr, hfr⟩, hB⟩
  case done =>
    rintro D ys W hD rfl ⟨⟨hne, _, hcr, hfr⟩, hB⟩ hK
    have hno : ¬ (s < cntP c ∧ 0 < (recP c s).length) := fun h => hne ⟨s, hs⟩ ((fins_mem _ _).2 h.1) rfl
    gi_wp2
    have hK' := (KeepsOthers.setCell W ⟨w.heap.size + 1, 0, none⟩ (.bool false)).same D _ hK rfl
    refine ⟨by simp, .inl ⟨_, _, rfl, run_takeDeferred hK', ?_⟩⟩
    have hc5 := cell_kept (World.cell?_setCell_same' W ⟨w.heap.size + 1, 0, none⟩ (.bool false) (by rw [hcr]; rfl)) (grownBy_putObj' _ D (.deferred none)) (fun r e => by cases e; exact ⟨_, hK', rfl⟩)
    refine ⟨.bool false, ?_, by rw [decide_eq_false hno], (hB.setCell (p := ⟨w.heap.size + 1, 0, none⟩) (by simp) _).trans (belowK_b (w := w) (Nat.le_refl _) _ D _ _ (by simp at hD; omega) hK' rfl rfl)⟩
    simp [results, Try.results62, go_sem, hc5]
  case stop =>
    rintro D k pre W hD ⟨j, hj, hpre⟩ ⟨⟨rfl, ⟨y, hy, hys⟩, hcr⟩, hB⟩ hK
    have hin : s < cntP c := by
      rw [hpre] at hy
      have := (fins_mem _ _).1 hy
      omega
    have e : decide (s < cntP c ∧ 0 < (recP c s).length) = decide (0 < (recP c s).length) := by simp [hin]
    gi_wp2
    refine ⟨by simp, .inl ⟨_, _, rfl, run_takeDeferred hK, ?_⟩⟩
    have hc5 := cell_kept hcr (grownBy_putObj' _ D (.deferred none)) (fun r e => by cases e; exact ⟨_, hK, rfl⟩)
    refine ⟨.bool (decide (0 < (recP c s).length)), ?_, by rw [e], hB.trans (belowK_b (w := w) (Nat.le_refl _) _ D _ _ (by simp at hD; omega) hK rfl rfl)⟩
    simp [results, Try.results62, go_sem, hc5]
end Go.Proofs.Ytkmgahembhgloaa

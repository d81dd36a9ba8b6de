/- The document's disk: Write. -/
import Derived.Test.YtpmbpadckbkglaaD5U
namespace Go.Proofs.Ytpmbpadckbkglaa
open Go.RowKit Go.Maps
set_option linter.unusedVariables false
set_option linter.unusedSimpArgs false

theorem refWrite_range {base : Nat} {w : World} {G : Nat → Prop} {q : Value} {N : Int} {F L : List EV} (h : RefAt base w G q N F L) (i : Int) (hi : i < 0 ∨ N ≤ i) (vb : Value) :
    Calls Try.prog 54 #[q, .int .i64 i, vb] w fun e w' => e = .returned (.int .i64 51) ∧ w' = w := by
  obtain ⟨g, vF, vL, rfl, h⟩ := h
  obtain ⟨c0, c1, c2, fz⟩ := cells3 h.hg
  clear h
  by_cases h1 : i < 0
  · have t1 : decide (i < 0) = true := by simpa using h1
    go_enter Try.func54, Try.ntmps54
    go_wp2
    go_ret
    exact ⟨rfl, rfl⟩
  · have t1 : decide (i < 0) = false := by simpa using h1
    have t2 : decide (i ≥ N) = true := by simp; omega
    go_enter Try.func54, Try.ntmps54
    go_wp2
    go_ret
    exact ⟨rfl, rfl⟩
theorem refWrite_long {base : Nat} {w : World} {G : Nat → Prop} {q : Value} {N : Int} {F L : List EV} (h : RefAt base w G q N F L) (i : Int) (hi : 0 ≤ i ∧ i < N) (vb : Value) (xs : List UInt8) (hB : Bytes w vb xs) (hx : 128 < xs.length) :
    Calls Try.prog 54 #[q, .int .i64 i, vb] w fun e w' => e = .returned (.int .i64 1) ∧ w' = w := by
  obtain ⟨g, vF, vL, rfl, h⟩ := h
  obtain ⟨c0, c1, c2, fz⟩ := cells3 h.hg
  obtain ⟨ao, cap, rfl, hc, _⟩ := hB.form
  have t1 : decide (i < 0) = false := by simp; omega
  have t2 : decide (i ≥ N) = false := by simp; omega
  have t3 : decide ((xs.length : Int) > 128) = true := by simp; omega
  clear h hB
  go_enter Try.func54, Try.ntmps54
  go_wp2
  go_ret
  exact ⟨rfl, rfl⟩
set_option maxHeartbeats 2000000 in
theorem refWrite_any {base : Nat} {w : World} {G : Nat → Prop} {q : Value} {N : Int} {F L : List EV} (h : RefAt base w G q N F L) (i : Int) (hi : 0 ≤ i ∧ i < N) (vb : Value) (xs : List UInt8) (hB : Bytes w vb xs) (hx : xs.length ≤ 128) (hl : F.length + L.length < 100000) :
    Calls Try.prog 54 #[q, .int .i64 i, vb] w fun e w' => e = .returned (.int .i64 0) ∧ ∃ v, RefTurned base w G q N F (L ++ [⟨i, v, false, full xs⟩]) w' := by
  obtain ⟨g, vF, vL, rfl, h⟩ := h
  obtain ⟨c0, c1, c2, fz⟩ := cells3 h.hg
  have hfb := hB
  obtain ⟨ao, cap, rfl, hc, _⟩ := hB.form
  have t1 : decide (i < 0) = false := by simp; omega
  have t2 : decide (i ≥ N) = false := by simp; omega
  have t3 : decide ((xs.length : Int) > 128) = false := by simp; omega
  have HD : Hid (RefIn base w G g vF vL N F L) := h
  have hgl := (h.lo g h.gg).2
  have hbg := (h.lo g h.gg).1
  have HNG : Hid (vL.ownBlock ≠ some g) := fun e' => by
    obtain ⟨cur, hh⟩ := own_typed HD.out.rL e'
    rw [HD.out.hg] at hh; simp at hh
  have hFull : Calls Try.prog 33 #[.slice ao xs.length cap] w.drew fun e w' => e = .returned (sl w.heap.size) ∧ RowB w' w.heap.size (full xs) ∧ Below w.heap.size w w' :=
    (full_any _ xs w.drew (hfb.keep (Below.refl _ w).drew)).mono (fun e w' h => ⟨h.1, h.2.1, ⟨h.2.2.os, h.2.2.tape, h.2.2.output, h.2.2.size, h.2.2.block⟩⟩)
  clear h hB hfb
  go_enter Try.func54, Try.ntmps54
  go_wp2_with fail
  refine wp_region_held_drew (S := fun _ => True) (by kernel_rfl) trivial (fun hHeld => ?_)
  refine wpAnyH_take (i := 0) (v := .pointer (some ⟨g, 0, none⟩)) rfl (by kernel_rfl) (by kernel_rfl) (by kernel_rfl) (fun _ _ _ h => h) (Or.inl ⟨by rfl, ?_⟩) hHeld ?_
  · intro wq hSw; go_simp
  simp only [List.getElem_toArray, List.getElem_cons_zero, List.getElem_cons_succ, Act.put, List.setIfInBounds_toArray, List.set_cons_zero, List.set_cons_succ]
  refine wpAnyH_take (i := 1) (v := .pointer (some ⟨g, 0, none⟩)) rfl (by kernel_rfl) (by kernel_rfl) (by kernel_rfl) (fun _ _ _ h => h) (Or.inl ⟨by rfl, ?_⟩) hHeld ?_
  · intro wq hSw; go_simp
  simp only [List.getElem_toArray, List.getElem_cons_zero, List.getElem_cons_succ, Act.put, List.setIfInBounds_toArray, List.set_cons_zero, List.set_cons_succ]
  refine wpAnyH_take (i := 2) (v := .pointer (some ⟨g, 0, none⟩)) rfl (by kernel_rfl) (by kernel_rfl) (by kernel_rfl) (fun _ _ _ h => h) (Or.inl ⟨by rfl, ?_⟩) hHeld ?_
  · intro wq hSw; go_simp
  simp only [List.getElem_toArray, List.getElem_cons_zero, List.getElem_cons_succ, Act.put, List.setIfInBounds_toArray, List.set_cons_zero, List.set_cons_succ]
  refine wpAnyH_take (i := 3) (v := .pointer (some ⟨g, 2, none⟩)) rfl (by kernel_rfl) (by kernel_rfl) (by kernel_rfl) (fun _ _ _ h => h) (Or.inl ⟨by rfl, ?_⟩) hHeld ?_
  · intro wq hSw; go_simp
  simp only [List.getElem_toArray, List.getElem_cons_zero, List.getElem_cons_succ, Act.put, List.setIfInBounds_toArray, List.set_cons_zero, List.set_cons_succ]
  refine wpAnyH_take (i := 5) (v := .int .i64 i) rfl (by kernel_rfl) (by kernel_rfl) (by kernel_rfl) (fun _ _ _ h => h) (Or.inl ⟨by rfl, ?_⟩) hHeld ?_
  · intro wq hSw; go_simp
  simp only [List.getElem_toArray, List.getElem_cons_zero, List.getElem_cons_succ, Act.put, List.setIfInBounds_toArray, List.set_cons_zero, List.set_cons_succ]
  refine wpAnyH_take (i := 6) (v := .slice ao xs.length cap) rfl (by kernel_rfl) (by kernel_rfl) (by kernel_rfl) (fun _ _ _ h => h) (Or.inl ⟨by rfl, ?_⟩) hHeld ?_
  · intro wq hSw; go_simp
  simp only [List.getElem_toArray, List.getElem_cons_zero, List.getElem_cons_succ, Act.put, List.setIfInBounds_toArray, List.set_cons_zero, List.set_cons_succ]
  refine wpAnyH_ready (rs := [4, 7]) (by kernel_rfl) (by simp) ?_
  refine AllReadyH.cons rfl (fun K hK => ?_) (AllReadyH.cons rfl (fun K hK => ?_) AllReadyH.nil)
  · go_simp
    refine hK.out _ _ trivial (fun hHeld => ?_)
    clear hK K
    refine wpAnyH_ready (rs := [7]) (by kernel_rfl) (by simp) ?_
    refine AllReadyH.cons rfl (fun K hK => ?_) AllReadyH.nil
    rw [if_pos (by rfl)]
    go_wp2_with (go_at_call 33; refine hFull.mono ?_; rintro e wF ⟨rfl, hrF, hbF⟩)
    have mF : wF.cell? ⟨g, 2, none⟩ = some vL := cell_keep hbF c2
    have sF := hbF.size
    have mA : ∀ ob, (wF.alloc ob).cell? ⟨g, 2, none⟩ = some vL := fun ob => (World.cell?_alloc_lt _ _ _ (by simp; omega)).trans mF
    have aA : Below wF.heap.size wF (wF.alloc (.cells #[.int .i64 i, sl w.heap.size, .bool false] 83)) := (Below.refl _ _).alloc (Nat.le_refl _) _
    have hA : Below w.heap.size w (wF.alloc (.cells #[.int .i64 i, sl w.heap.size, .bool false] 83)) := hbF.trans (aA.mono sF)
    have HOw : Hid (OwnE base (wF.alloc (.cells #[.int .i64 i, sl w.heap.size, .bool false] 83)) vL L) := own_of_block HD.out.rL (fun b hb => hA.block b (HD.out.lo b (HD.out.gL b hb)).2)
    have HRF : Hid (RowB (wF.alloc (.cells #[.int .i64 i, sl w.heap.size, .bool false] 83)) w.heap.size (full xs)) := hrF.keep aA
    clear hrF
    refine hK.out _ _ trivial (fun hHeld => ?_)
    clear hK K
    refine wpAnyH_take (i := 8) (v := .agg #[.int .i64 i, sl w.heap.size, .bool false]) rfl (by kernel_rfl) (by kernel_rfl) (by kernel_rfl) (fun _ _ _ h => h) (Or.inl ⟨by rfl, ?_⟩) hHeld ?_
    · intro wq hSw; go_simp
    simp only [List.getElem_toArray, List.getElem_cons_zero, List.getElem_cons_succ, Act.put, List.setIfInBounds_toArray, List.set_cons_zero, List.set_cons_succ]
    refine wpAnyH_ready (rs := [9]) (by kernel_rfl) (by simp) ?_
    refine AllReadyH.cons rfl (fun K hK => ?_) AllReadyH.nil
    go_simp
    refine hK.out _ _ trivial (fun hHeld => ?_)
    clear hK K
    refine wpAnyH_ready (rs := [10]) (by kernel_rfl) (by simp) ?_
    refine AllReadyH.cons rfl (fun K hK => ?_) AllReadyH.nil
    refine step_appE _ rfl _ _ rfl base vL L rfl HOw.out ⟨i, sl w.heap.size, false, full xs⟩ rfl wF.heap.size rfl (heap_alloc_new wF _) (by omega) (by simp; omega) ?_
    intro gk cap w4 hown hg4 hk
    have d2 : w4.cell? ⟨g, 2, none⟩ = some vL := (hg4.cell_far ⟨g, 2, none⟩ (by simp; omega) (Ne.symm HNG.out)).trans (mA _)
    have f2 : w4.frozen? ⟨g, 2, none⟩ = false := by
      rw [hg4.frozen_far ⟨g, 2, none⟩ (by simp; omega) (Ne.symm HNG.out)]
      exact frozen_row ((hA.block g (by omega)).trans HD.out.hg) 2
    have HP : Hid _ := ref_put HD.out hA hg4 hown hk (Or.inr ⟨_, rfl, HRF.out, Nat.le_refl _, full_len xs, rfl⟩) hl
    clear hown hg4 hk
    simp only [List.getElem_toArray, List.getElem_cons_zero, List.getElem_cons_succ, Act.put, List.setIfInBounds_toArray, List.set_cons_zero, List.set_cons_succ]
    refine hK.out _ _ trivial (fun hHeld => ?_)
    clear hK K
    refine wpAnyH_take (i := 11) (v := .pointer (some ⟨g, 0, none⟩)) rfl (by kernel_rfl) (by kernel_rfl) (by kernel_rfl) (fun _ _ _ h => h) (Or.inl ⟨by rfl, ?_⟩) hHeld ?_
    · intro wq hSw; go_simp
    simp only [List.getElem_toArray, List.getElem_cons_zero, List.getElem_cons_succ, Act.put, List.setIfInBounds_toArray, List.set_cons_zero, List.set_cons_succ]
    refine wpAnyH_take (i := 12) (v := .pointer (some ⟨g, 2, none⟩)) rfl (by kernel_rfl) (by kernel_rfl) (by kernel_rfl) (fun _ _ _ h => h) (Or.inl ⟨by rfl, ?_⟩) hHeld ?_
    · intro wq hSw; go_simp
    simp only [List.getElem_toArray, List.getElem_cons_zero, List.getElem_cons_succ, Act.put, List.setIfInBounds_toArray, List.set_cons_zero, List.set_cons_succ]
    refine wpAnyH_ready (rs := [13]) (by kernel_rfl) (by simp) ?_
    refine AllReadyH.cons rfl (fun K hK => ?_) AllReadyH.nil
    go_simp
    refine hK.out _ _ trivial (fun hHeld => ?_)
    clear hK K
    refine wpAnyH_done (by kernel_rfl) ?_ _
    go_wp2
    refine bodyPost_ret (v := .int .i64 0) (by simp [results, Try.results54, go_sem]) rfl ⟨rfl, _, _, ⟨g, vF, _, rfl, HP.out.1⟩, HP.out.2, fun k hk => hk.imp id (fun h => h.1)⟩
  · rw [if_pos (by rfl)]
    go_wp2_with (go_at_call 33; refine hFull.mono ?_; rintro e wF ⟨rfl, hrF, hbF⟩)
    have mF : wF.cell? ⟨g, 2, none⟩ = some vL := cell_keep hbF c2
    have sF := hbF.size
    have mA : ∀ ob, (wF.alloc ob).cell? ⟨g, 2, none⟩ = some vL := fun ob => (World.cell?_alloc_lt _ _ _ (by simp; omega)).trans mF
    have aA : Below wF.heap.size wF (wF.alloc (.cells #[.int .i64 i, sl w.heap.size, .bool false] 83)) := (Below.refl _ _).alloc (Nat.le_refl _) _
    have hA : Below w.heap.size w (wF.alloc (.cells #[.int .i64 i, sl w.heap.size, .bool false] 83)) := hbF.trans (aA.mono sF)
    have HOw : Hid (OwnE base (wF.alloc (.cells #[.int .i64 i, sl w.heap.size, .bool false] 83)) vL L) := own_of_block HD.out.rL (fun b hb => hA.block b (HD.out.lo b (HD.out.gL b hb)).2)
    have HRF : Hid (RowB (wF.alloc (.cells #[.int .i64 i, sl w.heap.size, .bool false] 83)) w.heap.size (full xs)) := hrF.keep aA
    clear hrF
    refine hK.out _ _ trivial (fun hHeld => ?_)
    clear hK K
    refine wpAnyH_take (i := 8) (v := .agg #[.int .i64 i, sl w.heap.size, .bool false]) rfl (by kernel_rfl) (by kernel_rfl) (by kernel_rfl) (fun _ _ _ h => h) (Or.inl ⟨by rfl, ?_⟩) hHeld ?_
    · intro wq hSw; go_simp
    simp only [List.getElem_toArray, List.getElem_cons_zero, List.getElem_cons_succ, Act.put, List.setIfInBounds_toArray, List.set_cons_zero, List.set_cons_succ]
    refine wpAnyH_ready (rs := [4, 9]) (by kernel_rfl) (by simp) ?_
    refine AllReadyH.cons rfl (fun K hK => ?_) (AllReadyH.cons rfl (fun K hK => ?_) AllReadyH.nil)
    · go_simp
      refine hK.out _ _ trivial (fun hHeld => ?_)
      clear hK K
      refine wpAnyH_ready (rs := [9]) (by kernel_rfl) (by simp) ?_
      refine AllReadyH.cons rfl (fun K hK => ?_) AllReadyH.nil
      go_simp
      refine hK.out _ _ trivial (fun hHeld => ?_)
      clear hK K
      refine wpAnyH_ready (rs := [10]) (by kernel_rfl) (by simp) ?_
      refine AllReadyH.cons rfl (fun K hK => ?_) AllReadyH.nil
      refine step_appE _ rfl _ _ rfl base vL L rfl HOw.out ⟨i, sl w.heap.size, false, full xs⟩ rfl wF.heap.size rfl (heap_alloc_new wF _) (by omega) (by simp; omega) ?_
      intro gk cap w4 hown hg4 hk
      have d2 : w4.cell? ⟨g, 2, none⟩ = some vL := (hg4.cell_far ⟨g, 2, none⟩ (by simp; omega) (Ne.symm HNG.out)).trans (mA _)
      have f2 : w4.frozen? ⟨g, 2, none⟩ = false := by
        rw [hg4.frozen_far ⟨g, 2, none⟩ (by simp; omega) (Ne.symm HNG.out)]
        exact frozen_row ((hA.block g (by omega)).trans HD.out.hg) 2
      have HP : Hid _ := ref_put HD.out hA hg4 hown hk (Or.inr ⟨_, rfl, HRF.out, Nat.le_refl _, full_len xs, rfl⟩) hl
      clear hown hg4 hk
      simp only [List.getElem_toArray, List.getElem_cons_zero, List.getElem_cons_succ, Act.put, List.setIfInBounds_toArray, List.set_cons_zero, List.set_cons_succ]
      refine hK.out _ _ trivial (fun hHeld => ?_)
      clear hK K
      refine wpAnyH_take (i := 11) (v := .pointer (some ⟨g, 0, none⟩)) rfl (by kernel_rfl) (by kernel_rfl) (by kernel_rfl) (fun _ _ _ h => h) (Or.inl ⟨by rfl, ?_⟩) hHeld ?_
      · intro wq hSw; go_simp
      simp only [List.getElem_toArray, List.getElem_cons_zero, List.getElem_cons_succ, Act.put, List.setIfInBounds_toArray, List.set_cons_zero, List.set_cons_succ]
      refine wpAnyH_take (i := 12) (v := .pointer (some ⟨g, 2, none⟩)) rfl (by kernel_rfl) (by kernel_rfl) (by kernel_rfl) (fun _ _ _ h => h) (Or.inl ⟨by rfl, ?_⟩) hHeld ?_
      · intro wq hSw; go_simp
      simp only [List.getElem_toArray, List.getElem_cons_zero, List.getElem_cons_succ, Act.put, List.setIfInBounds_toArray, List.set_cons_zero, List.set_cons_succ]
      refine wpAnyH_ready (rs := [13]) (by kernel_rfl) (by simp) ?_
      refine AllReadyH.cons rfl (fun K hK => ?_) AllReadyH.nil
      go_simp
      refine hK.out _ _ trivial (fun hHeld => ?_)
      clear hK K
      refine wpAnyH_done (by kernel_rfl) ?_ _
      go_wp2
      refine bodyPost_ret (v := .int .i64 0) (by simp [results, Try.results54, go_sem]) rfl ⟨rfl, _, _, ⟨g, vF, _, rfl, HP.out.1⟩, HP.out.2, fun k hk => hk.imp id (fun h => h.1)⟩
    · go_simp
      refine hK.out _ _ trivial (fun hHeld => ?_)
      clear hK K
      refine wpAnyH_ready (rs := [4]) (by kernel_rfl) (by simp) ?_
      refine AllReadyH.cons rfl (fun K hK => ?_) AllReadyH.nil
      go_simp
      refine hK.out _ _ trivial (fun hHeld => ?_)
      clear hK K
      refine wpAnyH_ready (rs := [10]) (by kernel_rfl) (by simp) ?_
      refine AllReadyH.cons rfl (fun K hK => ?_) AllReadyH.nil
      refine step_appE _ rfl _ _ rfl base vL L rfl HOw.out ⟨i, sl w.heap.size, false, full xs⟩ rfl wF.heap.size rfl (heap_alloc_new wF _) (by omega) (by simp; omega) ?_
      intro gk cap w4 hown hg4 hk
      have d2 : w4.cell? ⟨g, 2, none⟩ = some vL := (hg4.cell_far ⟨g, 2, none⟩ (by simp; omega) (Ne.symm HNG.out)).trans (mA _)
      have f2 : w4.frozen? ⟨g, 2, none⟩ = false := by
        rw [hg4.frozen_far ⟨g, 2, none⟩ (by simp; omega) (Ne.symm HNG.out)]
        exact frozen_row ((hA.block g (by omega)).trans HD.out.hg) 2
      have HP : Hid _ := ref_put HD.out hA hg4 hown hk (Or.inr ⟨_, rfl, HRF.out, Nat.le_refl _, full_len xs, rfl⟩) hl
      clear hown hg4 hk
      simp only [List.getElem_toArray, List.getElem_cons_zero, List.getElem_cons_succ, Act.put, List.setIfInBounds_toArray, List.set_cons_zero, List.set_cons_succ]
      refine hK.out _ _ trivial (fun hHeld => ?_)
      clear hK K
      refine wpAnyH_take (i := 11) (v := .pointer (some ⟨g, 0, none⟩)) rfl (by kernel_rfl) (by kernel_rfl) (by kernel_rfl) (fun _ _ _ h => h) (Or.inl ⟨by rfl, ?_⟩) hHeld ?_
      · intro wq hSw; go_simp
      simp only [List.getElem_toArray, List.getElem_cons_zero, List.getElem_cons_succ, Act.put, List.setIfInBounds_toArray, List.set_cons_zero, List.set_cons_succ]
      refine wpAnyH_take (i := 12) (v := .pointer (some ⟨g, 2, none⟩)) rfl (by kernel_rfl) (by kernel_rfl) (by kernel_rfl) (fun _ _ _ h => h) (Or.inl ⟨by rfl, ?_⟩) hHeld ?_
      · intro wq hSw; go_simp
      simp only [List.getElem_toArray, List.getElem_cons_zero, List.getElem_cons_succ, Act.put, List.setIfInBounds_toArray, List.set_cons_zero, List.set_cons_succ]
      refine wpAnyH_ready (rs := [13]) (by kernel_rfl) (by simp) ?_
      refine AllReadyH.cons rfl (fun K hK => ?_) AllReadyH.nil
      go_simp
      refine hK.out _ _ trivial (fun hHeld => ?_)
      clear hK K
      refine wpAnyH_done (by kernel_rfl) ?_ _
      go_wp2
      refine bodyPost_ret (v := .int .i64 0) (by simp [results, Try.results54, go_sem]) rfl ⟨rfl, _, _, ⟨g, vF, _, rfl, HP.out.1⟩, HP.out.2, fun k hk => hk.imp id (fun h => h.1)⟩
end Go.Proofs.Ytpmbpadckbkglaa

/- The document's pool: Put. -/
import Derived.Test.YtpmbpadckbkglaaP7RF
namespace Go.Proofs.Ytpmbpadckbkglaa
open Go.RowKit Go.Maps
set_option linter.unusedVariables false
set_option linter.unusedSimpArgs false

theorem RPIn.wide {base : Nat} {w : World} {H K : Nat → Prop} {g : Nat} {dq vL : Value} {R : RPS} (h : RPIn base w H g dq vL R) (h1 : ∀ k, H k → K k) (h2 : ∀ k, K k → base ≤ k ∧ k < w.heap.size) : RPIn base w K g dq vL R :=
  { h with gg := h1 _ h.gg, gv := fun c hc => h1 _ (h.gv c hc), gb := fun f hf c hc => h1 _ (h.gb f hf c hc), lo := h2 }
theorem mx_max (x y : Int) : mx x y = max x y := by unfold mx; split <;> omega
theorem own_oneCell {base : Nat} {w : World} {v : Value} {xs : List UInt8} (h : OwnB base w v xs) : v.oneCell' = true := by
  rcases h.2 with ⟨hv, _⟩ | ⟨g, cap, cur, hv, _⟩ <;> rw [hv] <;> rfl
theorem Bytes.keepFr {w w' : World} {v : Value} {xs : List UInt8} {F : Nat → Prop} (h : Bytes w v xs) (hf : Fr w w' F) (hd : ∀ a n c, v = .slice (some a) n c → ¬ F a.block) : Bytes w' v xs := by
  rcases h with h | ⟨a, cap, hv, hc, h⟩
  · exact Or.inl h
  · refine Or.inr ⟨a, cap, hv, hc, fun j hj => ?_⟩
    have h1 := h j hj
    have hlt := World.block_lt_of_cell? w _ h1
    rw [World.cell?_of_block (hf.block _ hlt (by rw [add_block]; exact hd a _ _ hv))]
    exact h1
theorem RPIn.rowFrozen {base : Nat} {w : World} {H : Nat → Prop} {g : Nat} {dq : Value} {gl n cap : Nat} {R : RPS} (h : RPIn base w H g dq (.slice (some ⟨gl, 0, none⟩) n cap) R) (o : Nat) : w.frozen? ⟨gl, o, none⟩ = false := by
  obtain ⟨cur, hh⟩ := ownF_typed h.row (b := gl) rfl
  exact frozen_row hh o
/-- The cells of the frame that is being turned. -/
theorem RPIn.at_cells {base : Nat} {w : World} {H : Nat → Prop} {g : Nat} {dq : Value} {gl n cap k : Nat} {R : RPS} {f : RF} (h : RPIn base w H g dq (.slice (some ⟨gl, 0, none⟩) n cap) (R.at_ k f)) (hk : k < R.l.length) : Cells6R w gl k f := by
  have hk2 : k < (R.at_ k f).l.length := by simpa [RPS.at_] using hk
  obtain ⟨gl2, cap2, hv2, _, _, _, hcl⟩ := h.frame hk2
  obtain rfl : gl = gl2 := by simpa [Value.ownBlock] using congrArg Value.ownBlock hv2
  have := hcl k hk2
  have e : (R.at_ k f).l[k] = f := by simp [RPS.at_]
  rwa [e] at this
set_option maxHeartbeats 1000000 in
theorem refPut_bad {base : Nat} {w : World} {H : Nat → Prop} {g : Nat} {dq vL : Value} {R : RPS} (h : RPIn base w H g dq vL R) (hl : R.l.length ≤ 1000) (p : Int) (hno : (∀ f ∈ R.l, f.page ≠ p) ∨ ∀ f ∈ R.l, f.page = p → f.pins = 0) (vb : Value) (m : Int) :
    Calls Try.prog 26 #[.pointer (some ⟨g, 0, none⟩), .int .i64 p, vb, .int .u64 m] w fun e w' => e = .returned (.int .i64 72) ∧ w' = w := by
  have hfd := find_any h p hl
  have HP : Hid (RPIn base w H g dq vL R) := h
  have hc := h.cells
  obtain ⟨c0, c1, c2, c3, c4, c5, c6, c7, cf⟩ := hc
  clear h
  go_enter Try.func26, Try.ntmps26
  go_wp2_with fail
  refine hfd.mono ?_
  rintro e wx ⟨hF, hwx⟩
  rw [hwx]
  clear hwx wx hfd
  cases hF with
  | none_ hp he =>
    subst he
    go_wp2
    go_ret
    exact ⟨rfl, rfl⟩
  | at_ k hk hp he =>
    subst he
    have hpin : R.l[k].pins = 0 := by
      rcases hno with h1 | h1
      · exact absurd hp (h1 _ (List.getElem_mem hk))
      · exact h1 _ (List.getElem_mem hk) hp
    obtain ⟨gl, cap, rfl, hcap, hne, hHgl, hcl⟩ := HP.out.frame hk
    obtain ⟨q0, q1, q2, q3, q4, q5, qf⟩ := hcl k hk
    have t1 : decide ((k : Int) < 0) = false := by simp
    rw [hpin] at q1
    clear hcl
    go_wp2
    go_ret
    exact ⟨rfl, rfl⟩
set_option maxHeartbeats 1000000 in
theorem refPut_long {base : Nat} {w : World} {H : Nat → Prop} {g : Nat} {dq vL : Value} {R : RPS} (h : RPIn base w H g dq vL R) (hl : R.l.length ≤ 1000) (p : Int) (hyes : ∃ f ∈ R.l, f.page = p) (hpin : ∀ f ∈ R.l, f.page = p → f.pins ≠ 0) (vb : Value) (xs : List UInt8) (hB : Bytes w vb xs) (hx : xs.length ≠ 2048) (m : Int) :
    Calls Try.prog 26 #[.pointer (some ⟨g, 0, none⟩), .int .i64 p, vb, .int .u64 m] w fun e w' => e = .returned (.int .i64 1) ∧ w' = w := by
  have hfd := find_any h p hl
  have HP : Hid (RPIn base w H g dq vL R) := h
  have hc := h.cells
  obtain ⟨c0, c1, c2, c3, c4, c5, c6, c7, cf⟩ := hc
  obtain ⟨ba, bc, rfl, hbc, _⟩ := hB.form
  clear h hB
  go_enter Try.func26, Try.ntmps26
  go_wp2_with fail
  refine hfd.mono ?_
  rintro e wx ⟨hF, hwx⟩
  rw [hwx]
  clear hwx wx hfd
  cases hF with
  | none_ hp he =>
    obtain ⟨f, hf, hfp⟩ := hyes
    exact absurd hfp (hp f hf)
  | at_ k hk hp he =>
    subst he
    have hpk := hpin _ (List.getElem_mem hk) hp
    obtain ⟨gl, cap, rfl, hcap, hne, hHgl, hcl⟩ := HP.out.frame hk
    obtain ⟨q0, q1, q2, q3, q4, q5, qf⟩ := hcl k hk
    have t1 : decide ((k : Int) < 0) = false := by simp
    have t2 : (R.l[k].pins == 0) = false := by rw [beq_eq_false_iff_ne]; exact hpk
    have t3 : ((xs.length : Int) != 2048) = true := by simp; omega
    clear hcl
    generalize R.l[k].pins = X at *
    go_wp2
    go_ret
    exact ⟨rfl, rfl⟩
set_option maxHeartbeats 2000000 in
theorem refPut_any {base : Nat} {w : World} {H : Nat → Prop} {g : Nat} {dq vL : Value} {R : RPS} (h : RPIn base w H g dq vL R) (hl : R.l.length ≤ 1000) (p : Int) (hnow : 0 ≤ R.now ∧ R.now ≤ 1000000) (hyes : ∃ f ∈ R.l, f.page = p) (hpin : ∀ f ∈ R.l, f.page = p → f.pins ≠ 0) (vb : Value) (xs : List UInt8) (hB : Bytes w vb xs) (hBH : ∀ a n c, vb = .slice (some a) n c → ¬ H a.block) (hx : xs.length = 2048) (m : Int) :
    Calls Try.prog 26 #[.pointer (some ⟨g, 0, none⟩), .int .i64 p, vb, .int .u64 m] w fun e w' => e = .returned (.int .i64 0) ∧ ∃ (k : Nat) (hk : k < R.l.length) (v' : Value), R.l[k].page = p ∧ RTo base w H g dq (R.use k { R.l[k] with v := v', b := xs, dirty := true, mark := mx R.l[k].mark m }) w' := by
  have hfd := find_any h p hl
  have HP : Hid (RPIn base w H g dq vL R) := h
  have hc := h.cells
  obtain ⟨c0, c1, c2, c3, c4, c5, c6, c7, cf⟩ := hc
  have HB : Hid (Bytes w vb xs) := hB
  obtain ⟨ba, bc, rfl, hbc, _⟩ := hB.form
  have HBH : Hid (∀ a n c, Value.slice ba 2048 bc = .slice (some a) n c → ¬ H a.block) := by rw [← hx]; exact hBH
  clear hBH
  clear h hB
  go_enter Try.func26, Try.ntmps26
  go_wp2_with fail
  refine hfd.mono ?_
  rintro e wx ⟨hF, hwx⟩
  rw [hwx]
  clear hwx wx hfd
  cases hF with
  | none_ hp he =>
    obtain ⟨f, hf, hfp⟩ := hyes
    exact absurd hfp (hp f hf)
  | at_ k hk hp he =>
    subst he
    have hpk := hpin _ (List.getElem_mem hk) hp
    obtain ⟨gl, cap, rfl, hcap, hne, hHgl, hcl⟩ := HP.out.frame hk
    obtain ⟨q0, q1, q2, q3, q4, q5, qf⟩ := hcl k hk
    have t1 : decide ((k : Int) < 0) = false := by simp
    have t2 : (R.l[k].pins == 0) = false := by rw [beq_eq_false_iff_ne]; exact hpk
    have t3 : ((xs.length : Int) != 2048) = false := by simp; omega
    have hw1 : IntKind.i64.wrap (R.now + 1) = R.now + 1 := wrap64 (by omega)
    have hne' := Ne.symm hne
    clear hcl
    obtain ⟨f, hf⟩ : ∃ f, R.l[k] = f := ⟨_, rfl⟩
    have HF : Hid (R.l[k] = f) := hf
    rw [hf] at q0 q1 q2 q3 q4 q5 t2 hpk
    clear hf hpin hyes
    have h0 : RPIn base w H g dq (.slice (some ⟨gl, 0, none⟩) R.l.length cap) (R.at_ k f) := by rw [← HF.out, R.at_self hk]; exact HP.out
    obtain ⟨hP1, hF1⟩ := h0.setG (R' := { R.at_ k f with now := R.now + 1 }) (j := 6) (u := .int .i64 (R.now + 1)) rfl rfl
    have HP1 : Hid (RPIn base _ H g dq (.slice (some ⟨gl, 0, none⟩) R.l.length cap) (({ R with now := R.now + 1 } : RPS).at_ k f)) := hP1
    have HF1 : Hid (Fr w (w.setCell ⟨g, 6, none⟩ (.int .i64 (R.now + 1))) H) := hF1.mono (G := H) (fun i hi => hi ▸ HP.out.gg)
    clear hP1 hF1 h0
    go_wp2_with fail
    generalize hwz : w.setCell ⟨g, 6, none⟩ (.int .i64 (R.now + 1)) = w1 at *
    have b4 : w1.cell? ⟨g, 4, none⟩ = some (.slice (some ⟨gl, 0, none⟩) R.l.length cap) := HP1.out.cells.c4
    obtain ⟨u4, a4⟩ : ∃ u, w1.cell? ⟨gl, k * 6 + 4, none⟩ = some u := ⟨_, (HP1.out.at_cells hk).c4⟩
    have hs1 : w1.heap.size = w.heap.size := by rw [← hwz]; simp [World.setCell]
    have HOwn : Hid (Calls Try.prog 44 #[.slice ba 2048 bc] w1.drew fun e w' => ∃ v', e = .returned v' ∧ OwnB base w' v' xs ∧ (∀ c, v'.ownBlock = some c → w1.heap.size ≤ c) ∧ Below w1.heap.size w1 w') := by
      have hBy : Bytes w1 (.slice ba 2048 bc) xs := by
        have := HB.out
        rw [hx] at this
        exact Bytes.keepFr this HF1.out HBH.out
      refine (ref_own base _ xs w1.drew (hBy.keep (Below.refl _ _).drew) (by omega) (by omega) (by have := HP.out.lo g HP.out.gg; show base ≤ w1.heap.size; omega)).mono ?_
      rintro e w' ⟨v', h1, h2, h3, h4⟩
      exact ⟨v', h1, h2, h3, ⟨h4.os, h4.tape, h4.output, h4.size, h4.block⟩⟩
    clear q0 q1 q2 q3 q4 q5 qf c0 c1 c2 c3 c4 c5 c6 c7 cf hwz
    refine wp_region_held_drew (S := fun w' => w'.cell? ⟨g, 4, none⟩ = some (.slice (some ⟨gl, 0, none⟩) R.l.length cap)) (by kernel_rfl) b4 (fun hHeld => ?_)
    refine wpAnyH_take (i := 0) (v := .pointer (some ⟨g, 0, none⟩)) rfl (by kernel_rfl) (by kernel_rfl) (by kernel_rfl) (fun _ _ _ h => h) (Or.inl ⟨by rfl, ?_⟩) hHeld ?_
    · intro wq hSw; (try obtain ⟨hA_, hB_⟩ := hSw); go_simp
    simp only [List.getElem_toArray, List.getElem_cons_zero, List.getElem_cons_succ, Act.put, List.setIfInBounds_toArray, List.set_cons_zero, List.set_cons_succ]
    refine wpAnyH_take (i := 1) (v := .pointer (some ⟨g, 0, none⟩)) rfl (by kernel_rfl) (by kernel_rfl) (by kernel_rfl) (fun _ _ _ h => h) (Or.inl ⟨by rfl, ?_⟩) hHeld ?_
    · intro wq hSw; (try obtain ⟨hA_, hB_⟩ := hSw); go_simp
    simp only [List.getElem_toArray, List.getElem_cons_zero, List.getElem_cons_succ, Act.put, List.setIfInBounds_toArray, List.set_cons_zero, List.set_cons_succ]
    refine wpAnyH_take (i := 2) (v := .pointer (some ⟨g, 4, none⟩)) rfl (by kernel_rfl) (by kernel_rfl) (by kernel_rfl) (fun _ _ _ h => h) (Or.inl ⟨by rfl, ?_⟩) hHeld ?_
    · intro wq hSw; (try obtain ⟨hA_, hB_⟩ := hSw); go_simp
    simp only [List.getElem_toArray, List.getElem_cons_zero, List.getElem_cons_succ, Act.put, List.setIfInBounds_toArray, List.set_cons_zero, List.set_cons_succ]
    refine wpAnyH_take (i := 3) (v := .slice (some ⟨gl, 0, none⟩) R.l.length cap) rfl (by kernel_rfl) (by kernel_rfl) (by kernel_rfl) (fun _ _ _ h => h) (Or.inl ⟨by rfl, ?_⟩) hHeld ?_
    · intro wq hSw; (try obtain ⟨hA_, hB_⟩ := hSw); go_simp
    simp only [List.getElem_toArray, List.getElem_cons_zero, List.getElem_cons_succ, Act.put, List.setIfInBounds_toArray, List.set_cons_zero, List.set_cons_succ]
    refine wpAnyH_take (i := 4) (v := .int .i64 (k : Int)) rfl (by kernel_rfl) (by kernel_rfl) (by kernel_rfl) (fun _ _ _ h => h) (Or.inl ⟨by rfl, ?_⟩) hHeld ?_
    · intro wq hSw; (try obtain ⟨hA_, hB_⟩ := hSw); go_simp
    simp only [List.getElem_toArray, List.getElem_cons_zero, List.getElem_cons_succ, Act.put, List.setIfInBounds_toArray, List.set_cons_zero, List.set_cons_succ]
    refine wpAnyH_take (i := 5) (v := .slice ba 2048 bc) rfl (by kernel_rfl) (by kernel_rfl) (by kernel_rfl) (fun _ _ _ h => h) (Or.inl ⟨by rfl, ?_⟩) hHeld ?_
    · intro wq hSw; (try obtain ⟨hA_, hB_⟩ := hSw); go_simp
    simp only [List.getElem_toArray, List.getElem_cons_zero, List.getElem_cons_succ, Act.put, List.setIfInBounds_toArray, List.set_cons_zero, List.set_cons_succ]
    refine wpAnyH_ready (rs := [6]) (by kernel_rfl) (by simp) ?_
    refine AllReadyH.cons rfl (fun K hK => ?_) AllReadyH.nil
    rw [if_pos (by rfl)]
    go_wp2_with (go_at_call 44; refine HOwn.out.mono ?_; rintro e w2 ⟨v2, rfl, ho2, hn2, hb2⟩)
    have e4 : w2.cell? ⟨g, 4, none⟩ = some (.slice (some ⟨gl, 0, none⟩) R.l.length cap) := cell_keep hb2 b4
    have hs2 := hb2.size
    have HP2 : Hid (RPIn base w2 (fun i => H i ∨ w1.heap.size ≤ i ∧ i < w2.heap.size) g dq (.slice (some ⟨gl, 0, none⟩) R.l.length cap) (({ R with now := R.now + 1 } : RPS).at_ k f)) := (HP1.out.keepB hb2).wide (fun i hi => Or.inl hi) (fun i hi => by
      rcases hi with hi | hi
      · have := HP1.out.lo i hi; omega
      · exact ⟨by have := HP1.out.lo g HP1.out.gg; omega, hi.2⟩)
    obtain ⟨ao2, cap2, hv2e, _⟩ := ho2.toBytes.form
    rw [hx] at hv2e
    subst hv2e
    have HO2 : Hid (OwnB base w2 (.slice ao2 2048 cap2) xs) := ho2
    have HN2 : Hid (∀ c, (Value.slice ao2 2048 cap2).ownBlock = some c → w1.heap.size ≤ c ∧ c < w2.heap.size) := fun c hc => ⟨hn2 c hc, (World.ownsRow.lt ho2 c hc).2⟩
    obtain ⟨u4, b24⟩ : ∃ u, w2.cell? ⟨gl, k * 6 + 4, none⟩ = some u := ⟨_, cell_keep hb2 a4⟩
    have bf2 : w2.frozen? ⟨gl, k * 6 + 4, none⟩ = false := HP2.out.rowFrozen _
    clear ho2 hn2
    refine hK.out _ _ e4 (fun hHeld => ?_)
    clear hK K
    refine wpAnyH_take (i := 7) (v := .pointer (some ⟨gl, k * 6, none⟩)) rfl (by kernel_rfl) (by kernel_rfl) (by kernel_rfl) (fun _ _ _ h => h) (Or.inl ⟨by rfl, ?_⟩) hHeld ?_
    · intro wq hSw; (try obtain ⟨hA_, hB_⟩ := hSw); go_simp
    simp only [List.getElem_toArray, List.getElem_cons_zero, List.getElem_cons_succ, Act.put, List.setIfInBounds_toArray, List.set_cons_zero, List.set_cons_succ]
    refine wpAnyH_take (i := 8) (v := .pointer (some ⟨gl, k * 6 + 4, none⟩)) rfl (by kernel_rfl) (by kernel_rfl) (by kernel_rfl) (fun _ _ _ h => h) (Or.inl ⟨by rfl, ?_⟩) hHeld ?_
    · intro wq hSw; (try obtain ⟨hA_, hB_⟩ := hSw); go_simp
    simp only [List.getElem_toArray, List.getElem_cons_zero, List.getElem_cons_succ, Act.put, List.setIfInBounds_toArray, List.set_cons_zero, List.set_cons_succ]
    refine wpAnyH_ready (rs := [9]) (by kernel_rfl) (by simp) ?_
    refine AllReadyH.cons rfl (fun K hK => ?_) AllReadyH.nil
    go_simp
    obtain ⟨hP3, hF3⟩ := RPIn.setK (R := { R with now := R.now + 1 }) (k := k) HP2.out hk 4 (by omega) (.slice ao2 2048 cap2) rfl { f with v := .slice ao2 2048 cap2, b := xs } rfl (Or.inr ⟨HO2.out, fun c hc => Or.inr (HN2.out c hc)⟩)
    generalize hw3 : w2.setCell ⟨gl, k * 6 + 4, none⟩ (.slice ao2 2048 cap2) = w3 at *
    have HP3 : Hid (RPIn base w3 (fun i => H i ∨ w1.heap.size ≤ i ∧ i < w2.heap.size) g dq (.slice (some ⟨gl, 0, none⟩) R.l.length cap) (({ R with now := R.now + 1 } : RPS).at_ k { f with v := .slice ao2 2048 cap2, b := xs })) := hP3
    have HF3 : Hid (Fr w w3 H) := (HF1.out.trans (Fr.of_below hb2) (fun i hi => Or.inl hi)).trans (hF3.mono (G := H) (fun i hi => hi ▸ hHgl)) (fun i hi => Or.inl hi)
    have hs3 : w3.heap.size = w2.heap.size := by rw [← hw3]; simp [World.setCell]
    clear hP3 hF3 hw3
    refine hK.out _ _ HP3.out.cells.c4 (fun hHeld => ?_)
    clear hK K
    refine wpAnyH_done (by kernel_rfl) ?_ _
    have d4 : w3.cell? ⟨g, 4, none⟩ = some (.slice (some ⟨gl, 0, none⟩) R.l.length cap) := HP3.out.cells.c4
    have d2 : w3.cell? ⟨gl, k * 6 + 2, none⟩ = some (.bool f.dirty) := (HP3.out.at_cells hk).c2
    have df := (HP3.out.at_cells hk).f
    obtain ⟨hP4, hF4⟩ := RPIn.setK (R := { R with now := R.now + 1 }) (k := k) HP3.out hk 2 (by omega) (.bool true) rfl { f with v := .slice ao2 2048 cap2, b := xs, dirty := true } rfl (Or.inl ⟨rfl, rfl⟩)
    clear b4 a4 e4 b24 bf2 hb2 hHeld
    go_wp2_with fail
    generalize hw4 : w3.setCell ⟨gl, k * 6 + 2, none⟩ (.bool true) = w4 at *
    have d4 : w4.cell? ⟨g, 4, none⟩ = some (.slice (some ⟨gl, 0, none⟩) R.l.length cap) := hP4.cells.c4
    have d3 : w4.cell? ⟨gl, k * 6 + 3, none⟩ = some (.int .u64 f.mark) := (hP4.at_cells hk).c3
    have df := (hP4.at_cells hk).f
    obtain ⟨hP5, hF5⟩ := RPIn.setK (R := { R with now := R.now + 1 }) (k := k) hP4 hk 3 (by omega) (.int .u64 (max f.mark m)) rfl { f with v := .slice ao2 2048 cap2, b := xs, dirty := true, mark := max f.mark m } rfl (Or.inl ⟨rfl, rfl⟩)
    have HF5 : Hid (Fr w (w4.setCell ⟨gl, k * 6 + 3, none⟩ (.int .u64 (max f.mark m))).drew H) := ((HF3.out.trans (hF4.mono (G := H) (fun i hi => hi ▸ hHgl)) (fun i hi => Or.inl hi)).trans (hF5.mono (G := H) (fun i hi => hi ▸ hHgl)) (fun i hi => Or.inl hi)).trans (Fr.drew _ H) (fun i hi => Or.inl hi)
    have HP5 : Hid (RPIn base (w4.setCell ⟨gl, k * 6 + 3, none⟩ (.int .u64 (max f.mark m))).drew (fun i => H i ∨ w1.heap.size ≤ i ∧ i < w2.heap.size) g dq (.slice (some ⟨gl, 0, none⟩) R.l.length cap) (({ R with now := R.now + 1 } : RPS).at_ k { f with v := .slice ao2 2048 cap2, b := xs, dirty := true, mark := max f.mark m })) := hP5.keepB (Below.refl _ _).drew
    clear hP4 hw4 hF4 hP5 hF5 HP3
    go_region
    generalize hw5 : (w4.setCell ⟨gl, k * 6 + 3, none⟩ (.int .u64 (max f.mark m))).drew = w5 at *
    have g4 : w5.cell? ⟨g, 4, none⟩ = some (.slice (some ⟨gl, 0, none⟩) R.l.length cap) := HP5.out.cells.c4
    have g6 : w5.cell? ⟨g, 6, none⟩ = some (.int .i64 (R.now + 1)) := HP5.out.cells.c6
    have g5 : w5.cell? ⟨gl, k * 6 + 5, none⟩ = some (.int .i64 f.used) := (HP5.out.at_cells hk).c5
    have gf := (HP5.out.at_cells hk).f
    clear d4 d3 df d2 hw5
    go_wp2_with fail
    go_region
    go_wp2
    go_ret
    refine ⟨rfl, k, hk, .slice ao2 2048 cap2, hp, ?_⟩
    rw [HF.out, mx_max]
    obtain ⟨hP6, hF6⟩ := RPIn.setK (R := { R with now := R.now + 1 }) (k := k) HP5.out hk 5 (by omega) (.int .i64 (R.now + 1)) rfl { f with v := .slice ao2 2048 cap2, b := xs, dirty := true, mark := max f.mark m, used := R.now + 1 } rfl (Or.inl ⟨rfl, rfl⟩)
    refine .mk _ _ (hP6.keepB (Below.refl _ _).drew) ?_ (fun i hi => hi.imp id (fun h => by omega))
    exact (HF5.out.trans (hF6.mono (G := H) (fun i hi => hi ▸ hHgl)) (fun i hi => Or.inl hi)).trans (Fr.drew _ H) (fun i hi => Or.inl hi)
end Go.Proofs.Ytpmbpadckbkglaa

/- The document's pool: Unpin, Put. -/
import Derived.Test.YtpmbpadckbkglaaP7RE
import Derived.BigRegion
namespace Go.Proofs.Ytpmbpadckbkglaa
open Go.RowKit Go.Maps
set_option linter.unusedVariables false
set_option linter.unusedSimpArgs false

/-- The document's pool, turned; its disk lies elsewhere. -/
inductive RTo (base : Nat) (w : World) (H : Nat → Prop) (g : Nat) (dq : Value) (R' : RPS) (w' : World) : Prop
  | mk (H' : Nat → Prop) (vL' : Value) (h : RPIn base w' H' g dq vL' R') (hf : Fr w w' H) (hH : ∀ i, H' i → H i ∨ w.heap.size ≤ i)
/-- A frame, used now. -/
def RPS.use (R : RPS) (k : Nat) (f : RF) : RPS := { R with now := R.now + 1, l := R.l.set k { f with used := R.now + 1 } }
theorem wrap64 {x : Int} (h : -9223372036854775808 ≤ x ∧ x ≤ 9223372036854775807) : IntKind.i64.wrap x = x := by rw [IntKind.wrap_i64]; omega
set_option maxHeartbeats 1000000 in
theorem refUnpin_bad {base : Nat} {w : World} {H : Nat → Prop} {g : Nat} {dq vL : Value} {R : RPS} (h : RPIn base w H g dq vL R) (hl : R.l.length ≤ 1000) (p : Int) (hno : (∀ f ∈ R.l, f.page ≠ p) ∨ ∀ f ∈ R.l, f.page = p → f.pins = 0) :
    Calls Try.prog 27 #[.pointer (some ⟨g, 0, none⟩), .int .i64 p] w fun e w' => e = .returned (.int .i64 72) ∧ w' = w := by
  have hfd := find_any h p hl
  have HP : Hid (RPIn base w H g dq vL R) := h
  have hc := h.cells
  obtain ⟨c0, c1, c2, c3, c4, c5, c6, c7, cf⟩ := hc
  clear h
  go_enter Try.func27, Try.ntmps27
  go_wp2_with fail
  refine hfd.mono ?_
  rintro e wx ⟨hF, hwx⟩
  rw [hwx]
  clear hwx wx hfd
  cases hF with
  | none_ hp he =>
    subst he
    go_wp2
    go_ret
    exact ⟨rfl, rfl⟩
  | at_ k hk hp he =>
    subst he
    have hpin : R.l[k].pins = 0 := by
      rcases hno with h1 | h1
      · exact absurd hp (h1 _ (List.getElem_mem hk))
      · exact h1 _ (List.getElem_mem hk) hp
    obtain ⟨gl, cap, rfl, hcap, hne, hHgl, hcl⟩ := HP.out.frame hk
    obtain ⟨q0, q1, q2, q3, q4, q5, qf⟩ := hcl k hk
    have t1 : decide ((k : Int) < 0) = false := by simp
    rw [hpin] at q1
    clear hcl
    go_wp2
    go_ret
    exact ⟨rfl, rfl⟩
set_option maxHeartbeats 2000000 in
theorem refUnpin_any {base : Nat} {w : World} {H : Nat → Prop} {g : Nat} {dq vL : Value} {R : RPS} (h : RPIn base w H g dq vL R) (hl : R.l.length ≤ 1000) (p : Int) (hnow : 0 ≤ R.now ∧ R.now ≤ 1000000) (hyes : ∃ f ∈ R.l, f.page = p) (hpin : ∀ f ∈ R.l, f.page = p → 0 < f.pins ∧ f.pins ≤ 1000000) :
    Calls Try.prog 27 #[.pointer (some ⟨g, 0, none⟩), .int .i64 p] w fun e w' => e = .returned (.int .i64 0) ∧ ∃ (k : Nat) (hk : k < R.l.length), R.l[k].page = p ∧ RTo base w H g dq (R.use k { R.l[k] with pins := R.l[k].pins - 1 }) w' := by
  have hfd := find_any h p hl
  have HP : Hid (RPIn base w H g dq vL R) := h
  have hc := h.cells
  obtain ⟨c0, c1, c2, c3, c4, c5, c6, c7, cf⟩ := hc
  clear h
  go_enter Try.func27, Try.ntmps27
  go_wp2_with fail
  refine hfd.mono ?_
  rintro e wx ⟨hF, hwx⟩
  rw [hwx]
  clear hwx wx hfd
  cases hF with
  | none_ hp he =>
    obtain ⟨f, hf, hfp⟩ := hyes
    exact absurd hfp (hp f hf)
  | at_ k hk hp he =>
    subst he
    have hpk := hpin _ (List.getElem_mem hk) hp
    obtain ⟨gl, cap, rfl, hcap, hne, hHgl, hcl⟩ := HP.out.frame hk
    obtain ⟨q0, q1, q2, q3, q4, q5, qf⟩ := hcl k hk
    have t1 : decide ((k : Int) < 0) = false := by simp
    have t2 : (R.l[k].pins == 0) = false := by rw [beq_eq_false_iff_ne]; omega
    have hw1 : IntKind.i64.wrap (R.now + 1) = R.now + 1 := wrap64 (by omega)
    have hw2 : IntKind.i64.wrap (R.l[k].pins - 1) = R.l[k].pins - 1 := wrap64 (by omega)
    have hne' := Ne.symm hne
    clear hcl
    obtain ⟨f, hf⟩ : ∃ f, R.l[k] = f := ⟨_, rfl⟩
    have HF : Hid (R.l[k] = f) := hf
    rw [hf] at q0 q1 q2 q3 q4 q5 t2 hw2 hpk
    clear hf hpin hyes
    have h0 : RPIn base w H g dq (.slice (some ⟨gl, 0, none⟩) R.l.length cap) (R.at_ k f) := by rw [← HF.out, R.at_self hk]; exact HP.out
    obtain ⟨hP1, hF1⟩ := h0.setG (R' := { R.at_ k f with now := R.now + 1 }) (j := 6) (u := .int .i64 (R.now + 1)) rfl rfl
    obtain ⟨hP2, hF2⟩ := RPIn.setK (R := { R with now := R.now + 1 }) (k := k) (f0 := f) hP1 hk 1 (by omega) (.int .i64 (f.pins - 1)) rfl { f with pins := f.pins - 1 } rfl (Or.inl ⟨rfl, rfl⟩)
    have HP2 : Hid (RPIn base _ H g dq _ _) := hP2
    have HF2 : Hid (Fr w ((w.setCell ⟨g, 6, none⟩ (.int .i64 (R.now + 1))).setCell ⟨gl, k * 6 + 1, none⟩ (.int .i64 (f.pins - 1))) H) := (hF1.mono (G := H) (fun i hi => hi ▸ HP.out.gg)).trans (hF2.mono (G := H) (fun i hi => hi ▸ hHgl)) (fun i hi => Or.inl hi)
    clear hP1 hF1 hP2 hF2 h0
    go_wp2
    generalize hwz : (w.setCell ⟨g, 6, none⟩ (.int .i64 (R.now + 1))).setCell ⟨gl, k * 6 + 1, none⟩ (.int .i64 (f.pins - 1)) = wz at *
    have b4 : wz.cell? ⟨g, 4, none⟩ = some (.slice (some ⟨gl, 0, none⟩) R.l.length cap) := HP2.out.cells.c4
    have b6 : wz.cell? ⟨g, 6, none⟩ = some (.int .i64 (R.now + 1)) := HP2.out.cells.c6
    obtain ⟨gl2, cap2, hv2, _, _, _, hcl2⟩ := HP2.out.frame (k := k) (by simpa [RPS.at_] using hk)
    obtain rfl : gl = gl2 := by simpa [Value.ownBlock] using congrArg Value.ownBlock hv2
    obtain ⟨u5, b5⟩ : ∃ u, wz.cell? ⟨gl, k * 6 + 5, none⟩ = some u := ⟨_, (hcl2 k (by simpa [RPS.at_] using hk)).c5⟩
    have bf := (hcl2 k (by simpa [RPS.at_] using hk)).f
    clear hv2 hcl2 q0 q1 q2 q3 q4 q5 qf c0 c1 c2 c3 c4 c5 c6 c7 cf hwz
    go_region
    go_wp2
    go_ret
    refine ⟨rfl, k, hk, hp, ?_⟩
    rw [HF.out]
    obtain ⟨hP3, hF3⟩ := RPIn.setK (R := { R with now := R.now + 1 }) (k := k) HP2.out hk 5 (by omega) (.int .i64 (R.now + 1)) rfl { f with pins := f.pins - 1, used := R.now + 1 } rfl (Or.inl ⟨rfl, rfl⟩)
    refine .mk H _ (hP3.keepB (Below.refl _ _).drew) ?_ (fun i hi => Or.inl hi)
    exact (HF2.out.trans (hF3.mono (G := H) (fun i hi => hi ▸ hHgl)) (fun i hi => Or.inl hi)).trans (Fr.drew _ H) (fun i hi => Or.inl hi)
end Go.Proofs.Ytpmbpadckbkglaa

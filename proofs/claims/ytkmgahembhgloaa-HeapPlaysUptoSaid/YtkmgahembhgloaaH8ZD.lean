/- The document's heap: Get, Delete (for HeapPlays). -/
import Derived.Test.YtkmgahembhgloaaH8ZB
namespace Go.Proofs.Ytkmgahembhgloaa
open Go.RowKit Go.Maps
set_option linter.unusedVariables false
set_option linter.unusedSimpArgs false

def RefAt (base : Nat) (w : World) (ro : Nat → Nat) (rv : Value) (n : Nat) (R : Nat → List (List UInt8)) : Prop :=
  ∃ rg gp cap PV VS, rv = .pointer (some ⟨rg, 0, none⟩) ∧ RefIn base w ro rg gp cap PV VS n R
theorem RefAt.keep {base : Nat} {w w' : World} {ro : Nat → Nat} {rv : Value} {n : Nat} {R : Nat → List (List UInt8)} {S : Nat → Prop} (h : RefAt base w ro rv n R) (hf : Fr w w' S) (hd : ∀ i, S i → ro i = 0) : RefAt base w' ro rv n R := by
  obtain ⟨rg, gp, cap, PV, VS, e, h⟩ := h
  exact ⟨rg, gp, cap, PV, VS, e, h.keep hf hd⟩
theorem RefAt.keepB {base : Nat} {w w' : World} {ro : Nat → Nat} {rv : Value} {n : Nat} {R : Nat → List (List UInt8)} (h : RefAt base w ro rv n R) (hb : Below w.heap.size w w') : RefAt base w' ro rv n R :=
  h.keep (Fr.of_below (F := fun _ => False) hb) (fun i hi => hi.elim)
theorem RefAt.hz {base : Nat} {w : World} {ro : Nat → Nat} {rv : Value} {n : Nat} {R : Nat → List (List UInt8)} (h : RefAt base w ro rv n R) : ∀ i, w.heap.size ≤ i → ro i = 0 := by
  obtain ⟨rg, gp, cap, PV, VS, e, h⟩ := h; exact h.hz
theorem RefAt.lo {base : Nat} {w : World} {ro : Nat → Nat} {rv : Value} {n : Nat} {R : Nat → List (List UInt8)} (h : RefAt base w ro rv n R) : ∀ i, ro i ≠ 0 → base ≤ i := by
  obtain ⟨rg, gp, cap, PV, VS, e, h⟩ := h; exact h.lo
/-- What a call on the document's heap leaves. -/
def RTo (base : Nat) (w : World) (ro : Nat → Nat) (rv : Value) (n : Nat) (R' : Nat → List (List UInt8)) (w' : World) : Prop :=
  ∃ ro', RefAt base w' ro' rv n R' ∧ Fr w w' (fun i => ro i ≠ 0) ∧ ∀ i, ro' i ≠ 0 → ro i ≠ 0 ∨ w.heap.size ≤ i
theorem RTo.same {base : Nat} {w : World} {ro : Nat → Nat} {rv : Value} {n : Nat} {R : Nat → List (List UInt8)} (h : RefAt base w ro rv n R) : RTo base w ro rv n R w := ⟨ro, h, Fr.refl _ _, fun i hi => Or.inl hi⟩
/-- How much there may be. -/
structure RBd (n : Nat) (R : Nat → List (List UInt8)) : Prop where
  le : n ≤ 256
  few : ∀ j, j < n → (R j).length ≤ 256
  sum : ∀ j, j < n → sumL (R j) ≤ 2046
theorem sumL_at {rs : List (List UInt8)} {s : Nat} (hs : s < rs.length) : rs[s].length ≤ sumL rs := by
  have h1 := sumL_take rs s hs
  have h2 := sumL_le rs (s + 1)
  omega
theorem id_parts {id : Int} {k s : Nat} (hs : s < 256) (h : id = 256 * (k : Int) + (s : Int)) : id.tdiv 256 = (k : Int) ∧ id.tmod 256 = (s : Int) := by
  have h0 : 0 ≤ id := by omega
  rw [Int.tdiv_eq_ediv_of_nonneg h0, Int.tmod_eq_emod_of_nonneg h0]
  omega
theorem thereB_yes {n : Nat} {R : Nat → List (List UInt8)} {id : Int} (h : ThereR n R id) : thereB n R id = true := by simp only [thereB, decide_eq_true_eq]; exact h
theorem thereB_no {n : Nat} {R : Nat → List (List UInt8)} {id : Int} (h : ¬ ThereR n R id) : thereB n R id = false := by simp only [thereB, decide_eq_false_iff_not]; exact h
/-- A record that is there, as it lies. -/
theorem RefIn.slot {base : Nat} {w : World} {ro : Nat → Nat} {rg gp cap : Nat} {PV : Nat → Value} {VS : Nat → List Value} {n : Nat} {R : Nat → List (List UInt8)} (h : RefIn base w ro rg gp cap PV VS n R) {k s : Nat} (hk : k < n) (hs : s < (R k).length) : ∃ g cp vo vc, PV k = .slice (some ⟨g, 0, none⟩) (R k).length cp ∧ (R k).length ≤ cp ∧ w.cell? ⟨g, s, none⟩ = some (.slice vo (R k)[s].length vc) ∧ Bytes w (.slice vo (R k)[s].length vc) (R k)[s] ∧ w.frozen? ⟨g, s, none⟩ = false := by
  obtain ⟨ao, cp, e, hc, h0 | ⟨g, rfl, hX⟩⟩ := h.page hk
  · rw [h0] at hs; simp at hs
  · obtain ⟨vo, vc, c, hb⟩ := hX s hs
    have hp := h.pg k hk
    rw [e] at hp
    exact ⟨g, cp, vo, vc, e, hc, c, hb, World.ownsRow.frozenAt hp s⟩
set_option maxHeartbeats 2000000 in
theorem refGet_any {base : Nat} {w : World} {ro : Nat → Nat} {rv : Value} {n : Nat} {R : Nat → List (List UInt8)} (h : RefAt base w ro rv n R) (hB : RBd n R) (id : Int) (hid : -9223372036854775808 ≤ id ∧ id ≤ 9223372036854775807) :
    Calls Try.prog 16 #[rv, .int .i64 id] w fun e w' => ∃ ao m cp, e = .returned (.tuple #[.slice ao m cp, .int .i64 (getE n R id)]) ∧ Bytes w' (.slice ao m cp) (getB n R id) ∧ Below w.heap.size w w' := by
  obtain ⟨rg, gp, cap, PV, VS, rfl, h⟩ := h
  have hth := refThere_any h.pages hB.le hB.few id hid
  by_cases hT : ThereR n R id
  · obtain ⟨k, s, hk, hs, hid', hy, hy2⟩ := (show ThereR n R id from hT)
    obtain ⟨g, cp, vo, vc, e, hc, c2, hb, _⟩ := h.slot hk hy
    obtain ⟨q1, q2⟩ := id_parts hs hid'
    obtain ⟨e1, e2⟩ := ksOf hs hid'
    have c0 := h.rgCell
    have c1 := (h.rowCell hk).1
    rw [e] at c1
    rw [thereB_yes hT] at hth
    have hcap := h.capLe
    have hl := Nat.le_trans (sumL_at hy) (hB.sum k hk)
    rw [getD_lt hy] at hy2
    have ho := ref_own w.heap.size _ _ w hb hy2 (by omega) (Nat.le_refl _)
    have HE : Hid (getE n R id = 0 ∧ getB n R id = (R k)[s]) := ⟨by unfold getE; rw [if_pos hT], by unfold getB; rw [if_pos hT, e1, e2, getD_lt hy]⟩
    have hk2 : (k : Int) < (n : Int) := by omega
    have hnb := hB.le
    have hkb : (k : Int) ≤ 9223372036854775807 := by omega
    have hsb : (s : Int) ≤ 9223372036854775807 := by omega
    have hs2 : (s : Int) < ((R k).length : Int) := by omega
    clear hid' hT e1 e2 hb
    generalize (R k)[s] = xs at *
    generalize (R k).length = m at *
    go_enter Try.func16, Try.ntmps16
    go_wp2_with (first
      | (go_at_call 36; refine hth.mono ?_; clear hth; rintro e wx ⟨rfl, hwx⟩; rw [hwx]; clear hwx wx))
    refine ho.mono ?_
    clear ho
    rintro e w2 ⟨v', rfl, hown, _, hb2⟩
    obtain ⟨va, vcp, hv, _, _⟩ := hown.toBytes.form
    subst hv
    go_wp2_with fail
    refine bodyPost_ret (v := .tuple #[.slice va xs.length vcp, .int .i64 0]) (by simp [results, Try.results16, go_sem]) rfl ?_
    exact ⟨va, _, vcp, by rw [HE.out.1], by rw [HE.out.2]; exact hown.toBytes, hb2⟩
  · rw [thereB_no hT] at hth
    have HE : Hid (getE n R id = 82 ∧ getB n R id = []) := ⟨by unfold getE; rw [if_neg hT], by unfold getB; rw [if_neg hT]⟩
    clear h hT
    go_enter Try.func16, Try.ntmps16
    go_wp2_with (first
      | (go_at_call 36; refine hth.mono ?_; clear hth; rintro e wx ⟨rfl, hwx⟩; rw [hwx]; clear hwx wx))
    refine bodyPost_ret (v := .tuple #[.slice none 0 0, .int .i64 82]) (by simp [results, Try.results16, go_sem]) rfl ?_
    exact ⟨none, 0, 0, by rw [HE.out.1], by rw [HE.out.2]; exact Or.inl ⟨rfl, rfl⟩, Below.refl _ _⟩
set_option maxHeartbeats 2000000 in
theorem refDelete_any {base : Nat} {w : World} {ro : Nat → Nat} {rv : Value} {n : Nat} {R : Nat → List (List UInt8)} (h : RefAt base w ro rv n R) (hB : RBd n R) (id : Int) (hid : -9223372036854775808 ≤ id ∧ id ≤ 9223372036854775807) :
    Calls Try.prog 28 #[rv, .int .i64 id] w fun e w' => e = .returned (.int .i64 (delE n R id)) ∧ RTo base w ro rv n (delR n R id) w' := by
  have hA := h
  obtain ⟨rg, gp, cap, PV, VS, rfl, h⟩ := h
  have hth := refThere_any h.pages hB.le hB.few id hid
  by_cases hT : ThereR n R id
  · obtain ⟨k, s, hk, hs, hid', hy, hy2⟩ := (show ThereR n R id from hT)
    obtain ⟨g, cp, vo, vc, e, hc, c2, hb, hfz⟩ := h.slot hk hy
    obtain ⟨q1, q2⟩ := id_parts hs hid'
    obtain ⟨e1, e2⟩ := ksOf hs hid'
    obtain ⟨hS, hF⟩ := h.set hk hy e (vo := none) (vc := 0) (b := []) (Or.inl ⟨rfl, rfl⟩) (fun a ha => by cases ha)
    have c0 := h.rgCell
    have c1 := (h.rowCell hk).1
    rw [e] at c1
    rw [thereB_yes hT] at hth
    have hcap := h.capLe
    have HE : Hid (delE n R id = 0 ∧ delR n R id = upR R k (some ((R k).set s []))) := ⟨by unfold delE; rw [if_pos hT], by unfold delR; rw [if_pos hT, e1, e2]⟩
    have HP : Hid (RTo base w ro (.pointer (some ⟨rg, 0, none⟩)) n (upR R k (some ((R k).set s []))) (w.setCell ⟨g, s, none⟩ (.slice none 0 0))) := ⟨ro, ⟨rg, gp, cap, PV, _, rfl, hS⟩, hF, fun i hi => Or.inl hi⟩
    have hk2 : (k : Int) < (n : Int) := by omega
    have hnb := hB.le
    have hkb : (k : Int) ≤ 9223372036854775807 := by omega
    have hsb : (s : Int) ≤ 9223372036854775807 := by omega
    have hs2 : (s : Int) < ((R k).length : Int) := by omega
    clear hid' hT e1 e2 hb hS hF hA h
    generalize (R k)[s].length = xm at *
    generalize (R k).length = m at *
    go_enter Try.func28, Try.ntmps28
    go_wp2_with (first
      | (go_at_call 36; refine hth.mono ?_; clear hth; rintro e wx ⟨rfl, hwx⟩; rw [hwx]; clear hwx wx))
    go_ret
    exact ⟨by rw [HE.out.1]; rfl, by rw [HE.out.2]; exact HP.out⟩
  · rw [thereB_no hT] at hth
    have HE : Hid (delE n R id = 82 ∧ delR n R id = R) := ⟨by unfold delE; rw [if_neg hT], by unfold delR; rw [if_neg hT]⟩
    have HP : Hid (RefAt base w ro (.pointer (some ⟨rg, 0, none⟩)) n R) := hA
    clear h hT hA
    go_enter Try.func28, Try.ntmps28
    go_wp2_with (first
      | (go_at_call 36; refine hth.mono ?_; clear hth; rintro e wx ⟨rfl, hwx⟩; rw [hwx]; clear hwx wx))
    go_ret
    exact ⟨by rw [HE.out.1]; rfl, by rw [HE.out.2]; exact RTo.same HP.out⟩
end Go.Proofs.Ytkmgahembhgloaa

/- The document's heap: Update (for HeapPlays). -/
import Derived.Test.YtkmgahembhgloaaH8ZD
namespace Go.Proofs.Ytkmgahembhgloaa
open Go.RowKit Go.Maps
set_option linter.unusedVariables false
set_option linter.unusedSimpArgs false

theorem Recs.keep {w w' : World} {pv : Value} {rs : List (List UInt8)} (h : Recs w pv rs) (hb : Below w.heap.size w w') : Recs w' pv rs := by
  obtain ⟨ao, cap, e, hc, h⟩ := h
  refine ⟨ao, cap, e, hc, h.imp id ?_⟩
  rintro ⟨g, e', hX⟩
  refine ⟨g, e', fun i hi => ?_⟩
  obtain ⟨vo, vc, c, hB⟩ := hX i hi
  exact ⟨vo, vc, (hb.cell (World.block_lt_of_cell? w _ c)).trans c, hB.keep hb⟩
/-- A record of its own, put in a page's slot. -/
theorem RefIn.put {base : Nat} {w w1 : World} {ro : Nat → Nat} {rg gp cap : Nat} {PV : Nat → Value} {VS : Nat → List Value} {n : Nat} {R : Nat → List (List UInt8)} (h : RefIn base w ro rg gp cap PV VS n R) {k s g cp : Nat} (hk : k < n) (hs : s < (R k).length) (hpv : PV k = .slice (some ⟨g, 0, none⟩) (R k).length cp) (hb1 : Below w.heap.size w w1) {vo : Option Addr} {vc : Nat} {b : List UInt8} (hown : OwnB base w1 (.slice vo b.length vc) b) (hnew : ∀ c, (Value.slice vo b.length vc).ownBlock = some c → w.heap.size ≤ c) :
    RTo base w ro (.pointer (some ⟨rg, 0, none⟩)) n (upR R k (some ((R k).set s b))) (w1.setCell ⟨g, s, none⟩ (.slice vo b.length vc)) := by
  have h1 := h.keepB hb1
  have hf1 : Fr w w1 (fun i => ro i ≠ 0) := Fr.of_below hb1
  cases vo with
  | none =>
    obtain ⟨h2, hf2⟩ := h1.set hk hs hpv hown.toBytes (fun a ha => by cases ha)
    exact ⟨ro, ⟨rg, gp, cap, PV, _, rfl, h2⟩, hf1.trans hf2 (fun i hi => Or.inl hi), fun i hi => Or.inl hi⟩
  | some a =>
    have hl := World.ownsRow.lt hown a.block rfl
    have hn := hnew a.block rfl
    have h0 : ro a.block = 0 := h.hz _ hn
    obtain ⟨h2, hf2⟩ := (h1.mark a.block 3 h0 hl.1 hl.2).set hk hs hpv hown.toBytes (fun a' ha => by cases ha; exact if_pos rfl)
    refine ⟨_, ⟨rg, gp, cap, PV, _, rfl, h2⟩, hf1.trans hf2 (fun i hi => ?_), fun i hi => ?_⟩
    · by_cases e : i = a.block
      · exact Or.inr (by omega)
      · exact Or.inl (by simpa [e] using hi)
    · by_cases e : i = a.block
      · exact Or.inr (by omega)
      · exact Or.inl (by simpa [e] using hi)
set_option maxHeartbeats 4000000 in
theorem refUpdate_any {base : Nat} {w : World} {ro : Nat → Nat} {rv : Value} {n : Nat} {R : Nat → List (List UInt8)} (h : RefAt base w ro rv n R) (hbw : base ≤ w.heap.size) (hB : RBd n R) (id : Int) (hid : -9223372036854775808 ≤ id ∧ id ≤ 9223372036854775807) (v : Value) (b : List UInt8) (hv : Bytes w v b) (hbl : b.length ≤ 140737488355328) :
    Calls Try.prog 27 #[rv, .int .i64 id, v] w fun e w' => e = .returned (.int .i64 (updE n R id b)) ∧ RTo base w ro rv n (updR n R id b) w' := by
  have hA := h
  obtain ⟨rg, gp, cap, PV, VS, rfl, h⟩ := h
  obtain ⟨ba, bc, rfl, _, _⟩ := hv.form
  have hth := refThere_any h.pages hB.le hB.few id hid
  have HP : Hid (RefAt base w ro (.pointer (some ⟨rg, 0, none⟩)) n R) := hA
  by_cases hT : ThereR n R id
  · obtain ⟨k, s, hk, hs, hid', hy, hy2⟩ := (show ThereR n R id from hT)
    obtain ⟨q1, q2⟩ := id_parts hs hid'
    obtain ⟨e1, e2⟩ := ksOf hs hid'
    have HE : Hid (updE n R id b = (updO (R k) s b).2 ∧ updR n R id b = upR R k (updO (R k) s b).1) := ⟨by unfold updE; rw [if_pos hT, e1, e2], by unfold updR; rw [if_pos hT, e1, e2]⟩
    rw [thereB_yes hT] at hth
    clear hT e1 e2 hid'
    by_cases hlong : b.length = 0 ∨ b.length > 1500
    · have HE2 : Hid (updE n R id b = 81 ∧ updR n R id b = R) := by
        have e : updO (R k) s b = (none, 81) := by unfold updO; rw [if_pos hlong]
        exact ⟨by rw [HE.out.1, e], by rw [HE.out.2, e]; rfl⟩
      clear HE hA h hv
      generalize b.length = m at *
      rcases hlong with hm | hm
      · subst hm
        go_enter Try.func27, Try.ntmps27
        go_wp2_with (first
          | (go_at_call 36; refine hth.mono ?_; clear hth; rintro e wx ⟨rfl, hwx⟩; rw [hwx]; clear hwx wx))
        go_ret
        exact ⟨by rw [HE2.out.1]; rfl, by rw [HE2.out.2]; exact RTo.same HP.out⟩
      · have t0 : ((m : Int) == 0) = false := by simp; omega
        have t1 : decide ((m : Int) > 1500) = true := decide_eq_true (by omega)
        go_enter Try.func27, Try.ntmps27
        go_wp2_with (first
          | (go_at_call 36; refine hth.mono ?_; clear hth; rintro e wx ⟨rfl, hwx⟩; rw [hwx]; clear hwx wx))
        go_ret
        exact ⟨by rw [HE2.out.1]; rfl, by rw [HE2.out.2]; exact RTo.same HP.out⟩
    · have hb0 : 0 < b.length := by omega
      have hb15 : b.length ≤ 1500 := by omega
      obtain ⟨g, cp, vo, vc, e, hc, c2, hb, hfz⟩ := h.slot hk hy
      have c0 := h.rgCell
      have c1 := (h.rowCell hk).1
      rw [e] at c1
      have hcap := h.capLe
      have hfew := hB.few k hk
      have hsum := hB.sum k hk
      have hl := Nat.le_trans (sumL_at hy) hsum
      have hroom := roomP_bound hfew (show sumL (R k) ≤ 1000000 by omega)
      have hrecs : Recs w (.slice (some ⟨g, 0, none⟩) (R k).length cp) (R k) := by have := h.page hk; rw [e] at this; exact this
      have hrm : ∀ nq, Calls Try.prog 53 #[.slice (some ⟨g, 0, none⟩) (R k).length cp] (w.drewN nq) fun e w' => e = .returned (.int .i64 (roomP (R k))) ∧ w' = w.drewN nq := fun nq => refRoom_any (hrecs.keep (below_drewN (Below.refl _ _) nq)) hfew (by omega)
      have HU : Hid (updO (R k) s b = if roomP (R k) + (R k)[s].length < b.length then (none, 83) else (some ((R k).set s b), 0)) := by
        show _ = _
        unfold updO
        rw [if_neg hlong, getD_lt hy]
      have HS : Hid (∀ (w' w1 : World) (vo : Option Addr) (vc : Nat), Below w.heap.size w w' → Below w'.heap.size w' w1 → OwnB base w1 (.slice vo b.length vc) b → (∀ c, (Value.slice vo b.length vc).ownBlock = some c → w'.heap.size ≤ c) → RTo base w ro (.pointer (some ⟨rg, 0, none⟩)) n (upR R k (some ((R k).set s b))) (w1.setCell ⟨g, s, none⟩ (.slice vo b.length vc))) := fun w' w1 vo vc g1 g2 g3 g4 => h.put hk hy e (g1.trans (g2.mono g1.size)) g3 (fun c hc => Nat.le_trans g1.size (g4 c hc))
      have HC : Hid (∀ w', Below w.heap.size w w' → w'.cell? ⟨g, s, none⟩ = some (.slice vo (R k)[s].length vc) ∧ w'.frozen? ⟨g, s, none⟩ = false) := fun w' hb' => ⟨(hb'.cell (World.block_lt_of_cell? w _ c2)).trans c2, (hb'.frozen (p := ⟨g, s, none⟩) (World.block_lt_of_cell? w _ c2)).trans hfz⟩
      have HOW : Hid (∀ w', Below w.heap.size w w' → Calls Try.prog 37 #[.slice ba b.length bc] w' fun e w2 => ∃ v', e = .returned v' ∧ OwnB base w2 v' b ∧ (∀ k, v'.ownBlock = some k → w'.heap.size ≤ k) ∧ Below w'.heap.size w' w2) := fun w' hb' => ref_own base _ _ w' (hv.keep hb') hb0 (by omega) (Nat.le_trans hbw hb'.size)
      have hk2 : (k : Int) < (n : Int) := by omega
      have hnb := hB.le
      have hkb : (k : Int) ≤ 9223372036854775807 := by omega
      have hsb : (s : Int) ≤ 9223372036854775807 := by omega
      have hs2 : (s : Int) < ((R k).length : Int) := by omega
      have t0 : ((b.length : Int) == 0) = false := by rw [beq_eq_false_iff_ne]; omega
      have t1 : decide ((b.length : Int) > 1500) = false := decide_eq_false (by omega)
      obtain ⟨bl, hbl'⟩ : ∃ bl, b.length = bl := ⟨_, rfl⟩
      have HBL : Hid (b.length = bl) := hbl'
      rw [hbl'] at HU HS HOW t0 t1 hb0 hb15 hbl ⊢
      clear hlong hrecs hb hsum h hA e hv hbl'
      generalize (R k)[s].length = xm at *
      generalize roomP (R k) = rm at *
      obtain ⟨m, hm⟩ : ∃ m, (R k).length = m := ⟨_, rfl⟩
      rw [hm] at hy hs2 hc c1 hrm hfew
      clear hm
      go_enter Try.func27, Try.ntmps27
      go_wp2_with (first
        | (go_at_call 36; refine hth.mono ?_; clear hth; rintro e wx ⟨rfl, hwx⟩; rw [hwx]; clear hwx wx))
      go_quiet ((go_at_call 53; exact Calls.quiet_of_same (hrm _)))
      rename_i nq
      have hbq : Below w.heap.size w (w.drewN nq) := below_drewN (Below.refl _ _) nq
      have c2q := (HC.out _ hbq).1
      have hfq : Fr w (w.drewN nq) (fun i => ro i ≠ 0) := Fr.of_below hbq
      have HPQ : Hid (RTo base w ro (.pointer (some ⟨rg, 0, none⟩)) n R (w.drewN nq)) := ⟨ro, HP.out.keepB hbq, hfq, fun i hi => Or.inl hi⟩
      clear hrm c2 c0 c1 hfq hfz
      generalize w.drewN nq = wq at *
      rcases Decidable.em (rm + (xm : Int) < (bl : Int)) with hfull | hfull
      · have HE2 : Hid (updE n R id b = 83 ∧ updR n R id b = R) := by
          have e := HU.out
          rw [if_pos hfull] at e
          exact ⟨by rw [HE.out.1, e], by rw [HE.out.2, e]; rfl⟩
        rw [decide_eq_true hfull]
        clear HU HE HS HOW HC
        go_wp2
        go_ret
        exact ⟨by rw [HE2.out.1]; rfl, by rw [HE2.out.2]; exact HPQ.out⟩
      · have HE2 : Hid (updE n R id b = 0 ∧ updR n R id b = upR R k (some ((R k).set s b))) := by
          have e := HU.out
          rw [if_neg hfull] at e
          exact ⟨by rw [HE.out.1, e], by rw [HE.out.2, e]⟩
        rw [decide_eq_false hfull]
        have ho := HOW.out _ hbq
        clear HU HE HPQ HOW
        go_wp2_with fail
        refine ho.mono ?_
        clear ho
        rintro e w2 ⟨v', rfl, hown, hnew, hb2⟩
        obtain ⟨va, vcp, hv', _, _⟩ := hown.toBytes.form
        rw [HBL.out] at hv'
        subst hv'
        have hR := HS.out wq w2 va vcp hbq hb2 hown hnew
        obtain ⟨c3, f3⟩ := HC.out w2 (hbq.trans (hb2.mono hbq.size))
        have HR : Hid (RTo base w ro (.pointer (some ⟨rg, 0, none⟩)) n (upR R k (some ((R k).set s b))) (w2.setCell ⟨g, s, none⟩ (.slice va bl vcp))) := hR
        clear hown hnew hb2 hR HS HC c2q
        go_wp2_with fail
        go_ret
        exact ⟨by rw [HE2.out.1]; rfl, by rw [HE2.out.2]; exact HR.out⟩
  · rw [thereB_no hT] at hth
    have HE : Hid (updE n R id b = 82 ∧ updR n R id b = R) := ⟨by unfold updE; rw [if_neg hT], by unfold updR; rw [if_neg hT]⟩
    clear h hT hA
    generalize b.length = m at *
    go_enter Try.func27, Try.ntmps27
    go_wp2_with (first
      | (go_at_call 36; refine hth.mono ?_; clear hth; rintro e wx ⟨rfl, hwx⟩; rw [hwx]; clear hwx wx))
    go_ret
    exact ⟨by rw [HE.out.1]; rfl, by rw [HE.out.2]; exact RTo.same HP.out⟩
end Go.Proofs.Ytkmgahembhgloaa

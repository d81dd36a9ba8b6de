/- Going down to a leaf: leafFor. -/
import Derived.Test.YtfobcnmhghfanaaB9I
import Derived.WalkMore
namespace Go.Proofs.Ytfobcnmhghfanaa
open Go.RowKit Go.Shelf
set_option linter.unusedVariables false
set_option linter.unusedSimpArgs false

theorem misLeaf_any {base : Nat} {w : World} {ro : Ro} {nd : Nat → Nd} (hm : Mem base w ro nd) {c : Nat} (hc : ro c = some (c, 0)) (h : (nd c).bs.length ≤ 1000) :
    Calls Try.prog 34 #[pt c] w fun e w' => e = .returned (.bool (decide ((nd c).bs = []))) ∧ w' = w := by
  have hC := hm.at_ hc
  obtain ⟨ao', cap', h2, _, _⟩ := (hm.rowB c hc).form
  rw [h2] at hC
  refine (isLeaf_any hC (by omega)).mono ?_
  rintro e w' ⟨rfl, h⟩
  refine ⟨?_, h⟩
  cases hb : (nd c).bs with
  | nil => simp
  | cons x t => simp
/-- Where going down stands. -/
structure Dn (base : Nat) (w : World) (ro : Ro) (nd : Nat → Nd) (r H : Nat) (lv : Nat → List Br) (key : ByteArray) (Gd Rq : Nat → Prop) (Gp : Nat → Nd → Prop) (w' : World) (ro' : Ro) (nd' : Nat → Nd) (lv' : Nat → List Br) (dep' : Nat → Nat) (j fl : Nat) (A : List Br) (p : Br) (B : List Br) : Prop where
  ts : TS base w' ro' nd' r H lv' dep'
  mt : MTo base w ro nd w' ro' nd'
  en : ents nd' (lv' H) = ents nd (lv H)
  pa : Path lv' key j A p B
  hj : j ≤ H
  f1 : fl = 1 → Gp j (nd' p.2)
  f0 : fl = 0 → j < H ∧ ∀ i, BrAt (nd' p.2).bs key i → ∀ q, (nd' p.2).bs[i]? = some q → Gd (nd' q.2).sz
  fl : fl = 0 ∨ fl = 1
  rq : 0 < j → Rq (nd' r).bs.length
  r0 : j = 0 → 0 < H → Rq (nd' r).bs.length ∨ ∀ q ∈ (nd' r).bs, ¬ Gd (nd' q.2).sz
inductive LfOut (base : Nat) (w : World) (ro : Ro) (nd : Nat → Nd) (r H : Nat) (lv : Nat → List Br) (key : ByteArray) (Rq : Nat → Prop) (Gp : Nat → Nd → Prop) (e : Ending) (w' : World) : Prop
  | mk (ro' : Ro) (nd' : Nat → Nd) (lv' : Nat → List Br) (dep' : Nat → Nat) (A : List Br) (p : Br) (B : List Br) (he : e = .returned (pt p.2)) (ts : TS base w' ro' nd' r H lv' dep') (mt : MTo base w ro nd w' ro' nd') (en : ents nd' (lv' H) = ents nd (lv H)) (pa : Path lv' key H A p B) (gp : Gp H (nd' p.2)) (rq : 0 < H → Rq (nd' r).bs.length)
/-- One step down. -/
theorem Dn.step {base : Nat} {w : World} {ro : Ro} {nd : Nat → Nd} {r H : Nat} {lv : Nat → List Br} {key : ByteArray} {Gd Rq : Nat → Prop} {Gp : Nat → Nd → Prop} (hdn : ∀ j n, Gd n.sz → Gp (j + 1) n) {w' w2 : World} {ro' : Ro} {nd' : Nat → Nd} {lv' : Nat → List Br} {dep' : Nat → Nat} {j fl : Nat} {A B : List Br} {p : Br} (h : Dn base w ro nd r H lv key Gd Rq Gp w' ro' nd' lv' dep' j fl A p B) (hj : j < H) {i : Nat} (hb : BrAt (nd' p.2).bs key i) (hg : ∀ q, (nd' p.2).bs[i]? = some q → Gd (nd' q.2).sz) (hw : Below w'.heap.size w' w2) :
    Dn base w ro nd r H lv key Gd Rq Gp w2 ro' nd' lv' dep' (j + 1) 1 (next nd' A ++ (nd' p.2).bs.take i) ((nd' p.2).bs[i]'hb.lt) ((nd' p.2).bs.drop (i + 1) ++ next nd' B) := by
  have hi := hb.lt
  have hgi := hg _ (List.getElem?_eq_getElem hi)
  have hs := h.ts.sh
  have hin := hs.inner j hj p (by rw [h.pa.at_]; simp)
  obtain ⟨_, c0, t0, e0⟩ := hin
  have hp0 : kl key ((nd' p.2).bs[i]).1 = false := by
    refine hb.lo (by rw [e0]; simp) ?_
    simp only [e0, List.getElem_cons_zero]
    exact h.pa.lo
  have hq : (nd' p.2).bs = (nd' p.2).bs.take i ++ (nd' p.2).bs[i] :: (nd' p.2).bs.drop (i + 1) := by
    conv => lhs; rw [← List.take_append_drop i (nd' p.2).bs, List.drop_eq_getElem_cons hi]
  refine ⟨h.ts.below hw, h.mt.trans (MTo.of_below h.ts.mem hw), h.en, hs.down hj h.pa hq hp0 (fun x hx => ?_), by omega, fun _ => hdn j _ hgi, fun e => by omega, Or.inr rfl, fun _ => ?_, fun e => by omega⟩
  · obtain ⟨t, ht, rfl⟩ := List.getElem_of_mem hx
    rw [List.length_drop] at ht
    rw [List.getElem_drop]
    exact hb.hi (i + 1 + t) (by omega) (by omega)
  · by_cases e : j = 0
    · rcases h.r0 e (by omega) with h1 | h1
      · exact h1
      · have hpr : p.2 = r := by
          have := h.pa.at_
          rw [e, hs.top] at this
          cases A with
          | nil => cases this; rfl
          | cons x t => simp at this
        exact absurd hgi (h1 _ (by rw [← hpr]; exact List.getElem_mem hi))
    · exact h.rq (by omega)
theorem Dn.leaf {base : Nat} {w : World} {ro : Ro} {nd : Nat → Nd} {r H : Nat} {lv : Nat → List Br} {key : ByteArray} {Gd Rq : Nat → Prop} {Gp : Nat → Nd → Prop} {w' : World} {ro' : Ro} {nd' : Nat → Nd} {lv' : Nat → List Br} {dep' : Nat → Nat} {j fl : Nat} {A B : List Br} {p : Br} (h : Dn base w ro nd r H lv key Gd Rq Gp w' ro' nd' lv' dep' j fl A p B) : ((nd' p.2).bs = [] ↔ j = H) ∧ ro' p.2 = some (p.2, 0) ∧ (nd' p.2).bs.length ≤ 1000 := by
  have hpm : p ∈ lv' j := by rw [h.pa.at_]; simp
  refine ⟨⟨fun e => ?_, fun e => ?_⟩, h.ts.inn j h.hj p hpm, ?_⟩
  · rcases Nat.lt_or_ge j H with h1 | h1
    · obtain ⟨_, c, t, hb⟩ := h.ts.sh.inner j h1 p hpm
      rw [hb] at e; cases e
    · have := h.hj; omega
  · exact h.ts.sh.leaf p (by rw [← e]; exact hpm)
  · have := h.ts.toSZ.all h.ts.sh h.hj hpm
    have := bs_le (nd' p.2)
    omega
set_option maxHeartbeats 4000000 in
set_option maxRecDepth 100000 in
theorem leafFor_any {base g : Nat} {key : ByteArray} {Gd Rq : Nat → Prop} {Gp : Nat → Nd → Prop} {r : Nat} (eg : Enters Try.prog g) (hrd : Ready base g r key Gd Rq Gp) (hdn : ∀ j n, Gd n.sz → Gp (j + 1) n) {w : World} {ro : Ro} {nd : Nat → Nd} {H : Nat} {lv : Nat → List Br} {dep : Nat → Nat} (ts : TS base w ro nd r H lv dep) (hg0 : Gp 0 (nd r)) (hr0 : 0 < H → Rq (nd r).bs.length ∨ ∀ q ∈ (nd r).bs, ¬ Gd (nd q.2).sz) (hb : base ≤ w.heap.size) :
    Calls Try.prog 37 #[pt r, .string key, .func (.func g) #[] #[]] w fun e w' => LfOut base w ro nd r H lv key Rq Gp e w' := by
  unfold Enters at eg
  have HRD : Hid (Ready base g r key Gd Rq Gp) := hrd
  have HDN : Hid (∀ j n, Gd n.sz → Gp (j + 1) n) := hdn
  have HS : Hid (Dn base w ro nd r H lv key Gd Rq Gp w ro nd lv dep 0 1 [] (ByteArray.empty, r) []) := ⟨ts, MTo.of_below ts.mem (Below.refl _ _), rfl, ts.sh.path0 key, by omega, fun _ => hg0, fun e => by omega, Or.inr rfl, fun e => by omega, fun _ => hr0⟩
  have hlt := ts.mem.lt ts.toTM.root
  clear hrd hdn ts hg0 hr0
  go_enter Try.func37, Try.ntmps37
  go_wp2
  go_step3
  go_wp2
  go_step3
  go_wp2
  go_loopg [7] (2 * H + 1) (fun kx s7 wr => ∃ ro' nd' lv' dep' j fl A p B, s7 = pt p.2 ∧ Hid (Dn base w ro nd r H lv key Gd Rq Gp wr ro' nd' lv' dep' j fl A p B) ∧ 2 * (H - j) + fl ≤ kx)
  case atStart => exact ⟨ro, nd, lv, dep, 0, 1, [], (ByteArray.empty, r), [], rfl, HS, by omega⟩
  case round =>
    obtain ⟨ro', nd', lv', dep', j, fl, A, p, B, rfl, hD, hkx⟩ := hrel
    obtain ⟨hlf, hro, hln⟩ := hD.out.leaf
    have hil := misLeaf_any hD.out.ts.mem hro hln
    by_cases hjH : j = H
    · rw [decide_eq_true (hlf.2 hjH)] at hil
      have HO : Hid (LfOut base w ro nd r H lv key Rq Gp (.returned (pt p.2)) wr) := by
        have h := hD.out
        subst hjH
        have hfl : fl = 1 := by rcases h.fl with e | e; exact absurd (h.f0 e).1 (by omega); exact e
        exact LfOut.mk ro' nd' lv' dep' A p B rfl h.ts h.mt h.en h.pa (h.f1 hfl) h.rq
      go_wp2_with (go_at_call 34; refine hil.mono ?_; clear hil; rintro e wx ⟨rfl, hwx⟩; rw [hwx]; clear hwx wx)
      try rw [Exit.noGoto_ret]
      go_ret
      exact HO.out
    · have hjl : j < H := by have := hD.out.hj; omega
      rw [decide_eq_false (fun e => hjH (hlf.1 e))] at hil
      have hpm : p ∈ lv' j := by rw [hD.out.pa.at_]; simp
      obtain ⟨_, c0, t0, e0⟩ := hD.out.ts.sh.inner j hjl p hpm
      have hbf := branchFor_any (hD.out.ts.mem.at_ hro) (hD.out.ts.mem.rowB _ hro) (by rw [e0]; simp) hln (hD.out.ts.sh.lows_in hjl hpm) key
      clear hlf e0
      go_wp2_with (first
        | (go_at_call 34; refine hil.mono ?_; clear hil; rintro e wx ⟨rfl, hwx⟩; rw [hwx]; clear hwx wx)
        | (go_at_call 44; refine hbf.mono ?_; clear hbf; rintro e w1 ⟨i, he, hbr, hb1⟩; subst he))
      have hpre : Gp j (nd' p.2) ∨ ∀ q, (nd' p.2).bs[i]? = some q → Gd (nd' q.2).sz := by
        rcases hD.out.fl with e | e
        · exact Or.inr ((hD.out.f0 e).2 i hbr)
        · exact Or.inl (hD.out.f1 e)
      have hbw : base ≤ w1.heap.size := Nat.le_trans hb (Nat.le_trans hD.out.mt.fr.size hb1.size)
      refine (HRD.out w1 ro' nd' H lv' dep' j A p B i (hD.out.ts.below hb1) hjl hD.out.pa hbr hpre hbw).mono ?_
      rintro e w2 hR
      cases hR with
      | no he hb2 hg =>
        subst he
        have hbb : Below wr.heap.size wr w2 := hb1.trans (hb2.mono hb1.size)
        have hD2 : Hid _ := hD.out.step HDN.out hjl hbr hg hbb
        have hi := hbr.lt
        obtain ⟨g2, cp2, x1, x2⟩ : ∃ g2 cp2, w2.cell? ⟨p.2, 1, none⟩ = some (.slice (some ⟨g2, 0, none⟩) (nd' p.2).bs.length cp2) ∧ w2.cell? ⟨g2, i * 2 + 1, none⟩ = some (pt (nd' p.2).bs[i].2) := by
          have hm2 := hD.out.ts.mem.below hbb
          have hrow := hm2.rowB p.2 hro
          obtain ⟨g, cap, hv, _, _⟩ := hrow.at_ (by omega)
          have hN := (hm2.at_ hro).c1
          rw [hv] at hrow hN
          have := hrow.cell (cB_len _) i hi 1 (by omega)
          exact ⟨g, cap, hN, by rw [this]; rfl⟩
        have hz : (i : Int) < ((nd' p.2).bs.length : Int) := by omega
        generalize hcq : (nd' p.2).bs[i] = q at x2 hD2
        clear hcq
        clear hbr hg hpre
        generalize hnb : (nd' p.2).bs.length = nb at x1 hz
        go_wp2
        go_roundg (2 * (H - (j + 1)) + 1)
        case measure => omega
        case rel => exact ⟨ro', nd', lv', dep', j + 1, 1, _, q, _, rfl, hD2, Nat.le_refl _⟩
      | yes ro2 nd2 lv2 dep2 he ts2 mt2 hlv hen hg hrq hroo hbad =>
        subst he
        have hfl : fl = 1 := by
          rcases hD.out.fl with e | e
          · obtain ⟨q, h1, h2⟩ := hbad
            exact absurd ((hD.out.f0 e).2 i hbr q h1) h2
          · exact e
        have hD2 : Hid (Dn base w ro nd r H lv key Gd Rq Gp w2 ro2 nd2 lv2 dep2 j 0 A p B) := by
          have h := hD.out
          refine ⟨ts2, h.mt.trans ((MTo.of_below h.ts.mem hb1).trans mt2), hen.trans h.en, ⟨by rw [hlv j (Nat.le_refl _)]; exact h.pa.at_, h.pa.lo, h.pa.hi⟩, h.hj, fun e => by omega, fun _ => ⟨hjl, hg⟩, Or.inl rfl, fun h0 => ?_, fun h0 _ => Or.inl (hrq ?_)⟩
          · have hpr : p.2 ≠ r := fun e => by have := h.ts.sh.only_root h.hj hpm e; omega
            rw [hroo hpr]; exact h.rq h0
          · have := h.pa.at_
            rw [h0, h.ts.sh.top] at this
            cases A with
            | nil => cases this; rfl
            | cons x t => simp at this
        clear hbad hg hrq hroo hbr hpre
        go_wp2
        go_roundg (2 * (H - j))
        case measure => omega
        case rel => exact ⟨ro2, nd2, lv2, dep2, j, 0, A, p, B, rfl, hD2, by omega⟩
end Go.Proofs.Ytfobcnmhghfanaa

/- The document's pool: Pin of a page that is held. -/
import Derived.Test.YtpmbpadckbkglaaP7RJ
import Derived.Deep.CutBlock
import Derived.Deep.DeepCutAuto
namespace Go.Proofs.Ytpmbpadckbkglaa
open Go.RowKit Go.Maps
set_option linter.unusedVariables false
set_option linter.unusedSimpArgs false
/-- What Pin of the document's pool comes to. -/
inductive RPin (base : Nat) (w : World) (H G : Nat → Prop) (g : Nat) (dq : Value) (N : Int) (F L : List EV) (P : PS) (D : DS) (k : Int) (e : Ending) (w' : World) : Prop
  | ok (P' : PS) (D' : DS) (bs : List UInt8) (ht : PinTo P D k P' D' bs) (v : Value) (he : e = .returned (.tuple #[v, .int .i64 0])) (hv : OwnB w.heap.size w' v bs) (H' G' : Nat → Prop) (vL' : Value) (R' : RPS) (L' : List EV) (hP : RPIn base w' H' g dq vL' R') (hR : RefAt base w' G' dq N F L') (hdis : ∀ i, H' i → ¬ G' i) (hrel : Rel P' R') (hrd : rd F L' = D'.now) (hlen : L'.length ≤ L.length + 16) (hf : Fr w w' (fun i => H i ∨ G i)) (hH : ∀ i, H' i → H i ∨ w.heap.size ≤ i) (hG : ∀ i, G' i → G i ∨ w.heap.size ≤ i)
  | err (c : Int) (he : e = .returned (.tuple #[.slice none 0 0, .int .i64 c])) (hk : k ∉ P.keys) (hc : RoomErr P c) (hb : Below w.heap.size w w')
set_option maxRecDepth 100000 in
set_option maxHeartbeats 2000000 in
theorem refPin_held {base : Nat} {w : World} {H G : Nat → Prop} {g : Nat} {dq vL : Value} {R : RPS} {N : Int} {F L : List EV} {P : PS} {D : DS} (h : RPIn base w H g dq vL R) (hq : RefAt base w G dq N F L) (hdis : ∀ i, H i → ¬ G i) (hrel : Rel P R) (hok : POk P) (hrd : rd F L = D.now) {p : Int} (hp : p ∈ P.keys) :
    Calls Try.prog 25 #[.pointer (some ⟨g, 0, none⟩), .int .i64 p] w fun e w' => RPin base w H G g dq N F L P D p e w' := by
  have HP : Hid (RPIn base w H g dq vL R) := h
  have HQ : Hid (RefAt base w G dq N F L) := hq
  have HR : Hid (Rel P R) := hrel
  have hl64 : R.l.length ≤ 64 := by have := hrel.len hok; have := hok.len; have := hok.size; omega
  have hpr := hok.rng p hp
  have hus : 0 ≤ R.now ∧ R.now ≤ 1000000 := by rw [hrel.now]; exact hok.uses
  have hpg : R.pages = P.pages := hrel.pages
  have hfd := find_any h p (by omega)
  obtain ⟨c0, c1, c2, c3, c4, c5, c6, c7, cf⟩ := h.cells
  rw [hpg] at c2
  have t1 : decide (p < 0) = false := by simp; omega
  have t2 : decide (p ≥ P.pages) = false := by simp; omega
  clear h hq hrel
  go_enter Try.func25, Try.ntmps25
  go_wp2_with fail
  refine hfd.mono ?_
  rintro e wx ⟨hF, hwx⟩
  rw [hwx]
  clear hwx wx hfd
  cases hF with
  | none_ hn he =>
    obtain ⟨f, hf, hfp⟩ := HR.out.find hp
    exact absurd hfp (hn f hf)
  | at_ k hk hkp he =>
    subst he
    obtain ⟨gl, cap, rfl, hcap, hne, hHgl, hcl⟩ := HP.out.frame hk
    obtain ⟨q0, q1, q2, q3, q4, q5, qf⟩ := hcl k hk
    have hfe := HR.out.fr _ (List.getElem_mem hk)
    rw [hkp] at hfe
    have hfo := hok.fr p hp
    have hpi : 0 ≤ R.l[k].pins ∧ R.l[k].pins ≤ 1000000 := by rw [hfe.pins]; have := hfo.pins; have := hok.uses; omega
    have hbl : R.l[k].b.length = 2048 := by rw [hfe.b]; exact hfo.len
    have t3 : decide ((k : Int) < 0) = false := by simp
    have hw1 : IntKind.i64.wrap (R.now + 1) = R.now + 1 := wrap64 (by omega)
    have hw2 : IntKind.i64.wrap (R.l[k].pins + 1) = R.l[k].pins + 1 := wrap64 (by omega)
    have hne' := Ne.symm hne
    clear hcl
    obtain ⟨f, hf⟩ : ∃ f, R.l[k] = f := ⟨_, rfl⟩
    have HF : Hid (R.l[k] = f) := hf
    rw [hf] at q0 q1 q2 q3 q4 q5 hw2 hbl hpi
    have HFE : Hid (FEq f (P.fr p)) := hf ▸ hfe
    clear hf hfe
    have h0 : RPIn base w H g dq (.slice (some ⟨gl, 0, none⟩) R.l.length cap) (R.at_ k f) := by rw [← HF.out, R.at_self hk]; exact HP.out
    obtain ⟨ao, bcap, hfv, hbcap, hbcells⟩ := (HP.out.hb _ (List.getElem_mem hk)).toBytes.form
    rw [HF.out, hbl] at hfv hbcap hbcells
    have HFV : Hid (f.v = .slice ao 2048 bcap) := hfv
    rw [hfv] at q4
    clear hbcells hfv
    clear h0
    have HBL : Hid (f.b.length = 2048) := hbl
    clear hbl
    go_wp2_with fail
    go_quiet (fail)
    have HPd := HP.out.keepB (below_drewN (Below.refl w.heap.size w) nq)
    have HQd : Hid (RefAt base (w.drewN nq) G dq N F L) := HQ.out.keepB (below_drewN (Below.refl w.heap.size w) nq)
    have HFd : Hid (Fr w (w.drewN nq) (fun _ => False)) := Fr.of_below (below_drewN (Below.refl w.heap.size w) nq)
    have hsd : (w.drewN nq).heap.size = w.heap.size := by simp
    generalize hwd : w.drewN nq = wd at *
    have HPd : Hid (RPIn base wd H g dq (.slice (some ⟨gl, 0, none⟩) R.l.length cap) R) := HPd
    have HC6 : Hid (Cells6R wd gl k f) := by
      obtain ⟨gl2, cap2, hv2, _, _, _, hcl2⟩ := HPd.out.frame hk
      obtain rfl : gl = gl2 := by simpa [Value.ownBlock] using congrArg Value.ownBlock hv2
      have := hcl2 k hk
      rwa [HF.out] at this
    clear hwd q0 q1 q2 q3 q4 q5 qf c0 c1 c2 c3 c4 c5 c6 c7 cf
    have hbl : f.b.length = 2048 := HBL.out
    clear HBL
    have h0 : RPIn base wd H g dq (.slice (some ⟨gl, 0, none⟩) R.l.length cap) (R.at_ k f) := by rw [← HF.out, R.at_self hk]; exact HPd.out
    obtain ⟨hP1, hF1⟩ := h0.setG (R' := { R.at_ k f with now := R.now + 1 }) (j := 6) (u := .int .i64 (R.now + 1)) rfl rfl
    obtain ⟨hP2, hF2⟩ := RPIn.setK (R := { R with now := R.now + 1 }) (k := k) (f0 := f) hP1 hk 1 (by omega) (.int .i64 (f.pins + 1)) rfl { f with pins := f.pins + 1 } rfl (Or.inl ⟨rfl, rfl⟩)
    have HP2 : Hid (RPIn base ((wd.setCell ⟨g, 6, none⟩ (.int .i64 (R.now + 1))).setCell ⟨gl, k * 6 + 1, none⟩ (.int .i64 (f.pins + 1))) H g dq (.slice (some ⟨gl, 0, none⟩) R.l.length cap) (({ R with now := R.now + 1 } : RPS).at_ k { f with pins := f.pins + 1 })) := hP2
    have HF2 : Hid (Fr wd ((wd.setCell ⟨g, 6, none⟩ (.int .i64 (R.now + 1))).setCell ⟨gl, k * 6 + 1, none⟩ (.int .i64 (f.pins + 1))) H) := (hF1.mono (G := H) (fun i hi => hi ▸ HPd.out.gg)).trans (hF2.mono (G := H) (fun i hi => hi ▸ hHgl)) (fun i hi => Or.inl hi)
    clear hP1 hF1 hP2 hF2 h0
    have x6 : wd.cell? ⟨g, 6, none⟩ = some (.int .i64 R.now) := HPd.out.cells.c6
    have x4 : wd.cell? ⟨g, 4, none⟩ = some (.slice (some ⟨gl, 0, none⟩) R.l.length cap) := HPd.out.cells.c4
    have xf := HPd.out.cells.f
    have y1 : wd.cell? ⟨gl, k * 6 + 1, none⟩ = some (.int .i64 f.pins) := HC6.out.c1
    have yf := HPd.out.rowFrozen
    go_wp2_with fail
    generalize hwz : (wd.setCell ⟨g, 6, none⟩ (.int .i64 (R.now + 1))).setCell ⟨gl, k * 6 + 1, none⟩ (.int .i64 (f.pins + 1)) = wz at *
    have b4 : wz.cell? ⟨g, 4, none⟩ = some (.slice (some ⟨gl, 0, none⟩) R.l.length cap) := HP2.out.cells.c4
    have b6 : wz.cell? ⟨g, 6, none⟩ = some (.int .i64 (R.now + 1)) := HP2.out.cells.c6
    have b5 : wz.cell? ⟨gl, k * 6 + 5, none⟩ = some (.int .i64 f.used) := (HP2.out.at_cells hk).c5
    have bf := (HP2.out.at_cells hk).f
    clear x6 x4 xf y1 yf hwz
    go_region
    obtain ⟨hP3, hF3⟩ := RPIn.setK (R := { R with now := R.now + 1 }) (k := k) HP2.out hk 5 (by omega) (.int .i64 (R.now + 1)) rfl { f with pins := f.pins + 1, used := R.now + 1 } rfl (Or.inl ⟨rfl, rfl⟩)
    have hP3' := hP3.keepB (Below.refl _ _).drew
    have HF3 : Hid (Fr wd (wz.setCell ⟨gl, k * 6 + 5, none⟩ (.int .i64 (R.now + 1))).drew H) := (HF2.out.trans (hF3.mono (G := H) (fun i hi => hi ▸ hHgl)) (fun i hi => Or.inl hi)).trans (Fr.drew _ H) (fun i hi => Or.inl hi)
    generalize hwy : (wz.setCell ⟨gl, k * 6 + 5, none⟩ (.int .i64 (R.now + 1))).drew = wy at *
    have HP3 : Hid (RPIn base wy H g dq (.slice (some ⟨gl, 0, none⟩) R.l.length cap) (({ R with now := R.now + 1 } : RPS).at_ k { f with pins := f.pins + 1, used := R.now + 1 })) := hP3'
    have z4 : wy.cell? ⟨g, 4, none⟩ = some (.slice (some ⟨gl, 0, none⟩) R.l.length cap) := HP3.out.cells.c4
    have zb : wy.cell? ⟨gl, k * 6 + 4, none⟩ = some (.slice ao 2048 bcap) := by have := (HP3.out.at_cells hk).c4; rw [← HFV.out]; exact this
    have hm : ({ f with pins := f.pins + 1, used := R.now + 1 } : RF) ∈ (({ R with now := R.now + 1 } : RPS).at_ k { f with pins := f.pins + 1, used := R.now + 1 }).l := by
      show _ ∈ R.l.set k _
      exact List.mem_iff_getElem.2 ⟨k, by simpa using hk, by simp⟩
    have hszy := HF3.out.size
    have hOwn : Calls Try.prog 44 #[.slice ao 2048 bcap] wy fun e w' => ∃ v', e = .returned v' ∧ OwnB wy.heap.size w' v' f.b ∧ (∀ c, v'.ownBlock = some c → wy.heap.size ≤ c) ∧ Below wy.heap.size wy w' := by
      have hby := (HP3.out.hb _ hm).toBytes
      rw [show ({ f with pins := f.pins + 1, used := R.now + 1 } : RF).v = .slice ao 2048 bcap from HFV.out] at hby
      exact ref_own wy.heap.size _ f.b wy hby (by omega) (by omega) (Nat.le_refl _)
    clear hP3 hP3' hF3 hwy b4 b6 b5 bf HP2 HF2
    go_wp2_with (go_at_call 44; refine hOwn.mono ?_; rintro e wv ⟨v, rfl, hov, hnv, hbv⟩)
    refine bodyPost_ret (v := .tuple #[v, .int .i64 0]) (by simp [results, Try.results25, go_sem]) rfl ?_
    have hfr : Fr w wv (fun i => H i ∨ G i) := ((HFd.out.mono (G := fun i => H i ∨ G i) (fun i hi => hi.elim)).trans (HF3.out.mono (G := fun i => H i ∨ G i) (fun i hi => Or.inl hi)) (fun i hi => Or.inl hi)).trans (Fr.of_below (F := fun _ => False) hbv) (fun i hi => hi.elim)
    rw [HFE.out.b] at hov
    refine .ok _ D _ (PinTo.held hp) v rfl (own_base hov (by omega)) H G _ _ L (HP3.out.keepB hbv) ((HQd.out.keep HF3.out (fun i hi hh => hdis i hh hi)).keepB hbv) hdis ?_ hrd (by omega) hfr (fun i hi => Or.inl hi) (fun i hi => Or.inl hi)
    have hu := HR.out.use hk (f := { f with pins := f.pins + 1 }) (x := { P.fr p with pins := (P.fr p).pins + 1 }) (by rw [HF.out]) ⟨by show f.pins + 1 = _; rw [HFE.out.pins], HFE.out.dirty, HFE.out.mark, HFE.out.b⟩
    rw [hkp] at hu
    exact hu
end Go.Proofs.Ytpmbpadckbkglaa

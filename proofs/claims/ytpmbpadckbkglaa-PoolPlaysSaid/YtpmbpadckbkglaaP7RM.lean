/- The document's pool: Pin of a page that is not held. -/
import Derived.Test.YtpmbpadckbkglaaP7RN
namespace Go.Proofs.Ytpmbpadckbkglaa
open Go.RowKit Go.Maps
set_option linter.unusedVariables false
set_option linter.unusedSimpArgs false

theorem build_frame (w : World) (p : Int) (a : Option Addr) (c : Nat) : (Instr.buildSlice 39 1 #[(0, .agg #[.int .i64 p, .int .i64 0, .bool false, .int .u64 0, .slice a 2048 c, .int .i64 0])]).run Try.prog w = .ok (.slice (some ⟨w.heap.size, 0, none⟩) 1 1) (w.alloc (.cells #[.int .i64 p, .int .i64 0, .bool false, .int .u64 0, .slice a 2048 c, .int .i64 0] 95)) := by kernel_rfl
theorem step_buildF (w : World) {ops : Array Oper} {o : Oper} {a : Act} {K : Act → World → Prop} {Q : Exit → Act → World → Prop} {E : Prop} (hgd : o.guard = none) (x : Operand) (ho : o.op = .buildSlice 39 1 #[(0, x)]) (p : Int) (b : Option Addr) (c : Nat) (hx : a.eval x = .agg #[.int .i64 p, .int .i64 0, .bool false, .int .u64 0, .slice b 2048 c, .int .i64 0])
    (h : K (a.put o.dst (.slice (some ⟨w.heap.size, 0, none⟩) 1 1)) (w.alloc (.cells #[.int .i64 p, .int .i64 0, .bool false, .int .u64 0, .slice b 2048 c, .int .i64 0] 95))) :
    if Region.wanted o (yielded ops a.tmps) = true then Oper.wp Try.prog o a w K Q else E := by
  have hw : Region.wanted o (yielded ops a.tmps) = true := by simp [Region.wanted, hgd]
  rw [if_pos hw]
  have hb := build_frame w p b c
  unfold Oper.wp execOp
  simp only [ho, List.map_toArray, List.map_cons, List.map_nil, hx, Sem.run_bind, hb, Result.andThen_ok]
  exact h
/-- The frame that was found was used no later, no sooner. -/
def VLe (l : List RF) (vi u : Int) : Prop := ∃ v, ∃ hv : v < l.length, vi = (v : Int) ∧ l[v].used ≤ u
def VGe (l : List RF) (vi u : Int) : Prop := vi = -1 ∨ ∃ v, ∃ hv : v < l.length, vi = (v : Int) ∧ u ≤ l[v].used
/-- Behind the making of room. -/
structure RM (base : Nat) (w wx : World) (H G H1 G1 : Nat → Prop) (g : Nat) (dq vL1 : Value) (R1 : RPS) (N : Int) (F L L1 : List EV) (P P1 : PS) (D D1 : DS) : Prop where
  made : Made P D P1 D1
  p : RPIn base wx H1 g dq vL1 R1
  d : RefAt base wx G1 dq N F L1
  dis : ∀ i, H1 i → ¬ G1 i
  rel : Rel P1 R1
  rd : rd F L1 = D1.now
  len : L1.length ≤ L.length + 16
  f : Fr w wx (fun i => H i ∨ G i)
  hH : ∀ i, H1 i → H i ∨ w.heap.size ≤ i
  hG : ∀ i, G1 i → G i ∨ w.heap.size ≤ i
/-- The frame that goes is clean. -/
structure W2 (base : Nat) (w wx : World) (H G G2 : Nat → Prop) (g : Nat) (dq vL : Value) (R R2 : RPS) (N : Int) (F L L2 : List EV) (P : PS) (D : DS) (v : Nat) (k0 : Int) : Prop where
  p : RPIn base wx H g dq vL R2
  d : RefAt base wx G2 dq N F L2
  tk : R2.l.take v = R.l.take v
  dp : R2.l.drop (v + 1) = R.l.drop (v + 1)
  ln : R2.l.length = R.l.length
  eq : ({ R2 with l := R.l.take v ++ R.l.drop (v + 1) } : RPS) = { R with l := R.l.take v ++ R.l.drop (v + 1), early := R2.early }
  rd : rd F L2 = (D.cleaned P k0).now
  len : L2.length ≤ L.length + 16
  f : Fr w wx (fun i => H i ∨ G i)
  o : ∀ i, G2 i → G i ∨ w.heap.size ≤ i
theorem w2_wrote {base : Nat} {w wr wx : World} {H G : Nat → Prop} {g : Nat} {dq vL : Value} {R : RPS} {N : Int} {F L : List EV} {P : PS} {D : DS} {v : Nat} (hv : v < R.l.length) (hb : Below w.heap.size w wr) (hR : Rel P R) (hrd : rd F L = D.now) (hd : R.l[v].dirty = true) (h : RWOut base wr H G g dq vL R N F L v R.l[v] wx) : ∃ R2 G2 L2, W2 base w wx H G G2 g dq vL R R2 N F L L2 P D v R.l[v].page := by
  obtain ⟨E, G2, L2, hP, hRf, hr2, hlen, hf, ho⟩ := h
  have hfe := hR.fr _ (List.getElem_mem hv)
  refine ⟨_, G2, L2, ⟨hP, hRf, ?_, ?_, by simp [RPS.at_], rfl, ?_, by omega, (Fr.of_below hb).trans hf (fun i hi => Or.inl hi), fun i hi => ?_⟩⟩
  · show (R.l.set v _).take v = _
    rw [List.take_set, List.set_eq_of_length_le (by simp; omega)]
  · show (R.l.set v _).drop (v + 1) = _
    rw [List.drop_set_of_lt (by omega)]
  · rw [hr2, hrd, hfe.b, hR.first]
    unfold DS.cleaned
    rw [← hfe.dirty, hd]
    rfl
  · rcases ho i hi with h1 | h1
    · exact Or.inl h1
    · right; have := hb.size; omega
theorem w2_clean {base : Nat} {w wr : World} {H G : Nat → Prop} {g : Nat} {dq vL : Value} {R : RPS} {N : Int} {F L : List EV} {P : PS} {D : DS} {v : Nat} (hv : v < R.l.length) (hb : Below w.heap.size w wr) (hR : Rel P R) (hrd : rd F L = D.now) (hd : R.l[v].dirty = false) (hp : RPIn base wr H g dq vL R) (hq : RefAt base wr G dq N F L) : W2 base w wr H G G g dq vL R R N F L L P D v R.l[v].page := by
  have hfe := hR.fr _ (List.getElem_mem hv)
  refine ⟨hp, hq, rfl, rfl, rfl, rfl, ?_, by omega, Fr.of_below hb, fun i hi => Or.inl hi⟩
  unfold DS.cleaned
  rw [← hfe.dirty, hd]
  exact hrd
/-- The frame went: the row was put anew. -/
theorem rm_went {base : Nat} {w wx w4 : World} {H G G2 : Nat → Prop} {g : Nat} {dq vL : Value} {R R2 : RPS} {N : Int} {F L L2 : List EV} {P : PS} {D : DS} {v : Nat} (hv : v < R.l.length) (h : W2 base w wx H G G2 g dq vL R R2 N F L L2 P D v R.l[v].page) (hdis : ∀ i, H i → ¬ G i) (hw : ∀ i, H i → i < w.heap.size) (hok : POk P) (hR : Rel P R) (hfull : ¬ ((P.keys.length : Int) < P.size)) (hgo : Goner P R.l[v].page) (hb : Below wx.heap.size wx w4) {a4 : Option Addr} {n4 c4 : Nat} (ho : OwnF base w4 (.slice a4 n4 c4) (R2.l.take v ++ R2.l.drop (v + 1))) (hn : ∀ x, (Value.slice a4 n4 c4).ownBlock = some x → wx.heap.size ≤ x) :
    ∃ H1 R1, RM base w (w4.setCell ⟨g, 4, none⟩ (.slice a4 n4 c4)) H G H1 G2 g dq (.slice a4 n4 c4) R1 N F L L2 P (P.gone R.l[v].page) D (D.cleaned P R.l[v].page) := by
  have hp4 := h.p.keepB hb
  have hsub : ∀ f ∈ R2.l.take v ++ R2.l.drop (v + 1), f ∈ R2.l := fun f hf => by
    rcases List.mem_append.1 hf with h1 | h1
    · exact List.mem_of_mem_take h1
    · exact List.mem_of_mem_drop h1
  have hs4 := hb.size
  have hbg := (h.p.lo g h.p.gg)
  obtain ⟨hP, hF⟩ := hp4.setL (K := fun i => H i ∨ wx.heap.size ≤ i ∧ i < w4.heap.size) ho (fun f hf => hp4.hb f (hsub f hf)) (fun i hi => Or.inl hi) (fun i hi => by
    rcases hi with hi | hi
    · exact hp4.lo i hi
    · omega) (fun x hx => Or.inr ⟨hn x hx, (World.ownsRow.lt ho x hx).2⟩) (fun f hf x hx => Or.inl (hp4.gb f (hsub f hf) x hx))
  have hsx := h.f.size
  refine ⟨_, _, ⟨.went hfull _ hgo, hP, (h.d.keepB hb).keep hF (fun i hi e => ?_), fun i hi hg => ?_, ?_, h.rd, h.len, ?_, fun i hi => ?_, h.o⟩⟩
  · subst e
    rcases h.o _ hi with h1 | h1
    · exact hdis _ h.p.gg h1
    · have := hw _ h.p.gg; omega
  · rcases hi with hi | hi
    · rcases h.o i hg with h1 | h1
      · exact hdis i hi h1
      · have := hw i hi; omega
    · have := (h.d.lo i hg).2; omega
  · rw [h.tk, h.dp, h.eq]
    exact hR.gone hv R2.early
  · exact (h.f.trans (Fr.of_below hb) (fun i hi => Or.inl hi)).trans (hF.mono (G := fun i => H i ∨ G i) (fun i hi => Or.inl (hi ▸ h.p.gg))) (fun i hi => Or.inl hi)
  · rcases hi with hi | hi
    · exact Or.inl hi
    · right; omega
set_option maxRecDepth 100000 in
set_option maxHeartbeats 20000000 in
theorem refPin_came {base : Nat} {w : World} {H G : Nat → Prop} {g : Nat} {dq vL : Value} {R : RPS} {N : Int} {F L : List EV} {P : PS} {D : DS} (h : RPIn base w H g dq vL R) (hq : RefAt base w G dq N F L) (hdis : ∀ i, H i → ¬ G i) (hrel : Rel P R) (hok : POk P) (hfit : P.first + 16 * P.pages ≤ N) (hrd : rd F L = D.now) (hcnt : (F.length : Int) + L.length + 16 < 100000) (hus : P.uses < 1000000) {p : Int} (hpr : 0 ≤ p ∧ p < P.pages) (hp : p ∉ P.keys) :
    Calls Try.prog 25 #[.pointer (some ⟨g, 0, none⟩), .int .i64 p] w fun e w' => RPin base w H G g dq N F L P D p e w' := by
  have HP : Hid (RPIn base w H g dq vL R) := h
  have HQ : Hid (RefAt base w G dq N F L) := hq
  have HR : Hid (Rel P R) := hrel
  have HRD : Hid (rd F L = D.now) := hrd
  have hl64 : R.l.length ≤ 64 := by have := hrel.len hok; have := hok.len; have := hok.size; omega
  have HLK : Hid (R.l.length = P.keys.length) := hrel.len hok
  have hpg : R.pages = P.pages := hrel.pages
  have hfz : R.frames = P.size := hrel.frames
  have hfd := find_any h p (by omega)
  have hbase : base ≤ w.heap.size := by have := h.lo g h.gg; omega
  obtain ⟨c0, c1, c2, c3, c4, c5, c6, c7, cf⟩ := h.cells
  rw [hpg] at c2
  rw [hfz] at c3
  have t1 : decide (p < 0) = false := by simp; omega
  have t2 : decide (p ≥ P.pages) = false := by simp; omega
  obtain ⟨ao, cap, hvL, hcap, hrow⟩ := h.row.form
  have HVL : Hid (vL = .slice ao R.l.length cap) := hvL
  rw [hvL] at c4
  clear h hq hrel hrd hrow hvL hpg hfz
  go_enter Try.func25, Try.ntmps25
  go_wp2_with fail
  refine hfd.mono ?_
  rintro e wx ⟨hF, hwx⟩
  rw [hwx]
  clear hwx wx hfd
  cases hF with
  | at_ k hk hkp he => exact absurd (hkp ▸ HR.out.has (List.getElem_mem hk)) hp
  | none_ hn he =>
    subst he
    obtain ⟨fu, hfu⟩ : ∃ fu : Bool, ((R.l.length : Int) == P.size) = fu := ⟨_, rfl⟩
    have hFU : fu = decide ((R.l.length : Int) = P.size) := by
      rw [← hfu]
      by_cases e : (R.l.length : Int) = P.size
      · rw [decide_eq_true e]; simpa using e
      · rw [decide_eq_false e]; simpa using e
    have HFU : Hid (fu = decide ((R.l.length : Int) = P.size)) := hFU
    clear hFU
    go_wp2_with fail
    go_quiet (fail)
    have hPd := HP.out.keepB (below_drewN (Below.refl w.heap.size w) nq)
    have HQd : Hid (RefAt base (w.drewN nq) G dq N F L) := HQ.out.keepB (below_drewN (Below.refl w.heap.size w) nq)
    have hbd := below_drewN (Below.refl w.heap.size w) nq
    have hsd : (w.drewN nq).heap.size = w.heap.size := by simp
    generalize hwd : w.drewN nq = wd at *
    have HPd : Hid (RPIn base wd H g dq vL R) := hPd
    clear hwd hPd c0 c1 c2 c3 c4 c5 c6 c7 cf
    go_upto_if 37 with fail
    go_cut [] (fun wx => ∃ (H1 G1 : Nat → Prop) (vL1 : Value) (R1 : RPS) (L1 : List EV) (P1 : PS) (D1 : DS), Hid (RM base w wx H G H1 G1 g dq vL1 R1 N F L L1 P P1 D D1))
    case first =>
      cases fu
      · skip
        as_aux_lemma =>
          have hlt : (P.keys.length : Int) < P.size := by
            have h1 := HFU.out
            have h2 := HLK.out
            have h3 := hok.len
            by_cases e : (R.l.length : Int) = P.size
            · rw [decide_eq_true e] at h1; cases h1
            · omega
          have HM : Hid (RM base w wd H G H G g dq vL R N F L L P P D D) := ⟨.free hlt, HPd.out, HQd.out, hdis, HR.out, HRD.out, by omega, Fr.of_below hbd, fun i hi => Or.inl hi, fun i hi => Or.inl hi⟩
          go_wp2
          go_meet
          exact ⟨H, G, vL, R, L, P, D, HM⟩
      · skip
        as_aux_lemma =>
          have hfull : ¬ ((P.keys.length : Int) < P.size) := by
            have h1 := HFU.out
            have h2 := HLK.out
            by_cases e : (R.l.length : Int) = P.size
            · omega
            · rw [decide_eq_false e] at h1; cases h1
          clear HFU hfu
          go_wp2_with fail
          go_loopw [7, 8, 9] (fun v sm kx wr => ∃ (k : Nat) (vi : Int) (sb : Bool), k ≤ R.l.length ∧ kx = .int .i64 k ∧ v = .int .i64 vi ∧ sm = .bool sb ∧ Hid (VBest R.l R.log k vi sb) ∧ Below w.heap.size w wr) (fun _ _ kx _ => R.l.length - (intOf kx).toNat)
          case atStart => exact ⟨0, -1, false, Nat.zero_le _, rfl, rfl, rfl, VBest.zero _ _, hbd⟩
          case round =>
            obtain ⟨k, vi, sb, hk, rfl, rfl, rfl, HV, hbr⟩ := hrel
            have hPr := HP.out.keepB hbr
            obtain ⟨c0, c1, c2, c3, c4, c5, c6, c7, cf⟩ := hPr.cells
            by_cases hlt : k < R.l.length
            · skip
              as_aux_lemma =>
                obtain ⟨gl, cap', hvL', hcap', hne, hHgl, hcl⟩ := hPr.frame hlt
                rw [hvL'] at c4
                have hck := hcl k hlt
                have HCV : Hid (∀ v (hv : v < R.l.length), Cells6R wr gl v R.l[v]) := hcl
                obtain ⟨f, hfe⟩ : ∃ f, R.l[k] = f := ⟨_, rfl⟩
                have HFK : Hid (R.l[k] = f) := hfe
                rw [hfe] at hck
                obtain ⟨q0, q1, q2, q3, q4, q5, qf⟩ := hck
                have hlo := HV.out.lo
                clear hfe hcl hPr hvL' c0 c1 c2 c3 c6 c7 cf q0 q4 qf
                have HPA : Hid (∀ sb', sb' = (sb || decide (f.pins = 0)) → (candR R.log f = false ∨ VLe R.l vi f.used) → VBest R.l R.log (k + 1) vi sb') := fun sb' h1 h2 => HV.out.pass hlt sb' (by rw [HFK.out]; exact h1) (by rw [HFK.out]; exact h2)
                have HTA : Hid (∀ sb', sb' = (sb || decide (f.pins = 0)) → candR R.log f = true → VGe R.l vi f.used → VBest R.l R.log (k + 1) k sb') := fun sb' h1 h2 h3 => HV.out.take hlt sb' (by rw [HFK.out]; exact h1) (by rw [HFK.out]; exact h2) (by rw [HFK.out]; exact h3)
                have HVV : Hid (vi = -1 ∨ ∃ v : Nat, ∃ hv : v < R.l.length, vi = v) := by
                  rcases HV.out.v with ⟨h1, _⟩ | ⟨v, hv, _, h1, _⟩
                  · exact Or.inl h1
                  · exact Or.inr ⟨v, hv, h1⟩
                clear HV HFK
                rcases HVV.out with hvi | ⟨v, hv, hvi⟩
                · subst hvi
                  clear HCV HVV
                  cases sb
                  · skip
                    as_aux_lemma =>
                      by_cases hz : f.pins = 0
                      · rw [hz] at q1
                        cases hd : f.dirty
                        · rw [hd] at q2
                          go_wp2_with fail
                          go_quiet (fail)
                          go_wp2
                          go_roundw
                          case rel => exact ⟨k + 1, _, _, by omega, by first | go_num | (congr 1; omega), rfl, rfl, HTA.out _ (by simp [hz]) (by simp [candR, hz, hd]) (Or.inl rfl), below_drewN hbr _⟩
                          case measure => simp [intOf]; omega
                        · rw [hd] at q2
                          by_cases hm : R.log < f.mark
                          · have tm : decide (f.mark > R.log) = true := by simpa using hm
                            have tm2 : decide (R.log < f.mark) = true := by simpa using hm
                            go_wp2_with fail
                            go_quiet (fail)
                            go_wp2
                            go_roundw
                            case rel => exact ⟨k + 1, _, _, by omega, by first | go_num | (congr 1; omega), rfl, rfl, HPA.out _ (by simp [hz]) (Or.inl (by simp [candR, hz, hd]; omega)), below_drewN hbr _⟩
                            case measure => simp [intOf]; omega
                          · have tm : decide (f.mark > R.log) = false := by simpa using hm
                            have tm2 : decide (R.log < f.mark) = false := by simpa using hm
                            go_wp2_with fail
                            go_quiet (fail)
                            go_wp2
                            go_roundw
                            case rel => exact ⟨k + 1, _, _, by omega, by first | go_num | (congr 1; omega), rfl, rfl, HTA.out _ (by simp [hz]) (by simp [candR, hz, hd]; omega) (Or.inl rfl), below_drewN hbr _⟩
                            case measure => simp [intOf]; omega
                      · have tp : (f.pins == 0) = false := by rw [beq_eq_false_iff_ne]; exact hz
                        go_wp2_with fail
                        go_quiet (fail)
                        go_wp2
                        go_roundw
                        case rel => exact ⟨k + 1, _, _, by omega, by first | go_num | (congr 1; omega), rfl, rfl, HPA.out _ (by simp [hz]) (Or.inl (by simp [candR, hz])), below_drewN hbr _⟩
                        case measure => simp [intOf]; omega
                  · skip
                    as_aux_lemma =>
                      by_cases hz : f.pins = 0
                      · rw [hz] at q1
                        cases hd : f.dirty
                        · rw [hd] at q2
                          go_wp2_with fail
                          go_quiet (fail)
                          go_wp2
                          go_roundw
                          case rel => exact ⟨k + 1, _, _, by omega, by first | go_num | (congr 1; omega), rfl, rfl, HTA.out _ (by simp [hz]) (by simp [candR, hz, hd]) (Or.inl rfl), below_drewN hbr _⟩
                          case measure => simp [intOf]; omega
                        · rw [hd] at q2
                          by_cases hm : R.log < f.mark
                          · have tm : decide (f.mark > R.log) = true := by simpa using hm
                            have tm2 : decide (R.log < f.mark) = true := by simpa using hm
                            go_wp2_with fail
                            go_quiet (fail)
                            go_wp2
                            go_roundw
                            case rel => exact ⟨k + 1, _, _, by omega, by first | go_num | (congr 1; omega), rfl, rfl, HPA.out _ (by simp [hz]) (Or.inl (by simp [candR, hz, hd]; omega)), below_drewN hbr _⟩
                            case measure => simp [intOf]; omega
                          · have tm : decide (f.mark > R.log) = false := by simpa using hm
                            have tm2 : decide (R.log < f.mark) = false := by simpa using hm
                            go_wp2_with fail
                            go_quiet (fail)
                            go_wp2
                            go_roundw
                            case rel => exact ⟨k + 1, _, _, by omega, by first | go_num | (congr 1; omega), rfl, rfl, HTA.out _ (by simp [hz]) (by simp [candR, hz, hd]; omega) (Or.inl rfl), below_drewN hbr _⟩
                            case measure => simp [intOf]; omega
                      · have tp : (f.pins == 0) = false := by rw [beq_eq_false_iff_ne]; exact hz
                        go_wp2_with fail
                        go_quiet (fail)
                        go_wp2
                        go_roundw
                        case rel => exact ⟨k + 1, _, _, by omega, by first | go_num | (congr 1; omega), rfl, rfl, HPA.out _ (by simp [hz]) (Or.inl (by simp [candR, hz])), below_drewN hbr _⟩
                        case measure => simp [intOf]; omega
                · subst hvi
                  have hy := HCV.out v hv
                  have y5 := hy.c5
                  obtain ⟨y, hye⟩ : ∃ y, R.l[v] = y := ⟨_, rfl⟩
                  have HY : Hid (R.l[v] = y) := hye
                  rw [hye] at y5
                  clear hy hye
                  have tv : decide ((v : Int) < 0) = false := by simp
                  have hvI : (v : Int) < (R.l.length : Int) := by omega
                  clear HCV HVV
                  cases sb
                  · skip
                    as_aux_lemma =>
                      by_cases hz : f.pins = 0
                      · rw [hz] at q1
                        cases hd : f.dirty
                        · rw [hd] at q2
                          by_cases hu : f.used < y.used
                          · have tu : decide (f.used < y.used) = true := by simpa using hu
                            go_wp2_with fail
                            go_quiet (fail)
                            go_wp2
                            go_roundw
                            case rel => exact ⟨k + 1, _, _, by omega, by first | go_num | (congr 1; omega), rfl, rfl, HTA.out _ (by simp [hz]) (by simp [candR, hz, hd]) (Or.inr ⟨v, hv, rfl, by rw [HY.out]; omega⟩), below_drewN hbr _⟩
                            case measure => simp [intOf]; omega
                          · have tu : decide (f.used < y.used) = false := by simpa using hu
                            go_wp2_with fail
                            go_quiet (fail)
                            go_wp2
                            go_roundw
                            case rel => exact ⟨k + 1, _, _, by omega, by first | go_num | (congr 1; omega), rfl, rfl, HPA.out _ (by simp [hz]) (Or.inr ⟨v, hv, rfl, by rw [HY.out]; omega⟩), below_drewN hbr _⟩
                            case measure => simp [intOf]; omega
                        · rw [hd] at q2
                          by_cases hm : R.log < f.mark
                          · have tm : decide (f.mark > R.log) = true := by simpa using hm
                            have tm2 : decide (R.log < f.mark) = true := by simpa using hm
                            go_wp2_with fail
                            go_quiet (fail)
                            go_wp2
                            go_roundw
                            case rel => exact ⟨k + 1, _, _, by omega, by first | go_num | (congr 1; omega), rfl, rfl, HPA.out _ (by simp [hz]) (Or.inl (by simp [candR, hz, hd]; omega)), below_drewN hbr _⟩
                            case measure => simp [intOf]; omega
                          · have tm : decide (f.mark > R.log) = false := by simpa using hm
                            have tm2 : decide (R.log < f.mark) = false := by simpa using hm
                            by_cases hu : f.used < y.used
                            · have tu : decide (f.used < y.used) = true := by simpa using hu
                              go_wp2_with fail
                              go_quiet (fail)
                              go_wp2
                              go_roundw
                              case rel => exact ⟨k + 1, _, _, by omega, by first | go_num | (congr 1; omega), rfl, rfl, HTA.out _ (by simp [hz]) (by simp [candR, hz, hd]; omega) (Or.inr ⟨v, hv, rfl, by rw [HY.out]; omega⟩), below_drewN hbr _⟩
                              case measure => simp [intOf]; omega
                            · have tu : decide (f.used < y.used) = false := by simpa using hu
                              go_wp2_with fail
                              go_quiet (fail)
                              go_wp2
                              go_roundw
                              case rel => exact ⟨k + 1, _, _, by omega, by first | go_num | (congr 1; omega), rfl, rfl, HPA.out _ (by simp [hz]) (Or.inr ⟨v, hv, rfl, by rw [HY.out]; omega⟩), below_drewN hbr _⟩
                              case measure => simp [intOf]; omega
                      · have tp : (f.pins == 0) = false := by rw [beq_eq_false_iff_ne]; exact hz
                        go_wp2_with fail
                        go_quiet (fail)
                        go_wp2
                        go_roundw
                        case rel => exact ⟨k + 1, _, _, by omega, by first | go_num | (congr 1; omega), rfl, rfl, HPA.out _ (by simp [hz]) (Or.inl (by simp [candR, hz])), below_drewN hbr _⟩
                        case measure => simp [intOf]; omega
                  · skip
                    as_aux_lemma =>
                      by_cases hz : f.pins = 0
                      · rw [hz] at q1
                        cases hd : f.dirty
                        · rw [hd] at q2
                          by_cases hu : f.used < y.used
                          · have tu : decide (f.used < y.used) = true := by simpa using hu
                            go_wp2_with fail
                            go_quiet (fail)
                            go_wp2
                            go_roundw
                            case rel => exact ⟨k + 1, _, _, by omega, by first | go_num | (congr 1; omega), rfl, rfl, HTA.out _ (by simp [hz]) (by simp [candR, hz, hd]) (Or.inr ⟨v, hv, rfl, by rw [HY.out]; omega⟩), below_drewN hbr _⟩
                            case measure => simp [intOf]; omega
                          · have tu : decide (f.used < y.used) = false := by simpa using hu
                            go_wp2_with fail
                            go_quiet (fail)
                            go_wp2
                            go_roundw
                            case rel => exact ⟨k + 1, _, _, by omega, by first | go_num | (congr 1; omega), rfl, rfl, HPA.out _ (by simp [hz]) (Or.inr ⟨v, hv, rfl, by rw [HY.out]; omega⟩), below_drewN hbr _⟩
                            case measure => simp [intOf]; omega
                        · rw [hd] at q2
                          by_cases hm : R.log < f.mark
                          · have tm : decide (f.mark > R.log) = true := by simpa using hm
                            have tm2 : decide (R.log < f.mark) = true := by simpa using hm
                            go_wp2_with fail
                            go_quiet (fail)
                            go_wp2
                            go_roundw
                            case rel => exact ⟨k + 1, _, _, by omega, by first | go_num | (congr 1; omega), rfl, rfl, HPA.out _ (by simp [hz]) (Or.inl (by simp [candR, hz, hd]; omega)), below_drewN hbr _⟩
                            case measure => simp [intOf]; omega
                          · have tm : decide (f.mark > R.log) = false := by simpa using hm
                            have tm2 : decide (R.log < f.mark) = false := by simpa using hm
                            by_cases hu : f.used < y.used
                            · have tu : decide (f.used < y.used) = true := by simpa using hu
                              go_wp2_with fail
                              go_quiet (fail)
                              go_wp2
                              go_roundw
                              case rel => exact ⟨k + 1, _, _, by omega, by first | go_num | (congr 1; omega), rfl, rfl, HTA.out _ (by simp [hz]) (by simp [candR, hz, hd]; omega) (Or.inr ⟨v, hv, rfl, by rw [HY.out]; omega⟩), below_drewN hbr _⟩
                              case measure => simp [intOf]; omega
                            · have tu : decide (f.used < y.used) = false := by simpa using hu
                              go_wp2_with fail
                              go_quiet (fail)
                              go_wp2
                              go_roundw
                              case rel => exact ⟨k + 1, _, _, by omega, by first | go_num | (congr 1; omega), rfl, rfl, HPA.out _ (by simp [hz]) (Or.inr ⟨v, hv, rfl, by rw [HY.out]; omega⟩), below_drewN hbr _⟩
                              case measure => simp [intOf]; omega
                      · have tp : (f.pins == 0) = false := by rw [beq_eq_false_iff_ne]; exact hz
                        go_wp2_with fail
                        go_quiet (fail)
                        go_wp2
                        go_roundw
                        case rel => exact ⟨k + 1, _, _, by omega, by first | go_num | (congr 1; omega), rfl, rfl, HPA.out _ (by simp [hz]) (Or.inl (by simp [candR, hz])), below_drewN hbr _⟩
                        case measure => simp [intOf]; omega
            · skip
              --KE
              obtain rfl : k = R.l.length := by omega
              have c4' := c4
              rw [HVL.out] at c4'
              have hfind : ∀ q ∈ P.keys, ∃ j, ∃ hj : j < R.l.length, R.l[j].page = q := fun q hq => by
                obtain ⟨f, hf, e⟩ := HR.out.find hq
                obtain ⟨j, hj, rfl⟩ := List.getElem_of_mem hf
                exact ⟨j, hj, e⟩
              rcases HV.out.v with ⟨hvi, hno⟩ | ⟨v, hv, _, hvi, hcand, hbest⟩
              · have hmg : ∀ q ∈ P.keys, mayGo P.safe (P.fr q) = false := fun q hq => by
                  obtain ⟨j, hj, rfl⟩ := hfind q hq
                  rw [← HR.out.cand (List.getElem_mem hj)]
                  exact hno j hj hj
                subst hvi
                cases sb
                · have hun : ∀ q ∈ P.keys, unp (P.fr q) = false := fun q hq => by
                    obtain ⟨j, hj, rfl⟩ := hfind q hq
                    unfold unp
                    rw [← (HR.out.fr _ (List.getElem_mem hj)).pins]
                    refine decide_eq_false (fun e => ?_)
                    have := HV.out.some.2 ⟨j, hj, hj, e⟩
                    cases this
                  clear HV hno hfind hPr c4
                  go_wp2
                  exact bodyPost_ret (v := .tuple #[.slice none 0 0, .int .i64 71]) (by simp [results, Try.results25, go_sem]) rfl (.err 71 rfl hp (.full (by omega) hun) hbr)
                · have hun : ∃ q ∈ P.keys, unp (P.fr q) = true := by
                    obtain ⟨j, hj, _, e⟩ := HV.out.some.1 rfl
                    refine ⟨_, HR.out.has (List.getElem_mem hj), ?_⟩
                    unfold unp
                    rw [← (HR.out.fr _ (List.getElem_mem hj)).pins]
                    exact decide_eq_true e
                  clear HV hno hfind hPr c4
                  go_wp2
                  exact bodyPost_ret (v := .tuple #[.slice none 0 0, .int .i64 74]) (by simp [results, Try.results25, go_sem]) rfl (.err 74 rfl hp (.behind (by omega) hmg hun) hbr)
              · have HGO : Hid (Goner P R.l[v].page) := HR.out.goner hv hcand (fun j hj hc => hbest j hj hj hc)
                subst hvi
                have HPr : Hid (RPIn base wr H g dq vL R) := hPr
                have HQr : Hid (RefAt base wr G dq N F L) := HQ.out.keepB hbr
                obtain ⟨gl, capv, hvLv, hcapv, hne, hHgl, hcl⟩ := hPr.frame hv
                have HVS : Hid (vL = .slice (some ⟨gl, 0, none⟩) R.l.length capv) := hvLv
                rw [hvLv] at c4
                have q2 := (hcl v hv).c2
                have hfe := HR.out.fr _ (List.getElem_mem hv)
                have hkv := HR.out.has (List.getElem_mem hv)
                have hkr := hok.rng _ hkv
                have hfo := hok.fr _ hkv
                have tv : decide ((v : Int) < 0) = false := by simp
                have hvI : (v : Int) < (R.l.length : Int) := by omega
                have HWr : Hid (Calls Try.prog 42 #[.pointer (some ⟨g, 0, none⟩), .int .i64 v] wr fun e w' => e = .returned (.tuple #[]) ∧ RWOut base wr H G g dq vL R N F L v R.l[v] w') := by
                  have hfi := HR.out.first
                  have hpgs := hok.pages
                  exact refWriteP_any hPr HQr.out hdis (by rw [hfi]; exact hok.first) hv (by omega) (by omega) (by rw [hfi]; omega) (by rw [hfe.b]; exact hfo.len) (by omega)
                obtain ⟨dv, hdv⟩ : ∃ dv, R.l[v].dirty = dv := ⟨_, rfl⟩
                have HDV : Hid (R.l[v].dirty = dv) := hdv
                rw [hdv] at q2
                clear hdv HV hcand hbest hfind hPr hcl hvLv hfe hfo c0 c1 c2 c3 c5 c6 c7 cf c4'
                go_upto_if 132 with fail
                go_cut [] (fun wx => ∃ (R2 : RPS) (G2 : Nat → Prop) (L2 : List EV), Hid (W2 base w wx H G G2 g dq vL R R2 N F L L2 P D v R.l[v].page))
                case first =>
                  cases dv
                  · have HW : Hid (W2 base w wr H G G g dq vL R R N F L L P D v R.l[v].page) := w2_clean hv hbr HR.out HRD.out HDV.out HPr.out HQr.out
                    clear HPr HQr HWr
                    go_wp2
                    go_meet
                    exact ⟨R, G, L, HW⟩
                  · go_wp2_with (go_at_call 42; refine HWr.out.mono ?_; rintro e w2 ⟨rfl, hw2⟩)
                    obtain ⟨R2, G2, L2, HW⟩ := w2_wrote hv hbr HR.out HRD.out HDV.out hw2
                    have HW' : Hid (W2 base w w2 H G G2 g dq vL R R2 N F L L2 P D v R.l[v].page) := HW
                    clear HPr HQr HWr HW hw2
                    go_meet
                    exact ⟨R2, G2, L2, HW'⟩
                case rest =>
                  obtain ⟨R2, G2, L2, HW⟩ := hcut
                  rename World => wx
                  clear HPr HQr HWr HDV c4 q2
                  have hvL2 : v < R2.l.length := by rw [HW.out.ln]; exact hv
                  obtain ⟨ao5, cap5, hv5, hcap5, hrow5⟩ := HW.out.p.row.form
                  obtain ⟨rfl, rfl⟩ : ao5 = some ⟨gl, 0, none⟩ ∧ cap5 = capv := by
                    have e5 := HVS.out
                    rw [hv5, HW.out.ln] at e5
                    injection e5 with e6 e7 e8
                    exact ⟨e6, e8⟩
                  rcases hrow5 with h0 | ⟨gl5, hgl5, hbgl, hlgl, hr5⟩
                  · rw [h0] at hvL2; simp at hvL2
                  obtain rfl : gl = gl5 := by simpa using hgl5
                  have hone : ∀ f ∈ R2.l, f.v.oneCell' = true := fun f hf => own_oneCell (HW.out.p.hb f hf)
                  have c4 : wx.cell? ⟨g, 4, none⟩ = some (.slice (some ⟨gl, 0, none⟩) R.l.length cap5) := by have := HW.out.p.cells.c4; rw [HVS.out] at this; exact this
                  have cf := HW.out.p.cells.f
                  have hgx := (HW.out.p.lo g HW.out.p.gg).2
                  have hbx := (HW.out.p.lo g HW.out.p.gg).1
                  have hl2 := HW.out.ln
                  have hw1 : IntKind.i64.wrap ((v : Int) + 1) = ((v + 1 : Nat) : Int) := by rw [wrap64 (by omega)]; omega
                  have HR1 : Hid (R2.l.take v = [] ∨ ∃ gx ox, (some ⟨gl, 0, none⟩ : Option Addr) = some ⟨gx, ox, none⟩ ∧ ∀ k (hk : k < (R2.l.take v).length), wx.rangeAt gx (ox + k * 6) (cellsR (R2.l.take v)[k])) := Or.inr ⟨gl, 0, rfl, fun k hk => by
                    have h7 := hr5 k (by simp at hk; omega)
                    rw [List.getElem_take]
                    simpa using h7⟩
                  have HR2 : Hid (∀ w3, Below wx.heap.size wx w3 → R2.l.drop (v + 1) = [] ∨ ∃ gx ox, (some ⟨gl, (v + 1) * 6, none⟩ : Option Addr) = some ⟨gx, ox, none⟩ ∧ ∀ k (hk : k < (R2.l.drop (v + 1)).length), w3.rangeAt gx (ox + k * 6) (cellsR (R2.l.drop (v + 1))[k])) := fun w3 hb3 => Or.inr ⟨gl, (v + 1) * 6, rfl, fun k hk => by
                    rw [List.length_drop] at hk
                    have h7 := hr5 (v + 1 + k) (by omega)
                    rw [List.getElem_drop]
                    rw [show (v + 1) * 6 + k * 6 = (v + 1 + k) * 6 by omega]
                    exact rangeAt_keep hb3 h7⟩
                  have hne' := Ne.symm hne
                  have hwl : R2.l.length ≤ 64 := by omega
                  have HHW : Hid (∀ i, H i → i < w.heap.size) := fun i hi => (HP.out.lo i hi).2
                  have HOW0 : Hid (OwnF base wx (.slice none 0 0) []) := World.ownsRow_nil _ _ _ _
                  have HONE1 : Hid (∀ f ∈ R2.l.take v, f.v.oneCell' = true) := fun f hf => hone f (List.mem_of_mem_take hf)
                  have HONE2 : Hid (∀ f ∈ R2.l.drop (v + 1), f.v.oneCell' = true) := fun f hf => hone f (List.mem_of_mem_drop hf)
                  have hlt1 : (R2.l.take v).length = v := by simp; omega
                  have hlt2 : (R2.l.drop (v + 1)).length = R.l.length - (v + 1) := by simp; omega
                  clear hr5 hgl5 hone
                  by_cases hcv : cap5 = v + 1
                  · have hnl : R.l.length = v + 1 := by omega
                    have HD0 : Hid (R2.l.drop (v + 1) = []) := List.drop_eq_nil_of_le (by omega)
                    rw [hnl, hcv] at c4
                    clear hlt2 HR2 HONE2
                    go_wp2_with (first
                      | (at_builtin; refine wp_appR wx rfl _ _ rfl base (.slice none 0 0) [] rfl HOW0.out (some ⟨gl, 0, none⟩) v (v + 1) (R2.l.take v) rfl hlt1 HR1.out HONE1.out (by simp; omega) (by omega) ?_
                         intro a3 n3 c3 w3 hA3
                         have hb3 : Below wx.heap.size wx w3 := (Below.refl _ _).grown hA3.gr (Nat.le_refl _) (fun b hb => by cases hb)
                         have e4 := cell_keep hb3 c4
                         have HA3 : Hid (AppR base wx (.slice none 0 0) ([] ++ R2.l.take v) w3 (.slice a3 n3 c3)) := hA3
                         have hs3 := hb3.size
                         clear hA3)
                      | (at_builtin; refine wp_appR _ rfl _ _ rfl base (.slice a3 n3 c3) ([] ++ R2.l.take v) rfl HA3.out.own (some ⟨gl, 0, none⟩) 0 0 [] rfl rfl (Or.inl rfl) (by simp) (by simp; omega) (by omega) ?_
                         intro a4 n4 cc4 w4 hA4
                         have hn3 : ∀ x, (Value.slice a3 n3 c3).ownBlock = some x → wx.heap.size ≤ x := fun x hx => by
                           rcases HA3.out.at_ with h8 | h8
                           · rw [h8] at hx; cases hx
                           · exact h8 x hx
                         have hb4 : Below wx.heap.size wx w4 := hb3.grown hA4.gr hs3 hn3
                         have f4 := cell_keep hb4 c4
                         have fz4 : ∀ o, w4.frozen? ⟨g, o, none⟩ = false := (HW.out.p.keepB hb4).cells.f
                         have hn4 : ∀ x, (Value.slice a4 n4 cc4).ownBlock = some x → wx.heap.size ≤ x := fun x hx => by
                           rcases hA4.at_ with h8 | h8
                           · rw [h8] at hx; exact hn3 x hx
                           · have := h8 x hx; omega
                         obtain ⟨H1, R1, hM⟩ := rm_went hv HW.out hdis HHW.out hok HR.out (by omega) HGO.out hb4 (by have := hA4.own; rw [HD0.out]; simpa using this) hn4
                         have HM : Hid (RM base w (w4.setCell ⟨g, 4, none⟩ (.slice a4 n4 cc4)) H G H1 G2 g dq (.slice a4 n4 cc4) R1 N F L L2 P (P.gone R.l[v].page) D (D.cleaned P R.l[v].page)) := hM
                         clear hA4 hM hn4 hn3 e4 HA3))
                    go_meet
                    exact ⟨H1, G2, _, R1, L2, _, _, HM⟩
                  · go_wp2_with (first
                      | (at_builtin; refine wp_appR wx rfl _ _ rfl base (.slice none 0 0) [] rfl HOW0.out (some ⟨gl, 0, none⟩) v cap5 (R2.l.take v) rfl hlt1 HR1.out HONE1.out (by simp; omega) (by omega) ?_
                         intro a3 n3 c3 w3 hA3
                         have hb3 : Below wx.heap.size wx w3 := (Below.refl _ _).grown hA3.gr (Nat.le_refl _) (fun b hb => by cases hb)
                         have e4 := cell_keep hb3 c4
                         have HA3 : Hid (AppR base wx (.slice none 0 0) ([] ++ R2.l.take v) w3 (.slice a3 n3 c3)) := hA3
                         have hs3 := hb3.size
                         clear hA3)
                      | (at_builtin; refine wp_appR _ rfl _ _ rfl base (.slice a3 n3 c3) ([] ++ R2.l.take v) rfl HA3.out.own (some ⟨gl, (v + 1) * 6, none⟩) (R.l.length - (v + 1)) (cap5 - (v + 1)) (R2.l.drop (v + 1)) rfl hlt2 (HR2.out _ hb3) HONE2.out (by simp; omega) (by omega) ?_
                         intro a4 n4 cc4 w4 hA4
                         have hn3 : ∀ x, (Value.slice a3 n3 c3).ownBlock = some x → wx.heap.size ≤ x := fun x hx => by
                           rcases HA3.out.at_ with h8 | h8
                           · rw [h8] at hx; cases hx
                           · exact h8 x hx
                         have hb4 : Below wx.heap.size wx w4 := hb3.grown hA4.gr hs3 hn3
                         have f4 := cell_keep hb4 c4
                         have fz4 : ∀ o, w4.frozen? ⟨g, o, none⟩ = false := (HW.out.p.keepB hb4).cells.f
                         have hn4 : ∀ x, (Value.slice a4 n4 cc4).ownBlock = some x → wx.heap.size ≤ x := fun x hx => by
                           rcases hA4.at_ with h8 | h8
                           · rw [h8] at hx; exact hn3 x hx
                           · have := h8 x hx; omega
                         obtain ⟨H1, R1, hM⟩ := rm_went hv HW.out hdis HHW.out hok HR.out (by omega) HGO.out hb4 (by have := hA4.own; simpa using this) hn4
                         have HM : Hid (RM base w (w4.setCell ⟨g, 4, none⟩ (.slice a4 n4 cc4)) H G H1 G2 g dq (.slice a4 n4 cc4) R1 N F L L2 P (P.gone R.l[v].page) D (D.cleaned P R.l[v].page)) := hM
                         clear hA4 hM hn4 hn3 e4 HA3))
                    go_meet
                    exact ⟨H1, G2, _, R1, L2, _, _, HM⟩
              --KEE
    case rest =>
      as_aux_lemma =>
        obtain ⟨H1, G1, vL1, R1, L1, P1, D1, HM⟩ := hcut
        rename World => w1
        clear HFU HPd HQd hbd hsd
        obtain ⟨a1, cap1, hv1, hcap1, _⟩ := HM.out.p.row.form
        subst hv1
        have HMp : Hid (RPIn base w1 H1 g dq (.slice a1 R1.l.length cap1) R1) := HM.out.p
        have hMO := HM.out.made.ok hok
        have c4 := HMp.out.cells.c4
        have hbase1 : base ≤ w1.heap.size := by have := HMp.out.lo g HMp.out.gg; omega
        have hgl1 := (HMp.out.lo g HMp.out.gg).2
        have HNG : Hid ((Value.slice a1 R1.l.length cap1).ownBlock ≠ some g) := HMp.out.ng.1
        have HG0 : Hid (w1.heap[g]? = some (.cells #[dq, .int .i64 R1.first, .int .i64 R1.pages, .int .i64 R1.frames, .slice a1 R1.l.length cap1, .int .u64 R1.log, .int .i64 R1.now, .bool R1.early] 42 (0, 0))) := HMp.out.hg
        have HROW : Hid (∀ wA, Below w1.heap.size w1 wA → OwnF base wA (.slice a1 R1.l.length cap1) R1.l) := fun wA hA => own_of_block HMp.out.row (fun b hb => hA.block b (HMp.out.lo b (HMp.out.gv b hb)).2)
        have hrl : R1.l.length ≤ 64 := by have := HM.out.rel.len hMO.ok; have := hMO.ok.len; have := hMO.ok.size; omega
        obtain ⟨bs, hbse⟩ : ∃ bs, getN D1.now (P.first + 16 * p) 16 = bs := ⟨_, rfl⟩
        have hbs : bs.length = 2048 := by rw [← hbse, ← HM.out.rd, getN_len (rd_len F L1)]
        have HPg : Hid (Calls Try.prog 43 #[.pointer (some ⟨g, 0, none⟩), .int .i64 p] w1.drew fun e w' => ∃ v, e = .returned v ∧ OwnB w1.heap.size w' v bs ∧ Below w1.heap.size w1 w') := by
          have hfi : R1.first = P.first := by rw [HM.out.rel.first, hMO.first]
          have hpg := hok.pages
          refine (refPage_any (HMp.out.keepB (Below.refl _ w1).drew) (HM.out.d.keepB (Below.refl _ w1).drew) (by rw [hfi]; exact hok.first) p (by omega) (by rw [hfi]; omega)).mono ?_
          rintro e w' ⟨v, he, ho, hb⟩
          rw [HM.out.rd, hfi, hbse] at ho
          exact ⟨v, he, ho, ⟨hb.os, hb.tape, hb.output, hb.size, hb.block⟩⟩
        go_wp2_with fail
        go_cut [] (fun wx => ∃ (H2 : Nat → Prop) (vL2 : Value) (aB : Option Addr) (cB : Nat), Hid (RN base w wx H G H2 G1 g dq vL2 R1 N F L1 (⟨p, 0, false, 0, .slice aB 2048 cB, bs, 0⟩ : RF)))
        case first =>
          refine wp_region_held_drew (S := fun _ => True) (by kernel_rfl) trivial (fun hHeld => ?_)
          refine wpAnyH_take (i := 0) (v := .pointer (some ⟨g, 0, none⟩)) rfl (by kernel_rfl) (by kernel_rfl) (by kernel_rfl) (fun _ _ _ h => h) (Or.inl ⟨by rfl, ?_⟩) hHeld ?_
          · intro wq hSw; go_simp
          simp only [List.getElem_toArray, List.getElem_cons_zero, List.getElem_cons_succ, Act.put, List.setIfInBounds_toArray, List.set_cons_zero, List.set_cons_succ]
          refine wpAnyH_take (i := 1) (v := .pointer (some ⟨g, 0, none⟩)) rfl (by kernel_rfl) (by kernel_rfl) (by kernel_rfl) (fun _ _ _ h => h) (Or.inl ⟨by rfl, ?_⟩) hHeld ?_
          · intro wq hSw; go_simp
          simp only [List.getElem_toArray, List.getElem_cons_zero, List.getElem_cons_succ, Act.put, List.setIfInBounds_toArray, List.set_cons_zero, List.set_cons_succ]
          refine wpAnyH_take (i := 2) (v := .pointer (some ⟨g, 0, none⟩)) rfl (by kernel_rfl) (by kernel_rfl) (by kernel_rfl) (fun _ _ _ h => h) (Or.inl ⟨by rfl, ?_⟩) hHeld ?_
          · intro wq hSw; go_simp
          simp only [List.getElem_toArray, List.getElem_cons_zero, List.getElem_cons_succ, Act.put, List.setIfInBounds_toArray, List.set_cons_zero, List.set_cons_succ]
          refine wpAnyH_take (i := 3) (v := .pointer (some ⟨g, 4, none⟩)) rfl (by kernel_rfl) (by kernel_rfl) (by kernel_rfl) (fun _ _ _ h => h) (Or.inl ⟨by rfl, ?_⟩) hHeld ?_
          · intro wq hSw; go_simp
          simp only [List.getElem_toArray, List.getElem_cons_zero, List.getElem_cons_succ, Act.put, List.setIfInBounds_toArray, List.set_cons_zero, List.set_cons_succ]
          refine wpAnyH_take (i := 5) (v := .int .i64 p) rfl (by kernel_rfl) (by kernel_rfl) (by kernel_rfl) (fun _ _ _ h => h) (Or.inl ⟨by rfl, ?_⟩) hHeld ?_
          · intro wq hSw; go_simp
          simp only [List.getElem_toArray, List.getElem_cons_zero, List.getElem_cons_succ, Act.put, List.setIfInBounds_toArray, List.set_cons_zero, List.set_cons_succ]
          refine wpAnyH_take (i := 6) (v := .pointer (some ⟨g, 0, none⟩)) rfl (by kernel_rfl) (by kernel_rfl) (by kernel_rfl) (fun _ _ _ h => h) (Or.inl ⟨by rfl, ?_⟩) hHeld ?_
          · intro wq hSw; go_simp
          simp only [List.getElem_toArray, List.getElem_cons_zero, List.getElem_cons_succ, Act.put, List.setIfInBounds_toArray, List.set_cons_zero, List.set_cons_succ]
          refine wpAnyH_take (i := 7) (v := .int .i64 p) rfl (by kernel_rfl) (by kernel_rfl) (by kernel_rfl) (fun _ _ _ h => h) (Or.inl ⟨by rfl, ?_⟩) hHeld ?_
          · intro wq hSw; go_simp
          simp only [List.getElem_toArray, List.getElem_cons_zero, List.getElem_cons_succ, Act.put, List.setIfInBounds_toArray, List.set_cons_zero, List.set_cons_succ]
          refine wpAnyH_ready (rs := [4, 8]) (by kernel_rfl) (by simp) ?_
          refine AllReadyH.cons rfl (fun K hK => ?_) (AllReadyH.cons rfl (fun K hK => ?_) AllReadyH.nil)
          · go_simp
            refine hK.out _ _ trivial (fun hHeld => ?_)
            clear hK K
            refine wpAnyH_ready (rs := [8]) (by kernel_rfl) (by simp) ?_
            refine AllReadyH.cons rfl (fun K hK => ?_) AllReadyH.nil
            rw [if_pos (by rfl)]
            go_wp2_with (go_at_call 43; refine HPg.out.mono ?_; rintro e wF ⟨vB, rfl, hoB, hbF⟩)
            have sF := hbF.size
            obtain ⟨aB, cB, hvB, _⟩ := hoB.toBytes.form
            rw [hbs] at hvB
            subst hvB
            have mF : wF.cell? ⟨g, 4, none⟩ = some (.slice a1 R1.l.length cap1) := cell_keep hbF c4
            have mA : ∀ ob, (wF.alloc ob).cell? ⟨g, 4, none⟩ = some (.slice a1 R1.l.length cap1) := fun ob => (World.cell?_alloc_lt _ _ _ (by simp; omega)).trans mF
            have aA : Below wF.heap.size wF (wF.alloc (.cells #[.int .i64 p, .int .i64 0, .bool false, .int .u64 0, .slice aB 2048 cB, .int .i64 0] 95)) := (Below.refl _ _).alloc (Nat.le_refl _) _
            have hA : Below w1.heap.size w1 (wF.alloc (.cells #[.int .i64 p, .int .i64 0, .bool false, .int .u64 0, .slice aB 2048 cB, .int .i64 0] 95)) := hbF.trans (aA.mono sF)
            have HOw : Hid (OwnF base (wF.alloc (.cells #[.int .i64 p, .int .i64 0, .bool false, .int .u64 0, .slice aB 2048 cB, .int .i64 0] 95)) (.slice a1 R1.l.length cap1) R1.l) := HROW.out _ hA
            have HOB : Hid (OwnB base (wF.alloc (.cells #[.int .i64 p, .int .i64 0, .bool false, .int .u64 0, .slice aB 2048 cB, .int .i64 0] 95)) (.slice aB 2048 cB) bs) := own_base (own_of_block hoB (fun b hb => aA.block b (World.ownsRow.lt hoB b hb).2)) hbase1
            have HNB : Hid (∀ c, (Value.slice aB 2048 cB).ownBlock = some c → w1.heap.size ≤ c) := fun c hc => (World.ownsRow.lt hoB c hc).1
            clear hoB
            refine hK.out _ _ trivial (fun hHeld => ?_)
            clear hK K
            refine wpAnyH_take (i := 9) (v := .agg #[.int .i64 p, .int .i64 0, .bool false, .int .u64 0, .slice aB 2048 cB, .int .i64 0]) rfl (by kernel_rfl) (by kernel_rfl) (by kernel_rfl) (fun _ _ _ h => h) (Or.inl ⟨by rfl, ?_⟩) hHeld ?_
            · intro wq hSw; go_simp
            simp only [List.getElem_toArray, List.getElem_cons_zero, List.getElem_cons_succ, Act.put, List.setIfInBounds_toArray, List.set_cons_zero, List.set_cons_succ]
            refine wpAnyH_ready (rs := [10]) (by kernel_rfl) (by simp) ?_
            refine AllReadyH.cons rfl (fun K hK => ?_) AllReadyH.nil
            refine step_buildF _ rfl _ rfl p aB cB rfl ?_
            simp only [List.getElem_toArray, List.getElem_cons_zero, List.getElem_cons_succ, Act.put, List.setIfInBounds_toArray, List.set_cons_zero, List.set_cons_succ]
            refine hK.out _ _ trivial (fun hHeld => ?_)
            clear hK K
            refine wpAnyH_ready (rs := [11]) (by kernel_rfl) (by simp) ?_
            refine AllReadyH.cons rfl (fun K hK => ?_) AllReadyH.nil
            refine step_appF _ rfl _ _ rfl base (.slice a1 R1.l.length cap1) R1.l rfl HOw.out (⟨p, 0, false, 0, .slice aB 2048 cB, bs, 0⟩ : RF) rfl wF.heap.size rfl (heap_alloc_new wF _) (by omega) (by simp; omega) ?_
            intro gk cap4 w4 hown hg4 hk4
            have d4 : w4.cell? ⟨g, 4, none⟩ = some (.slice a1 R1.l.length cap1) := (hg4.cell_far ⟨g, 4, none⟩ (by simp; omega) (Ne.symm HNG.out)).trans (mA _)
            have f4 : w4.frozen? ⟨g, 4, none⟩ = false := by
              rw [hg4.frozen_far ⟨g, 4, none⟩ (by simp; omega) (Ne.symm HNG.out)]
              exact frozen_row ((hA.block g (by omega)).trans HG0.out) 4
            have HN : Hid (RN base w (w4.setCell ⟨g, 4, none⟩ (.slice (some ⟨gk, 0, none⟩) (R1.l.length + 1) cap4)) H G (fun i => H1 i ∨ w1.heap.size ≤ i ∧ i < w4.heap.size) G1 g dq (.slice (some ⟨gk, 0, none⟩) (R1.l.length + 1) cap4) R1 N F L1 (⟨p, 0, false, 0, .slice aB 2048 cB, bs, 0⟩ : RF)) := rn_put HMp.out HM.out.d HM.out.dis HM.out.f HM.out.hH hA hg4 hown hk4 HOB.out HNB.out
            clear hown hg4 hk4
            simp only [List.getElem_toArray, List.getElem_cons_zero, List.getElem_cons_succ, Act.put, List.setIfInBounds_toArray, List.set_cons_zero, List.set_cons_succ]
            refine hK.out _ _ trivial (fun hHeld => ?_)
            clear hK K
            refine wpAnyH_take (i := 12) (v := .pointer (some ⟨g, 0, none⟩)) rfl (by kernel_rfl) (by kernel_rfl) (by kernel_rfl) (fun _ _ _ h => h) (Or.inl ⟨by rfl, ?_⟩) hHeld ?_
            · intro wq hSw; go_simp
            simp only [List.getElem_toArray, List.getElem_cons_zero, List.getElem_cons_succ, Act.put, List.setIfInBounds_toArray, List.set_cons_zero, List.set_cons_succ]
            refine wpAnyH_take (i := 13) (v := .pointer (some ⟨g, 4, none⟩)) rfl (by kernel_rfl) (by kernel_rfl) (by kernel_rfl) (fun _ _ _ h => h) (Or.inl ⟨by rfl, ?_⟩) hHeld ?_
            · intro wq hSw; go_simp
            simp only [List.getElem_toArray, List.getElem_cons_zero, List.getElem_cons_succ, Act.put, List.setIfInBounds_toArray, List.set_cons_zero, List.set_cons_succ]
            refine wpAnyH_ready (rs := [14]) (by kernel_rfl) (by simp) ?_
            refine AllReadyH.cons rfl (fun K hK => ?_) AllReadyH.nil
            go_simp
            refine hK.out _ _ trivial (fun hHeld => ?_)
            clear hK K
            refine wpAnyH_done (by kernel_rfl) ?_ _
            go_wp2_with fail
            go_meet
            exact ⟨_, _, aB, cB, HN⟩
          · rw [if_pos (by rfl)]
            go_wp2_with (go_at_call 43; refine HPg.out.mono ?_; rintro e wF ⟨vB, rfl, hoB, hbF⟩)
            have sF := hbF.size
            obtain ⟨aB, cB, hvB, _⟩ := hoB.toBytes.form
            rw [hbs] at hvB
            subst hvB
            have mF : wF.cell? ⟨g, 4, none⟩ = some (.slice a1 R1.l.length cap1) := cell_keep hbF c4
            have mA : ∀ ob, (wF.alloc ob).cell? ⟨g, 4, none⟩ = some (.slice a1 R1.l.length cap1) := fun ob => (World.cell?_alloc_lt _ _ _ (by simp; omega)).trans mF
            have aA : Below wF.heap.size wF (wF.alloc (.cells #[.int .i64 p, .int .i64 0, .bool false, .int .u64 0, .slice aB 2048 cB, .int .i64 0] 95)) := (Below.refl _ _).alloc (Nat.le_refl _) _
            have hA : Below w1.heap.size w1 (wF.alloc (.cells #[.int .i64 p, .int .i64 0, .bool false, .int .u64 0, .slice aB 2048 cB, .int .i64 0] 95)) := hbF.trans (aA.mono sF)
            have HOw : Hid (OwnF base (wF.alloc (.cells #[.int .i64 p, .int .i64 0, .bool false, .int .u64 0, .slice aB 2048 cB, .int .i64 0] 95)) (.slice a1 R1.l.length cap1) R1.l) := HROW.out _ hA
            have HOB : Hid (OwnB base (wF.alloc (.cells #[.int .i64 p, .int .i64 0, .bool false, .int .u64 0, .slice aB 2048 cB, .int .i64 0] 95)) (.slice aB 2048 cB) bs) := own_base (own_of_block hoB (fun b hb => aA.block b (World.ownsRow.lt hoB b hb).2)) hbase1
            have HNB : Hid (∀ c, (Value.slice aB 2048 cB).ownBlock = some c → w1.heap.size ≤ c) := fun c hc => (World.ownsRow.lt hoB c hc).1
            clear hoB
            refine hK.out _ _ trivial (fun hHeld => ?_)
            clear hK K
            refine wpAnyH_take (i := 9) (v := .agg #[.int .i64 p, .int .i64 0, .bool false, .int .u64 0, .slice aB 2048 cB, .int .i64 0]) rfl (by kernel_rfl) (by kernel_rfl) (by kernel_rfl) (fun _ _ _ h => h) (Or.inl ⟨by rfl, ?_⟩) hHeld ?_
            · intro wq hSw; go_simp
            simp only [List.getElem_toArray, List.getElem_cons_zero, List.getElem_cons_succ, Act.put, List.setIfInBounds_toArray, List.set_cons_zero, List.set_cons_succ]
            refine wpAnyH_ready (rs := [4, 10]) (by kernel_rfl) (by simp) ?_
            refine AllReadyH.cons rfl (fun K hK => ?_) (AllReadyH.cons rfl (fun K hK => ?_) AllReadyH.nil)
            · go_simp
              refine hK.out _ _ trivial (fun hHeld => ?_)
              clear hK K
              refine wpAnyH_ready (rs := [10]) (by kernel_rfl) (by simp) ?_
              refine AllReadyH.cons rfl (fun K hK => ?_) AllReadyH.nil
              refine step_buildF _ rfl _ rfl p aB cB rfl ?_
              simp only [List.getElem_toArray, List.getElem_cons_zero, List.getElem_cons_succ, Act.put, List.setIfInBounds_toArray, List.set_cons_zero, List.set_cons_succ]
              refine hK.out _ _ trivial (fun hHeld => ?_)
              clear hK K
              refine wpAnyH_ready (rs := [11]) (by kernel_rfl) (by simp) ?_
              refine AllReadyH.cons rfl (fun K hK => ?_) AllReadyH.nil
              refine step_appF _ rfl _ _ rfl base (.slice a1 R1.l.length cap1) R1.l rfl HOw.out (⟨p, 0, false, 0, .slice aB 2048 cB, bs, 0⟩ : RF) rfl wF.heap.size rfl (heap_alloc_new wF _) (by omega) (by simp; omega) ?_
              intro gk cap4 w4 hown hg4 hk4
              have d4 : w4.cell? ⟨g, 4, none⟩ = some (.slice a1 R1.l.length cap1) := (hg4.cell_far ⟨g, 4, none⟩ (by simp; omega) (Ne.symm HNG.out)).trans (mA _)
              have f4 : w4.frozen? ⟨g, 4, none⟩ = false := by
                rw [hg4.frozen_far ⟨g, 4, none⟩ (by simp; omega) (Ne.symm HNG.out)]
                exact frozen_row ((hA.block g (by omega)).trans HG0.out) 4
              have HN : Hid (RN base w (w4.setCell ⟨g, 4, none⟩ (.slice (some ⟨gk, 0, none⟩) (R1.l.length + 1) cap4)) H G (fun i => H1 i ∨ w1.heap.size ≤ i ∧ i < w4.heap.size) G1 g dq (.slice (some ⟨gk, 0, none⟩) (R1.l.length + 1) cap4) R1 N F L1 (⟨p, 0, false, 0, .slice aB 2048 cB, bs, 0⟩ : RF)) := rn_put HMp.out HM.out.d HM.out.dis HM.out.f HM.out.hH hA hg4 hown hk4 HOB.out HNB.out
              clear hown hg4 hk4
              simp only [List.getElem_toArray, List.getElem_cons_zero, List.getElem_cons_succ, Act.put, List.setIfInBounds_toArray, List.set_cons_zero, List.set_cons_succ]
              refine hK.out _ _ trivial (fun hHeld => ?_)
              clear hK K
              refine wpAnyH_take (i := 12) (v := .pointer (some ⟨g, 0, none⟩)) rfl (by kernel_rfl) (by kernel_rfl) (by kernel_rfl) (fun _ _ _ h => h) (Or.inl ⟨by rfl, ?_⟩) hHeld ?_
              · intro wq hSw; go_simp
              simp only [List.getElem_toArray, List.getElem_cons_zero, List.getElem_cons_succ, Act.put, List.setIfInBounds_toArray, List.set_cons_zero, List.set_cons_succ]
              refine wpAnyH_take (i := 13) (v := .pointer (some ⟨g, 4, none⟩)) rfl (by kernel_rfl) (by kernel_rfl) (by kernel_rfl) (fun _ _ _ h => h) (Or.inl ⟨by rfl, ?_⟩) hHeld ?_
              · intro wq hSw; go_simp
              simp only [List.getElem_toArray, List.getElem_cons_zero, List.getElem_cons_succ, Act.put, List.setIfInBounds_toArray, List.set_cons_zero, List.set_cons_succ]
              refine wpAnyH_ready (rs := [14]) (by kernel_rfl) (by simp) ?_
              refine AllReadyH.cons rfl (fun K hK => ?_) AllReadyH.nil
              go_simp
              refine hK.out _ _ trivial (fun hHeld => ?_)
              clear hK K
              refine wpAnyH_done (by kernel_rfl) ?_ _
              go_wp2_with fail
              go_meet
              exact ⟨_, _, aB, cB, HN⟩
            · refine step_buildF _ rfl _ rfl p aB cB rfl ?_
              simp only [List.getElem_toArray, List.getElem_cons_zero, List.getElem_cons_succ, Act.put, List.setIfInBounds_toArray, List.set_cons_zero, List.set_cons_succ]
              refine hK.out _ _ trivial (fun hHeld => ?_)
              clear hK K
              refine wpAnyH_ready (rs := [4]) (by kernel_rfl) (by simp) ?_
              refine AllReadyH.cons rfl (fun K hK => ?_) AllReadyH.nil
              go_simp
              refine hK.out _ _ trivial (fun hHeld => ?_)
              clear hK K
              refine wpAnyH_ready (rs := [11]) (by kernel_rfl) (by simp) ?_
              refine AllReadyH.cons rfl (fun K hK => ?_) AllReadyH.nil
              refine step_appF _ rfl _ _ rfl base (.slice a1 R1.l.length cap1) R1.l rfl HOw.out (⟨p, 0, false, 0, .slice aB 2048 cB, bs, 0⟩ : RF) rfl wF.heap.size rfl (heap_alloc_new wF _) (by omega) (by simp; omega) ?_
              intro gk cap4 w4 hown hg4 hk4
              have d4 : w4.cell? ⟨g, 4, none⟩ = some (.slice a1 R1.l.length cap1) := (hg4.cell_far ⟨g, 4, none⟩ (by simp; omega) (Ne.symm HNG.out)).trans (mA _)
              have f4 : w4.frozen? ⟨g, 4, none⟩ = false := by
                rw [hg4.frozen_far ⟨g, 4, none⟩ (by simp; omega) (Ne.symm HNG.out)]
                exact frozen_row ((hA.block g (by omega)).trans HG0.out) 4
              have HN : Hid (RN base w (w4.setCell ⟨g, 4, none⟩ (.slice (some ⟨gk, 0, none⟩) (R1.l.length + 1) cap4)) H G (fun i => H1 i ∨ w1.heap.size ≤ i ∧ i < w4.heap.size) G1 g dq (.slice (some ⟨gk, 0, none⟩) (R1.l.length + 1) cap4) R1 N F L1 (⟨p, 0, false, 0, .slice aB 2048 cB, bs, 0⟩ : RF)) := rn_put HMp.out HM.out.d HM.out.dis HM.out.f HM.out.hH hA hg4 hown hk4 HOB.out HNB.out
              clear hown hg4 hk4
              simp only [List.getElem_toArray, List.getElem_cons_zero, List.getElem_cons_succ, Act.put, List.setIfInBounds_toArray, List.set_cons_zero, List.set_cons_succ]
              refine hK.out _ _ trivial (fun hHeld => ?_)
              clear hK K
              refine wpAnyH_take (i := 12) (v := .pointer (some ⟨g, 0, none⟩)) rfl (by kernel_rfl) (by kernel_rfl) (by kernel_rfl) (fun _ _ _ h => h) (Or.inl ⟨by rfl, ?_⟩) hHeld ?_
              · intro wq hSw; go_simp
              simp only [List.getElem_toArray, List.getElem_cons_zero, List.getElem_cons_succ, Act.put, List.setIfInBounds_toArray, List.set_cons_zero, List.set_cons_succ]
              refine wpAnyH_take (i := 13) (v := .pointer (some ⟨g, 4, none⟩)) rfl (by kernel_rfl) (by kernel_rfl) (by kernel_rfl) (fun _ _ _ h => h) (Or.inl ⟨by rfl, ?_⟩) hHeld ?_
              · intro wq hSw; go_simp
              simp only [List.getElem_toArray, List.getElem_cons_zero, List.getElem_cons_succ, Act.put, List.setIfInBounds_toArray, List.set_cons_zero, List.set_cons_succ]
              refine wpAnyH_ready (rs := [14]) (by kernel_rfl) (by simp) ?_
              refine AllReadyH.cons rfl (fun K hK => ?_) AllReadyH.nil
              go_simp
              refine hK.out _ _ trivial (fun hHeld => ?_)
              clear hK K
              refine wpAnyH_done (by kernel_rfl) ?_ _
              go_wp2_with fail
              go_meet
              exact ⟨_, _, aB, cB, HN⟩
        case rest =>
          obtain ⟨H2, vL2, aB, cB, HN⟩ := hcut
          rename World => wd
          clear HROW HG0 HNG HPg c4
          obtain ⟨f, hf0⟩ : ∃ f : RF, f = ⟨p, 0, false, 0, .slice aB 2048 cB, bs, 0⟩ := ⟨_, rfl⟩
          have hNf := HN.out.f
          have hNd := HN.out.d
          have hNdis := HN.out.dis
          have hNH := HN.out.hH
          have HNF : Hid (Fr w wd (fun i => H i ∨ G i)) := hNf
          have HND : Hid (RefAt base wd G1 dq N F L1) := hNd
          have HNI : Hid (∀ i, H2 i → ¬ G1 i) := hNdis
          have HNH : Hid (∀ i, H2 i → H i ∨ w.heap.size ≤ i) := hNH
          have hNp := HN.out.p
          rw [← hf0] at hNp
          obtain ⟨R2, hR2⟩ : ∃ R2 : RPS, R2 = { R1 with l := R1.l ++ [f] } := ⟨_, rfl⟩
          rw [← hR2] at hNp
          obtain ⟨k, hkd⟩ : ∃ k, R1.l.length = k := ⟨_, rfl⟩
          have hl2 : R2.l.length = k + 1 := by rw [hR2]; simp [hkd]
          have hk : k < R2.l.length := by omega
          have HF : Hid (R2.l[k] = f) := by
            show R2.l[k] = f
            subst hkd
            simp only [hR2]
            simp
          have HPd0 : Hid (RPIn base wd H2 g dq vL2 R2) := hNp
          clear hNf hNd hNdis hNH hNp HN
          obtain ⟨gl, cap, hvl, hcap, hne, hHgl, hcl⟩ := HPd0.out.frame hk
          subst hvl
          have HPd : Hid (RPIn base wd H2 g dq (.slice (some ⟨gl, 0, none⟩) R2.l.length cap) R2) := HPd0.out
          have HC6 : Hid (Cells6R wd gl k f) := by
            have h5 := hcl k hk
            rw [HF.out] at h5
            exact h5
          have HFV : Hid (f.v = .slice aB 2048 cB) := by
            show f.v = _
            rw [hf0]
          have HBL : Hid (f.b.length = 2048) := by
            show f.b.length = 2048
            rw [hf0]; exact hbs
          have hu2 : R2.now = P.uses := by rw [hR2]; show R1.now = _; rw [HM.out.rel.now, hMO.uses]
          have hou := hok.uses
          have hfp : f.pins = 0 := by rw [hf0]
          have hw1 : IntKind.i64.wrap (R2.now + 1) = R2.now + 1 := wrap64 (by omega)
          have hw2 : IntKind.i64.wrap (f.pins + 1) = f.pins + 1 := wrap64 (by omega)
          have hwl : IntKind.i64.wrap ((R2.l.length : Int) - 1) = (k : Int) := by rw [wrap64 (by omega)]; omega
          have hne' := Ne.symm hne
          have HL2 : Hid (R2.l.length = k + 1) := hl2
          have HR2 : Hid (R2 = { R1 with l := R1.l ++ [f] }) := hR2
          have HF0 : Hid (f = ⟨p, 0, false, 0, .slice aB 2048 cB, bs, 0⟩) := hf0
          clear hcl HPd0 hl2 hR2 hf0 hfp hu2
          have hkI : (k : Int) < (R2.l.length : Int) := by have := HL2.out; omega
          have hbl : f.b.length = 2048 := HBL.out
          clear HBL
          have h0 : RPIn base wd H2 g dq (.slice (some ⟨gl, 0, none⟩) R2.l.length cap) (R2.at_ k f) := by rw [← HF.out, R2.at_self hk]; exact HPd.out
          obtain ⟨hP1, hF1⟩ := h0.setG (R' := { R2.at_ k f with now := R2.now + 1 }) (j := 6) (u := .int .i64 (R2.now + 1)) rfl rfl
          obtain ⟨hP2, hF2⟩ := RPIn.setK (R := { R2 with now := R2.now + 1 }) (k := k) (f0 := f) hP1 hk 1 (by omega) (.int .i64 (f.pins + 1)) rfl { f with pins := f.pins + 1 } rfl (Or.inl ⟨rfl, rfl⟩)
          have HP2 : Hid (RPIn base ((wd.setCell ⟨g, 6, none⟩ (.int .i64 (R2.now + 1))).setCell ⟨gl, k * 6 + 1, none⟩ (.int .i64 (f.pins + 1))) H2 g dq (.slice (some ⟨gl, 0, none⟩) R2.l.length cap) (({ R2 with now := R2.now + 1 } : RPS).at_ k { f with pins := f.pins + 1 })) := hP2
          have HF2 : Hid (Fr wd ((wd.setCell ⟨g, 6, none⟩ (.int .i64 (R2.now + 1))).setCell ⟨gl, k * 6 + 1, none⟩ (.int .i64 (f.pins + 1))) H2) := (hF1.mono (G := H2) (fun i hi => hi ▸ HPd.out.gg)).trans (hF2.mono (G := H2) (fun i hi => hi ▸ hHgl)) (fun i hi => Or.inl hi)
          clear hP1 hF1 hP2 hF2 h0
          have x6 : wd.cell? ⟨g, 6, none⟩ = some (.int .i64 R2.now) := HPd.out.cells.c6
          have x4 : wd.cell? ⟨g, 4, none⟩ = some (.slice (some ⟨gl, 0, none⟩) R2.l.length cap) := HPd.out.cells.c4
          have xf := HPd.out.cells.f
          have y1 : wd.cell? ⟨gl, k * 6 + 1, none⟩ = some (.int .i64 f.pins) := HC6.out.c1
          have yf := HPd.out.rowFrozen
          go_wp2_with fail
          generalize hwz : (wd.setCell ⟨g, 6, none⟩ (.int .i64 (R2.now + 1))).setCell ⟨gl, k * 6 + 1, none⟩ (.int .i64 (f.pins + 1)) = wz at *
          have b4 : wz.cell? ⟨g, 4, none⟩ = some (.slice (some ⟨gl, 0, none⟩) R2.l.length cap) := HP2.out.cells.c4
          have b6 : wz.cell? ⟨g, 6, none⟩ = some (.int .i64 (R2.now + 1)) := HP2.out.cells.c6
          have b5 : wz.cell? ⟨gl, k * 6 + 5, none⟩ = some (.int .i64 f.used) := (HP2.out.at_cells hk).c5
          have bf := (HP2.out.at_cells hk).f
          clear x6 x4 xf y1 yf hwz
          go_region
          obtain ⟨hP3, hF3⟩ := RPIn.setK (R := { R2 with now := R2.now + 1 }) (k := k) HP2.out hk 5 (by omega) (.int .i64 (R2.now + 1)) rfl { f with pins := f.pins + 1, used := R2.now + 1 } rfl (Or.inl ⟨rfl, rfl⟩)
          have hP3' := hP3.keepB (Below.refl _ _).drew
          have HF3 : Hid (Fr wd (wz.setCell ⟨gl, k * 6 + 5, none⟩ (.int .i64 (R2.now + 1))).drew H2) := (HF2.out.trans (hF3.mono (G := H2) (fun i hi => hi ▸ hHgl)) (fun i hi => Or.inl hi)).trans (Fr.drew _ H2) (fun i hi => Or.inl hi)
          generalize hwy : (wz.setCell ⟨gl, k * 6 + 5, none⟩ (.int .i64 (R2.now + 1))).drew = wy at *
          have HP3 : Hid (RPIn base wy H2 g dq (.slice (some ⟨gl, 0, none⟩) R2.l.length cap) (({ R2 with now := R2.now + 1 } : RPS).at_ k { f with pins := f.pins + 1, used := R2.now + 1 })) := hP3'
          have z4 : wy.cell? ⟨g, 4, none⟩ = some (.slice (some ⟨gl, 0, none⟩) R2.l.length cap) := HP3.out.cells.c4
          have zb : wy.cell? ⟨gl, k * 6 + 4, none⟩ = some (.slice aB 2048 cB) := by have := (HP3.out.at_cells hk).c4; rw [← HFV.out]; exact this
          have hm : ({ f with pins := f.pins + 1, used := R2.now + 1 } : RF) ∈ (({ R2 with now := R2.now + 1 } : RPS).at_ k { f with pins := f.pins + 1, used := R2.now + 1 }).l := by
            show _ ∈ R2.l.set k _
            exact List.mem_iff_getElem.2 ⟨k, by simpa using hk, by simp⟩
          have hszy := HF3.out.size
          have hOwn : Calls Try.prog 44 #[.slice aB 2048 cB] wy fun e w' => ∃ v', e = .returned v' ∧ OwnB wy.heap.size w' v' f.b ∧ (∀ c, v'.ownBlock = some c → wy.heap.size ≤ c) ∧ Below wy.heap.size wy w' := by
            have hby := (HP3.out.hb _ hm).toBytes
            rw [show ({ f with pins := f.pins + 1, used := R2.now + 1 } : RF).v = .slice aB 2048 cB from HFV.out] at hby
            exact ref_own wy.heap.size _ f.b wy hby (by omega) (by omega) (Nat.le_refl _)
          clear hP3 hP3' hF3 hwy b4 b6 b5 bf HP2 HF2
          go_wp2_with (go_at_call 44; refine hOwn.mono ?_; rintro e wv ⟨v, rfl, hov, hnv, hbv⟩)
          refine bodyPost_ret (v := .tuple #[v, .int .i64 0]) (by simp [results, Try.results25, go_sem]) rfl ?_
          have hfr : Fr w wv (fun i => H i ∨ G i) := (HNF.out.trans HF3.out (fun i hi => by
            rcases HNH.out i hi with h1 | h1
            · exact Or.inl (Or.inl h1)
            · exact Or.inr h1)).trans (Fr.of_below (F := fun _ => False) hbv) (fun i hi => hi.elim)
          have ht : PinTo P D p ((P1.add p ⟨bs, 0, false, 0, 0⟩).touch p ⟨bs, 1, false, 0, 0⟩) D1 bs := by rw [← hbse]; exact .came hp P1 D1 HM.out.made
          have hfb : f.b = bs := by rw [HF0.out]
          have hfpg : f.page = p := by rw [HF0.out]
          rw [hfb] at hov
          have hp1 : p ∉ P1.keys := fun hx => hp (hMO.sub p hx)
          have hrc : Rel (P1.add p ⟨bs, 0, false, 0, 0⟩) R2 := by
            rw [HR2.out]
            exact HM.out.rel.come hp1 hfpg (by rw [HF0.out]; exact ⟨rfl, rfl, rfl, rfl, rfl⟩)
          have hsw := HNF.out.size
          refine .ok _ D1 bs ht v rfl (own_base hov (by omega)) H2 G1 _ _ L1 (HP3.out.keepB hbv) ((HND.out.keep HF3.out (fun i hi hh => HNI.out i hh hi)).keepB hbv) HNI.out ?_ HM.out.rd HM.out.len hfr HNH.out HM.out.hG
          have hu := hrc.use hk (f := { f with pins := f.pins + 1 }) (x := ⟨bs, 1, false, 0, 0⟩) (by rw [HF.out]) ⟨by rw [HF0.out]; rfl, by rw [HF0.out], by rw [HF0.out], hfb⟩
          rw [HF.out] at hu
          have key : ∀ q X, q = p → Rel ((P1.add p ⟨bs, 0, false, 0, 0⟩).touch q ⟨bs, 1, false, 0, 0⟩) X → Rel ((P1.add p ⟨bs, 0, false, 0, 0⟩).touch p ⟨bs, 1, false, 0, 0⟩) X := fun q X h h2 => by subst h; exact h2
          exact key _ _ hfpg hu
end Go.Proofs.Ytpmbpadckbkglaa

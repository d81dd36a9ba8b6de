/- The document's pool: Flush. -/
import Derived.Test.YtpmbpadckbkglaaP7RI
namespace Go.Proofs.Ytpmbpadckbkglaa
open Go.RowKit Go.Maps
set_option linter.unusedVariables false
set_option linter.unusedSimpArgs false

/-- The pages below n. -/
def lowK (keys : List Int) (n : Nat) : List Int := keys.filter (fun j => decide (j < (n : Int)))
theorem mem_lowK (keys : List Int) (n : Nat) (j : Int) : j ∈ lowK keys n ↔ j ∈ keys ∧ j < n := by simp [lowK]
theorem lowK_not {keys : List Int} (hr : Rise keys) {n : Nat} (h : (n : Int) ∉ keys) : lowK keys (n + 1) = lowK keys n := by
  refine rise_ext (hr.filter _) (hr.filter _) fun j => ?_
  rw [mem_lowK, mem_lowK]
  constructor
  · rintro ⟨h1, h2⟩
    refine ⟨h1, ?_⟩
    by_cases e : j = n
    · exact absurd (e ▸ h1) h
    · omega
  · rintro ⟨h1, h2⟩; exact ⟨h1, by omega⟩
theorem lowK_has {keys : List Int} (hr : Rise keys) {n : Nat} (h : (n : Int) ∈ keys) : lowK keys (n + 1) = lowK keys n ++ [(n : Int)] := by
  refine rise_ext (hr.filter _) (List.pairwise_append.2 ⟨hr.filter _, List.pairwise_singleton _ _, fun a ha b hb => ?_⟩) fun j => ?_
  · rw [List.mem_singleton.1 hb]
    exact ((mem_lowK _ _ _).1 ha).2
  · rw [List.mem_append, mem_lowK, mem_lowK, List.mem_singleton]
    constructor
    · rintro ⟨h1, h2⟩
      by_cases e : j = n
      · exact Or.inr e
      · exact Or.inl ⟨h1, by omega⟩
    · rintro (⟨h1, h2⟩ | h1)
      · exact ⟨h1, by omega⟩
      · subst h1; exact ⟨h, by omega⟩
theorem lowK_all {keys : List Int} (hr : Rise keys) {n : Nat} (h : ∀ k ∈ keys, k < n) : lowK keys n = keys := by
  unfold lowK
  rw [List.filter_eq_self]
  intro a ha
  simpa using h a ha
/-- Where Flush's second loop stands. -/
structure FMid (base : Nat) (w wr : World) (H G G' : Nat → Prop) (g : Nat) (dq vL : Value) (R : RPS) (N : Int) (F L L' : List EV) (P : PS) (D : DS) (n : Nat) : Prop where
  p : RPIn base wr H g dq vL R
  d : RefAt base wr G' dq N F L'
  f : Fr w wr (fun i => H i ∨ G i)
  o : ∀ i, G' i → G i ∨ w.heap.size ≤ i
  rel : Rel (P.cleanL (lowK P.keys n)) R
  rd : rd F L' = (D.cleanL P (lowK P.keys n)).now
  len : L'.length ≤ L.length + 16 * n
theorem FMid.skip {base : Nat} {w wr : World} {H G G' : Nat → Prop} {g : Nat} {dq vL : Value} {R : RPS} {N : Int} {F L L' : List EV} {P : PS} {D : DS} {n : Nat} (h : FMid base w wr H G G' g dq vL R N F L L' P D n) (hok : POk P) (hn : (n : Int) ∉ P.keys ∨ (n : Int) ∈ P.keys ∧ (P.fr n).dirty = false) {wx : World} (hb : Below wr.heap.size wr wx) : FMid base w wx H G G' g dq vL R N F L L' P D (n + 1) := by
  have hf : Fr w wx (fun i => H i ∨ G i) := h.f.trans (Fr.of_below (F := fun _ => False) hb) (fun i hi => hi.elim)
  rcases hn with h1 | ⟨h1, h2⟩
  · refine ⟨h.p.keepB hb, h.d.keepB hb, hf, h.o, ?_, ?_, by have := h.len; omega⟩
    · rw [lowK_not hok.rise h1]; exact h.rel
    · rw [lowK_not hok.rise h1]; exact h.rd
  · have hnl : (n : Int) ∉ lowK P.keys n := fun hx => by have := ((mem_lowK _ _ _).1 hx).2; omega
    refine ⟨h.p.keepB hb, h.d.keepB hb, hf, h.o, ?_, ?_, by have := h.len; omega⟩
    · rw [lowK_has hok.rise h1, ← PS.cleanL_snoc P _ _ hnl]
      have e : updA (P.cleanL (lowK P.keys n)).fr n { (P.cleanL (lowK P.keys n)).fr n with dirty := false } = (P.cleanL (lowK P.keys n)).fr := by
        funext j
        unfold updA
        split
        · rename_i e
          subst e
          show ({ (if (n : Int) ∈ lowK P.keys n then _ else P.fr n : FS) with dirty := false } : FS) = if (n : Int) ∈ lowK P.keys n then _ else P.fr n
          rw [if_neg hnl, ← h2]
        · rfl
      rw [e]; exact h.rel
    · rw [lowK_has hok.rise h1, cleanL_snoc]
      unfold DS.cleaned
      rw [h2]
      exact h.rd
theorem FMid.wrote {base : Nat} {w wr wx : World} {H G G' : Nat → Prop} {g : Nat} {dq vL : Value} {R : RPS} {N : Int} {F L L' : List EV} {P : PS} {D : DS} {n : Nat} (h : FMid base w wr H G G' g dq vL R N F L L' P D n) (hok : POk P) (h1 : (n : Int) ∈ P.keys) (h2 : (P.fr n).dirty = true) {j : Nat} (hj : j < R.l.length) (hp : R.l[j].page = n) (ho : RWOut base wr H G' g dq vL R N F L' j R.l[j] wx) : ∃ R2 G2 L2, FMid base w wx H G G2 g dq vL R2 N F L L2 P D (n + 1) := by
  obtain ⟨E, G2, L2, hP, hR, hrd, hlen, hf, hgo⟩ := ho
  have hnl : (n : Int) ∉ lowK P.keys n := fun hx => by have := ((mem_lowK _ _ _).1 hx).2; omega
  have hfe := h.rel.fr _ (List.getElem_mem hj)
  have hpf : (P.cleanL (lowK P.keys n)).fr n = P.fr n := by
    show (if (n : Int) ∈ lowK P.keys n then _ else P.fr n) = P.fr n
    rw [if_neg hnl]
  rw [hp, hpf] at hfe
  refine ⟨_, G2, L2, ⟨hP, hR, ?_, fun i hi => ?_, ?_, ?_, by have := h.len; omega⟩⟩
  · refine h.f.trans hf (fun i hi => ?_)
    rcases hi with hi | hi
    · exact Or.inl (Or.inl hi)
    · rcases h.o i hi with h3 | h3
      · exact Or.inl (Or.inr h3)
      · exact Or.inr h3
  · rcases hgo i hi with h3 | h3
    · exact h.o i h3
    · right; have := h.f.size; omega
  · have := h.rel.clean hj E
    rw [hp, PS.cleanL_snoc P _ _ hnl, ← lowK_has hok.rise h1] at this
    exact this
  · rw [lowK_has hok.rise h1, cleanL_snoc, hrd, h.rd, hp, hfe.b, h.rel.first]
    unfold DS.cleaned
    rw [h2]
    rfl
/-- What Flush of the document's pool comes to. -/
inductive RFlush (base : Nat) (w : World) (H G : Nat → Prop) (g : Nat) (dq vL : Value) (N : Int) (F L : List EV) (P : PS) (D : DS) (e : Ending) (w' : World) : Prop
  | behind (he : e = .returned (.int .i64 74)) (hx : ∃ k ∈ P.keys, beh P.safe (P.fr k) = true) (hb : Below w.heap.size w w')
  | ok (he : e = .returned (.int .i64 0)) (hx : ∀ k ∈ P.keys, beh P.safe (P.fr k) = false) (R' : RPS) (G' : Nat → Prop) (L' : List EV) (hP : RPIn base w' H g dq vL R') (hR : RefAt base w' G' dq N F L') (hrel : Rel (P.cleanL P.keys) R') (hrd : rd F L' = (D.cleanL P P.keys).now) (hlen : (L'.length : Int) ≤ L.length + 16 * P.pages) (hf : Fr w w' (fun i => H i ∨ G i)) (ho : ∀ i, G' i → G i ∨ w.heap.size ≤ i)
theorem Rel.beh {P : PS} {R : RPS} (h : Rel P R) {f : RF} (hf : f ∈ R.l) : (f.dirty && decide (f.mark > R.log)) = beh P.safe (P.fr f.page) := by
  have := h.fr f hf
  unfold Go.Proofs.Ytpmbpadckbkglaa.beh
  rw [this.dirty, this.mark, h.log]
set_option maxRecDepth 20000 in
set_option maxHeartbeats 4000000 in
theorem refFlush_any {base : Nat} {w : World} {H G : Nat → Prop} {g : Nat} {dq vL : Value} {R : RPS} {N : Int} {F L : List EV} {P : PS} {D : DS} (h : RPIn base w H g dq vL R) (hq : RefAt base w G dq N F L) (hdis : ∀ i, H i → ¬ G i) (hrel : Rel P R) (hok : POk P) (hfit : P.first + 16 * P.pages ≤ N) (hrd : rd F L = D.now) (hcnt : (F.length : Int) + L.length + 16 * P.pages + 16 < 100000) :
    Calls Try.prog 28 #[.pointer (some ⟨g, 0, none⟩)] w fun e w' => RFlush base w H G g dq vL N F L P D e w' := by
  have HP : Hid (RPIn base w H g dq vL R) := h
  have HQ : Hid (RefAt base w G dq N F L) := hq
  have HR : Hid (Rel P R) := hrel
  have hlen := hrel.len hok
  have HLEN : Hid (R.l.length = P.keys.length) := hlen
  have hl64 : R.l.length ≤ 64 := by have := hok.len; have := hok.size; omega
  obtain ⟨n0, hn0⟩ : ∃ n : Nat, P.pages = n := ⟨P.pages.toNat, by have := hok.pages; omega⟩
  have hn256 : n0 ≤ 256 := by have := hok.pages; omega
  clear h hq hrel hlen
  go_enter Try.func28, Try.ntmps28
  go_wp2
  go_loopw [3] (fun ix wr => ∃ k : Nat, k ≤ R.l.length ∧ ix = .int .i64 k ∧ Hid (∀ j (hj : j < R.l.length), j < k → (R.l[j].dirty && decide (R.l[j].mark > R.log)) = false) ∧ Below w.heap.size w wr) (fun ix _ => R.l.length - (intOf ix).toNat)
  case atStart => exact ⟨0, Nat.zero_le _, rfl, fun j _ hj => by omega, Below.refl _ _⟩
  case round =>
    obtain ⟨k, hk, rfl, HN, hb⟩ := hrel
    have hPr := HP.out.keepB hb
    obtain ⟨c0, c1, c2, c3, c4, c5, c6, c7, cf⟩ := hPr.cells
    by_cases hlt : k < R.l.length
    · obtain ⟨gl, cap, rfl, hcap, hne, hHgl, hcl⟩ := hPr.frame hlt
      obtain ⟨q0, q1, q2, q3, q4, q5, qf⟩ := hcl k hlt
      obtain ⟨f, hfe⟩ : ∃ f, R.l[k] = f := ⟨_, rfl⟩
      have HF : Hid (R.l[k] = f) := hfe
      rw [hfe] at q0 q1 q2 q3 q4 q5
      clear hfe hcl hPr
      cases hb1 : (f.dirty && decide (f.mark > R.log))
      · have HN2 : Hid (∀ j (hj : j < R.l.length), j < k + 1 → (R.l[j].dirty && decide (R.l[j].mark > R.log)) = false) := fun j hj hjk => by
          by_cases e : j = k
          · subst e; rw [HF.out]; exact hb1
          · exact HN.out j hj (by omega)
        clear HN
        have hcase : f.dirty = false ∨ (f.dirty = true ∧ decide (f.mark > R.log) = false ∧ decide (R.log < f.mark) = false) := by
          cases hd : f.dirty
          · exact Or.inl rfl
          · rw [hd] at hb1
            simp at hb1
            exact Or.inr ⟨rfl, by simp; omega, by simp; omega⟩
        rcases hcase with hd | ⟨hd, t1, t2⟩
        · rw [hd] at q2
          go_wp2_with fail
          go_quiet (fail)
          go_wp2
          go_roundw
          case rel => exact ⟨k + 1, by omega, by first | go_num | (congr 1; omega), HN2, below_drewN hb _⟩
          case measure => simp [intOf]; omega
        · rw [hd] at q2
          go_wp2_with fail
          go_quiet (fail)
          go_wp2
          go_roundw
          case rel => exact ⟨k + 1, by omega, by first | go_num | (congr 1; omega), HN2, below_drewN hb _⟩
          case measure => simp [intOf]; omega
      · have hO : ∃ k ∈ P.keys, beh P.safe (P.fr k) = true := ⟨f.page, HR.out.has (HF.out ▸ List.getElem_mem hlt), by rw [← HR.out.beh (HF.out ▸ List.getElem_mem hlt)]; exact hb1⟩
        have hd : f.dirty = true ∧ f.mark > R.log := by simpa using hb1
        have t1 : decide (f.mark > R.log) = true := by simpa using hd.2
        have t2 : decide (R.log < f.mark) = true := by simpa using hd.2
        rw [hd.1] at q2
        clear HN hb1
        go_wp2_with fail
        go_quiet (fail)
        go_wp2
        go_ret
        exact .behind rfl hO (below_drewN hb _)
    · obtain rfl : k = R.l.length := by omega
      have hx : ∀ k ∈ P.keys, beh P.safe (P.fr k) = false := fun k hk => by
        obtain ⟨f, hf, rfl⟩ := HR.out.find hk
        rw [← HR.out.beh hf]
        obtain ⟨j, hj, rfl⟩ := List.getElem_of_mem hf
        exact HN.out j hj hj
      have hM0 : FMid base wr wr H G G g dq vL R N F L L P D 0 := by
        have e0 : lowK P.keys 0 = [] := by
          unfold lowK
          rw [List.filter_eq_nil_iff]
          intro a ha
          have := (hok.rng a ha).1
          simp; omega
        refine ⟨hPr, HQ.out.keepB hb, Fr.refl _ _, fun i hi => Or.inl hi, ?_, ?_, by omega⟩
        · rw [e0, PS.cleanL_nil]; exact HR.out
        · rw [e0]; exact hrd
      have HM0 : Hid (FMid base wr wr H G G g dq vL R N F L L P D 0) := hM0
      obtain ⟨ao, cap, hvL, hcap, _⟩ := hPr.row.form
      rw [hvL] at c4
      clear hvL hM0 hPr HN c0 c1 c3 c5 c6 c7 cf
      rename World => w0
      go_wp2_with fail
      go_loopw [4] (fun ix wr => ∃ (n : Nat) (G' : Nat → Prop) (L' : List EV) (R' : RPS), n ≤ n0 ∧ ix = .int .i64 n ∧ Hid (FMid base w0 wr H G G' g dq vL R' N F L L' P D n)) (fun ix _ => n0 - (intOf ix).toNat)
      case atStart => exact ⟨0, G, L, R, Nat.zero_le _, rfl, HM0⟩
      case round =>
        obtain ⟨n, G', L', R', hn, rfl, HM⟩ := hrel
        clear HM0 c2 c4
        have hPr := HM.out.p
        have c2 : wr.cell? ⟨g, 2, none⟩ = some (.int .i64 n0) := by have := hPr.cells.c2; rw [HM.out.rel.pages] at this; rw [← hn0]; exact this
        have c4 := hPr.cells.c4
        have hlen' : R'.l.length ≤ 64 := by
          have h1 := HM.out.rel.len (hok.cleanL _)
          have h2 : (P.cleanL (lowK P.keys n)).keys.length = P.keys.length := rfl
          have h3 := HLEN.out
          omega
        have hpf : ∀ (m : Nat), n ≤ m → (P.cleanL (lowK P.keys n)).fr m = P.fr m := fun m hm => by
          show (if (m : Int) ∈ lowK P.keys n then _ else P.fr m) = P.fr m
          rw [if_neg (fun hx => by have := ((mem_lowK _ _ _).1 hx).2; omega)]
        by_cases hlt : n < n0
        · have hfd := find_any hPr (n : Int) (by omega)
          clear hPr
          go_wp2_with fail
          refine hfd.mono ?_
          rintro e wx ⟨hF, hwx⟩
          rw [hwx]
          clear hwx wx hfd
          cases hF with
          | none_ hp he =>
            subst he
            have hnk : (n : Int) ∉ P.keys := fun hx => by
              obtain ⟨f, hf, e⟩ := HM.out.rel.find (k := (n : Int)) hx
              exact hp f hf e
            clear hp
            go_wp2_with fail
            try go_quiet (fail)
            have HS : Hid (∀ wx, Below wr.heap.size wr wx → FMid base w0 wx H G G' g dq vL R' N F L L' P D (n + 1)) := fun wx hbx => HM.out.skip hok (Or.inl hnk) hbx
            clear HM
            go_wp2
            go_roundw
            case rel => exact ⟨n + 1, G', L', R', by omega, by first | go_num | (congr 1; omega), HS.out _ (by first | exact Below.refl _ _ | exact below_drewN (Below.refl _ _) _)⟩
            case measure => simp [intOf]; omega
          | at_ j hj hp he =>
            subst he
            have hnk : (n : Int) ∈ P.keys := by have := HM.out.rel.has (List.getElem_mem hj); rw [hp] at this; exact this
            have hfe := HM.out.rel.fr _ (List.getElem_mem hj)
            rw [hp, hpf n (Nat.le_refl _)] at hfe
            obtain ⟨gl, cap, rfl, hcap, hne, hHgl, hcl⟩ := HM.out.p.frame hj
            have q2 := (hcl j hj).c2
            rw [hfe.dirty] at q2
            have t1 : decide ((j : Int) ≥ 0) = true := by simp
            have hjl : (j : Int) < (R'.l.length : Int) := by omega
            clear hcl
            cases hd : (P.fr n).dirty
            · rw [hd] at q2
              have HS : Hid (∀ wx, Below wr.heap.size wr wx → FMid base w0 wx H G G' g dq _ R' N F L L' P D (n + 1)) := fun wx hbx => HM.out.skip hok (Or.inr ⟨hnk, hd⟩) hbx
              clear HM
              go_wp2_with fail
              try go_quiet (fail)
              go_wp2
              go_roundw
              case rel => exact ⟨n + 1, G', L', R', by omega, by first | go_num | (congr 1; omega), HS.out _ (by first | exact Below.refl _ _ | exact below_drewN (Below.refl _ _) _)⟩
              case measure => simp [intOf]; omega
            · rw [hd] at q2
              have hdj : ∀ i, H i → ¬ G' i := fun i hi hg => by
                rcases HM.out.o i hg with h | h
                · exact hdis i hi h
                · have := (HP.out.lo i hi).2; have := hb.size; omega
              have hkr := hok.rng _ hnk
              have hrf : R'.first = P.first := HM.out.rel.first
              have hLl := HM.out.len
              have HWp : Hid (∀ nq, Calls Try.prog 42 #[.pointer (some ⟨g, 0, none⟩), .int .i64 j] (wr.drewN nq) fun e w' => e = .returned (.tuple #[]) ∧ ∃ R2 G2 L2, Hid (FMid base w0 w' H G G2 g dq (.slice (some ⟨gl, 0, none⟩) R'.l.length cap) R2 N F L L2 P D (n + 1))) := fun nq => by
                have hbq := below_drewN (Below.refl wr.heap.size wr) nq
                have hMq : FMid base w0 (wr.drewN nq) H G G' g dq (.slice (some ⟨gl, 0, none⟩) R'.l.length cap) R' N F L L' P D n := { HM.out with p := HM.out.p.keepB hbq, d := HM.out.d.keepB hbq, f := HM.out.f.trans (Fr.of_below (F := fun _ => False) hbq) (fun i hi => hi.elim) }
                refine (refWriteP_any hMq.p hMq.d hdj (by rw [hrf]; exact hok.first) hj (by omega) (by rw [hp]; omega) (by rw [hrf, hp]; omega) (by rw [hfe.b]; exact (hok.fr _ hnk).len) (by omega)).mono ?_
                rintro e w' ⟨he, ho⟩
                exact ⟨he, hMq.wrote hok hnk hd hj hp ho⟩
              clear HM
              go_wp2_with (first
                | (go_at_call 42; first
                    | (refine (HWp.out 0).mono ?_; rintro e w2 ⟨rfl, R2, G2, L2, HM2⟩)
                    | (refine (HWp.out _).mono ?_; rintro e w2 ⟨rfl, R2, G2, L2, HM2⟩)))
              go_roundw
              case rel => exact ⟨n + 1, G2, L2, R2, by omega, by first | go_num | (congr 1; omega), HM2⟩
              case measure => simp [intOf]; omega
        · obtain rfl : n = n0 := by omega
          go_wp2
          go_ret
          have e1 : lowK P.keys n = P.keys := lowK_all hok.rise (fun k hk => by have := (hok.rng k hk).2; omega)
          have h1 := HM.out.rel
          have h2 := HM.out.rd
          rw [e1] at h1 h2
          refine .ok rfl hx R' G' L' HM.out.p HM.out.d h1 h2 (by have := HM.out.len; omega) ((Fr.of_below hb).trans HM.out.f (fun i hi => Or.inl hi)) (fun i hi => ?_)
          rcases HM.out.o i hi with h3 | h3
          · exact Or.inl h3
          · right; have := hb.size; omega
end Go.Proofs.Ytpmbpadckbkglaa

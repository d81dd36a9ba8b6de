/- The document's pool: write. -/
import Derived.Test.YtpmbpadckbkglaaP7RG
namespace Go.Proofs.Ytpmbpadckbkglaa
open Go.RowKit Go.Maps
set_option linter.unusedVariables false
set_option linter.unusedSimpArgs false

theorem rd_snoc (F L : List EV) (i : Int) (v : Value) (s : List UInt8) (hs : s.length = 128) : rd F (L ++ [⟨i, v, false, s⟩]) = upd (rd F L) i s := by
  funext j
  unfold rd rdL upd
  rw [List.foldl_append]
  simp only [List.foldl_cons, List.foldl_nil, and_true]
  by_cases h : j = i
  · rw [if_pos h.symm, if_pos h, full_id hs]
  · rw [if_neg (fun e => h e.symm), if_neg h]
/-- Where the writing of the document's page stands. -/
structure WMid (base : Nat) (w wr : World) (G G' : Nat → Prop) (dq : Value) (N : Int) (F L : List EV) (s : Int) (bs : List UInt8) (k : Nat) (L' : List EV) : Prop where
  d : RefAt base wr G' dq N F L'
  f : Fr w wr G
  o : ∀ i, G' i → G i ∨ w.heap.size ≤ i
  rd : rd F L' = putN (rd F L) s bs k
  len : L'.length ≤ L.length + k
theorem wmid_step {base : Nat} {w wr : World} {G G' : Nat → Prop} {dq : Value} {N : Int} {F L L' : List EV} {s : Int} {bs : List UInt8} {k : Nat} (h : WMid base w wr G G' dq N F L s bs k L') (hk : k < 16) (hs : 0 ≤ s ∧ s + 16 ≤ N) (hbs : bs.length = 2048) (hcnt : F.length + L.length + 16 < 100000) (vb : Value) (lo hi : Nat) (hlo : lo = 128 * k) (hhi : hi = lo + 128) (x : Int) (hx : x = s + k) (wx : World) (hwx : wx = wr ∨ wx = wr.drew) (hB : Bytes wr vb ((bs.drop lo).take (hi - lo))) :
    Calls Try.prog 54 #[dq, .int .i64 x, vb] wx fun e w' => e = .returned (.int .i64 0) ∧ ∃ G1 L1, Hid (WMid base w w' G G1 dq N F L s bs (k + 1) L1) ∧ Fr wr w' G' := by
  have hb : Below wr.heap.size wr wx := by
    rcases hwx with rfl | rfl
    · exact Below.refl _ _
    · exact (Below.refl _ _).drew
  subst hlo hhi hx
  have e0 : (bs.drop (128 * k)).take (128 * k + 128 - 128 * k) = secP bs k := by unfold secP; congr 1; omega
  rw [e0] at hB
  have hl := h.len
  refine (refWrite_any (h.d.keepB hb) (s + k) (by omega) vb _ (hB.keep hb) (by rw [secP_len hbs hk]; omega) (by omega)).mono ?_
  rintro e w' ⟨he, v, G1, hD, hf, ho⟩
  have hf' : Fr wr w' G' := (Fr.of_below hb).trans hf (fun i hi => Or.inl hi)
  rw [full_secP hbs hk] at hD
  refine ⟨he, G1, _, ⟨hD, h.f.trans hf' h.o, fun i hi => ?_, ?_, by simp; omega⟩, hf'⟩
  · rcases ho i hi with h1 | h1
    · exact h.o i h1
    · right; have := h.f.size; have := hb.size; omega
  · rw [rd_snoc F L' _ v _ (secP_len hbs hk), h.rd]
    exact putN_succ _ _ _ _
/-- What write comes to. -/
inductive RWOut (base : Nat) (w : World) (H G : Nat → Prop) (g : Nat) (dq vL : Value) (R : RPS) (N : Int) (F L : List EV) (i : Nat) (f : RF) (w' : World) : Prop
  | mk (E : Bool) (G' : Nat → Prop) (L' : List EV) (hP : RPIn base w' H g dq vL { R.at_ i { f with dirty := false } with early := E }) (hR : RefAt base w' G' dq N F L') (hrd : rd F L' = putN (rd F L) (R.first + 16 * f.page) f.b 16) (hlen : L'.length ≤ L.length + 16) (hf : Fr w w' (fun i => H i ∨ G i)) (ho : ∀ i, G' i → G i ∨ w.heap.size ≤ i)
set_option maxRecDepth 20000 in
set_option maxHeartbeats 8000000 in
theorem refWriteP_any {base : Nat} {w : World} {H G : Nat → Prop} {g : Nat} {dq vL : Value} {R : RPS} {N : Int} {F L : List EV} (h : RPIn base w H g dq vL R) (hq : RefAt base w G dq N F L) (hdis : ∀ i, H i → ¬ G i) (hf : 0 ≤ R.first ∧ R.first ≤ 4096) {i : Nat} (hi : i < R.l.length) (hi2 : R.l.length ≤ 1000) (hp : 0 ≤ R.l[i].page ∧ R.l[i].page ≤ 256) (hfit : R.first + 16 * R.l[i].page + 16 ≤ N) (hbl : R.l[i].b.length = 2048) (hcnt : F.length + L.length + 16 < 100000) :
    Calls Try.prog 42 #[.pointer (some ⟨g, 0, none⟩), .int .i64 i] w fun e w' => e = .returned (.tuple #[]) ∧ RWOut base w H G g dq vL R N F L i R.l[i] w' := by
  obtain ⟨dg, _, _, rfl, _⟩ := id hq
  obtain ⟨gl, cap, rfl, hcap, hne, hHgl, hcl⟩ := h.frame hi
  have HP : Hid (RPIn base w H g (.pointer (some ⟨dg, 0, none⟩)) (.slice (some ⟨gl, 0, none⟩) R.l.length cap) R) := h
  have HQ : Hid (RefAt base w G (.pointer (some ⟨dg, 0, none⟩)) N F L) := hq
  obtain ⟨q0, q1, q2, q3, q4, q5, qf⟩ := hcl i hi
  obtain ⟨c0, c1, c2, c3, c4, c5, c6, c7, cf⟩ := h.cells
  have hne' := Ne.symm hne
  clear hcl h hq
  obtain ⟨f, hfe⟩ : ∃ f, R.l[i] = f := ⟨_, rfl⟩
  have HF : Hid (R.l[i] = f) := hfe
  rw [hfe] at q0 q1 q2 q3 q4 q5 hp hfit hbl ⊢
  clear hfe
  go_enter Try.func42, Try.ntmps42
  have hE1 : ∀ E, RPIn base (w.setCell ⟨g, 7, none⟩ (.bool E)).drew H g (.pointer (some ⟨dg, 0, none⟩)) (.slice (some ⟨gl, 0, none⟩) R.l.length cap) { R with early := E } ∧ Fr w (w.setCell ⟨g, 7, none⟩ (.bool E)).drew (fun i => i = g) := fun E => by
    obtain ⟨hP1, hF1⟩ := HP.out.setG (R' := { R with early := E }) (j := 7) (u := .bool E) rfl rfl
    exact ⟨hP1.keepB (Below.refl _ _).drew, hF1.trans (Fr.drew _ _) (fun i hi => Or.inl hi)⟩
  have HE1 : Hid (∀ E, RPIn base (w.setCell ⟨g, 7, none⟩ (.bool E)).drew H g (.pointer (some ⟨dg, 0, none⟩)) (.slice (some ⟨gl, 0, none⟩) R.l.length cap) { R with early := E } ∧ Fr w (w.setCell ⟨g, 7, none⟩ (.bool E)).drew (fun i => i = g)) := hE1
  clear hE1
  obtain ⟨Y, hY⟩ : ∃ Y, R.early = Y := ⟨_, rfl⟩
  rw [hY] at c7
  clear hY
  obtain ⟨ao, bcap, hfv, hbcap, hbcells⟩ := (HP.out.hb _ (List.getElem_mem hi)).toBytes.form
  rw [HF.out, hbl] at hfv hbcap hbcells
  obtain ⟨af, rfl, _⟩ := hbcells (by omega)
  clear hbcells
  rw [hfv] at q4
  obtain ⟨S, hS⟩ : ∃ S, R.first + 16 * f.page = S := ⟨_, rfl⟩
  rw [hS] at hfit
  cases Y
  · go_wp2_with fail
    go_region
    obtain ⟨hP1, hF1⟩ := HE1.out ((decide (R.log < f.mark)))
    obtain ⟨E, hE⟩ : ∃ E : Bool, (decide (R.log < f.mark)) = E := ⟨_, rfl⟩
    rw [hE] at hP1 hF1 ⊢
    generalize hw1 : (w.setCell ⟨g, 7, none⟩ (.bool E)).drew = w1 at *
    have HP1 : Hid (RPIn base w1 H g (.pointer (some ⟨dg, 0, none⟩)) (.slice (some ⟨gl, 0, none⟩) R.l.length cap) { R with early := E }) := hP1
    have HF1 : Hid (Fr w w1 (fun i => i = g)) := hF1
    have hs1 : w1.heap.size = w.heap.size := by rw [← hw1]; simp [World.setCell]
    have HQ1 : Hid (RefAt base w1 G (.pointer (some ⟨dg, 0, none⟩)) N F L) := HQ.out.keep hF1 (fun i hi e => hdis g HP.out.gg (e ▸ hi))
    clear hP1 hF1 hw1 hE HE1 q0 q1 q2 q3 q4 q5 qf c0 c1 c2 c3 c4 c5 c6 c7 cf
    go_wp2_with fail
    go_loopw [5] (fun ix wr => ∃ (m : Nat) (G' : Nat → Prop) (L' : List EV), m ≤ 16 ∧ ix = .int .i64 m ∧ Hid (WMid base w1 wr G G' (.pointer (some ⟨dg, 0, none⟩)) N F L S f.b m L')) (fun ix _ => 16 - (intOf ix).toNat)
    case atStart => exact ⟨0, G, L, by omega, rfl, ⟨HQ1.out, Fr.refl _ _, fun i hi => Or.inl hi, (putN_zero _ _ _).symm, Nat.le_refl _⟩⟩
    case round =>
      obtain ⟨m, G', L', hm, rfl, HM⟩ := hrel
      have hPr := HP1.out.keep HM.out.f (fun i hi hg => hdis i hi hg)
      obtain ⟨gl2, cap2, hv2, _, _, _, hcl2⟩ := hPr.frame (k := i) hi
      obtain ⟨rfl, rfl⟩ : gl = gl2 ∧ cap = cap2 := by
        have e2 : (Value.slice (some ⟨gl, 0, none⟩) R.l.length cap) = .slice (some ⟨gl2, 0, none⟩) R.l.length cap2 := hv2
        injection e2 with h1 h2 h3
        injection h1 with h1
        injection h1 with h1
        exact ⟨h1, h3⟩
      have hck : Cells6R wr gl i f := by have := hcl2 i hi; rwa [show ({ R with early := E } : RPS).l[i] = f from HF.out] at this
      have c0 : wr.cell? ⟨g, 0, none⟩ = some (.pointer (some ⟨dg, 0, none⟩)) := hPr.cells.c0
      have c1 : wr.cell? ⟨g, 1, none⟩ = some (.int .i64 R.first) := hPr.cells.c1
      obtain ⟨q0, _, q2, _, q4, _, qf⟩ := hck
      rw [hfv] at q4
      have HBy : Hid (Bytes wr (.slice (some af) 2048 bcap) f.b) := by
        have := (hPr.hb _ (List.getElem_mem hi)).toBytes
        rw [show ({ R with early := E } : RPS).l[i] = f from HF.out, hfv] at this
        exact this
      have hdj : ∀ i, H i → ¬ G' i := fun i hi hg => by
        rcases HM.out.o i hg with h | h
        · exact hdis i hi h
        · have := (HP.out.lo i hi).2; omega
      have hngB : ¬ G' gl := hdj gl hHgl
      have hngg : ¬ G' g := hdj g HP.out.gg
      clear hcl2 hv2
      by_cases hlt : m < 16
      · have HW : Hid (∀ vb lo hi, lo = 128 * m → hi = lo + 128 → ∀ x, x = S + m → ∀ wx, (wx = wr ∨ wx = wr.drew) → Bytes wr vb ((f.b.drop lo).take (hi - lo)) → Calls Try.prog 54 #[.pointer (some ⟨dg, 0, none⟩), .int .i64 x, vb] wx fun e w' => e = .returned (.int .i64 0) ∧ ∃ G2 L2, Hid (WMid base w1 w' G G2 (.pointer (some ⟨dg, 0, none⟩)) N F L S f.b (m + 1) L2) ∧ Fr wr w' G') := fun vb lo hi hlo hhi x hx wx hwx hB => wmid_step HM.out hlt (by omega) hbl hcnt vb lo hi hlo hhi x hx wx hwx hB
        clear hPr
        have Hbl : Hid (f.b.length = 2048) := hbl
        clear hbl
        obtain ⟨lo, hlo⟩ : ∃ lo : Nat, 128 * (m : Int) = (lo : Int) := ⟨128 * m, by omega⟩
        obtain ⟨hh, hhi⟩ : ∃ hi : Nat, (lo : Int) + 128 = (hi : Int) := ⟨lo + 128, by omega⟩
        have hcap' : ¬ ((bcap : Int) = ((lo : Nat) : Int)) := by omega
        have hcapN : ¬ (bcap = lo) := by omega
        have hw1 : IntKind.i64.wrap (128 * (m : Int)) = lo := by rw [IntKind.wrap_i64]; omega
        have hw2 : IntKind.i64.wrap ((lo : Int) + 128) = hh := by rw [IntKind.wrap_i64]; omega
        have hw3 : IntKind.i64.wrap (16 * f.page) = 16 * f.page := by rw [IntKind.wrap_i64]; omega
        have hw4 : IntKind.i64.wrap (R.first + 16 * f.page) = S := by rw [IntKind.wrap_i64]; omega
        have hw5 : IntKind.i64.wrap (S + (m : Int)) = S + m := by rw [IntKind.wrap_i64]; omega
        have hw6 : IntKind.i64.wrap (lo : Int) = lo := by rw [IntKind.wrap_i64]; omega
        have hw7 : IntKind.i64.wrap S = S := by rw [IntKind.wrap_i64]; omega
        have hw8 : IntKind.i64.wrap (hh : Int) = hh := by rw [IntKind.wrap_i64]; omega
        have hll : lo ≤ hh := by omega
        have hhc : hh ≤ bcap := by omega
        go_wp2_with fail
        go_region_held_law (fun w' => w'.cell? ⟨g, 0, none⟩ = some (.pointer (some ⟨dg, 0, none⟩)) ∧ w'.cell? ⟨g, 1, none⟩ = some (.int .i64 R.first) ∧ w'.cell? ⟨gl, i * 6, none⟩ = some (.int .i64 f.page) ∧ w'.cell? ⟨gl, i * 6 + 4, none⟩ = some (.slice (some af) 2048 bcap)) (first | exact ⟨c0, c1, q0, q4⟩ | exact ⟨fr_cell hf2 hngg c0, fr_cell hf2 hngg c1, fr_cell hf2 hngB q0, fr_cell hf2 hngB q4⟩)
          (first
            | (go_at_call 54; refine (HW.out _ lo hh (by omega) (by omega) _ (by omega) _ (by first | exact Or.inl rfl | exact Or.inr rfl) (HBy.out.part Hbl.out (by omega) (by omega) (Or.inl rfl))).mono ?_; rintro e w2 ⟨rfl, G2, L2, hm2, hf2⟩))
        go_wp2
        go_roundw
        case rel => exact ⟨m + 1, G2, L2, by omega, by first | go_num | (congr 1; omega), hm2⟩
        case measure => simp [intOf]; omega
      · obtain rfl : m = 16 := by omega
        have HPr : Hid (RPIn base wr H g (.pointer (some ⟨dg, 0, none⟩)) (.slice (some ⟨gl, 0, none⟩) R.l.length cap) (({ R with early := E } : RPS).at_ i f)) := by
          have e3 : ({ R with early := E } : RPS).at_ i f = { R with early := E } := by rw [← HF.out]; exact RPS.at_self (({ R with early := E } : RPS)) hi
          rw [e3]; exact hPr
        clear hPr
        go_wp2
        obtain ⟨hP4, hF4⟩ := RPIn.setK (R := { R with early := E }) (k := i) HPr.out hi 2 (by omega) (.bool false) rfl { f with dirty := false } rfl (Or.inl ⟨rfl, rfl⟩)
        refine bodyPost_end (v := .tuple #[]) (by simp [results, Try.results42, go_sem]) rfl ⟨rfl, .mk E G' L' hP4 ?_ (by rw [hS]; exact HM.out.rd) HM.out.len ?_ (fun i hi => ?_)⟩
        · exact HM.out.d.keep hF4 (fun i hi e => hngB (e ▸ hi))
        · refine ((HF1.out.mono (G := fun i => H i ∨ G i) (fun i hi => Or.inl (hi ▸ HP.out.gg))).trans (HM.out.f.mono (fun i hi => Or.inr hi)) (fun i hi => Or.inl hi)).trans (hF4.mono (G := fun i => H i ∨ G i) (fun i hi => Or.inl (hi ▸ hHgl))) (fun i hi => Or.inl hi)
        · rcases HM.out.o i hi with h | h
          · exact Or.inl h
          · right; omega
  · go_wp2_with fail
    go_region
    obtain ⟨hP1, hF1⟩ := HE1.out (true)
    obtain ⟨E, hE⟩ : ∃ E : Bool, true = E := ⟨_, rfl⟩
    rw [hE] at hP1 hF1 ⊢
    generalize hw1 : (w.setCell ⟨g, 7, none⟩ (.bool E)).drew = w1 at *
    have HP1 : Hid (RPIn base w1 H g (.pointer (some ⟨dg, 0, none⟩)) (.slice (some ⟨gl, 0, none⟩) R.l.length cap) { R with early := E }) := hP1
    have HF1 : Hid (Fr w w1 (fun i => i = g)) := hF1
    have hs1 : w1.heap.size = w.heap.size := by rw [← hw1]; simp [World.setCell]
    have HQ1 : Hid (RefAt base w1 G (.pointer (some ⟨dg, 0, none⟩)) N F L) := HQ.out.keep hF1 (fun i hi e => hdis g HP.out.gg (e ▸ hi))
    clear hP1 hF1 hw1 hE HE1 q0 q1 q2 q3 q4 q5 qf c0 c1 c2 c3 c4 c5 c6 c7 cf
    go_wp2_with fail
    go_loopw [5] (fun ix wr => ∃ (m : Nat) (G' : Nat → Prop) (L' : List EV), m ≤ 16 ∧ ix = .int .i64 m ∧ Hid (WMid base w1 wr G G' (.pointer (some ⟨dg, 0, none⟩)) N F L S f.b m L')) (fun ix _ => 16 - (intOf ix).toNat)
    case atStart => exact ⟨0, G, L, by omega, rfl, ⟨HQ1.out, Fr.refl _ _, fun i hi => Or.inl hi, (putN_zero _ _ _).symm, Nat.le_refl _⟩⟩
    case round =>
      obtain ⟨m, G', L', hm, rfl, HM⟩ := hrel
      have hPr := HP1.out.keep HM.out.f (fun i hi hg => hdis i hi hg)
      obtain ⟨gl2, cap2, hv2, _, _, _, hcl2⟩ := hPr.frame (k := i) hi
      obtain ⟨rfl, rfl⟩ : gl = gl2 ∧ cap = cap2 := by
        have e2 : (Value.slice (some ⟨gl, 0, none⟩) R.l.length cap) = .slice (some ⟨gl2, 0, none⟩) R.l.length cap2 := hv2
        injection e2 with h1 h2 h3
        injection h1 with h1
        injection h1 with h1
        exact ⟨h1, h3⟩
      have hck : Cells6R wr gl i f := by have := hcl2 i hi; rwa [show ({ R with early := E } : RPS).l[i] = f from HF.out] at this
      have c0 : wr.cell? ⟨g, 0, none⟩ = some (.pointer (some ⟨dg, 0, none⟩)) := hPr.cells.c0
      have c1 : wr.cell? ⟨g, 1, none⟩ = some (.int .i64 R.first) := hPr.cells.c1
      obtain ⟨q0, _, q2, _, q4, _, qf⟩ := hck
      rw [hfv] at q4
      have HBy : Hid (Bytes wr (.slice (some af) 2048 bcap) f.b) := by
        have := (hPr.hb _ (List.getElem_mem hi)).toBytes
        rw [show ({ R with early := E } : RPS).l[i] = f from HF.out, hfv] at this
        exact this
      have hdj : ∀ i, H i → ¬ G' i := fun i hi hg => by
        rcases HM.out.o i hg with h | h
        · exact hdis i hi h
        · have := (HP.out.lo i hi).2; omega
      have hngB : ¬ G' gl := hdj gl hHgl
      have hngg : ¬ G' g := hdj g HP.out.gg
      clear hcl2 hv2
      by_cases hlt : m < 16
      · have HW : Hid (∀ vb lo hi, lo = 128 * m → hi = lo + 128 → ∀ x, x = S + m → ∀ wx, (wx = wr ∨ wx = wr.drew) → Bytes wr vb ((f.b.drop lo).take (hi - lo)) → Calls Try.prog 54 #[.pointer (some ⟨dg, 0, none⟩), .int .i64 x, vb] wx fun e w' => e = .returned (.int .i64 0) ∧ ∃ G2 L2, Hid (WMid base w1 w' G G2 (.pointer (some ⟨dg, 0, none⟩)) N F L S f.b (m + 1) L2) ∧ Fr wr w' G') := fun vb lo hi hlo hhi x hx wx hwx hB => wmid_step HM.out hlt (by omega) hbl hcnt vb lo hi hlo hhi x hx wx hwx hB
        clear hPr
        have Hbl : Hid (f.b.length = 2048) := hbl
        clear hbl
        obtain ⟨lo, hlo⟩ : ∃ lo : Nat, 128 * (m : Int) = (lo : Int) := ⟨128 * m, by omega⟩
        obtain ⟨hh, hhi⟩ : ∃ hi : Nat, (lo : Int) + 128 = (hi : Int) := ⟨lo + 128, by omega⟩
        have hcap' : ¬ ((bcap : Int) = ((lo : Nat) : Int)) := by omega
        have hcapN : ¬ (bcap = lo) := by omega
        have hw1 : IntKind.i64.wrap (128 * (m : Int)) = lo := by rw [IntKind.wrap_i64]; omega
        have hw2 : IntKind.i64.wrap ((lo : Int) + 128) = hh := by rw [IntKind.wrap_i64]; omega
        have hw3 : IntKind.i64.wrap (16 * f.page) = 16 * f.page := by rw [IntKind.wrap_i64]; omega
        have hw4 : IntKind.i64.wrap (R.first + 16 * f.page) = S := by rw [IntKind.wrap_i64]; omega
        have hw5 : IntKind.i64.wrap (S + (m : Int)) = S + m := by rw [IntKind.wrap_i64]; omega
        have hw6 : IntKind.i64.wrap (lo : Int) = lo := by rw [IntKind.wrap_i64]; omega
        have hw7 : IntKind.i64.wrap S = S := by rw [IntKind.wrap_i64]; omega
        have hw8 : IntKind.i64.wrap (hh : Int) = hh := by rw [IntKind.wrap_i64]; omega
        have hll : lo ≤ hh := by omega
        have hhc : hh ≤ bcap := by omega
        go_wp2_with fail
        go_region_held_law (fun w' => w'.cell? ⟨g, 0, none⟩ = some (.pointer (some ⟨dg, 0, none⟩)) ∧ w'.cell? ⟨g, 1, none⟩ = some (.int .i64 R.first) ∧ w'.cell? ⟨gl, i * 6, none⟩ = some (.int .i64 f.page) ∧ w'.cell? ⟨gl, i * 6 + 4, none⟩ = some (.slice (some af) 2048 bcap)) (first | exact ⟨c0, c1, q0, q4⟩ | exact ⟨fr_cell hf2 hngg c0, fr_cell hf2 hngg c1, fr_cell hf2 hngB q0, fr_cell hf2 hngB q4⟩)
          (first
            | (go_at_call 54; refine (HW.out _ lo hh (by omega) (by omega) _ (by omega) _ (by first | exact Or.inl rfl | exact Or.inr rfl) (HBy.out.part Hbl.out (by omega) (by omega) (Or.inl rfl))).mono ?_; rintro e w2 ⟨rfl, G2, L2, hm2, hf2⟩))
        go_wp2
        go_roundw
        case rel => exact ⟨m + 1, G2, L2, by omega, by first | go_num | (congr 1; omega), hm2⟩
        case measure => simp [intOf]; omega
      · obtain rfl : m = 16 := by omega
        have HPr : Hid (RPIn base wr H g (.pointer (some ⟨dg, 0, none⟩)) (.slice (some ⟨gl, 0, none⟩) R.l.length cap) (({ R with early := E } : RPS).at_ i f)) := by
          have e3 : ({ R with early := E } : RPS).at_ i f = { R with early := E } := by rw [← HF.out]; exact RPS.at_self (({ R with early := E } : RPS)) hi
          rw [e3]; exact hPr
        clear hPr
        go_wp2
        obtain ⟨hP4, hF4⟩ := RPIn.setK (R := { R with early := E }) (k := i) HPr.out hi 2 (by omega) (.bool false) rfl { f with dirty := false } rfl (Or.inl ⟨rfl, rfl⟩)
        refine bodyPost_end (v := .tuple #[]) (by simp [results, Try.results42, go_sem]) rfl ⟨rfl, .mk E G' L' hP4 ?_ (by rw [hS]; exact HM.out.rd) HM.out.len ?_ (fun i hi => ?_)⟩
        · exact HM.out.d.keep hF4 (fun i hi e => hngB (e ▸ hi))
        · refine ((HF1.out.mono (G := fun i => H i ∨ G i) (fun i hi => Or.inl (hi ▸ HP.out.gg))).trans (HM.out.f.mono (fun i hi => Or.inr hi)) (fun i hi => Or.inl hi)).trans (hF4.mono (G := fun i => H i ∨ G i) (fun i hi => Or.inl (hi ▸ hHgl))) (fun i hi => Or.inl hi)
        · rcases HM.out.o i hi with h | h
          · exact Or.inl h
          · right; omega
end Go.Proofs.Ytpmbpadckbkglaa

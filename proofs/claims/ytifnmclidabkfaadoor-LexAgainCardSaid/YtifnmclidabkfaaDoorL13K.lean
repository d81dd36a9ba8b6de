/- The program's next. -/
import Derived.Test.YtifnmclidabkfaaDoorL13H
import Derived.Test.YtifnmclidabkfaaDoorL13I
import Derived.Test.YtifnmclidabkfaaDoorL13J
namespace Go.Proofs.YtifnmclidabkfaaDoor
open Go.RowKit
set_option linter.unusedVariables false
set_option linter.unusedSimpArgs false

theorem stp_parts {s : ByteArray} {p : Nat} (hp : p < s.size) (hb : blN (rest s p) = 0) : stp (rest s p) = if isLt s[p] then wdS (rest s p) else if isDg s[p] then nmS (rest s p) else if s[p] == 39 then txS (rest s (p + 1)) else sgS (rest s p) := by
  have e := rest_at s hp
  unfold stp
  rw [hb, if_neg (by omega)]
  generalize rest s p = L at *
  subst e
  rfl
theorem wd_kv {r : List UInt8} {k : Int} {t : List UInt8} {v : Int} {n : Nat} (h : wdS r = .tk k t v n) : k = 0 ∧ v = 0 := by
  unfold wdS at h
  split at h
  · cases h
  · injection h with h1 h2 h3 h4
    exact ⟨h1.symm, h3.symm⟩
theorem nm_kv {r : List UInt8} {k : Int} {t : List UInt8} {v : Int} {n : Nat} (h : nmS r = .tk k t v n) : k = 1 ∧ t = [] := by
  unfold nmS at h
  split at h
  · cases h
  · split at h
    · cases h
    · injection h with h1 h2 h3 h4
      exact ⟨h1.symm, h2.symm⟩
theorem tx_kv {r : List UInt8} {k : Int} {t : List UInt8} {v : Int} {n : Nat} (h : txS r = .tk k t v n) : k = 2 ∧ v = 0 := by
  unfold txS at h
  split at h
  · cases h
  · split at h
    · split at h
      · cases h
      · injection h with h1 h2 h3 h4
        exact ⟨h1.symm, h3.symm⟩
    · cases h
theorem sg_kv {r : List UInt8} {k : Int} {t : List UInt8} {v : Int} {n : Nat} (h : sgS r = .tk k t v n) : k = 3 ∧ v = 0 := by
  unfold sgS at h
  split at h
  · cases h
  · injection h with h1 h2 h3 h4
    exact ⟨h1.symm, h3.symm⟩
/-- What next comes to. -/
inductive NxTo (w : World) (b : Nat) (s : ByteArray) (p : Nat) (e : Ending) (w' : World) : Prop
  | tk (k : Int) (t : List UInt8) (v : Int) (n : Nat) (ho : stp (rest s p) = .tk k t v n) (he : e = .returned (.tuple #[.agg #[.int .i64 k, .string ⟨t.toArray⟩, .int .i64 v, .int .i64 p], .string ⟨#[48, 48, 48, 48, 48]⟩])) (sc : Sc w' b s (p + n)) (fr : Fr w w' (fun i => i = b))
  | no (er : Nat) (k : Int) (t : ByteArray) (v : Int) (ho : stp (rest s p) = .no er) (he : e = .returned (.tuple #[.agg #[.int .i64 k, .string t, .int .i64 v, .int .i64 p], .string (stB er)])) (q : Nat) (sc : Sc w' b s q) (fr : Fr w w' (fun i => i = b))
/-- A token's box. -/
def Bx4 (w : World) (g : Nat) (c0 c1 c2 c3 : Value) : Prop := w.heap[g]? = some (.cells #[c0, c1, c2, c3] 30 (0, 0))
structure Bx4C (w : World) (g : Nat) (c0 c1 c2 c3 : Value) : Prop where
  d0 : w.cell? ⟨g, 0, none⟩ = some c0
  d1 : w.cell? ⟨g, 1, none⟩ = some c1
  d2 : w.cell? ⟨g, 2, none⟩ = some c2
  d3 : w.cell? ⟨g, 3, none⟩ = some c3
  f0 : w.frozen? ⟨g, 0, none⟩ = false
  f1 : w.frozen? ⟨g, 1, none⟩ = false
  f2 : w.frozen? ⟨g, 2, none⟩ = false
  f3 : w.frozen? ⟨g, 3, none⟩ = false
theorem Bx4.c {w : World} {g : Nat} {c0 c1 c2 c3 : Value} (h : Bx4 w g c0 c1 c2 c3) : Bx4C w g c0 c1 c2 c3 :=
  ⟨by rw [cell_of_row w g 0 _ _ _ h]; rfl, by rw [cell_of_row w g 1 _ _ _ h]; rfl, by rw [cell_of_row w g 2 _ _ _ h]; rfl, by rw [cell_of_row w g 3 _ _ _ h]; rfl, frozen_row h 0, frozen_row h 1, frozen_row h 2, frozen_row h 3⟩
theorem Bx4.keep {w w' : World} {g : Nat} {c0 c1 c2 c3 : Value} {F : Nat → Prop} (h : Bx4 w g c0 c1 c2 c3) (hf : Fr w w' F) (hF : ¬ F g) : Bx4 w' g c0 c1 c2 c3 := (hf.block g (Array.getElem?_eq_some_iff.1 h).1 hF).trans h
theorem fr_last {w W2 Wf : World} {b : Nat} (hf : Fr w W2 (fun i => i = b)) (hb : Below w.heap.size W2 Wf) : Fr w Wf (fun i => i = b) :=
  ⟨hb.os.trans hf.os, hb.tape.trans hf.tape, hb.output.trans hf.output, Nat.le_trans hf.size hb.size, fun k hk hn => (hb.block k hk).trans (hf.block k hk hn)⟩
theorem sc_last {w W2 Wf : World} {b : Nat} {s : ByteArray} {q : Nat} (hs : Sc W2 b s q) (hb : Below w.heap.size W2 Wf) (hlb : b < w.heap.size) : Sc Wf b s q := ⟨(hb.block b hlb).trans hs.hh, hs.le⟩
theorem five_sets {w W : World} {B T : Nat} (hB : w.heap.size ≤ B) (hT : w.heap.size ≤ T) (o : Nat) (x y0 y1 y2 y3 : Value) : Below w.heap.size W (((((W.setCell ⟨T, o, none⟩ x).setCell ⟨B, 0, none⟩ y0).setCell ⟨B, 1, none⟩ y1).setCell ⟨B, 2, none⟩ y2).setCell ⟨B, 3, none⟩ y3) :=
  (((((Below.refl _ _).setCell (p := ⟨T, o, none⟩) hT _).setCell (p := ⟨B, 0, none⟩) hB _).setCell (p := ⟨B, 1, none⟩) hB _).setCell (p := ⟨B, 2, none⟩) hB _).setCell (p := ⟨B, 3, none⟩) hB _

/-- Where next stands ahead of one of its parts: a box for the answer, and the token's. -/
structure NxW (w W : World) (b : Nat) (s : ByteArray) (p : Nat) (k : Int) : Prop where
  sc : Sc W b s p
  bz : Bx4 W w.heap.size (.int .i64 0) (.string ⟨#[]⟩) (.int .i64 0) (.int .i64 0)
  bt : Bx4 W (w.heap.size + 1) (.int .i64 k) (.string ⟨#[]⟩) (.int .i64 0) (.int .i64 p)
  fr : Fr w W (fun i => i = b)
theorem NxW.first {w : World} {b : Nat} {s : ByteArray} {p : Nat} (h : Sc w b s p) : NxW w ((w.alloc (.cells #[.int .i64 0, .string ⟨#[]⟩, .int .i64 0, .int .i64 0] 30)).alloc (.cells #[.int .i64 0, .string ⟨#[]⟩, .int .i64 0, .int .i64 p] 30)) b s p 0 := by
  have hb1 : Below w.heap.size w (w.alloc (.cells #[.int .i64 0, .string ⟨#[]⟩, .int .i64 0, .int .i64 0] 30)) := (Below.refl _ _).alloc (Nat.le_refl _) _
  have hsz : (w.alloc (.cells #[.int .i64 0, .string ⟨#[]⟩, .int .i64 0, .int .i64 0] 30)).heap.size = w.heap.size + 1 := by simp
  have hn0 := heap_alloc_new w (.cells #[.int .i64 0, .string ⟨#[]⟩, .int .i64 0, .int .i64 0] 30)
  generalize w.alloc (.cells #[.int .i64 0, .string ⟨#[]⟩, .int .i64 0, .int .i64 0] 30) = w1 at *
  have hb2 : Below w1.heap.size w1 (w1.alloc (.cells #[.int .i64 0, .string ⟨#[]⟩, .int .i64 0, .int .i64 p] 30)) := (Below.refl _ _).alloc (Nat.le_refl _) _
  have hn1 := heap_alloc_new w1 (.cells #[.int .i64 0, .string ⟨#[]⟩, .int .i64 0, .int .i64 p] 30)
  rw [hsz] at hn1
  exact ⟨(h.keepB hb1).keepB hb2, (hb2.block _ (by omega)).trans hn0, hn1, Fr.of_below (hb1.trans (hb2.mono (by omega)))⟩
theorem NxW.keepB {w W W' : World} {b : Nat} {s : ByteArray} {p : Nat} {k : Int} (h : NxW w W b s p k) (hb : Below W.heap.size W W') : NxW w W' b s p k :=
  ⟨h.sc.keepB hb, h.bz.keep (Fr.of_below (F := fun _ => False) hb) (fun e => e), h.bt.keep (Fr.of_below (F := fun _ => False) hb) (fun e => e), h.fr.trans (Fr.of_below (F := fun _ => False) hb) (fun i hi => hi.elim)⟩
theorem NxW.kind {w W : World} {b : Nat} {s : ByteArray} {p : Nat} {k : Int} (h : NxW w W b s p k) (k' : Int) : NxW w (W.setCell ⟨w.heap.size + 1, 0, none⟩ (.int .i64 k')) b s p k' := by
  have hlb : b < W.heap.size := h.sc.lt
  have hf := fr_set W (w.heap.size + 1) 0 (.int .i64 k')
  have hbn : b ≠ w.heap.size + 1 := fun e => by
    have h1 := h.sc.hh
    have h2 := h.bt
    unfold Bx4 at h2
    rw [e] at h1
    rw [h1] at h2
    simp at h2
  refine ⟨h.sc.keep hf (fun e => hbn e), h.bz.keep hf (fun e => by omega), ?_, h.fr.trans hf (fun i hi => Or.inr (by omega))⟩
  unfold Bx4
  rw [heap_setCell_same W (w.heap.size + 1) 0 _ _ _ h.bt]
  rfl
theorem NxW.lib {w W : World} {b : Nat} {s : ByteArray} {p : Nat} {k : Int} {a : Addr} (h : NxW w W b s p k) (hs : Sc w b s p) (hL : LibW a w) : LibW a W := hL.keepS hs h.fr
theorem NxW.after {w W W' : World} {b : Nat} {s : ByteArray} {p : Nat} {k : Int} (h : NxW w W b s p k) (hf : Fr W W' (fun i => i = b)) (hlb : b < w.heap.size) : Bx4C W' w.heap.size (.int .i64 0) (.string ⟨#[]⟩) (.int .i64 0) (.int .i64 0) ∧ Bx4C W' (w.heap.size + 1) (.int .i64 k) (.string ⟨#[]⟩) (.int .i64 0) (.int .i64 p) ∧ Fr w W' (fun i => i = b) :=
  ⟨(h.bz.keep hf (fun e => by omega)).c, (h.bt.keep hf (fun e => by omega)).c, h.fr.trans hf (fun i hi => Or.inl hi)⟩
set_option maxHeartbeats 4000000 in
set_option maxRecDepth 100000 in
theorem next_any {a : Addr} {w : World} {b : Nat} {s : ByteArray} {p : Nat} (h : Sc w b s p) (hL : LibW a w) (hs : s.size ≤ 10000) (hp : p < s.size) (hb0 : blN (rest s p) = 0) : Calls Tryd.prog 11 #[.pointer (some ⟨b, 0, none⟩)] w fun e w' => NxTo w b s p e w' := by
  have HST := Go.Proofs.YtifnmclidabkfaaDoor.Hid.mk' (stp_parts hp hb0)
  have HS0 := Go.Proofs.YtifnmclidabkfaaDoor.Hid.mk' h
  have HL0 := Go.Proofs.YtifnmclidabkfaaDoor.Hid.mk' hL
  have HN0 := Go.Proofs.YtifnmclidabkfaaDoor.Hid.mk' (NxW.first h)
  have c1w := h.c1
  have hlb := h.lt
  have d1w : (w.alloc (.cells #[.int .i64 0, .string ⟨#[]⟩, .int .i64 0, .int .i64 0] 30)).cell? ⟨b, 1, none⟩ = some (.int .i64 p) := (((Below.refl _ _).alloc (Nat.le_refl _) _).cell (show b < w.heap.size from hlb)).trans c1w
  clear h hL hb0
  go_enter Tryd.func11, Tryd.ntmps11
  go_wp2_with fail
  clear c1w d1w
  generalize ((w.alloc (.cells #[.int .i64 0, .string ⟨#[]⟩, .int .i64 0, .int .i64 0] 30)).alloc (.cells #[.int .i64 0, .string ⟨#[]⟩, .int .i64 0, .int .i64 p] 30)) = w1 at *
  have c0 := HN0.out.sc.c0
  have c1 := HN0.out.sc.c1
  have hp1 : (p : Int) < (s.size : Int) := by omega
  go_quiet (fail)
  rename Nat => nq
  have HN1 : Hid (NxW w (w1.drewN nq) b s p 0) := HN0.out.keepB ⟨rfl, rfl, rfl, Nat.le_refl _, fun _ _ => rfl⟩
  generalize w1.drewN nq = w2 at *
  clear HN0 c0 c1
  have hle := isLetter_any (s[p].toNat : Int)
  rw [ltI_of] at hle
  have hdi := isDigit_any (s[p].toNat : Int)
  rw [dgI_of] at hdi
  cases h1 : isLt s[p] with
  | true =>
    rw [h1] at hle
    have HO : Hid (stp (rest s p) = wdS (rest s p)) := by show _ = _; rw [HST.out, h1]; rfl
    go_wp2_with fail
    refine (hle _).mono ?_
    rintro e wx ⟨rfl, hwx⟩
    obtain rfl := hwx.symm
    clear hle hdi
    have HN2 := Go.Proofs.YtifnmclidabkfaaDoor.Hid.mk' (HN1.out.kind 0)
    have tf := HN1.out.bt.c.f0
    have td := HN1.out.bt.c.d0
    clear HN1
    go_wp2_with fail
    have HN3 : Hid (NxW w (w2.setCell ⟨w.heap.size + 1, 0, none⟩ (.int .i64 0)) b s p 0) := HN2
    clear HN2 tf td
    generalize w2.setCell ⟨w.heap.size + 1, 0, none⟩ (.int .i64 0) = w3 at *
    refine (word_any HN3.out.sc hs hp h1).mono ?_
    intro e w4 hW
    rcases hW with ⟨k, t, v, n, ho, rfl, hsc, hfr⟩ | ⟨er, ho, rfl, q, hsc, hfr⟩
    · obtain ⟨rfl, rfl⟩ := wd_kv ho
      obtain ⟨⟨z0, z1, z2, z3, zf0, zf1, zf2, zf3⟩, ⟨t0, t1, t2, t3, tf0, tf1, tf2, tf3⟩, hF⟩ := HN3.out.after hfr hlb
      have HG : Hid (∀ Wf, Below w.heap.size w4 Wf → NxTo w b s p (.returned (.tuple #[.agg #[.int .i64 0, .string ⟨t.toArray⟩, .int .i64 0, .int .i64 p], .string ⟨#[48, 48, 48, 48, 48]⟩])) Wf) := fun Wf hb => .tk _ _ _ _ (HO.out.trans ho) rfl (sc_last hsc hb hlb) (fr_last hF hb)
      clear HN3 HO ho hsc hfr hF HST HS0 HL0
      go_wp2_with fail
      refine bodyPost_ret (v := .tuple #[.agg #[.int .i64 0, .string ⟨t.toArray⟩, .int .i64 0, .int .i64 p], .string ⟨#[48, 48, 48, 48, 48]⟩]) ?_ rfl (HG.out _ (five_sets (Nat.le_refl _) (Nat.le_succ _) _ _ _ _ _ _))
      simp [results, Tryd.results11, go_sem, z0, z1, z2, z3]
    · obtain ⟨⟨z0, z1, z2, z3, zf0, zf1, zf2, zf3⟩, ⟨t0, t1, t2, t3, tf0, tf1, tf2, tf3⟩, hF⟩ := HN3.out.after hfr hlb
      have HG : Hid (∀ Wf, Below w.heap.size w4 Wf → NxTo w b s p (.returned (.tuple #[.agg #[.int .i64 0, .string ⟨#[]⟩, .int .i64 0, .int .i64 p], .string (stB er)])) Wf) := fun Wf hb => .no er _ _ _ (HO.out.trans ho) rfl q (sc_last hsc hb hlb) (fr_last hF hb)
      clear HN3 HO ho hsc hfr hF HST HS0 HL0
      generalize stB er = sb at *
      go_wp2_with fail
      refine bodyPost_ret (v := .tuple #[.agg #[.int .i64 0, .string ⟨#[]⟩, .int .i64 0, .int .i64 p], .string sb]) ?_ rfl (HG.out _ (five_sets (Nat.le_refl _) (Nat.le_succ _) _ _ _ _ _ _))
      simp [results, Tryd.results11, go_sem, z0, z1, z2, z3]
  | false =>
    rw [h1] at hle
    cases h2 : isDg s[p] with
    | true =>
      rw [h2] at hdi
      have HO : Hid (stp (rest s p) = nmS (rest s p)) := by show _ = _; rw [HST.out, h1, h2]; rfl
      go_wp2_with fail
      refine (hle _).mono ?_
      rintro e wx ⟨rfl, hwx⟩
      obtain rfl := hwx.symm
      go_wp2_with fail
      refine (hdi _).mono ?_
      rintro e wx ⟨rfl, hwx⟩
      obtain rfl := hwx.symm
      clear hle hdi
      have HN2 := Go.Proofs.YtifnmclidabkfaaDoor.Hid.mk' (HN1.out.kind 1)
      have tf := HN1.out.bt.c.f0
      have td := HN1.out.bt.c.d0
      clear HN1
      go_wp2_with fail
      have HN3 : Hid (NxW w (w2.setCell ⟨w.heap.size + 1, 0, none⟩ (.int .i64 1)) b s p 1) := HN2
      clear HN2 tf td
      generalize w2.setCell ⟨w.heap.size + 1, 0, none⟩ (.int .i64 1) = w3 at *
      refine (snumber_any HN3.out.sc (HN3.out.lib HS0.out HL0.out) hs hp h2).mono ?_
      intro e w4 hW
      rcases hW with ⟨k, t, v, n, ho, ht, rfl, hsc, hfr⟩ | ⟨er, ho, rfl, q, hsc, hfr⟩
      · obtain ⟨rfl, rfl⟩ := nm_kv ho
        obtain ⟨⟨z0, z1, z2, z3, zf0, zf1, zf2, zf3⟩, ⟨t0, t1, t2, t3, tf0, tf1, tf2, tf3⟩, hF⟩ := HN3.out.after hfr hlb
        have HG : Hid (∀ Wf, Below w.heap.size w4 Wf → NxTo w b s p (.returned (.tuple #[.agg #[.int .i64 1, .string ⟨#[]⟩, .int .i64 v, .int .i64 p], .string ⟨#[48, 48, 48, 48, 48]⟩])) Wf) := fun Wf hb => .tk _ _ _ _ (HO.out.trans ho) rfl (sc_last hsc hb hlb) (fr_last hF hb)
        clear HN3 HO ho hsc hfr hF HST HS0 HL0 ht
        go_wp2_with fail
        refine bodyPost_ret (v := .tuple #[.agg #[.int .i64 1, .string ⟨#[]⟩, .int .i64 v, .int .i64 p], .string ⟨#[48, 48, 48, 48, 48]⟩]) ?_ rfl (HG.out _ (five_sets (Nat.le_refl _) (Nat.le_succ _) _ _ _ _ _ _))
        simp [results, Tryd.results11, go_sem, z0, z1, z2, z3]
      · obtain ⟨⟨z0, z1, z2, z3, zf0, zf1, zf2, zf3⟩, ⟨t0, t1, t2, t3, tf0, tf1, tf2, tf3⟩, hF⟩ := HN3.out.after hfr hlb
        have HG : Hid (∀ Wf, Below w.heap.size w4 Wf → NxTo w b s p (.returned (.tuple #[.agg #[.int .i64 1, .string ⟨#[]⟩, .int .i64 0, .int .i64 p], .string (stB er)])) Wf) := fun Wf hb => .no er _ _ _ (HO.out.trans ho) rfl q (sc_last hsc hb hlb) (fr_last hF hb)
        clear HN3 HO ho hsc hfr hF HST HS0 HL0
        generalize stB er = sb at *
        go_wp2_with fail
        refine bodyPost_ret (v := .tuple #[.agg #[.int .i64 1, .string ⟨#[]⟩, .int .i64 0, .int .i64 p], .string sb]) ?_ rfl (HG.out _ (five_sets (Nat.le_refl _) (Nat.le_succ _) _ _ _ _ _ _))
        simp [results, Tryd.results11, go_sem, z0, z1, z2, z3]
    | false =>
      rw [h2] at hdi
      by_cases h3 : s[p] = 39
      · have H3 : Hid ((s[p].toNat : Int) = 39) := by show _ = _; rw [h3]; rfl
        have HO : Hid (stp (rest s p) = txS (rest s (p + 1))) := by show _ = _; rw [HST.out, h1, h2, h3]; rfl
        clear h3
        go_wp2_with fail
        refine (hle _).mono ?_
        rintro e wx ⟨rfl, hwx⟩
        obtain rfl := hwx.symm
        go_wp2_with fail
        refine (hdi _).mono ?_
        rintro e wx ⟨rfl, hwx⟩
        obtain rfl := hwx.symm
        clear hle hdi
        have h3' := H3.out
        clear H3
        have HN2 := Go.Proofs.YtifnmclidabkfaaDoor.Hid.mk' (HN1.out.kind 2)
        have tf := HN1.out.bt.c.f0
        have td := HN1.out.bt.c.d0
        clear HN1
        go_wp2_with fail
        have HN3 : Hid (NxW w (w2.setCell ⟨w.heap.size + 1, 0, none⟩ (.int .i64 2)) b s p 2) := HN2
        clear HN2 tf td
        generalize w2.setCell ⟨w.heap.size + 1, 0, none⟩ (.int .i64 2) = w3 at *
        refine (quoted_any HN3.out.sc hs hp).mono ?_
        intro e w4 hW
        rcases hW with ⟨k, t, v, n, ho, rfl, hsc, hfr⟩ | ⟨er, ho, rfl, q, hsc, hfr⟩
        · obtain ⟨rfl, rfl⟩ := tx_kv ho
          obtain ⟨⟨z0, z1, z2, z3, zf0, zf1, zf2, zf3⟩, ⟨t0, t1, t2, t3, tf0, tf1, tf2, tf3⟩, hF⟩ := HN3.out.after hfr hlb
          have HG : Hid (∀ Wf, Below w.heap.size w4 Wf → NxTo w b s p (.returned (.tuple #[.agg #[.int .i64 2, .string ⟨t.toArray⟩, .int .i64 0, .int .i64 p], .string ⟨#[48, 48, 48, 48, 48]⟩])) Wf) := fun Wf hb => .tk _ _ _ _ (HO.out.trans ho) rfl (sc_last hsc hb hlb) (fr_last hF hb)
          clear HN3 HO ho hsc hfr hF HST HS0 HL0
          go_wp2_with fail
          refine bodyPost_ret (v := .tuple #[.agg #[.int .i64 2, .string ⟨t.toArray⟩, .int .i64 0, .int .i64 p], .string ⟨#[48, 48, 48, 48, 48]⟩]) ?_ rfl (HG.out _ (five_sets (Nat.le_refl _) (Nat.le_succ _) _ _ _ _ _ _))
          simp [results, Tryd.results11, go_sem, z0, z1, z2, z3]
        · obtain ⟨⟨z0, z1, z2, z3, zf0, zf1, zf2, zf3⟩, ⟨t0, t1, t2, t3, tf0, tf1, tf2, tf3⟩, hF⟩ := HN3.out.after hfr hlb
          have HG : Hid (∀ Wf, Below w.heap.size w4 Wf → NxTo w b s p (.returned (.tuple #[.agg #[.int .i64 2, .string ⟨#[]⟩, .int .i64 0, .int .i64 p], .string (stB er)])) Wf) := fun Wf hb => .no er _ _ _ (HO.out.trans ho) rfl q (sc_last hsc hb hlb) (fr_last hF hb)
          clear HN3 HO ho hsc hfr hF HST HS0 HL0
          generalize stB er = sb at *
          go_wp2_with fail
          refine bodyPost_ret (v := .tuple #[.agg #[.int .i64 2, .string ⟨#[]⟩, .int .i64 0, .int .i64 p], .string sb]) ?_ rfl (HG.out _ (five_sets (Nat.le_refl _) (Nat.le_succ _) _ _ _ _ _ _))
          simp [results, Tryd.results11, go_sem, z0, z1, z2, z3]
      · have H3 : Hid (¬ (s[p].toNat : Int) = 39) := fun e => h3 ((u8_eq (n := 39) (by omega)).1 e)
        have HO : Hid (stp (rest s p) = sgS (rest s p)) := by show _ = _; rw [HST.out, h1, h2, if_neg (by simp), if_neg (by simp), if_neg (by simpa using h3)]
        clear h3
        go_wp2_with fail
        refine (hle _).mono ?_
        rintro e wx ⟨rfl, hwx⟩
        obtain rfl := hwx.symm
        go_wp2_with fail
        refine (hdi _).mono ?_
        rintro e wx ⟨rfl, hwx⟩
        obtain rfl := hwx.symm
        clear hle hdi
        have h3' := H3.out
        have h3b : ((s[p].toNat : Int) == 39) = false := by simpa using h3'
        clear H3
        have HN2 := Go.Proofs.YtifnmclidabkfaaDoor.Hid.mk' (HN1.out.kind 3)
        have tf := HN1.out.bt.c.f0
        have td := HN1.out.bt.c.d0
        clear HN1
        go_wp2_with fail
        have HN3 : Hid (NxW w (w2.setCell ⟨w.heap.size + 1, 0, none⟩ (.int .i64 3)) b s p 3) := HN2
        clear HN2 tf td
        generalize w2.setCell ⟨w.heap.size + 1, 0, none⟩ (.int .i64 3) = w3 at *
        refine (ssign_any HN3.out.sc (HN3.out.lib HS0.out HL0.out) hs hp).mono ?_
        intro e w4 hW
        rcases hW with ⟨k, t, v, n, ho, rfl, hsc, hfr⟩ | ⟨er, ho, rfl, q, hsc, hfr⟩
        · obtain ⟨rfl, rfl⟩ := sg_kv ho
          obtain ⟨⟨z0, z1, z2, z3, zf0, zf1, zf2, zf3⟩, ⟨t0, t1, t2, t3, tf0, tf1, tf2, tf3⟩, hF⟩ := HN3.out.after hfr hlb
          have HG : Hid (∀ Wf, Below w.heap.size w4 Wf → NxTo w b s p (.returned (.tuple #[.agg #[.int .i64 3, .string ⟨t.toArray⟩, .int .i64 0, .int .i64 p], .string ⟨#[48, 48, 48, 48, 48]⟩])) Wf) := fun Wf hb => .tk _ _ _ _ (HO.out.trans ho) rfl (sc_last hsc hb hlb) (fr_last hF hb)
          clear HN3 HO ho hsc hfr hF HST HS0 HL0
          go_wp2_with fail
          refine bodyPost_ret (v := .tuple #[.agg #[.int .i64 3, .string ⟨t.toArray⟩, .int .i64 0, .int .i64 p], .string ⟨#[48, 48, 48, 48, 48]⟩]) ?_ rfl (HG.out _ (five_sets (Nat.le_refl _) (Nat.le_succ _) _ _ _ _ _ _))
          simp [results, Tryd.results11, go_sem, z0, z1, z2, z3]
        · obtain ⟨⟨z0, z1, z2, z3, zf0, zf1, zf2, zf3⟩, ⟨t0, t1, t2, t3, tf0, tf1, tf2, tf3⟩, hF⟩ := HN3.out.after hfr hlb
          have HG : Hid (∀ Wf, Below w.heap.size w4 Wf → NxTo w b s p (.returned (.tuple #[.agg #[.int .i64 3, .string ⟨#[]⟩, .int .i64 0, .int .i64 p], .string (stB er)])) Wf) := fun Wf hb => .no er _ _ _ (HO.out.trans ho) rfl q (sc_last hsc hb hlb) (fr_last hF hb)
          clear HN3 HO ho hsc hfr hF HST HS0 HL0
          generalize stB er = sb at *
          go_wp2_with fail
          refine bodyPost_ret (v := .tuple #[.agg #[.int .i64 3, .string ⟨#[]⟩, .int .i64 0, .int .i64 p], .string sb]) ?_ rfl (HG.out _ (five_sets (Nat.le_refl _) (Nat.le_succ _) _ _ _ _ _ _))
          simp [results, Tryd.results11, go_sem, z0, z1, z2, z3]
end Go.Proofs.YtifnmclidabkfaaDoor

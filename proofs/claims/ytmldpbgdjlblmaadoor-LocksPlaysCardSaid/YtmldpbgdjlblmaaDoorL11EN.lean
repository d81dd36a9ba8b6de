/- Requests end: endThose, End, EndShort. -/
import Derived.Test.YtmldpbgdjlblmaaDoorL11EA
import Derived.Sort.CutIn
import Derived.Deep.RegionWith
import Derived.Deep.RegionHeld3
namespace Go.Proofs.YtmldpbgdjlblmaaDoor
open Go.RowKit Go.Joins Go.Maps Go.Shelf
set_option linter.unusedVariables false
set_option linter.unusedSimpArgs false
attribute [local go_sem] Oper.semAt_some

/-- Behind the deletion. -/
structure EnC (base : Nat) (w W : World) (t : Nat) (most : Int) (lv : Value) (F : List Rq) : Prop where
  tb : ∃ nv, TOwn base W t most nv F ∧ nv.ownBlock = lv.ownBlock
  bx : W.cell? ⟨w.heap.size, 0, none⟩ = some (.pointer (some ⟨t, 0, none⟩))
  fr : Fr w W (fun b => b = t ∨ lv.ownBlock = some b)
  lib : LibB base W
theorem enc_of {base : Nat} {w w1 w2 : World} {t : Nat} {most : Int} {lv v' : Value} {L F : List Rq} (T1 : TOwn base w1 t most lv L) (hL1 : LibB base w1) (hbw : Below w.heap.size w w1) (hs1 : w1.heap.size = w.heap.size + 1) (k0 : w1.cell? ⟨w.heap.size, 0, none⟩ = some (.pointer (some ⟨t, 0, none⟩))) (hrow : ∀ c, lv.ownBlock = some c → c < w.heap.size ∧ base ≤ c) (htw : t < w.heap.size)
    (h1 : OwnQ base w2 v' F) (h2 : v'.ownBlock = lv.ownBlock) (h3 : Fr w1.drew w2 (fun b => lv.ownBlock = some b)) :
    w2.cell? ⟨w.heap.size, 0, none⟩ = some (.pointer (some ⟨t, 0, none⟩)) ∧ w2.cell? ⟨t, 1, none⟩ = some lv ∧ w2.frozen? ⟨t, 1, none⟩ = false ∧ EnC base w (w2.setCell ⟨t, 1, none⟩ v') t most lv F := by
  have htb : w2.heap[t]? = some (.cells #[.int .i64 most, lv] 62 (0, 0)) := (h3.block t (by show t < w1.heap.size; omega) (fun e => T1.ne e)).trans T1.tb
  have hnt : v'.ownBlock ≠ some t := fun e => T1.ne (h2 ▸ e)
  have hk0 : w2.cell? ⟨w.heap.size, 0, none⟩ = some (.pointer (some ⟨t, 0, none⟩)) := fr_cell h3 (fun e => by have := (hrow _ e).1; omega) k0
  have hf2 : Fr w w2 (fun b => b = t ∨ lv.ownBlock = some b) := (Fr.of_below hbw.drew).trans h3 (fun k e => Or.inl (Or.inr e))
  refine ⟨hk0, by rw [cell_of_row w2 t 1 _ _ _ htb]; rfl, frozen_row htb 1, ⟨_, TOwn.push htb h1 hnt T1.lo, h2⟩, ?_, hf2.trans (fr_set w2 t 1 v') (fun k e => Or.inl (Or.inl e)), ?_⟩
  · exact fr_cell (fr_set w2 t 1 v') (by omega) hk0
  · exact ((hL1.keepB (Below.refl _ _).drew).fr h3 (fun k e => (hrow k e).2)).fr (fr_set w2 t 1 v') (fun k e => by rw [e]; exact T1.lo)
set_option maxRecDepth 100000 in
set_option maxHeartbeats 4000000 in
theorem endThose_fn {base : Nat} {w : World} {t : Nat} {most : Int} {lv : Value} {L : List Rq} (h : TOwn base w t most lv L) (hL : LibB base w) (hlen : L.length ≤ 100000) (hlast : LastI L) (p : Rq → Bool) (gp : Nat) (lbp : Array Value) (eg : Enters Tryd.prog gp) (hcall : ∀ W, Fr w W (fun b => b = t ∨ lv.ownBlock = some b) → ∀ r : Rq, Calls Tryd.prog gp (#[r.v] ++ lbp) W fun e W' => e = .returned (.bool (p r)) ∧ Below W.heap.size W W') :
    Calls Tryd.prog 39 #[.pointer (some ⟨t, 0, none⟩), .func (.func gp) #[] lbp] w fun e w' => ∃ ao m cp lv', e = .returned (.slice ao m cp) ∧ w'.ownsRow w.heap.size 3 1 (.slice ao m cp) (wake (L.filter fun r => !p r)).2.length ((wake (L.filter fun r => !p r)).2.map (Value.int .i64)) ∧ TOwn base w' t most lv' (wake (L.filter fun r => !p r)).1 ∧ Fr w w' (fun b => b = t ∨ lv.ownBlock = some b) ∧ lv'.ownBlock = lv.ownBlock := by
  obtain ⟨F, hF⟩ : ∃ F, (L.filter fun r => !p r) = F := ⟨_, rfl⟩
  have hFl : F.length ≤ 100000 := by rw [← hF]; exact Nat.le_trans (List.length_filter_le _ _) hlen
  have hFlast : LastI F := hF ▸ hlast.filter _
  rw [hF]
  refine (callsIn_wide (n := 9)).1 ?_
  refine callsIn_of_wp_marks Tryd.func39 rfl trivial ?_ rfl
  simp only [Tryd.ntmps39, List.size_toArray, List.length_cons, List.length_nil, Nat.reduceAdd, Nat.reduceSub, Array.replicate_succ, Array.replicate_zero, List.push_toArray, List.append_toArray, List.nil_append, List.cons_append]
  have htw : t < w.heap.size := (Array.getElem?_eq_some_iff.1 h.tb).1
  have hrow : ∀ c, lv.ownBlock = some c → c < w.heap.size ∧ base ≤ c := fun c hc => ⟨(h.row.lo c hc).2, (h.row.lo c hc).1⟩
  have hbw : Below w.heap.size w (w.alloc (.cells #[.pointer (some ⟨t, 0, none⟩)] 23)) := (Below.refl _ _).alloc (Nat.le_refl _) _
  have k0 := (cell_new_l w (.pointer (some ⟨t, 0, none⟩)) 23).1
  have T1 := h.keepB hbw
  obtain ⟨ao, cap, hlv, hQ1⟩ := T1.tab
  have c1 := hQ1.l
  have hs1 : (w.alloc (.cells #[.pointer (some ⟨t, 0, none⟩)] 23)).heap.size = w.heap.size + 1 := by simp
  have hL1 := hL.keepB hbw
  have HDL : Hid (Calls Tryd.prog 58 #[lv, .func (.func gp) #[] lbp] (w.alloc (.cells #[.pointer (some ⟨t, 0, none⟩)] 23)).drew fun e w' => ∃ v', e = .returned v' ∧ OwnQ base w' v' F ∧ v'.ownBlock = lv.ownBlock ∧ Fr (w.alloc (.cells #[.pointer (some ⟨t, 0, none⟩)] 23)).drew w' (fun b => lv.ownBlock = some b)) :=
    hF ▸ delete_fn (T1.keepB ((Below.refl _ _).drew)).row hlen p gp lbp eg (fun W hf r => hcall W ((Fr.of_below (hbw.drew)).trans hf (fun k e => Or.inl (Or.inr e))) r)
  generalize hw1 : w.alloc (.cells #[.pointer (some ⟨t, 0, none⟩)] 23) = w1 at *
  gi_wp2_with fail
  clear hw1
  gi_cut [16] from 10 (fun v16 wc => EnC base w wc t most lv F)
  case first =>
    refine wpIn_wide.2 ?_
    refine wp_region_noPanic ?_
    have hdone : ∀ (v' : Value) (w2 : World), OwnQ base w2 v' F → v'.ownBlock = lv.ownBlock → Fr w1.drew w2 (fun b => lv.ownBlock = some b) → w2.cell? ⟨w.heap.size, 0, none⟩ = some (.pointer (some ⟨t, 0, none⟩)) ∧ w2.cell? ⟨t, 1, none⟩ = some lv ∧ w2.frozen? ⟨t, 1, none⟩ = false ∧ EnC base w (w2.setCell ⟨t, 1, none⟩ v') t most lv F := fun v' w2 h1 h2 h3 => enc_of T1 hL1 hbw hs1 k0 hrow htw h1 h2 h3
    have HDN := Hid.mk' hdone
    subst hlv
    clear hcall eg hL hL1 h T1 hQ1 hdone hrow
    go_region_with ((go_at_call 58; refine HDL.out.mono ?_; rintro e w2 ⟨v', rfl, o1, o2, o3⟩; have D2 := HDN.out v' w2 o1 o2 o3; obtain ⟨ao2, cap2, hv2, _, _⟩ := o1.form; subst hv2; obtain ⟨e1, e2, e3, e4⟩ := D2; have HE := Hid.mk' e4; clear o1 o2 o3 e4))
    all_goals (try refine NoPanic.normal ?_)
    all_goals gi_wp2
    all_goals
      gi_meet
      case rel => exact HE.out
  case rest =>
    obtain ⟨⟨nv, T2, hnv⟩, kb, hfr, hLc⟩ := hcut
    have hwlt : w.heap.size < wc.heap.size := World.block_lt_of_cell? wc _ kb
    have hbg : Below wc.heap.size wc (wc.alloc (.cells #[.slice none 0 0] 40)) := (Below.refl _ _).alloc (Nat.le_refl _) _
    have bxg := Boxed.new wc 40 (.slice none 0 0)
    replace kb := cell_keep hbg kb
    have kb' := kb
    generalize hwg : wc.alloc (.cells #[.slice none 0 0] 40) = wg at *
    have hsg : wg.heap.size = wc.heap.size + 1 := by rw [← hwg]; simp
    gi_wp2_with fail
    refine ⟨trivial, (callsIn_wide.2 (those_any _ _ _ _)).mono ?_⟩
    rintro e w3 ⟨rfl, hw3⟩
    obtain ⟨d1, d2, hb3⟩ := box_two wg (.pointer (some ⟨t, 0, none⟩)) (.func (.func 45) #[] #[]) 23 69
    rw [← hw3] at d1 d2 hb3
    have hs3 : w3.heap.size = wg.heap.size + 2 := by rw [hw3]; simp
    have bxg3 : Boxed w3 wc.heap.size 40 (.slice none 0 0) := (hb3.block _ (by omega)).trans bxg
    clear hw3 hwg
    replace kb := cell_keep hb3 kb
    clear kb'
    gi_wp2_with fail
    rw [hsg] at d1 d2
    have hwc : w.heap.size < wc.heap.size := by
      have := World.block_lt_of_cell? w3 _ kb
      have := hfr.size
      have h0 : w.heap.size < wc.heap.size := hwlt
      exact h0
    have T3 := (T2.keepB hbg).keepB hb3
    have hL3 := (hLc.keepB hbg).keepB hb3
    have hnrow : ∀ c, nv.ownBlock = some c → c < w.heap.size ∧ base ≤ c := fun c hc => hrow c (hnv ▸ hc)
    obtain ⟨ao2, cap2, hnvE, hQ3⟩ := T3.tab
    have hkb : ∀ (V : World) (pre : List Nat), EnI base w3 t most nv F wc.heap.size pre V → ∀ b, w.heap.size ≤ b → b < w3.heap.size → b ≠ wc.heap.size → V.heap[b]? = w3.heap[b]? := fun V pre hs b h1 h2 h3 => hs.fr.block b h2 (fun e => e.elim h3 (fun e => by have := (hnrow b e).1; omega))
    have hkL : ∀ (V : World) (pre : List Nat), EnI base w3 t most nv F wc.heap.size pre V → LibB base V := fun V pre hs => hL3.fr hs.fr (fun k e => e.elim (fun e => by have := hLc.le; omega) (fun e => (hnrow k e).2))
    have hTh : ∀ (V : World) (pre : List Nat), EnI base w3 t most nv F wc.heap.size pre V → ThRd V (wc.heap.size + 1) (wc.heap.size + 1 + 1) t ao2 F (fun r => !r.gr) 45 #[] pre := fun V pre hs => by
      refine ⟨(World.cell?_of_block (a := ⟨wc.heap.size + 1, 0, none⟩) (hkb V pre hs (wc.heap.size + 1) (by omega) (by omega) (by omega))).trans d1, (World.cell?_of_block (a := ⟨wc.heap.size + 1 + 1, 0, none⟩) (hkb V pre hs (wc.heap.size + 1 + 1) (by omega) (by omega) (by omega))).trans d2, fun k hk hp => ?_, fun r => ?_⟩
      · obtain ⟨_, hsl, _, hat⟩ := stp_all F hFlast pre
        obtain ⟨ao', cap', e1, hQ⟩ := hs.tb.tab
        rw [hnvE, hsl] at e1
        simp only [Value.slice.injEq, true_and] at e1
        obtain ⟨rfl, rfl⟩ := e1
        obtain ⟨g, e2, hq⟩ := hQ.at_ (show k < (stp F pre).1.length by omega)
        have e3 : (stp F pre).1[k]'(by omega) = atR F k := by
          have := hat k (fun hm => by have := hp k hm; omega)
          rw [List.getElem?_eq_getElem (by omega), atR_some hk] at this
          exact Option.some.inj this
        rw [e3] at hq
        exact ⟨g, e2, hq⟩
      · show Calls _ _ (#[r.v] ++ #[]) _ _
        rw [Array.append_empty]
        exact waits_fn r V
    refine wpIn_rangeX (F := Fence.wide) (n := 9) rfl (by omega) (gf := 60) (lb := #[.pointer (some ⟨wc.heap.size + 1, 0, none⟩), .pointer (some ⟨wc.heap.size + 1 + 1, 0, none⟩)]) rfl trivial enters_those1
      (those_seq 8 (by omega) (wc.heap.size + 1) (wc.heap.size + 1 + 1) t hQ3.le hFl (fun r => !r.gr) 45 #[] enters_ws w3 hQ3.l) (Below.refl _ _) (fun _ => rfl)
      (EnI base w3 t most nv F wc.heap.size) (fun _ _ _ => False) EnI.own (fun _ _ _ _ _ hs _ _ => hs) (fun pre V hs => hTh V pre hs)
      ⟨T3, ⟨_, bxg3, World.ownsRow_nil _ _ _ _⟩, Fr.refl _ _⟩
      (fun (k : Nat) a' V => ∃ b8, BoxQ V b8 (atR F k) ∧ b8 < V.heap.size ∧ w3.heap.size ≤ b8 ∧ a' = { tmps := #[.pointer (some ⟨t, 0, none⟩), .func (.func gp) #[] lbp, .pointer (some ⟨w.heap.size, 0, none⟩), undef, .slice none 0 0, .pointer (some ⟨wc.heap.size, 0, none⟩), .int .i64 (k : Int), .pointer (some ⟨b8, 0, none⟩), .pointer (some ⟨t, 0, none⟩), .bool false, u10, u11, u12, u13, u14, u15, u16, u17, u18, .pointer (some ⟨t, 0, none⟩), .func (.func 60) #[] #[.pointer (some ⟨wc.heap.size + 1, 0, none⟩), .pointer (some ⟨wc.heap.size + 1 + 1, 0, none⟩)], .int .i64 (k : Int), (atR F k).v, u23, u24, u25, u26, u27, u28, u29, u30, u31], defers := [] })
      (fun k a' => Own.from (fun s A C row hs hg' hr => by obtain ⟨b8, hq8, h1, h2, ha⟩ := hs; exact ⟨b8, hq8.kept hg' hr, Nat.lt_of_lt_of_le h1 hg'.size, h2, ha⟩) _)
      ?assign ?body ?done ?stop
    case assign =>
      intro l' pre k V K hI hK
      have hbq := BoxQ.new V (atR F k)
      have hI2 := EnI.own.alloc (atR F k).box hI
      have hk2 := fun a' h => hK a' (V.alloc (atR F k).box) ((KeepsOthers.alloc V _).from _) hI2 h
      have hvs : w3.heap.size ≤ V.heap.size := hI.fr.size
      clear hK
      show Code.wpIn _ _ _ _ _ _ _
      unfold encR
      generalize atR F k = r at *
      obtain ⟨xt, ⟨sa, ta, la, ua, na⟩, xm, xg, xs⟩ := r
      gi_wp2
      refine ⟨_, hbq, ?_, ?_, rfl⟩
      · simp
      · exact hvs
    case body =>
      rintro l' pre k a' V hdm hI ⟨b8, hq8, hb8, hb8', rfl⟩ hlt
      obtain ⟨hkl, hkp, hkj⟩ := hdm
      have hgk : (atR F k).gr = false := by simpa using hkp
      obtain ⟨hsL, hsl, hs2, hat⟩ := stp_all F hFlast pre
      have hk' : k < (stp F pre).1.length := by omega
      have e3 : (stp F pre).1[k] = atR F k := by
        have := hat k (fun hm => by have := hkj k hm; omega)
        rw [List.getElem?_eq_getElem hk', atR_some hkl] at this
        exact Option.some.inj this
      have kV := (World.cell?_of_block (a := ⟨w.heap.size, 0, none⟩) (hkb V pre hI w.heap.size (Nat.le_refl _) (by omega) (by omega))).trans kb
      have hgf := grant_fn hI.tb (hkL V pre hI).lib (by omega) hsL hk' (by rw [e3]; exact hgk)
      have htx : txAt F k = (atR F k).tx := txAt_of (atR_some hkl)
      have hsn := stp_snoc F pre k
      obtain ⟨gv, hbx, hrw⟩ := hI.gr
      have hgvB : ∀ c, gv.ownBlock = some c → w3.heap.size ≤ c := fun c hc => (ownGe hrw c hc).1
      have hBgl : wc.heap.size < V.heap.size := hbx.lt
      have hstep : ∀ V2, TOwn base V2 t most nv (if isMay (stp F pre).1 k then grant (stp F pre).1 k else (stp F pre).1) → Fr V V2 (fun b => nv.ownBlock = some b) → KeepsFrom w3.heap.size V V2 ∧ Boxed V2 wc.heap.size 40 gv ∧ V2.ownsRow w3.heap.size 3 1 gv (stp F pre).2.length ((stp F pre).2.map (Value.int .i64)) ∧ BoxQ V2 b8 (atR F k) ∧ Fr w3 V2 (fun b => b = wc.heap.size ∨ nv.ownBlock = some b) := fun V2 hT hf => by
        have nr : ∀ c, w.heap.size ≤ c → ¬ nv.ownBlock = some c := fun c hc e => by have := (hnrow c e).1; omega
        refine ⟨⟨hf.size, fun b o hb ho hc => (hf.block b (Array.getElem?_eq_some_iff.1 ho).1 (nr b (by omega))).trans ho⟩, (hf.block _ hBgl (nr _ (by omega))).trans hbx, own_of_block hrw (fun c hc => hf.block c (ownGe hrw c hc).2 (nr c (by have := hgvB c hc; omega))), hq8.of_block (hf.block b8 hb8 (nr b8 (by omega))), hI.fr.trans hf (fun b e => Or.inl (Or.inr e))⟩
      have HST := Hid.mk' hstep
      have HSN : Hid (stp F (pre ++ [k]) = if isMay (stp F pre).1 k then (grant (stp F pre).1 k, (stp F pre).2 ++ [(atR F k).tx]) else stp F pre) := by rw [hsn, ← htx]; exact rfl
      have hV3 : w3.heap.size ≤ V.heap.size := hI.fr.size
      clear hstep hI hq8 hTh hkL hkb hbx hrw e3 hat hsL hsn htx hkp hgk hkj kb T3 hL3 hQ3 T2 hLc hrow HDL d1 d2 bxg bxg3 c1
      generalize hS : stp F pre = S at *
      generalize hR : atR F k = r at *
      generalize hM : isMay S.1 k = mb at *
      gi_wp2_with fail
      refine ⟨trivial, (CallsIn.inRound l' (callsIn_wide.2 hgf)).mono ?_⟩
      rintro e V2 ⟨rfl, hT2, hF2⟩
      obtain ⟨g1, g2, g3, g4, g5⟩ := HST.out V2 hT2 hF2
      clear hgf
      cases mb with
      | false =>
        have HFN : Hid (EnI base w3 t most nv F wc.heap.size (pre ++ [k]) V2) := ⟨by rw [HSN.out]; exact hT2, ⟨gv, g2, by rw [HSN.out]; exact g3⟩, g5⟩
        clear g2 g3 g4 g5 hT2 hF2
        gi_wp2
        exact ⟨g1, trivial, HFN.out⟩
      | true =>
        obtain ⟨i0, hi, hz0, hz1, hz2⟩ := info_parts infoI11
        have hvs2 : w3.heap.size ≤ V2.heap.size := Nat.le_trans hV3 hF2.size
        have hgvN : gv.ownBlock ≠ some wc.heap.size := fun e => by have := hgvB _ e; omega
        have hc := g2.cell
        have q0 := g4.c0
        have HG := Hid.mk' (And.intro g1 (And.intro hT2 g5))
        have hv := g2
        have hrow2 := g3
        clear g1 g2 g3 g4 g5 hT2 hF2
        obtain ⟨y, hy⟩ : ∃ y : Int, r.tx = y := ⟨_, rfl⟩
        rw [hy] at HSN q0
        gi_wp2_with (gi_at_builtin; refine wpListIn_append_own_at _ rfl _ _ 40 rfl w3.heap.size 3 i0 (.int .i64 0) 1 8 Tryd.underlying40 hi hz0 hz1 hz2 rfl (by decide) _ _ _ rfl (hrow2.alloc _) ⟨V2.heap.size, 0, none⟩ 1 1 [.int .i64 y] rfl rfl (cell_one_new _ _ _) (by simp [Value.oneCell']) (by unfold maxLen; omega) (by omega) (by simp; omega) ?_; intro v' w1 hown' hgrow _ hat; obtain ⟨g', cap', rfl⟩ := ownsRow_succ hown'; obtain ⟨hv1, hA⟩ := app8 hv hgvN hrow2 (by omega) hown' hgrow (hat.imp id (fun e k hk => by rw [e] at hk; simp at hk; omega)); have hc1 := hv1.cell; have hf1 := hv1.frozen)
        have hfA : Fr V2 (w1.setCell ⟨wc.heap.size, 0, none⟩ (.slice (some ⟨g', 0, none⟩) (S.2.length + 1) cap')) (fun b => b = wc.heap.size ∨ gv.ownBlock = some b) :=
          ⟨(hA.below 0 (by omega) (by omega) (by omega)).os, (hA.below 0 (by omega) (by omega) (by omega)).tape, (hA.below 0 (by omega) (by omega) (by omega)).output, hA.oth.size, fun b hb hn => hA.grown b hb (fun e => hn (Or.inl e)) (fun e => hn (Or.inr e))⟩
        obtain ⟨g1, hT2, g5⟩ := HG.out
        have htw2 : t < wc.heap.size := by omega
        refine ⟨g1.trans (hA.oth.from _), trivial, ⟨?_, ⟨_, hA.box, ?_⟩, g5.trans hfA (fun b e => e.elim (fun e => Or.inl (Or.inl e)) (fun e => Or.inr (hgvB b e)))⟩⟩
        · rw [HSN.out]
          exact hT2.keep hfA (fun e => e.elim (fun e => by omega) (fun e => by have := hgvB _ e; omega)) (fun c hc e => e.elim (fun e => by have := (hnrow c hc).1; omega) (fun e => by have := hgvB _ e; have := (hnrow c hc).1; omega))
        · rw [HSN.out]
          simpa using hA.row
    case done =>
      rintro D ys V hD hys hI hK
      have hT := hI.tb
      obtain ⟨gv, hv, hrw⟩ := hI.gr
      rw [hys, stp_wake] at hT hrw
      have hF : Fr w V (fun b => b = t ∨ lv.ownBlock = some b) := (hfr.trans (Fr.of_below (F := fun _ => False) (keepA hbg hb3)) (fun _ e => e.elim)).trans hI.fr (fun b e => e.elim (fun e => Or.inr (by omega)) (fun e => Or.inl (Or.inr (hnv ▸ e))))
      have hc := hv.cell
      have hgl : ∃ ao m cp, gv = .slice ao m cp := by
        rcases hrw.2 with ⟨e, _⟩ | ⟨g, cap', cur, e, _⟩
        · exact ⟨_, _, _, e⟩
        · exact ⟨_, _, _, e⟩
      obtain ⟨ao9, m9, cp9, rfl⟩ := hgl
      have HT := Hid.mk' (And.intro hT (And.intro hrw hF))
      clear hT hrw hF hI hTh hkL hkb T3 hL3 hQ3 T2 hLc HDL d1 d2 bxg bxg3 c1
      gi_wp2
      obtain ⟨hT, hrw, hF⟩ := HT.out
      refine ⟨by simp, .inl ⟨_, _, rfl, run_takeDeferred hK, ?_⟩⟩
      exact ⟨_, results_tmp rfl _ _ _, ao9, m9, cp9, nv, rfl, own_base (ownsRow_putObj hrw _ hK rfl) (by omega), hT.putObj hK rfl _, hF.trans (Fr.of_grown (F := fun k => k = D) (grownBy_putObj' _ D (.deferred none)) (fun k e => by cases e; rfl)) (fun k e => Or.inr (by omega)), hnv⟩
    case stop =>
      rintro D c pre V _ _ hf _
      exact hf.elim
end Go.Proofs.YtmldpbgdjlblmaaDoor

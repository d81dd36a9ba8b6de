/- The program's Ask: what it has already; beyond most; one more. -/
import Derived.Test.YtmldpbgdjlblmaaDoorL11AK
import Derived.Deep.RegionHeldLaw
import Derived.Deep.DeepCutAuto
import Derived.Deep.AppendLies
namespace Go.Proofs.YtmldpbgdjlblmaaDoor
open Go.RowKit Go.Joins Go.Maps Go.Shelf
set_option linter.unusedVariables false
set_option linter.unusedSimpArgs false

theorem unshort_true (tx : Int) (o : Ob) (m : Int) (L : List Rq) : L.map (unshort tx o m true) = L := by
  have : unshort tx o m true = id := by funext r; simp [unshort]
  rw [this, List.map_id]
set_option maxRecDepth 100000 in
set_option maxHeartbeats 8000000 in
theorem pask_has {base : Nat} {w : World} {t : Nat} {most : Int} {lv : Value} {L : List Rq} (h : TOwn base w t most lv L) (hL : LibB base w) (hl : L.length ≤ 100000) (tx : Int) (o : Ob) (m : Int) (s : Bool) (hok : (decide (tx < 1) || !pl o || !mbA m || waitsB L tx) = false) (hh : hasB L tx o m = true) :
    Calls Tryd.prog 11 #[.pointer (some ⟨t, 0, none⟩), .int .i64 tx, o.v, .int .i64 m, .bool s] w fun e w' => e = .returned (.tuple #[.bool true, .int .i64 0]) ∧ TOwn base w' t most lv (L.map (unshort tx o m s)) ∧ Fr w w' (fun b => lv.ownBlock = some b) := by
  have HA : Hid (AkW base w (w.alloc o.box) t most lv L o) := AkW.new h hL o
  have hpl := fun w => place_is (o := o) rfl w
  have hmb := fun w => mayBe_any m w
  have HRW : Hid (∀ c, lv.ownBlock = some c → c < w.heap.size ∧ base ≤ c) := fun c hc => ⟨(h.row.lo c hc).2, (h.row.lo c hc).1⟩
  have htw : t < w.heap.size := (Array.getElem?_eq_some_iff.1 h.tb).1
  have HW := Hid.mk' (fun (W : World) (hA : AkW base w W t most lv L o) => (show Calls Tryd.prog 23 #[.pointer (some ⟨t, 0, none⟩), .int .i64 tx] W fun e w' => e = .returned (.bool (waitsB L tx)) ∧ Below W.heap.size W w' by
    obtain ⟨ao, cap, _, hQ⟩ := hA.tb.tab
    exact pwaits_any hQ (by omega) tx))
  have HH := Hid.mk' (fun (W : World) (hA : AkW base w W t most lv L o) => (show Calls Tryd.prog 25 #[.pointer (some ⟨t, 0, none⟩), .int .i64 tx, o.v, .int .i64 m] W fun e w' => e = .returned (.bool (hasB L tx o m)) ∧ Below W.heap.size W w' by
    obtain ⟨ao, cap, _, hQ⟩ := hA.tb.tab
    exact phas_any hQ hA.lib.lib hl tx o m))
  have HKp := Hid.mk' (fun (W : World) (hA : AkW base w W t most lv L o) => keep_fn hA.tb hA.lib hl tx o m)
  simp only [Bool.or_eq_false_iff, decide_eq_false_iff_not, Bool.not_eq_false'] at hok
  obtain ⟨⟨⟨h1, hp⟩, hm⟩, hw⟩ := hok
  rw [hp] at hpl
  rw [hm] at hmb
  rw [hw] at HW
  rw [hh] at HH
  clear h hL hp hm hw hh
  have hut := unshort_true tx o m L
  obtain ⟨sb, tb, lb', ub, nb⟩ := o
  simp only [Ob.v] at hpl HH HKp ⊢
  have HU := Hid.mk' hut
  clear hut
  cases s with
  | true =>
    go_enter Tryd.func11, Tryd.ntmps11
    go_wp2_with fail
    refine (hpl _).mono ?_
    rintro e w1 ⟨rfl, hb1⟩
    have A1 := Hid.mk' (HA.out.keep hb1)
    clear hb1 HA
    go_wp2_with fail
    refine (hmb _).mono ?_
    rintro e w2 ⟨rfl, rfl⟩
    go_wp2_with fail
    refine (HW.out _ A1.out).mono ?_
    rintro e w3 ⟨rfl, hb3⟩
    have A3 := Hid.mk' (A1.out.keep hb3)
    clear hb3 A1
    obtain ⟨b0, b1, b2, b3, b4⟩ := A3.out.ob
    simp only at b0 b1 b2 b3 b4
    go_wp2_with fail
    refine (HH.out _ A3.out).mono ?_
    rintro e w4 ⟨rfl, hb4⟩
    have A4 := Hid.mk' (A3.out.keep hb4)
    clear hb4 A3 b0 b1 b2 b3 b4
    go_wp2_with fail
    exact bodyPost_ret (v := .tuple #[.bool true, .int .i64 0]) (by simp [results, Tryd.results11, go_sem]) rfl ⟨rfl, by rw [HU.out]; exact A4.out.tb, Fr.of_below A4.out.b⟩
  | false =>
    go_enter Tryd.func11, Tryd.ntmps11
    go_wp2_with fail
    refine (hpl _).mono ?_
    rintro e w1 ⟨rfl, hb1⟩
    have A1 := Hid.mk' (HA.out.keep hb1)
    clear hb1 HA
    go_wp2_with fail
    refine (hmb _).mono ?_
    rintro e w2 ⟨rfl, rfl⟩
    go_wp2_with fail
    refine (HW.out _ A1.out).mono ?_
    rintro e w3 ⟨rfl, hb3⟩
    have A3 := Hid.mk' (A1.out.keep hb3)
    clear hb3 A1
    obtain ⟨b0, b1, b2, b3, b4⟩ := A3.out.ob
    simp only at b0 b1 b2 b3 b4
    go_wp2_with fail
    refine (HH.out _ A3.out).mono ?_
    rintro e w4 ⟨rfl, hb4⟩
    have A4 := Hid.mk' (A3.out.keep hb4)
    clear hb4 A3 b0 b1 b2 b3 b4
    obtain ⟨b0, b1, b2, b3, b4⟩ := A4.out.ob
    simp only at b0 b1 b2 b3 b4
    go_wp2_with fail
    refine (HKp.out _ A4.out).mono ?_
    rintro e w5 ⟨⟨v5, rfl⟩, hT5, hF5⟩
    have HF : Hid (Fr w w5 (fun b => lv.ownBlock = some b)) := (Fr.of_below A4.out.b).trans hF5 (fun k e => Or.inl e)
    clear hF5 A4 b0 b1 b2 b3 b4
    go_wp2_with fail
    exact bodyPost_ret (v := .tuple #[.bool true, .int .i64 0]) (by simp [results, Tryd.results11, go_sem]) rfl ⟨rfl, hT5, HF.out⟩
set_option maxRecDepth 100000 in
set_option maxHeartbeats 8000000 in
theorem pask_full {base : Nat} {w : World} {t : Nat} {most : Int} {lv : Value} {L : List Rq} (h : TOwn base w t most lv L) (hL : LibB base w) (hl : L.length ≤ 100000) (tx : Int) (o : Ob) (m : Int) (s : Bool) (hok : (decide (tx < 1) || !pl o || !mbA m || waitsB L tx) = false) (hh : hasB L tx o m = false) (hf : most ≤ (L.length : Int)) :
    Calls Tryd.prog 11 #[.pointer (some ⟨t, 0, none⟩), .int .i64 tx, o.v, .int .i64 m, .bool s] w fun e w' => e = .returned (.tuple #[.bool false, .int .i64 112]) ∧ TOwn base w' t most lv L ∧ Below w.heap.size w w' := by
  have HA : Hid (AkW base w (w.alloc o.box) t most lv L o) := AkW.new h hL o
  have hpl := fun w => place_is (o := o) rfl w
  have hmb := fun w => mayBe_any m w
  have HRW : Hid (∀ c, lv.ownBlock = some c → c < w.heap.size ∧ base ≤ c) := fun c hc => ⟨(h.row.lo c hc).2, (h.row.lo c hc).1⟩
  have htw : t < w.heap.size := (Array.getElem?_eq_some_iff.1 h.tb).1
  have HW := Hid.mk' (fun (W : World) (hA : AkW base w W t most lv L o) => (show Calls Tryd.prog 23 #[.pointer (some ⟨t, 0, none⟩), .int .i64 tx] W fun e w' => e = .returned (.bool (waitsB L tx)) ∧ Below W.heap.size W w' by
    obtain ⟨ao, cap, _, hQ⟩ := hA.tb.tab
    exact pwaits_any hQ (by omega) tx))
  have HH := Hid.mk' (fun (W : World) (hA : AkW base w W t most lv L o) => (show Calls Tryd.prog 25 #[.pointer (some ⟨t, 0, none⟩), .int .i64 tx, o.v, .int .i64 m] W fun e w' => e = .returned (.bool (hasB L tx o m)) ∧ Below W.heap.size W w' by
    obtain ⟨ao, cap, _, hQ⟩ := hA.tb.tab
    exact phas_any hQ hA.lib.lib (by omega) tx o m))
  simp only [Bool.or_eq_false_iff, decide_eq_false_iff_not, Bool.not_eq_false'] at hok
  obtain ⟨⟨⟨h1, hp⟩, hm⟩, hw⟩ := hok
  rw [hp] at hpl
  rw [hm] at hmb
  rw [hw] at HW
  rw [hh] at HH
  have HWB : Hid (waitsB L tx = false) := hw
  clear h hL hp hm hw hh
  obtain ⟨sb, tb, lb', ub, nb⟩ := o
  simp only [Ob.v] at hpl HH ⊢
  go_enter Tryd.func11, Tryd.ntmps11
  go_wp2_with fail
  refine (hpl _).mono ?_
  rintro e w1 ⟨rfl, hb1⟩
  have A1 := Hid.mk' (HA.out.keep hb1)
  clear hb1 HA
  go_wp2_with fail
  refine (hmb _).mono ?_
  rintro e w2 ⟨rfl, rfl⟩
  go_wp2_with fail
  refine (HW.out _ A1.out).mono ?_
  rintro e w3 ⟨rfl, hb3⟩
  have A3 := Hid.mk' (A1.out.keep hb3)
  clear hb3 A1
  obtain ⟨b0, b1, b2, b3, b4⟩ := A3.out.ob
  simp only at b0 b1 b2 b3 b4
  go_wp2_with fail
  refine (HH.out _ A3.out).mono ?_
  rintro e w4 ⟨rfl, hb4⟩
  have A4 := Hid.mk' (A3.out.keep hb4)
  clear hb4 A3 b0 b1 b2 b3 b4
  obtain ⟨ao, cap, hlv, hQ⟩ := A4.out.tb.tab
  have c0 := hQ.m
  have c1 := hQ.l
  clear hQ hlv
  have d4 : decide ((L.length : Int) ≥ most) = true := decide_eq_true hf
  go_wp2_with fail
  go_quiet (fail)
  rename_i nq
  have A5 := Hid.mk' (A4.out.keep (below_drewN (Below.refl _ _) nq))
  go_wp2_with fail
  exact bodyPost_ret (v := .tuple #[.bool false, .int .i64 112]) (by simp [results, Tryd.results11, go_sem]) rfl ⟨rfl, A5.out.tb, A5.out.b⟩
/-- append, to a row of requests, of one more, in a region that draws its order. -/
theorem step_appQ (w : World) {ops : Array Oper} {o : Oper} {a : Act} {K : Act → World → Prop} {Q : Exit → Act → World → Prop} {E : Prop} (hgd : o.guard = none) (s x : Operand)
    (ho : o.op = .call { callee := .builtin .append, args := #[s, x], argTypes := #[29, 29] })
    (base : Nat) (v : Value) (l : List Rq) (hs : a.eval s = v) (hown : OwnQ base w v l) (Bk : Nat) (r : Rq) (hx : a.eval x = .slice (some ⟨Bk, 0, none⟩) 1 1) (hB : w.heap[Bk]? = some (.cells (Rq.cells r).toArray 53 (0, 0))) (hl : l.length ≤ 1000000) (hbase : base ≤ w.heap.size)
    (h : ∀ g cap w', OwnQ base w' (.slice (some ⟨g, 0, none⟩) (l.length + 1) cap) (l ++ [r]) → w.grownBy w' v.ownBlock → (v.ownBlock = some g ∨ w.heap.size ≤ g) → K (a.put o.dst (.slice (some ⟨g, 0, none⟩) (l.length + 1) cap)) w') :
    if Region.wanted o (yielded ops a.tmps) = true then Oper.wp Tryd.prog o a w K Q else E := by
  obtain ⟨i0, hi, hz0, hz1, hz2⟩ := info_parts infoQ
  refine step_append_lies w hgd s x 29 ho base 53 i0 _ 9 88 Tryd.underlying29 hi hz0 hz1 hz2 rfl (by decide) v l.length (l.flatMap Rq.cells) hs hown ⟨Bk, 0, none⟩ 1 1 (Rq.cells r) hx rfl (World.news_of_block hB) (by intro u hu; simp [Rq.cells] at hu; rcases hu with rfl | rfl | rfl | rfl | rfl | rfl | rfl | rfl | rfl <;> rfl) (by decide) (by unfold maxLen; omega) (by omega) hbase w.heap.size rfl ?_
  intro g cap w' h1 h2 h3 _
  refine h g cap w' ?_ h2 (h3.imp (fun e => e) (fun e => by omega))
  show World.ownsRow _ _ _ _ _ _ _
  rw [List.length_append, List.length_singleton, List.flatMap_append]
  simpa using h1
theorem TOwn.push {base : Nat} {w : World} {t : Nat} {most : Int} {lv nv : Value} {N : List Rq} (htb : w.heap[t]? = some (.cells #[.int .i64 most, lv] 62 (0, 0))) (hr : OwnQ base w nv N) (hn : nv.ownBlock ≠ some t) (lo : base ≤ t) : TOwn base (w.setCell ⟨t, 1, none⟩ nv) t most nv N := by
  have hf := fr_set w t 1 nv
  refine ⟨?_, hr.of_block (fun c hc => hf.block c (hr.lo c hc).2 (fun e => hn (by rw [hc, e]))), hn, lo⟩
  rw [heap_setCell_same w t 1 _ _ _ htb]
  rfl
/-- Behind the append and the store. -/
structure AkN (base : Nat) (w W : World) (t : Nat) (most : Int) (lv : Value) (N : List Rq) (nv : Value) : Prop where
  tb : TOwn base W t most nv N
  fr : Fr w W (fun b => b = t ∨ lv.ownBlock = some b)
  nw : ∀ c, nv.ownBlock = some c → lv.ownBlock = some c ∨ w.heap.size ≤ c
theorem akn_push {base : Nat} {w wq w6 : World} {t : Nat} {most : Int} {lv nv : Value} {L N : List Rq} {o : Ob} {ob : Obj} (hA : AkW base w wq t most lv L o) (hg : (wq.alloc ob).drew.grownBy w6 lv.ownBlock) (hr : OwnQ base w6 nv N) (hn : ∀ c, nv.ownBlock = some c → lv.ownBlock = some c ∨ wq.heap.size + 1 ≤ c) : AkN base w (w6.setCell ⟨t, 1, none⟩ nv) t most lv N nv := by
  have ht : t < wq.heap.size := (Array.getElem?_eq_some_iff.1 hA.tb.tb).1
  have htb : w6.heap[t]? = some (.cells #[.int .i64 most, lv] 62 (0, 0)) := by
    rw [hg.block t (by show t < (wq.alloc ob).heap.size; simp; omega) (fun e => hA.tb.ne e.symm)]
    exact (Below.heap_alloc wq ob t ht).trans hA.tb.tb
  have hnt : nv.ownBlock ≠ some t := fun e => by
    rcases hn t e with h | h
    · exact hA.tb.ne h
    · omega
  have hsz := hA.b.size
  refine ⟨TOwn.push htb hr hnt hA.tb.lo, ?_, fun c hc => (hn c hc).imp id (fun h => by omega)⟩
  have f1 : Fr w (wq.alloc ob).drew (fun b => b = t ∨ lv.ownBlock = some b) := Fr.of_below ((hA.b.alloc hsz ob).drew)
  have f2 := f1.trans (Fr.of_grown (F := fun b => lv.ownBlock = some b) hg (fun k e => e)) (fun k e => Or.inl (Or.inr e))
  exact f2.trans (fr_set w6 t 1 nv) (fun k e => Or.inl (Or.inl e))
theorem BoxO.of_block {W W' : World} {b : Nat} {o : Ob} (h : BoxO W b o) (e : W'.heap[b]? = W.heap[b]?) : BoxO W' b o :=
  have f := fun (k : Nat) (v : Value) (hc : W.cell? ⟨b, k, none⟩ = some v) => (World.cell?_of_block (w := W) (w' := W') (a := ⟨b, k, none⟩) e).trans hc
  ⟨f _ _ h.c0, f _ _ h.c1, f _ _ h.c2, f _ _ h.c3, f _ _ h.c4⟩
theorem ak_done {base : Nat} {w wq w6 : World} {t : Nat} {most : Int} {lv : Value} {L N : List Rq} {o : Ob} {ob : Obj} {g6 n6 cap6 : Nat} (hA : AkW base w wq t most lv L o) (hrow : ∀ c, lv.ownBlock = some c → c < w.heap.size ∧ base ≤ c) (ht : t < w.heap.size) (hg : (wq.alloc ob).drew.grownBy w6 lv.ownBlock) (hr : OwnQ base w6 (.slice (some ⟨g6, 0, none⟩) n6 cap6) N) (hat : lv.ownBlock = some g6 ∨ (wq.alloc ob).drew.heap.size ≤ g6) :
    (AkN base w (w6.setCell ⟨t, 1, none⟩ (.slice (some ⟨g6, 0, none⟩) n6 cap6)) t most lv N (.slice (some ⟨g6, 0, none⟩) n6 cap6) ∧ LibB base (w6.setCell ⟨t, 1, none⟩ (.slice (some ⟨g6, 0, none⟩) n6 cap6))) ∧ w6.cell? ⟨t, 1, none⟩ = some lv ∧ w6.frozen? ⟨t, 1, none⟩ = false ∧ BoxO w6 w.heap.size o ∧ BoxO (w6.setCell ⟨t, 1, none⟩ (.slice (some ⟨g6, 0, none⟩) n6 cap6)) w.heap.size o := by
  have hs : (wq.alloc ob).drew.heap.size = wq.heap.size + 1 := by show (wq.alloc ob).heap.size = _; simp
  have hwq := hA.b.size
  have D := akn_push (N := N) (nv := .slice (some ⟨g6, 0, none⟩) n6 cap6) hA hg hr (fun c hc => by
    simp only [Value.ownBlock, Option.some.injEq] at hc
    subst hc
    exact hat.imp id (fun e => by omega))
  have e1 : w6.heap[t]? = wq.heap[t]? := (hg.block t (by omega) (fun e => hA.tb.ne e.symm)).trans (Below.heap_alloc wq ob t (by omega))
  have hbl : w.heap.size < wq.heap.size := World.block_lt_of_cell? wq _ hA.ob.c0
  have e2 : w6.heap[w.heap.size]? = wq.heap[w.heap.size]? := (hg.block _ (by omega) (fun e => by have := (hrow _ e.symm).1; omega)).trans (Below.heap_alloc wq ob _ hbl)
  have hB6 : BoxO w6 w.heap.size o := hA.ob.of_block e2
  have htb := e1.trans hA.tb.tb
  refine ⟨⟨D, ?_⟩, by rw [cell_of_row w6 t 1 _ _ _ htb]; rfl, frozen_row htb 1, hB6, hB6.of_block ((fr_set w6 t 1 _).block _ (by have := hg.size; omega) (by omega))⟩
  have hLw : LibB base (wq.alloc ob).drew := hA.lib.keepB (((Below.refl _ _).alloc (Nat.le_refl _) ob).drew)
  exact (hLw.fr (Fr.of_grown (F := fun b => lv.ownBlock = some b) hg (fun k e => e)) (fun k e => (hrow k e).2)).fr (fr_set w6 t 1 _) (fun k e => by rw [e]; exact hA.tb.lo)
set_option maxRecDepth 100000 in
set_option maxHeartbeats 8000000 in
theorem pask_new {base : Nat} {w : World} {t : Nat} {most : Int} {lv : Value} {L : List Rq} (h : TOwn base w t most lv L) (hL : LibB base w) (hl : L.length ≤ 90000) (hlast : LastI L) (tx : Int) (o : Ob) (m : Int) (s : Bool) (hok : (decide (tx < 1) || !pl o || !mbA m || waitsB L tx) = false) (hh : hasB L tx o m = false) (hf : (L.length : Int) < most) :
    Calls Tryd.prog 11 #[.pointer (some ⟨t, 0, none⟩), .int .i64 tx, o.v, .int .i64 m, .bool s] w fun e w' => ∃ lv', e = .returned (.tuple #[.bool (mayP L ⟨tx, o, m, false, s⟩ []), .int .i64 0]) ∧ TOwn base w' t most lv' (L ++ [⟨tx, o, m, mayP L ⟨tx, o, m, false, s⟩ [], s⟩]) ∧ Fr w w' (fun b => b = t ∨ lv.ownBlock = some b) ∧ (∀ c, lv'.ownBlock = some c → lv.ownBlock = some c ∨ w.heap.size ≤ c) := by
  have HA : Hid (AkW base w (w.alloc o.box) t most lv L o) := AkW.new h hL o
  have hpl := fun w => place_is (o := o) rfl w
  have hmb := fun w => mayBe_any m w
  have HRW : Hid (∀ c, lv.ownBlock = some c → c < w.heap.size ∧ base ≤ c) := fun c hc => ⟨(h.row.lo c hc).2, (h.row.lo c hc).1⟩
  have htw : t < w.heap.size := (Array.getElem?_eq_some_iff.1 h.tb).1
  have HW := Hid.mk' (fun (W : World) (hA : AkW base w W t most lv L o) => (show Calls Tryd.prog 23 #[.pointer (some ⟨t, 0, none⟩), .int .i64 tx] W fun e w' => e = .returned (.bool (waitsB L tx)) ∧ Below W.heap.size W w' by
    obtain ⟨ao, cap, _, hQ⟩ := hA.tb.tab
    exact pwaits_any hQ (by omega) tx))
  have HH := Hid.mk' (fun (W : World) (hA : AkW base w W t most lv L o) => (show Calls Tryd.prog 25 #[.pointer (some ⟨t, 0, none⟩), .int .i64 tx, o.v, .int .i64 m] W fun e w' => e = .returned (.bool (hasB L tx o m)) ∧ Below W.heap.size W w' by
    obtain ⟨ao, cap, _, hQ⟩ := hA.tb.tab
    exact phas_any hQ hA.lib.lib (by omega) tx o m))
  simp only [Bool.or_eq_false_iff, decide_eq_false_iff_not, Bool.not_eq_false'] at hok
  obtain ⟨⟨⟨h1, hp⟩, hm⟩, hw⟩ := hok
  rw [hp] at hpl
  rw [hm] at hmb
  rw [hw] at HW
  rw [hh] at HH
  have HWB : Hid (waitsB L tx = false) := hw
  clear h hL hp hm hw hh
  obtain ⟨mp, hmp⟩ : ∃ mp, mayP L ⟨tx, o, m, false, s⟩ [] = mp := ⟨_, rfl⟩
  rw [hmp]
  have HMP := Hid.mk' hmp
  clear hmp
  obtain ⟨sb, tb, lb', ub, nb⟩ := o
  simp only [Ob.v] at hpl HH ⊢
  go_enter Tryd.func11, Tryd.ntmps11
  go_wp2_with fail
  refine (hpl _).mono ?_
  rintro e w1 ⟨rfl, hb1⟩
  have A1 := Hid.mk' (HA.out.keep hb1)
  clear hb1 HA
  go_wp2_with fail
  refine (hmb _).mono ?_
  rintro e w2 ⟨rfl, rfl⟩
  go_wp2_with fail
  refine (HW.out _ A1.out).mono ?_
  rintro e w3 ⟨rfl, hb3⟩
  have A3 := Hid.mk' (A1.out.keep hb3)
  clear hb3 A1
  obtain ⟨b0, b1, b2, b3, b4⟩ := A3.out.ob
  simp only at b0 b1 b2 b3 b4
  go_wp2_with fail
  refine (HH.out _ A3.out).mono ?_
  rintro e w4 ⟨rfl, hb4⟩
  have A4 := Hid.mk' (A3.out.keep hb4)
  clear hb4 A3 b0 b1 b2 b3 b4
  obtain ⟨ao, cap, hlv, hQ⟩ := A4.out.tb.tab
  have c0 := hQ.m
  have c1 := hQ.l
  have hle := hQ.le
  clear hQ
  have d4 : ¬ ((L.length : Int) ≥ most) := by omega
  obtain ⟨b0, b1, b2, b3, b4⟩ := A4.out.ob
  simp only at b0 b1 b2 b3 b4
  go_wp2_with fail
  go_quiet (fail)
  rename_i nq
  have A5 := Hid.mk' (A4.out.keep (below_drewN (Below.refl _ _) nq))
  have c1' : (w4.drewN nq).cell? ⟨t, 1, none⟩ = some (.slice ao L.length cap) := c1
  clear A4 c0 c1 b0 b1 b2 b3 b4 hpl hmb HW HH
  generalize hwq : w4.drewN nq = wq at *
  go_wp2_with fail
  clear hwq
  subst hlv
  obtain ⟨b0, b1, b2, b3, b4⟩ := A5.out.ob
  simp only at b0 b1 b2 b3 b4
  have htq : t < wq.heap.size := World.block_lt_of_cell? wq _ c1'
  have hts : ∀ ob, (wq.alloc ob).cell? ⟨t, 1, none⟩ = some (.slice ao L.length cap) := fun ob => cell_keep ((Below.refl _ _).alloc (Nat.le_refl _) ob) c1'
  have hbs : ∀ ob, (wq.alloc ob).cell? ⟨w.heap.size, 0, none⟩ = some (.int .i64 sb) ∧ (wq.alloc ob).cell? ⟨w.heap.size, 1, none⟩ = some (.string tb) ∧ (wq.alloc ob).cell? ⟨w.heap.size, 2, none⟩ = some (.string lb') ∧ (wq.alloc ob).cell? ⟨w.heap.size, 3, none⟩ = some (.string ub) ∧ (wq.alloc ob).cell? ⟨w.heap.size, 4, none⟩ = some (.bool nb) := fun ob =>
    have k := fun {b o v} (h : wq.cell? ⟨b, o, none⟩ = some v) => cell_keep ((Below.refl _ _).alloc (Nat.le_refl _) ob) h
    ⟨k b0, k b1, k b2, k b3, k b4⟩
  have HBS : Hid (∀ ob, (wq.alloc ob).drew.cell? ⟨w.heap.size, 0, none⟩ = some (.int .i64 sb) ∧ (wq.alloc ob).drew.cell? ⟨w.heap.size, 1, none⟩ = some (.string tb) ∧ (wq.alloc ob).drew.cell? ⟨w.heap.size, 2, none⟩ = some (.string lb') ∧ (wq.alloc ob).drew.cell? ⟨w.heap.size, 3, none⟩ = some (.string ub) ∧ (wq.alloc ob).drew.cell? ⟨w.heap.size, 4, none⟩ = some (.bool nb)) := hbs
  have HB0 : Hid (wq.drew.cell? ⟨w.heap.size, 0, none⟩ = some (.int .i64 sb) ∧ wq.drew.cell? ⟨w.heap.size, 1, none⟩ = some (.string tb) ∧ wq.drew.cell? ⟨w.heap.size, 2, none⟩ = some (.string lb') ∧ wq.drew.cell? ⟨w.heap.size, 3, none⟩ = some (.string ub) ∧ wq.drew.cell? ⟨w.heap.size, 4, none⟩ = some (.bool nb)) := ⟨b0, b1, b2, b3, b4⟩
  clear hbs
  have HOW : Hid (OwnQ base (wq.alloc (Rq.box ⟨tx, ⟨sb, tb, lb', ub, nb⟩, m, false, s⟩)).drew (.slice ao L.length cap) L) := (A5.out.tb.keepB ((Below.refl _ _).alloc (Nat.le_refl _) _)).row
  have HSZ : Hid (base ≤ (wq.alloc (Rq.box ⟨tx, ⟨sb, tb, lb', ub, nb⟩, m, false, s⟩)).drew.heap.size) := by
    have := A5.out.lib.le
    show base ≤ (wq.alloc _).heap.size
    simp; omega
  have HNB : Hid ((wq.alloc (Rq.box ⟨tx, ⟨sb, tb, lb', ub, nb⟩, m, false, s⟩)).drew.heap[wq.heap.size]? = some (.cells (Rq.cells ⟨tx, ⟨sb, tb, lb', ub, nb⟩, m, false, s⟩).toArray 53 (0, 0))) := World.alloc_heap_new wq _
  go_cut [68] (fun v68 wc => ∃ nv, AkN base w wc t most (.slice ao L.length cap) (L ++ [⟨tx, ⟨sb, tb, lb', ub, nb⟩, m, false, s⟩]) nv ∧ LibB base wc)
  case first =>
    go_region_law ((refine step_appQ _ rfl (.tmp 61) (.tmp 67) rfl base (.slice ao L.length cap) L (by simp [Act.eval, Act.put]) HOW.out wq.heap.size ⟨tx, ⟨sb, tb, lb', ub, nb⟩, m, false, s⟩ (by simp [Act.eval, Act.put]) HNB.out (by omega) HSZ.out ?_; intro g6 cap6 w6 hr6 hg6 hat6; have D6 := ak_done A5.out HRW.out htw hg6 hr6 hat6; obtain ⟨D7, c6, f6, s6, s7⟩ := D6; have HD := Hid.mk' D7; clear D7 hg6 hr6 hat6; clear s6 s7))
    all_goals go_wp2
    all_goals
      go_meet
      case rel => exact ⟨_, HD.out⟩
  case rest =>
    obtain ⟨nv, hN, hLB⟩ := hcut
    have hlast2 : LastI (L ++ [⟨tx, ⟨sb, tb, lb', ub, nb⟩, m, false, s⟩]) := hlast.push _ (waitsB_no HWB.out)
    obtain ⟨ao2, cap2, hnv, hQ2⟩ := hN.tb.tab
    have hgr := fun W' (hb : Below wc.heap.size wc W') => grant_fn (hN.tb.keepB hb) (hLB.keepB hb).lib (by simp; omega) hlast2 (i := L.length) (by simp) (by simp)
    have hmv : isMay (L ++ [⟨tx, ⟨sb, tb, lb', ub, nb⟩, m, false, s⟩]) L.length = mayP L ⟨tx, ⟨sb, tb, lb', ub, nb⟩, m, false, s⟩ [] := by rw [isMay_split]; rfl
    have hgv : grant (L ++ [⟨tx, ⟨sb, tb, lb', ub, nb⟩, m, false, s⟩]) L.length = L ++ [⟨tx, ⟨sb, tb, lb', ub, nb⟩, m, true, s⟩] := grant_split
    rw [hmv, HMP.out, hgv] at hgr
    have c1c := hQ2.l
    rw [List.length_append] at c1c
    have HN := Hid.mk' hN
    have HNV := Hid.mk' hnv
    clear hN hQ2 hnv hmv hgv hlast2 HOW HSZ HNB HBS b0 b1 b2 b3 b4 hts
    simp only [List.length_cons, List.length_nil, Nat.zero_add] at c1c
    go_wp2_with fail
    refine (hgr _ (Below.refl _ _)).mono ?_
    rintro e w7 ⟨rfl, hT7, hF7⟩
    have hf7 : Fr w w7 (fun b => b = t ∨ (Value.slice ao L.length cap).ownBlock = some b) := HN.out.fr.trans hF7 (fun k e => (HN.out.nw k e).imp Or.inr id)
    have HE : Hid (TOwn base w7 t most nv (L ++ [⟨tx, ⟨sb, tb, lb', ub, nb⟩, m, mp, s⟩]) ∧ Fr w w7 (fun b => b = t ∨ (Value.slice ao L.length cap).ownBlock = some b) ∧ ∀ c, nv.ownBlock = some c → (Value.slice ao L.length cap).ownBlock = some c ∨ w.heap.size ≤ c) := ⟨by cases mp <;> exact hT7, hf7, HN.out.nw⟩
    clear hT7 hF7 hf7 hgr c1c
    go_wp2_with fail
    exact bodyPost_ret (v := .tuple #[.bool mp, .int .i64 0]) (by simp [results, Tryd.results11, go_sem]) rfl ⟨nv, rfl, HE.out⟩
end Go.Proofs.YtmldpbgdjlblmaaDoor

/- The program's table as it lies; grant. -/
import Derived.Test.YtmldpbgdjlblmaaDoorL11Z
import Derived.Test.YtmldpbgdjlblmaaDoorL11G
namespace Go.Proofs.YtmldpbgdjlblmaaDoor
open Go.RowKit Go.Maps Go.Shelf
set_option linter.unusedVariables false
set_option linter.unusedSimpArgs false
attribute [local go_sem] Oper.semAt_some

/-- The program's table as it lies. -/
structure TOwn (base : Nat) (w : World) (t : Nat) (most : Int) (lv : Value) (L : List Rq) : Prop where
  tb : w.heap[t]? = some (.cells #[.int .i64 most, lv] 62 (0, 0))
  row : OwnQ base w lv L
  ne : lv.ownBlock ≠ some t
  lo : base ≤ t
theorem TOwn.tab {base : Nat} {w : World} {t : Nat} {most : Int} {lv : Value} {L : List Rq} (h : TOwn base w t most lv L) : ∃ ao cap, lv = .slice ao L.length cap ∧ QTab w t most ao cap L := by
  rcases id h.row with ⟨_, ⟨hv, hn⟩ | ⟨g, cap, cur, hv, hg, hh, hc, _⟩⟩
  · refine ⟨none, 0, by rw [hv, hn], ⟨by rw [cell_of_row w t 0 _ _ _ h.tb]; rfl, by rw [cell_of_row w t 1 _ _ _ h.tb, hn]; show some lv = _; rw [hv], by omega, Or.inl (List.eq_nil_of_length_eq_zero hn)⟩⟩
  · refine ⟨some ⟨g, 0, none⟩, cap, hv, ⟨by rw [cell_of_row w t 0 _ _ _ h.tb]; rfl, by rw [cell_of_row w t 1 _ _ _ h.tb]; show some lv = _; rw [hv], hc, Or.inr ⟨g, rfl, fun k hk => ?_⟩⟩⟩
    have hr := h.row
    rw [hv] at hr
    exact OwnQ.rq hr hk
theorem TOwn.keep {base : Nat} {w w' : World} {t : Nat} {most : Int} {lv : Value} {L : List Rq} {S : Nat → Prop} (h : TOwn base w t most lv L) (hf : Fr w w' S) (h1 : ¬ S t) (h2 : ∀ c, lv.ownBlock = some c → ¬ S c) : TOwn base w' t most lv L :=
  ⟨(hf.block t (Array.getElem?_eq_some_iff.1 h.tb).1 h1).trans h.tb, h.row.of_block (fun c hc => hf.block c (h.row.lo c hc).2 (h2 c hc)), h.ne, h.lo⟩
theorem TOwn.keepB {base : Nat} {w w' : World} {t : Nat} {most : Int} {lv : Value} {L : List Rq} (h : TOwn base w t most lv L) (hb : Below w.heap.size w w') : TOwn base w' t most lv L :=
  h.keep (Fr.of_below (F := fun _ => False) hb) (fun h => h) (fun _ _ h => h)
theorem TOwn.gr {base : Nat} {w : World} {t : Nat} {most : Int} {g n cap : Nat} {L : List Rq} (h : TOwn base w t most (.slice (some ⟨g, 0, none⟩) n cap) L) {i : Nat} (hi : i < L.length) : TOwn base (w.setCell ⟨g, i * 9 + 7, none⟩ (.bool true)) t most (.slice (some ⟨g, 0, none⟩) n cap) (grant L i) := by
  obtain ⟨h1, h2, h3, h4⟩ := h
  have hn := Row.len h2
  subst hn
  have hs := (World.ownsRow.stored h2 (i * 9 + 7) (.bool true)).1
  rw [flat_set L i hi] at hs
  have hf := fr_set w g (i * 9 + 7) (.bool true)
  refine ⟨(hf.block t (Array.getElem?_eq_some_iff.1 h1).1 (fun e => h3 (by rw [e]; rfl))).trans h1, ?_, h3, h4⟩
  show World.ownsRow _ _ _ _ _ _ _
  rw [grant_len]
  exact hs
/-- Another row is the table's. -/
theorem TOwn.row_ {base : Nat} {w : World} {t : Nat} {most : Int} {lv nv : Value} {L N : List Rq} (h : TOwn base w t most lv L) (hr : OwnQ base w nv N) (hn : nv.ownBlock ≠ some t) : TOwn base (w.setCell ⟨t, 1, none⟩ nv) t most nv N := by
  have hf := fr_set w t 1 nv
  refine ⟨?_, hr.of_block (fun c hc => hf.block c (hr.lo c hc).2 (fun e => hn (by rw [hc, e]))), hn, h.lo⟩
  rw [heap_setCell_same w t 1 _ _ _ h.tb]
  rfl
theorem may_fbk {L : List Rq} (h : LastI L) {i : Nat} (hi : i < L.length) (hg : L[i].gr = false) : isMay L i = true ↔ fbk L i L.length = [] := by
  have hx : L[i]? = some (atR L i) := atR_some hi
  have hg' : (atR L i).gr = false := by rw [atR_lt hi]; exact hg
  rw [blk_no_may hx hg']
  unfold fbk
  rw [List.filter_eq_nil_iff]
  constructor
  · intro hb k hk
    rw [List.mem_range] at hk
    rw [bkP_blk h hx hg' (atR_some hk), hb k hk]
    simp
  · intro hb k hk
    have := hb k (List.mem_range.2 hk)
    rw [bkP_blk h hx hg' (atR_some hk)] at this
    simpa using this
theorem may_fbk_no {L : List Rq} (h : LastI L) {i : Nat} (hi : i < L.length) (hg : L[i].gr = false) {k : Nat} (hk : k ≤ L.length) (hne : fbk L i k ≠ []) : isMay L i = false := by
  cases hm : isMay L i with
  | false => rfl
  | true =>
    have he := (may_fbk h hi hg).1 hm
    obtain ⟨j, hj⟩ := List.exists_mem_of_ne_nil _ hne
    unfold fbk at hj he
    rw [List.mem_filter, List.mem_range] at hj
    have : j ∈ (List.range L.length).filter fun j => bkP L i (atR L i) j (atR L j) := List.mem_filter.2 ⟨List.mem_range.2 (by omega), hj.2⟩
    rw [he] at this
    cases this
theorem enters_ag1 : Enters Tryd.prog 63 := enters_of Tryd.func63 (by kernel_rfl) rfl
theorem TOwn.putObj {base : Nat} {w : World} {t : Nat} {most : Int} {lv : Value} {L : List Rq} (h : TOwn base w t most lv L) {D : Nat} {o : Obj} (hK : w.heap[D]? = some o) (hc : o.isCells = false) (o' : Obj) : TOwn base (w.putObj D o') t most lv L := by
  refine ⟨?_, h.row.of_block (fun c hc' => ?_), h.ne, h.lo⟩
  · rw [World.putObj_heap_other (fun e => by subst e; rw [h.tb] at hK; cases hK; cases hc)]
    exact h.tb
  · refine World.putObj_heap_other (fun e => ?_)
    subst e
    rcases h.row.2 with ⟨hv, _⟩ | ⟨g, cap, cur, hv, _, hgb, _⟩
    · rw [hv] at hc'; cases hc'
    · rw [hv] at hc'
      obtain rfl : g = c := by simpa [Value.ownBlock] using hc'
      rw [hgb] at hK; cases hK; cases hc
set_option maxRecDepth 100000 in
set_option maxHeartbeats 4000000 in
theorem grant_fn {base : Nat} {w : World} {t : Nat} {most : Int} {lv : Value} {L : List Rq} (h : TOwn base w t most lv L) (hL : LibW w) (hlen : L.length ≤ 100000) (hlast : LastI L) {i : Nat} (hi : i < L.length) (hg : L[i].gr = false) :
    Calls Tryd.prog 35 #[.pointer (some ⟨t, 0, none⟩), .int .i64 i] w fun e w' => e = .returned (.bool (isMay L i)) ∧ TOwn base w' t most lv (if isMay L i then grant L i else L) ∧ Fr w w' (fun b => lv.ownBlock = some b) := by
  refine (callsIn_wide (n := 9)).1 ?_
  refine callsIn_of_wp_marks Tryd.func35 rfl trivial ?_ rfl
  simp only [Tryd.ntmps35, List.size_toArray, List.length_cons, List.length_nil, Nat.reduceAdd, Nat.reduceSub, Array.replicate_succ, Array.replicate_zero, List.push_toArray, List.append_toArray, List.nil_append, List.cons_append]
  have c0 := cell_new_l w (.bool false) 4
  have hB0 : Below w.heap.size w (w.alloc (.cells #[.bool false] 4)) := (Below.refl _ w).alloc (Nat.le_refl _) _
  have htl : t < w.heap.size := (Array.getElem?_eq_some_iff.1 h.tb).1
  generalize hmb : isMay L i = mb
  gi_wp2_with fail
  refine ⟨trivial, (callsIn_wide.2 (against_any _ _ _)).mono ?_⟩
  rintro e w2 ⟨rfl, hw2⟩
  obtain ⟨d1, d2, hb1⟩ := box_two (w.alloc (.cells #[.bool false] 4)) (.pointer (some ⟨t, 0, none⟩)) (.int .i64 i) 23 3
  rw [← hw2] at d1 d2 hb1
  clear hw2
  have hbw := keepA hB0 hb1
  have c2 := cell_keep hb1 c0.1
  have f2 := (frz_keep hb1 (p := ⟨w.heap.size, 0, none⟩) (by simp)).trans c0.2
  obtain ⟨ao, cap, hlv, hQ0⟩ := h.tab
  have hQ2 := hQ0.keep hbw
  have hseq := against1_in hQ2 (hL.keep hbw) hlen hi d1 d2 8 (by omega)
  simp only [World.size_alloc] at hseq
  gi_wp2_with fail
  have hsz2 : w.heap.size + 1 ≤ w2.heap.size := by have := hb1.size; simpa using this
  refine wpIn_rangeM (F := Fence.wide) (n := 9) rfl (by omega) (gf := 63) rfl trivial enters_ag1 hseq (Below.refl _ _) (fun _ => rfl)
    (fun m (pre : List Nat) W => pre = [] ∧ Below w2.heap.size w2 W)
    (fun k (pre : List Nat) W => (k = .ret ∧ pre ≠ [] ∧ W.cell? ⟨w.heap.size, 0, none⟩ = some (.bool false)) ∧ Below w.heap.size w W)
    (fun m => OwnFrom.and (ownFrom_pure _ (fun pre => pre = [])) (ownFrom_below (Nat.le_refl _) (Nat.le_refl _)))
    (fun c => OwnFrom.and (Own.from (fun s A B row hs hg hr => ⟨hs.1, hs.2.1, cell_kept hs.2.2 hg hr⟩) _) (ownFrom_below (Nat.le_refl _) (by omega)))
    (fun m pre W h => h.2)
    (fun m W hb _ _ => ⟨rfl, hb⟩)
    (fun (x : Nat) => { tmps := #[.pointer (some ⟨t, 0, none⟩), .int .i64 i, undef, undef, .pointer (some ⟨w.heap.size, 0, none⟩), .pointer (some ⟨t, 0, none⟩), .int .i64 i, .func (.func 63) #[] #[.pointer (some ⟨w.heap.size + 1, 0, none⟩), .pointer (some ⟨w.heap.size + 1 + 1, 0, none⟩)], .int .i64 (atR L x).tx, undef, undef, undef, undef, undef, undef, undef], defers := [] }) ?assign ?body ?done ?stop
  case assign =>
    intro l x W K hK
    gi_wp2
    simpa using hK
  case body =>
    rintro l m pre x W hm1 hm2 ⟨hp, hB⟩ _
    have hcr := cell_keep hB c2
    have hfr := (frz_keep hB (p := ⟨w.heap.size, 0, none⟩) (by show w.heap.size < _; omega)).trans f2
    have hBw := keepA hbw hB
    gi_wp2
    exact ⟨(KeepsOthers.setCell _ _ _).from _, ⟨rfl, by simp, World.cell?_setCell_same' _ _ _ (by rw [hcr]; rfl)⟩, hBw.setCell (p := ⟨w.heap.size, 0, none⟩) (by simp) _⟩
  case done =>
    rintro D m ys W hD hys ⟨hye, hB⟩ hK
    have hm : isMay L i = true := (may_fbk hlast hi hg).2 (by rw [← hys, hye])
    have hcr := cell_keep hB c2
    have hfr := (frz_keep hB (p := ⟨w.heap.size, 0, none⟩) (by show w.heap.size < _; omega)).trans f2
    have hBw := keepA hbw hB
    have hT := h.keepB hBw
    have hQ := hQ0.keep hBw
    obtain ⟨g, rfl, hq⟩ := hQ.at_ hi
    have q7 := hq.c7
    have cl := hQ.l
    have hle := hQ.le
    have hi2 : (i : Int) < (L.length : Int) := by omega
    subst hlv
    have hfz := Row.frozen hT.row (i * 9 + 7)
    have hglt : g < W.heap.size := (hT.row.lo g rfl).2
    have hg0 : g < w.heap.size := (h.row.lo g rfl).2
    have hne : ¬ (g = w.heap.size) := by omega
    have hne' : ¬ (w.heap.size = g) := by omega
    have HT : Hid (TOwn base W t most (.slice (some ⟨g, 0, none⟩) L.length cap) L) := hT
    have HTB : Hid (Below w.heap.size w W) := hBw
    clear hq hT hQ hQ0 h hseq hL d1 d2 hb1 hbw c2 f2 hB0 c0 hQ2 hB hBw hg
    obtain rfl : mb = true := hmb.symm.trans hm
    gi_wp2
    have T1 := (HT.out.gr hi).keep (fr_set _ w.heap.size 0 (.bool true)) (show ¬ t = w.heap.size by omega) (fun c hc => by cases hc; omega)
    have hK1 := (KeepsOthers.setCell W ⟨g, i * 9 + 7, none⟩ (.bool true)).same D _ hK rfl
    have hK2 := (KeepsOthers.setCell _ ⟨w.heap.size, 0, none⟩ (.bool true)).same D _ hK1 rfl
    have T2 := T1.putObj hK2 rfl (.deferred none)
    have hF0 : Fr w W (fun b => (Value.slice (some ⟨g, 0, none⟩) L.length cap).ownBlock = some b) := Fr.of_below HTB.out
    have hF1 := hF0.trans (fr_set W g (i * 9 + 7) (.bool true)) (fun k e => Or.inl (by rw [e]; rfl))
    have hF2 := hF1.trans (fr_set _ w.heap.size 0 (.bool true)) (fun k e => Or.inr (by omega))
    have hF3 := hF2.trans (Fr.of_grown (F := fun k => k = D) (grownBy_putObj' _ D (.deferred none)) (fun k e => by cases e; rfl)) (fun k e => Or.inr (by omega))
    have hcr1 : (W.setCell ⟨g, i * 9 + 7, none⟩ (.bool true)).cell? ⟨w.heap.size, 0, none⟩ = some (.bool false) := (World.cell?_setCell_far _ _ _ _ hne).trans hcr
    have hc4 := World.cell?_setCell_same' (W.setCell ⟨g, i * 9 + 7, none⟩ (.bool true)) ⟨w.heap.size, 0, none⟩ (.bool true) (by rw [hcr1]; rfl)
    have hc5 := cell_kept hc4 (grownBy_putObj' _ D (.deferred none)) (fun r e => by cases e; exact ⟨_, hK2, rfl⟩)
    refine ⟨by simp, .inl ⟨_, _, rfl, run_takeDeferred hK2, ?_⟩⟩
    refine ⟨.bool true, ?_, rfl, T2, hF3⟩
    simp [results, Tryd.results35, go_sem, hc5]
  case stop =>
    rintro D k pre W hD ⟨j, hj, hpre⟩ ⟨⟨rfl, hne, hcr⟩, hB⟩ hK
    have hm : isMay L i = false := may_fbk_no hlast hi hg hj (hpre ▸ hne)
    obtain rfl : mb = false := hmb.symm.trans hm
    subst hlv
    have hT := (h.keepB hB).putObj hK rfl (.deferred none)
    gi_wp2
    refine ⟨by simp, .inl ⟨_, _, rfl, run_takeDeferred hK, ?_⟩⟩
    have hc5 := cell_kept hcr (grownBy_putObj' _ D (.deferred none)) (fun r e => by cases e; exact ⟨_, hK, rfl⟩)
    refine ⟨.bool false, ?_, rfl, hT, Fr.of_below (hB.trans (belowK_b (w := w) (Nat.le_refl _) _ D _ _ (by omega) hK rfl rfl))⟩
    simp [results, Tryd.results35, go_sem, hc5]
end Go.Proofs.YtmldpbgdjlblmaaDoor

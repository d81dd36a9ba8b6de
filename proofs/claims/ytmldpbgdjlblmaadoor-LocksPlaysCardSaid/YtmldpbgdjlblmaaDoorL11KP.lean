/- What a transaction has stays: keep. -/
import Derived.Test.YtmldpbgdjlblmaaDoorL11GA
namespace Go.Proofs.YtmldpbgdjlblmaaDoor
open Go.RowKit Go.Maps Go.Shelf
set_option linter.unusedVariables false
set_option linter.unusedSimpArgs false
attribute [local go_sem] Oper.semAt_some

theorem var_lo {W W' : World} {B g : Nat} {n : String} {cs : Array Value} (hg : Tryd.prog.globalNamed n = some g) (h : W.var? Tryd.prog n = some cs) (hb : Below B W W') (hB : g < B) : W'.var? Tryd.prog n = some cs := by
  unfold World.var? at h ⊢
  rw [hg] at h ⊢
  simp only [Option.bind_some] at h ⊢
  rw [hb.block g hB]
  exact h
/-- The two tables of modes lie ahead of all that the calls make. -/
structure LibB (base : Nat) (w : World) : Prop where
  lib : LibW w
  lo1 : 1 < base
  lo2 : 0 < base
  le : base ≤ w.heap.size
theorem LibB.keep {base : Nat} {w w' : World} (h : LibB base w) (hb : Below base w w') : LibB base w' :=
  ⟨⟨var_lo gFits h.lib.fits hb h.lo1, var_lo gCov h.lib.cov hb h.lo2⟩, h.lo1, h.lo2, Nat.le_trans h.le hb.size⟩
theorem LibB.keepB {base : Nat} {w w' : World} (h : LibB base w) (hb : Below w.heap.size w w') : LibB base w' := h.keep (hb.mono h.le)
theorem LibB.fr {base : Nat} {w w' : World} {F : Nat → Prop} (h : LibB base w) (hf : Fr w w' F) (hF : ∀ k, F k → base ≤ k) : LibB base w' := h.keep (hf.below h.le hF)
theorem TOwn.kept {base : Nat} {w w' : World} {t : Nat} {most : Int} {lv : Value} {L : List Rq} (h : TOwn base w t most lv L) {row : Option Nat} (hg : w.grownBy w' row) (hr : ∀ k, row = some k → ∃ o : Obj, w.heap[k]? = some o ∧ o.isCells = false) : TOwn base w' t most lv L := by
  refine ⟨?_, h.row.of_block (fun c hc' => ?_), h.ne, h.lo⟩
  · rw [hg.block t (Array.getElem?_eq_some_iff.1 h.tb).1 (fun e => by obtain ⟨o, ho, hc⟩ := hr t e.symm; rw [h.tb] at ho; cases ho; cases hc)]
    exact h.tb
  · refine hg.block c (h.row.lo c hc').2 (fun e => ?_)
    obtain ⟨o, ho, hc⟩ := hr c e.symm
    rcases h.row.2 with ⟨hv, _⟩ | ⟨g, cap, cur, hv, _, hgb, _⟩
    · rw [hv] at hc'; cases hc'
    · rw [hv] at hc'
      obtain rfl : g = c := by simpa [Value.ownBlock] using hc'
      rw [hgb] at ho; cases ho; cases hc
/-- Requests that have been kept, at those places. -/
def ups (o : Ob) (m : Int) (pre : List Nat) (L : List Rq) : List Rq := L.mapIdx fun j r => if pre.contains j && oe r.ob o && decide (r.md = m) then { r with sh := false } else r
theorem ups_len (o : Ob) (m : Int) (pre : List Nat) (L : List Rq) : (ups o m pre L).length = L.length := by simp [ups]
theorem ups_nil (o : Ob) (m : Int) (L : List Rq) : ups o m [] L = L := by
  unfold ups
  apply List.ext_getElem?
  intro k
  rw [List.getElem?_mapIdx]
  cases L[k]? <;> simp
theorem ups_at {o : Ob} {m : Int} {pre : List Nat} {L : List Rq} {k : Nat} (hk : k < L.length) (h : ∀ j ∈ pre, j < k) : (ups o m pre L)[k]'(by rw [ups_len]; exact hk) = L[k] := by
  unfold ups
  rw [List.getElem_mapIdx, if_neg]
  intro hc
  simp only [Bool.and_eq_true, List.contains_iff_mem] at hc
  have := h k hc.1.1
  omega
/-- A request's last cell is turned. -/
def sset (r : Rq) : Rq := { r with sh := false }
theorem flat_set8 (L : List Rq) : ∀ (i : Nat), i < L.length → (L.flatMap Rq.cells).set (i * 9 + 8) (.bool false) = (L.modify i sset).flatMap Rq.cells := by
  induction L with
  | nil => intro i hi; simp at hi
  | cons a l ih =>
    intro i hi
    cases i with
    | zero => rfl
    | succ i =>
      rw [List.flatMap_cons]
      have e : (i + 1) * 9 + 8 = (Rq.cells a).length + (i * 9 + 8) := by show _ = 9 + _; omega
      rw [e, List.set_append, if_neg (by omega), Nat.add_sub_cancel_left]
      show _ = Rq.cells a ++ (l.modify i sset).flatMap Rq.cells
      rw [← ih i (by simpa using hi)]
theorem TOwn.sh {base : Nat} {w : World} {t : Nat} {most : Int} {g n cap : Nat} {L : List Rq} (h : TOwn base w t most (.slice (some ⟨g, 0, none⟩) n cap) L) {i : Nat} (hi : i < L.length) : TOwn base (w.setCell ⟨g, i * 9 + 8, none⟩ (.bool false)) t most (.slice (some ⟨g, 0, none⟩) n cap) (L.modify i sset) := by
  obtain ⟨h1, h2, h3, h4⟩ := h
  have hn := Row.len h2
  subst hn
  have hs := (World.ownsRow.stored h2 (i * 9 + 8) (.bool false)).1
  rw [flat_set8 L i hi] at hs
  have hf := fr_set w g (i * 9 + 8) (.bool false)
  refine ⟨(hf.block t (Array.getElem?_eq_some_iff.1 h1).1 (fun e => h3 (by rw [e]; rfl))).trans h1, ?_, h3, h4⟩
  show World.ownsRow _ _ _ _ _ _ _
  rw [List.length_modify]
  exact hs
theorem ups_yes {o : Ob} {m : Int} {pre : List Nat} {L : List Rq} {k : Nat} (hk : k < L.length) (h1 : oe L[k].ob o = true) (h2 : L[k].md = m) : ups o m (pre ++ [k]) L = (ups o m pre L).modify k sset := by
  apply List.ext_getElem?
  intro j
  rw [List.getElem?_modify]
  unfold ups
  rw [List.getElem?_mapIdx, List.getElem?_mapIdx]
  by_cases e : k = j
  · subst e
    rw [List.getElem?_eq_getElem hk]
    simp only [Option.map_some, if_true, Option.map_map, Function.comp]
    rw [if_pos (by simp [h1, h2])]
    congr 1
    split <;> rfl
  · cases hj : L[j]? with
    | none => simp
    | some r =>
      simp only [Option.map_some, if_neg e, Function.comp]
      have e2 : (pre ++ [k]).contains j = pre.contains j := by simp [Ne.symm e]
      rw [e2]
      simp
theorem ups_no {o : Ob} {m : Int} {pre : List Nat} {L : List Rq} {k : Nat} (hk : k < L.length) (h : (oe L[k].ob o && decide (L[k].md = m)) = false) : ups o m (pre ++ [k]) L = ups o m pre L := by
  apply List.ext_getElem?
  intro j
  unfold ups
  rw [List.getElem?_mapIdx, List.getElem?_mapIdx]
  by_cases e : k = j
  · subst e
    rw [List.getElem?_eq_getElem hk]
    simp only [Option.map_some]
    rw [Bool.and_assoc, Bool.and_assoc, h]
    simp
  · cases hj : L[j]? with
    | none => simp
    | some r =>
      simp only [Option.map_some]
      have e2 : (pre ++ [k]).contains j = pre.contains j := by simp [Ne.symm e]
      rw [e2]
theorem ups_all (tx : Int) (o : Ob) (m : Int) (L : List Rq) : ups o m (fil (hvP tx o m) L L.length) L = L.map (unshort tx o m false) := by
  apply List.ext_getElem?
  intro j
  unfold ups
  rw [List.getElem?_mapIdx, List.getElem?_map]
  cases hj : L[j]? with
  | none => rfl
  | some r =>
    obtain ⟨hl, he⟩ := List.getElem?_eq_some_iff.1 hj
    simp only [Option.map_some]
    have e1 : (fil (hvP tx o m) L L.length).contains j = heldB r tx o m := by
      rw [← hvP_held]
      have e2 : hvP tx o m r = hvP tx o m (atR L j) := by rw [atR_lt hl, he]
      rw [e2]
      cases hc : hvP tx o m (atR L j) with
      | true =>
        rw [List.contains_iff_mem]
        unfold fil
        rw [List.mem_filter, List.mem_range]
        exact ⟨hl, hc⟩
      | false =>
        cases hd : (fil (hvP tx o m) L L.length).contains j with
        | false => rfl
        | true =>
          rw [List.contains_iff_mem] at hd
          rw [(fil_lt hd).2] at hc
          cases hc
    rw [e1]
    unfold unshort
    simp
/-- Where keep's loop stands. -/
structure KpI (base : Nat) (w2 : World) (t : Nat) (most : Int) (lv : Value) (L : List Rq) (o : Ob) (m : Int) (pre : List Nat) (V : World) : Prop where
  tb : TOwn base V t most lv (ups o m pre L)
  fr : Fr w2 V (fun b => lv.ownBlock = some b)
theorem KpI.own {base : Nat} {w2 : World} {t : Nat} {most : Int} {lv : Value} {L : List Rq} {o : Ob} {m : Int} : OwnFrom w2.heap.size (KpI base w2 t most lv L o m) := fun pre A C row hs hg hr =>
  ⟨hs.tb.kept hg (fun k e => (hr k e).2), hs.fr.trans (Fr.of_grown (F := fun k => row = some k) hg (fun k e => e)) (fun k e => Or.inr (hr k e).1)⟩
set_option maxRecDepth 100000 in
set_option maxHeartbeats 4000000 in
theorem keep_fn {base : Nat} {w : World} {t : Nat} {most : Int} {lv : Value} {L : List Rq} (h : TOwn base w t most lv L) (hL : LibB base w) (hlen : L.length ≤ 100000) (tx : Int) (o : Ob) (m : Int) :
    Calls Tryd.prog 34 #[.pointer (some ⟨t, 0, none⟩), .int .i64 tx, o.v, .int .i64 m] w fun e w' => (∃ v, e = .returned v) ∧ TOwn base w' t most lv (L.map (unshort tx o m false)) ∧ Fr w w' (fun b => lv.ownBlock = some b) := by
  refine (callsIn_wide (n := 9)).1 ?_
  refine callsIn_of_wp_marks Tryd.func34 rfl trivial ?_ rfl
  have hhv := fun w => having_any w (some ⟨t, 0, none⟩) tx o m
  obtain ⟨sb, tb, lb', ub, nb⟩ := o
  simp only [Tryd.ntmps34, List.size_toArray, List.length_cons, List.length_nil, Nat.reduceAdd, Nat.reduceSub, Array.replicate_succ, Array.replicate_zero, List.push_toArray, List.append_toArray, List.nil_append, List.cons_append]
  have htl : t < w.heap.size := (Array.getElem?_eq_some_iff.1 h.tb).1
  have hbk : Below w.heap.size w (((w.alloc (.cells #[.pointer (some ⟨t, 0, none⟩)] 23)).alloc (.cells #[.int .i64 sb, .string tb, .string lb', .string ub, .bool nb] 33)).alloc (.cells #[.int .i64 m] 36)) := (((Below.refl _ _).alloc (Nat.le_refl _) _).alloc (by simp) _).alloc (by simp; omega) _
  have k0 := cell_keep ((Below.refl _ _).alloc (Nat.le_refl _) (.cells #[.int .i64 m] 36)) (cell_keep ((Below.refl _ _).alloc (Nat.le_refl _) (.cells #[.int .i64 sb, .string tb, .string lb', .string ub, .bool nb] 33)) (cell_new_l w (.pointer (some ⟨t, 0, none⟩)) 23).1)
  have k1 := (BoxO.new (w.alloc (.cells #[.pointer (some ⟨t, 0, none⟩)] 23)) ⟨sb, tb, lb', ub, nb⟩).keep ((Below.refl _ _).alloc (Nat.le_refl _) (.cells #[.int .i64 m] 36))
  have k2 := (cell_new_l ((w.alloc (.cells #[.pointer (some ⟨t, 0, none⟩)] 23)).alloc (.cells #[.int .i64 sb, .string tb, .string lb', .string ub, .bool nb] 33)) (.int .i64 m) 36).1
  simp only [World.size_alloc] at k1 k2
  have hsk : (((w.alloc (.cells #[.pointer (some ⟨t, 0, none⟩)] 23)).alloc (.cells #[.int .i64 sb, .string tb, .string lb', .string ub, .bool nb] 33)).alloc (.cells #[.int .i64 m] 36)).heap.size = w.heap.size + 3 := by simp
  generalize hwk : (((w.alloc (.cells #[.pointer (some ⟨t, 0, none⟩)] 23)).alloc (.cells #[.int .i64 sb, .string tb, .string lb', .string ub, .bool nb] 33)).alloc (.cells #[.int .i64 m] 36)) = wk at *
  obtain ⟨y0, y1, y2, y3, y4⟩ := id k1
  simp only at y0 y1 y2 y3 y4
  gi_wp2_with fail
  clear hwk y0 y1 y2 y3 y4
  refine ⟨trivial, (callsIn_wide.2 (hhv _)).mono ?_⟩
  rintro e w2 ⟨rfl, H2⟩
  have hbw := keepA hbk H2.b
  replace k0 := cell_keep H2.b k0
  replace k1 := k1.keep H2.b
  replace k2 := cell_keep H2.b k2
  obtain ⟨ao, cap, hlv, hQ0⟩ := h.tab
  have hs2 : w.heap.size + 3 ≤ w2.heap.size := by have := H2.b.size; omega
  have hrow : ∀ c, lv.ownBlock = some c → c < w.heap.size ∧ base ≤ c := fun c hc => ⟨(h.row.lo c hc).2, (h.row.lo c hc).1⟩
  have hKb : ∀ (V : World) (pre : List Nat), KpI base w2 t most lv L ⟨sb, tb, lb', ub, nb⟩ m pre V → ∀ b, w.heap.size ≤ b → b < w2.heap.size → V.heap[b]? = w2.heap[b]? := fun V pre hs b h1 h2 => hs.fr.block b h2 (fun e => by have := hrow b e; omega)
  have hKL : ∀ (V : World) (pre : List Nat), KpI base w2 t most lv L ⟨sb, tb, lb', ub, nb⟩ m pre V → LibB base V := fun V pre hs => (hL.keepB hbw).fr hs.fr (fun k e => (hrow k e).2)
  have hlt4 : w.heap.size + 3 + 4 < w2.heap.size := by have := World.block_lt_of_cell? w2 _ H2.c4; rw [hsk] at this; exact this
  have hTh : ∀ (V : World) (pre : List Nat), KpI base w2 t most lv L ⟨sb, tb, lb', ub, nb⟩ m pre V → ThRd V (wk.heap.size + 3) (wk.heap.size + 4) t ao L (hvP tx ⟨sb, tb, lb', ub, nb⟩ m) 69 #[.pointer (some ⟨wk.heap.size, 0, none⟩), .pointer (some ⟨wk.heap.size + 2, 0, none⟩), .pointer (some ⟨wk.heap.size + 1, 0, none⟩)] pre := fun V pre hs => by
    have hbl := hKb V pre hs
    have cb := fun (b o : Nat) (v : Value) (h1 : w.heap.size ≤ b) (h2 : w2.cell? ⟨b, o, none⟩ = some v) => (World.cell?_of_block (w := w2) (w' := V) (a := ⟨b, o, none⟩) (hbl b h1 (World.block_lt_of_cell? w2 _ h2))).trans h2
    refine ⟨cb _ _ _ (by omega) H2.c3, cb _ _ _ (by omega) H2.c4, fun k hk hp => ?_, fun r => ?_⟩
    · have hk' : k < (ups ⟨sb, tb, lb', ub, nb⟩ m pre L).length := by rw [ups_len]; exact hk
      obtain ⟨ao', cap', e1, hQ⟩ := hs.tb.tab
      rw [hlv, ups_len] at e1
      simp only [Value.slice.injEq, true_and] at e1
      obtain ⟨rfl, rfl⟩ := e1
      obtain ⟨g, e2, hq⟩ := hQ.at_ hk'
      rw [ups_at hk hp, ← atR_lt hk] at hq
      exact ⟨g, e2, hq⟩
    · exact having1_fn r (cb _ _ _ (by omega) H2.c0) (cb _ _ _ (by omega) H2.c2) ⟨cb _ _ _ (by omega) H2.c1.c0, cb _ _ _ (by omega) H2.c1.c1, cb _ _ _ (by omega) H2.c1.c2, cb _ _ _ (by omega) H2.c1.c3, cb _ _ _ (by omega) H2.c1.c4⟩ (hKL V pre hs).lib
  gi_wp2_with fail
  have hcl2 := cell_keep hbw hQ0.l
  refine wpIn_rangeX (F := Fence.wide) (n := 9) rfl (by omega) (gf := 60) (lb := #[.pointer (some ⟨wk.heap.size + 3, 0, none⟩), .pointer (some ⟨wk.heap.size + 4, 0, none⟩)]) rfl trivial enters_those1
    (those_seq 8 (by omega) (wk.heap.size + 3) (wk.heap.size + 4) t hQ0.le hlen (hvP tx ⟨sb, tb, lb', ub, nb⟩ m) 69 #[.pointer (some ⟨wk.heap.size, 0, none⟩), .pointer (some ⟨wk.heap.size + 2, 0, none⟩), .pointer (some ⟨wk.heap.size + 1, 0, none⟩)] enters_h1 w2 hcl2) (Below.refl _ _) (fun _ => rfl)
    (KpI base w2 t most lv L ⟨sb, tb, lb', ub, nb⟩ m) (fun _ _ _ => False) KpI.own (fun _ _ _ _ _ hs _ _ => hs) (fun pre V hs => hTh V pre hs)
    ⟨by rw [ups_nil]; exact h.keepB hbw, Fr.refl _ _⟩
    (fun (k : Nat) a' V => ∃ b8, BoxQ V b8 (atR L k) ∧ b8 < V.heap.size ∧ w2.heap.size ≤ b8 ∧ a' = { tmps := #[.pointer (some ⟨t, 0, none⟩), .int .i64 tx, Ob.v ⟨sb, tb, lb', ub, nb⟩, .int .i64 m, .pointer (some ⟨w.heap.size, 0, none⟩), undef, .pointer (some ⟨w.heap.size + 1, 0, none⟩), .pointer (some ⟨w.heap.size + 1 + 1, 0, none⟩), .int .i64 (k : Int), .pointer (some ⟨b8, 0, none⟩), .pointer (some ⟨t, 0, none⟩), .int .i64 tx, .agg #[.int .i64 sb, .string tb, .string lb', .string ub, .bool nb], .int .i64 m, hvV wk, .int .i64 (k : Int), (atR L k).v, undef, undef, undef, undef, undef, undef, undef, undef, undef, undef, undef, undef, undef, undef, undef, undef, undef], defers := [] })
    (fun k a' => Own.from (fun s A C row hs hg' hr => by obtain ⟨b8, hq8, h1, h2, ha⟩ := hs; exact ⟨b8, hq8.kept hg' hr, Nat.lt_of_lt_of_le h1 hg'.size, h2, ha⟩) _)
    ?assign ?body ?done ?stop
  case assign =>
    intro l' pre k V K hI hK
    have hbq := BoxQ.new V (atR L k)
    have hI2 := KpI.own.alloc (atR L k).box hI
    have hk2 := fun a' h => hK a' (V.alloc (atR L k).box) ((KeepsOthers.alloc V _).from _) hI2 h
    have hvs : w2.heap.size ≤ V.heap.size := hI.fr.size
    clear hK
    show Code.wpIn _ _ _ _ _ _ _
    unfold encR
    generalize atR L k = r at *
    obtain ⟨xt, ⟨sa, ta, la, ua, na⟩, xm, xg, xs⟩ := r
    gi_wp2
    refine ⟨_, hbq, ?_, ?_, rfl⟩
    · simp
    · exact hvs
  case body =>
    rintro l' pre k a' V hdm hI ⟨b8, hq8, hb8, hb8', rfl⟩ hlt
    obtain ⟨hkl, hkp, hkj⟩ := hdm
    have hbl := hKb V pre hI
    have cb := fun (b o : Nat) (v : Value) (h1 : w.heap.size ≤ b) (h2 : w2.cell? ⟨b, o, none⟩ = some v) => (World.cell?_of_block (w := w2) (w' := V) (a := ⟨b, o, none⟩) (hbl b h1 (World.block_lt_of_cell? w2 _ h2))).trans h2
    have y0 := cb _ _ _ (Nat.le_refl _) k0
    have z0 := cb _ _ _ (by omega) k1.c0
    have z1 := cb _ _ _ (by omega) k1.c1
    have z2 := cb _ _ _ (by omega) k1.c2
    have z3 := cb _ _ _ (by omega) k1.c3
    have z4 := cb _ _ _ (by omega) k1.c4
    have y2 := cb _ _ _ (by omega) k2
    simp only at z0 z1 z2 z3 z4
    have hk' : k < (ups ⟨sb, tb, lb', ub, nb⟩ m pre L).length := by rw [ups_len]; exact hkl
    obtain ⟨ao', cap', e1, hQ⟩ := hI.tb.tab
    rw [hlv, ups_len] at e1
    simp only [Value.slice.injEq, true_and] at e1
    obtain ⟨rfl, rfl⟩ := e1
    obtain ⟨g, rfl, hqk⟩ := hQ.at_ hk'
    have hcl := hQ.l
    rw [ups_len] at hcl
    have hle : L.length ≤ cap := by have := hQ.le; rw [ups_len] at this; exact this
    have hTI := hI.tb
    rw [hlv] at hTI
    have hfz := Row.frozen hTI.row (k * 9 + 8)
    have q8' := hqk.c8
    have hki : (k : Int) < (L.length : Int) := by omega
    have hno : (oe L[k].ob ⟨sb, tb, lb', ub, nb⟩ && decide (L[k].md = m)) = false → bodyR w2.heap.size (KpI base w2 t most lv L ⟨sb, tb, lb', ub, nb⟩ m) (fun _ _ _ => False) (pre ++ [k]) V .normal { tmps := #[], defers := [] } V := fun hn => ⟨KeepsFrom.refl _ _, trivial, ⟨by rw [ups_no hkl hn]; exact hI.tb, hI.fr⟩⟩
    have hyes : oe L[k].ob ⟨sb, tb, lb', ub, nb⟩ = true → L[k].md = m → bodyR w2.heap.size (KpI base w2 t most lv L ⟨sb, tb, lb', ub, nb⟩ m) (fun _ _ _ => False) (pre ++ [k]) V .normal { tmps := #[], defers := [] } (V.setCell ⟨g, k * 9 + 8, none⟩ (.bool false)) := fun h1 h2 => by
      refine ⟨(KeepsOthers.setCell _ _ _).from _, trivial, ⟨?_, hI.fr.trans (fr_set _ g _ _) (fun b e => Or.inl (by rw [hlv, e]; rfl))⟩⟩
      rw [ups_yes hkl h1 h2, hlv]
      exact hTI.sh hk'
    have HN := Hid.mk' hno
    have HY := Hid.mk' hyes
    rw [← atR_lt hkl] at HN HY
    clear hno hyes hqk hQ hTI hI hbl cb k0 k1 k2 hKb hKL hTh h hQ0 hcl2 hL hlv
    generalize atR L k = r at *
    obtain ⟨q0, q1, q2, q3, q4, q5, q6, q7, q8⟩ := hq8
    obtain ⟨xt, ⟨sa, ta, la, ua, na⟩, xm, xg, xs⟩ := r
    simp only at q0 q1 q2 q3 q4 q5 q6 q7 q8 HN HY
    have hch := chain_obj sa sb ta la ua tb lb' ub na nb
    generalize oe ⟨sa, ta, la, ua, na⟩ ⟨sb, tb, lb', ub, nb⟩ = t1 at *
    cases t1 with
    | false =>
      gi_wp2
      exact HN.out (by simp)
    | true =>
      by_cases hmm : xm = m
      · subst hmm
        generalize ((ups ⟨sb, tb, lb', ub, nb⟩ xm pre L)[k]).sh = osh at *
        gi_wp2
        first | exact HY.out rfl rfl | exact HY.out trivial trivial | exact HY.out rfl trivial | exact HY.out trivial rfl
      · have hmm2 : (xm == m) = false := by simpa using hmm
        gi_wp2
        exact HN.out (by simp [hmm])
  case done =>
    rintro D ys V hD hys hI hK
    have hT := hI.tb
    rw [hys, ups_all] at hT
    have hF : Fr w V (fun b => lv.ownBlock = some b) := (Fr.of_below hbw).trans hI.fr (fun k e => Or.inl e)
    gi_wp2
    refine ⟨by simp, .inl ⟨_, _, rfl, run_takeDeferred hK, ?_⟩⟩
    exact ⟨_, results_none rfl _ _ _, ⟨_, rfl⟩, hT.putObj hK rfl _, hF.trans (Fr.of_grown (F := fun k => k = D) (grownBy_putObj' _ D (.deferred none)) (fun k e => by cases e; rfl)) (fun k e => Or.inr (by omega))⟩
  case stop =>
    rintro D c pre V _ _ hf _
    exact hf.elim
end Go.Proofs.YtmldpbgdjlblmaaDoor

/- What goes over a page's slots: Scan's function. -/
import Derived.Test.YtkmgahembhgloaaH8I
namespace Go.Proofs.Ytkmgahembhgloaa
open Go.RowKit Go.Maps Go.Shelf
set_option linter.unusedVariables false
set_option linter.unusedSimpArgs false
attribute [local go_sem] Oper.semAt_some

theorem infoI : (Try.prog.info? 3).map (fun i => (i.zero, i.size, i.bytes)) = some (some (.int .i64 0), 1, 8) := by kernel_rfl
/-- The ids of a page's records, of those slots. -/
def newIds (page : Nat) (c : List UInt8) (pre : List (Fin 256)) : List Int := (pre.filter fun x => decide (0 < (recP c x.val).length)).map fun x => (page : Int) * 256 + (x.val : Int)
theorem newIds_hit (page : Nat) (c : List UInt8) (pre : List (Fin 256)) (x : Fin 256) (h : 0 < (recP c x.val).length) : newIds page c (pre ++ [x]) = newIds page c pre ++ [(page : Int) * 256 + (x.val : Int)] := by simp [newIds, h]
theorem newIds_miss (page : Nat) (c : List UInt8) (pre : List (Fin 256)) (x : Fin 256) (h : ¬ 0 < (recP c x.val).length) : newIds page c (pre ++ [x]) = newIds page c pre := by
  unfold newIds
  rw [List.filter_append, List.filter_cons_of_neg (by simpa using h), List.filter_nil, List.append_nil]
theorem newIds_len (page : Nat) (c : List UInt8) (pre : List (Fin 256)) : (newIds page c pre).length ≤ pre.length := by
  unfold newIds; rw [List.length_map]; exact List.length_filter_le _ _
/-- The ids of a page's records. -/
def idsR (page : Nat) (rs : List (List UInt8)) : List Int := ((List.range rs.length).filter fun s => decide (0 < (rs.getD s []).length)).map fun s : Nat => (page : Int) * 256 + (s : Int)
theorem newIds_all (page : Nat) (c : List UInt8) : newIds page c (fins.take (cntP c)) = idsR page (recsP c) := by
  have hcl := cntP_le c
  unfold newIds idsR
  rw [recsP_len]
  have e : (List.range (cntP c)).filter (fun s => decide (0 < ((recsP c).getD s []).length)) = (List.range (cntP c)).filter (fun s => decide (0 < (recP c s).length)) := by
    apply List.filter_congr
    intro s hs
    rw [List.mem_range] at hs
    rw [List.getD_eq_getElem?_getD, List.getElem?_eq_getElem (by rw [recsP_len]; exact hs), Option.getD_some, recsP_at]
  rw [e]
  have h2 := fins_map (fun s => s) (cntP c) hcl
  rw [List.map_id'] at h2
  rw [← h2, List.filter_map, List.map_map]
  rfl
/-- Where Scan's function stands. -/
structure ScanSt (w : World) (base Bi Bp : Nat) (v0 : Value) (ids : List Int) (page : Nat) (c : List UInt8) (pre : List (Fin 256)) (W : World) : Prop where
  row : ∃ v, Boxed W Bi 33 v ∧ W.ownsRow base 3 1 v (ids ++ newIds page c pre).length ((ids ++ newIds page c pre).map (Value.int .i64)) ∧ (v.ownBlock = v0.ownBlock ∨ ∀ k, v.ownBlock = some k → w.heap.size + 1 ≤ k)
  pg : W.cell? ⟨Bp, 0, none⟩ = some (.int .i64 page)
  fr : Fr w W (fun k => k = Bi ∨ v0.ownBlock = some k)
  size : w.heap.size + 1 ≤ W.heap.size
theorem fr_own {w W W' : World} {S : Nat → Prop} {B : Nat} {row : Option Nat} (h : Fr w W S) (hB : w.heap.size ≤ B) (hg : W.grownBy W' row) (hr : ∀ r, row = some r → B ≤ r) : Fr w W' S :=
  ⟨hg.os.trans h.os, hg.tape.trans h.tape, hg.output.trans h.output, Nat.le_trans h.size hg.size, fun k hk hn => (hg.block k (Nat.lt_of_lt_of_le hk h.size) (fun e => by have := hr k e.symm; omega)).trans (h.block k hk hn)⟩
theorem scanSt_own (w : World) (base Bi Bp : Nat) (v0 : Value) (ids : List Int) (page : Nat) (c : List UInt8) (B : Nat) (hB : w.heap.size ≤ B) : OwnFrom B (ScanSt w base Bi Bp v0 ids page c) := by
  intro pre W W' row ⟨⟨v, hv, hrow, ho⟩, h2, h3, h4⟩ hg hr
  refine ⟨⟨v, hv.kept hg (fun e' => ?_), hrow.kept hg ?_, ho⟩, cell_kept h2 hg (fun r e => (hr r e).2), fr_own h3 hB hg (fun r e => (hr r e).1), Nat.le_trans h4 hg.size⟩
  · obtain ⟨_, o, ho, hc⟩ := hr _ e'.symm
    rw [show W.heap[Bi]? = _ from hv] at ho; cases ho; cases hc
  · rcases hrow.2 with ⟨rfl, _⟩ | ⟨g, cap, cur, rfl, _, hgb, _⟩
    · exact .inl rfl
    · refine .inr fun e' => ?_
      obtain ⟨_, o, ho, hc⟩ := hr g (by simpa [Value.ownBlock] using e'.symm)
      rw [hgb] at ho; cases ho; cases hc
set_option maxRecDepth 100000 in
set_option maxHeartbeats 1000000 in
theorem scan1_any {w : World} {a : Addr} {cap : Nat} {c : List UInt8} (hC : Cont w a cap c) {base Bi Bp : Nat} {v0 : Value} {ids : List Int} {page : Nat} (hv0 : Boxed w Bi 33 v0) (hrow0 : w.ownsRow base 3 1 v0 ids.length (ids.map (Value.int .i64))) (hpg0 : w.cell? ⟨Bp, 0, none⟩ = some (.int .i64 page)) (hpl : page < 256) (hids : ids.length ≤ 100000) (hb : base ≤ w.heap.size)
    (n1 : a.block ≠ Bi) (n2 : v0.ownBlock ≠ some a.block) (n3 : Bp ≠ Bi) (n4 : v0.ownBlock ≠ some Bp) (n5 : v0.ownBlock ≠ some Bi) :
    Calls Try.prog 30 #[.slice (some a) 2048 cap, .pointer (some ⟨Bi, 0, none⟩), .pointer (some ⟨Bp, 0, none⟩)] w fun e w' => e = .returned (.slice none 0 0) ∧ (∃ v, Boxed w' Bi 33 v ∧ w'.ownsRow base 3 1 v (ids ++ idsR page (recsP c)).length ((ids ++ idsR page (recsP c)).map (Value.int .i64)) ∧ (v.ownBlock = v0.ownBlock ∨ ∀ k, v.ownBlock = some k → w.heap.size ≤ k)) ∧ Fr w w' (fun k => k = Bi ∨ v0.ownBlock = some k) := by
  obtain ⟨i0, hi, hz0, hz1, hz2⟩ := info_parts infoI
  have hCl := hC.lt
  have hBil := hv0.lt
  have hBpl := World.block_lt_of_cell? w _ hpg0
  replace hBpl : Bp < w.heap.size := hBpl
  refine (callsIn_wide (n := 9)).1 ?_
  refine callsIn_of_wp_marks Try.func30 rfl trivial ?_ rfl
  simp only [Try.ntmps30, List.size_toArray, List.length_cons, List.length_nil, Nat.reduceAdd, Nat.reduceSub, Array.replicate_succ, Array.replicate_zero, List.push_toArray, List.append_toArray, List.nil_append, List.cons_append]
  gi_wp2_with (refine ⟨trivial, ?_⟩; gi_at_call 31; refine (callsIn_wide.2 (slots_any (some a) 2048 cap _)).mono ?_; rintro e w' ⟨rfl, rfl⟩)
  have c2 := cell_new_l w (.slice (some a) 2048 cap) 30
  have hB0 : Below w.heap.size w (w.alloc (.cells #[.slice (some a) 2048 cap] 30)) := (Below.refl _ w).alloc (Nat.le_refl _) _
  refine wpIn_rangeFunc_ownG (F := Fence.wide) (n := 9) rfl (by omega) (gf := 57) (lb := #[.pointer (some ⟨w.heap.size, 0, none⟩)]) rfl trivial (enters_of Try.func57 (by kernel_rfl) rfl)
    (slots_stops 8 (by omega) w.heap.size a cap c _ (by simp) c2.1 (hC.keep hB0)) Kc.trans (kc_b (by simp) (by simp; omega)) (Below.refl _ _) (fun _ => rfl)
    (ScanSt w base Bi Bp v0 ids page c)
    (fun _ _ _ => False)
    (scanSt_own w base Bi Bp v0 ids page c _ (by simp))
    (fun _ _ _ _ _ hs _ _ => hs)
    ⟨⟨v0, hv0.alloc _, by simpa [newIds] using hrow0.alloc _, Or.inl rfl⟩, cell_alloc_l _ hpg0, Fr.alloc _ _ _, by simp⟩
    (fun (x : Fin 256) => { tmps := #[.slice (some a) 2048 cap, .pointer (some ⟨Bi, 0, none⟩), .pointer (some ⟨Bp, 0, none⟩), undef, .slice none 0 0, .int .i64 (x.val : Int), recV a cap c x.val, .slice (some a) 2048 cap, .func (.func 57) #[] #[.pointer (some ⟨w.heap.size, 0, none⟩)], .int .i64 (x.val : Int), recV a cap c x.val, undef, undef, undef, undef, undef, undef, undef, undef, undef, undef], defers := [] }) ?assign ?body ?done ?stop
  case assign =>
    intro l x W K hK
    rw [slotV_eq]
    gi_wp2
    exact hK
  case body =>
    rintro l pre x W ⟨⟨v, hv, hrow, ho⟩, hpg, hfr, hsz⟩ hlt
    have hc := hv.cell
    have hxl := x.isLt
    have hvB : v.ownBlock ≠ some Bi := fun e => by
      rcases ho with h | h
      · exact n5 (h ▸ e)
      · have := h _ e; omega
    have hnl := newIds_len page c pre
    obtain ⟨ao, cp, hpv, _⟩ := (recV_bytes hC x.val).form
    rw [hpv]
    by_cases hm : 0 < (recP c x.val).length
    · have hit := newIds_hit page c pre x hm
      generalize (recP c x.val).length = m at *
      have hm' : (m : Int) > 0 := by omega
      obtain ⟨L, hL⟩ : ∃ L, ids ++ newIds page c pre = L := ⟨_, rfl⟩
      have hLl : L.length ≤ 101000 := by rw [← hL, List.length_append]; omega
      rw [hL] at hrow
      obtain ⟨y, hy⟩ : ∃ y : Int, (page : Int) * 256 + (x.val : Int) = y := ⟨_, rfl⟩
      have HIT : Hid (ids ++ newIds page c (pre ++ [x]) = L ++ [y]) := by rw [hit, hy, ← List.append_assoc, hL]; exact rfl
      clear hit hL
      gi_wp2_with (gi_at_builtin; refine wpListIn_append_own_at _ rfl _ _ 33 rfl base 3 i0 (.int .i64 0) 1 8 Try.underlying33 hi hz0 hz1 hz2 rfl (by decide) _ _ _ rfl (hrow.alloc _) ⟨W.heap.size, 0, none⟩ 1 1 [.int .i64 y] rfl rfl (cell_one_new _ _ _) (by simp [Value.oneCell']) (by unfold maxLen; omega) (by omega) (by simp; omega) ?_; intro v' w1 hown' hgrow _ hat; obtain ⟨g', cap', rfl⟩ := ownsRow_succ hown'; obtain ⟨hv1, hA⟩ := app8 hv hvB hrow (by omega) hown' hgrow (hat.imp id (fun e k hk => by rw [e] at hk; simp at hk; omega)); have hc1 := hv1.cell; have hf1 := hv1.frozen)
      have hoo : (Value.slice (some ⟨g', 0, none⟩) (L.length + 1) cap').ownBlock = v0.ownBlock ∨ ∀ k, (Value.slice (some ⟨g', 0, none⟩) (L.length + 1) cap').ownBlock = some k → w.heap.size + 1 ≤ k := by
        rcases hA.own with h | h
        · rcases ho with h' | h'
          · exact Or.inl (h.trans h')
          · exact Or.inr fun k hk => h' k (h ▸ hk)
        · exact Or.inr fun k hk => by have := h k hk; omega
      have hno : ∀ k, k ≤ w.heap.size → v0.ownBlock ≠ some k → v.ownBlock ≠ some k := fun k hk hn e => by
        rcases ho with h | h
        · exact hn (h ▸ e)
        · have := h k e; omega
      have hvs : v0.ownBlock ≠ some w.heap.size := fun e => by have := (ownGe hrow0 _ e).2; omega
      refine ⟨hA.oth.from _, ⟨hA.grown _ (by omega) (by omega) (hno _ (by omega) hvs), hA.grown _ (by omega) n1 (hno _ (by omega) n2)⟩, ⟨_, hA.box, ?_, hoo⟩, ?_, ?_, Nat.le_trans hsz hA.oth.size⟩
      · rw [HIT.out]; simpa using hA.row
      · rw [World.cell?_of_block (hA.grown Bp (by omega) n3 (hno _ (by omega) n4))]; exact hpg
      · refine ⟨(hA.below 0 (by omega) (by omega) (by omega)).os.trans hfr.os, (hA.below 0 (by omega) (by omega) (by omega)).tape.trans hfr.tape, (hA.below 0 (by omega) (by omega) (by omega)).output.trans hfr.output, Nat.le_trans hfr.size hA.oth.size, fun k hk hn => (hA.grown k (by omega) (fun e => hn (Or.inl e)) (hno _ (by omega) (fun e => hn (Or.inr e)))).trans (hfr.block k hk hn)⟩
    · have hit := newIds_miss page c pre x hm
      generalize (recP c x.val).length = m at *
      have hm' : ¬ (m : Int) > 0 := by omega
      gi_wp2
      exact ⟨KeepsFrom.refl _ _, Kc.refl _ _ _, ⟨v, hv, by rw [hit]; exact hrow, ho⟩, hpg, hfr, hsz⟩
  case done =>
    rintro D ys W hD rfl ⟨⟨v, hv, hrow, ho⟩, hpg, hfr, hsz⟩ hK
    rw [newIds_all] at hrow
    gi_wp2
    refine ⟨by simp, .inl ⟨_, _, rfl, run_takeDeferred hK, ?_⟩⟩
    refine ⟨_, results_tmp rfl _ _ _, rfl, ⟨v, ?_, ownsRow_putObj hrow _ hK rfl, ho.imp id (fun h k hk => by have := h k hk; omega)⟩, fr_own hfr (Nat.le_refl _) (grownBy_putObj' _ D _) (fun r e => by cases e; simp at hD; omega)⟩
    exact hv.kept (grownBy_putObj' _ D _) (fun e => by cases e; rw [show W.heap[Bi]? = _ from hv] at hK; cases hK)
  case stop =>
    rintro D k pre W _ _ h _
    exact h.elim
end Go.Proofs.Ytkmgahembhgloaa

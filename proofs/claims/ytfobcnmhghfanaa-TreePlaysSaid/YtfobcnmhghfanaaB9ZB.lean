/- What is done to a tree: Insert, Ghost, Purge. -/
import Derived.Test.YtfobcnmhghfanaaB9ZA
import Derived.Test.YtfobcnmhghfanaaB9W
import Derived.Test.YtfobcnmhghfanaaB9X
namespace Go.Proofs.Ytfobcnmhghfanaa
open Go.RowKit Go.Shelf
set_option linter.unusedVariables false
set_option linter.unusedSimpArgs false

/-- What such a call leaves. -/
inductive TOut (base : Nat) (w : World) (ro : Ro) (p : Value) (o : Int × List E) (e : Ending) (w' : World) : Prop
  | mk (ro' : Ro) (he : e = .returned (.int .i64 o.1)) (ht : TreeAt base w' ro' p o.2) (hto : TTo w ro w' ro')
theorem build_ent (w : World) (a : ByteArray) (n : Int) : (Instr.build 66 #[(0, .string a), (1, .int .i64 n)]).run Try.prog w = .ok (.agg #[.string a, .int .i64 n, .bool false]) w := by kernel_rfl
theorem heap_set2 {w : World} {b : Nat} {x0 x1 x2 x3 : Value} {t : TypeId} (h : w.heap[b]? = some (.cells [x0, x1, x2, x3].toArray t (0, 0))) (v : Value) : (w.setCell ⟨b, 2, none⟩ v).heap[b]? = some (.cells [x0, x1, v, x3].toArray t (0, 0)) := by
  rw [setCell_eq_setRow w b 2 _ t _ v h, setRow_heap w b _ _ t _ h]; simp
theorem heap_set3 {w : World} {b : Nat} {x0 x1 x2 x3 : Value} {t : TypeId} (h : w.heap[b]? = some (.cells [x0, x1, x2, x3].toArray t (0, 0))) (v : Value) : (w.setCell ⟨b, 3, none⟩ v).heap[b]? = some (.cells [x0, x1, x2, v].toArray t (0, 0)) := by
  rw [setCell_eq_setRow w b 3 _ t _ v h, setRow_heap w b _ _ t _ h]; simp
theorem setCell_same {w : World} {g o : Nat} {v : Value} (h : w.cell? ⟨g, o, none⟩ = some v) : w.setCell ⟨g, o, none⟩ v = w := by
  have hlt := World.block_lt_of_cell? w _ h
  simp only at hlt
  cases hg : w.heap[g]? with
  | none => rw [Array.getElem?_eq_none_iff] at hg; omega
  | some ob =>
    cases ob with
    | cells cur t fr =>
      rw [setCell_eq_setRow w g o cur t fr v hg]
      have : cur[o]? = some v := by rw [cell_of_row w g o cur t fr hg] at h; exact h
      obtain ⟨h1, h2⟩ := Array.getElem?_eq_some_iff.1 this
      rw [show cur.setIfInBounds o v = cur by rw [← h2]; simp [Array.setIfInBounds, h1]]
      exact setRow_self w g cur t fr hg
    | _ => simp [World.cell?, hg] at h
/-- A tree whose counts are set behind its turning. -/
theorem tree_end {base : Nat} {w W : World} {ro : Ro} {nd : Nat → Nd} {r H : Nat} {lv : Nat → List Br} {dep : Nat → Nat} (ts : TS base w ro nd r H lv dep) {L' : List E} (en : ents nd (lv H) = L') (hty : (nd r).ty = 54) (two : 0 < H → 2 ≤ (nd r).bs.length) (hf : Fr w W (fun k => k = r)) {a b : Int} (ha : a = (liveN L' : Nat)) (hb : b = (ghostN L' : Nat)) (hblk : W.heap[r]? = some (.cells [(nd r).ve, (nd r).vb, .int .i64 a, .int .i64 b].toArray 54 (0, 0))) : TreeAt base W ro (pt r) L' ∧ TTo w ro W ro := by
  obtain ⟨nd', ts', en', ex', ty', bs'⟩ := ts.setEx (ex' := [.int .i64 a, .int .i64 b]) hf (by rw [hty]; exact hblk)
  refine ⟨⟨r, nd', H, lv, dep, rfl, ts', en'.trans en, by rw [ex', ha, hb], ty'.trans hty, fun h0 => by rw [bs']; exact two h0⟩, hf.mono (fun k hk => by rw [hk, ts.toTM.root]; simp), fun k hk => Or.inl hk⟩
set_option maxHeartbeats 4000000 in
theorem tinsert_any {base : Nat} {w : World} {ro : Ro} {p : Value} {L : List E} (h : TreeAt base w ro p L) (hlen : L.length ≤ 900000) (hb : base ≤ w.heap.size) (key : ByteArray) (n : Int) :
    Calls Try.prog 14 #[p, .string key, .int .i64 n] w fun e w' => TOut base w ro p (insO L key n) e w' := by
  have hT := h
  obtain ⟨r, nd, H, lv, dep, rfl, h⟩ := h
  have hl1 := live_le L
  have hl2 := ghost_le L
  by_cases hsz : 2000 < key.size
  · have HO : Hid (TOut base w ro (pt r) (insO L key n) (.returned (.int .i64 93)) w) := by
      refine .mk ro ?_ ?_ (TTo.of_below ro (Below.refl _ _))
      · unfold insO; rw [if_pos hsz]
      · unfold insO; rw [if_pos hsz]; exact hT
    have hz : (2000 : Int) < (key.size : Int) := by omega
    clear h hT
    go_enter Try.func14, Try.ntmps14
    go_wp2
    go_ret
    exact HO.out
  · have hf := find_any h.ts key
    have HT : Hid _ := h
    have HTT : Hid (TreeAt base w ro (pt r) L) := hT
    have hen := h.en
    have hz : ¬ ((2000 : Int) < (key.size : Int)) := by omega
    have hbe := build_ent
    clear h hT
    go_enter Try.func14, Try.ntmps14
    go_wp2_with fail
    refine hf.mono ?_
    clear hf
    rintro e w1 hO
    cases hO with
    | none_ he hb1 hn =>
      subst he
      rw [hen] at hn
      have ts1 := HT.out.ts.below hb1
      have had := add_any ts1 HT.out.two ⟨key, n, false⟩ (by rw [hen]; exact hn) (Nat.le_trans hb hb1.size)
      have HN : Hid _ := hn
      clear hn ts1
      go_wp2_with fail
      refine had.mono ?_
      clear had
      rintro e w2 ⟨ro2, nd2, H2, lv2, dep2, he, ts2, mt2, en2, two2⟩
      subst he
      have hrt := HT.out.ts.toTM.root
      have hex2 := mt2.ex r hrt
      have hblk := ts2.mem.blk r ts2.toTM.root
      rw [hex2.1, hex2.2, HT.out.ex, HT.out.ty] at hblk
      obtain ⟨x1, x2, x3⟩ := root_cells hblk
      have x4 := x3 2
      have HEND : Hid (TOut base w ro (pt r) (insO L key n) (.returned (.int .i64 0)) (w2.setCell ⟨r, 2, none⟩ (.int .i64 ((liveN L : Nat) + 1)))) := by
        rw [hen] at en2
        have hgl := cnt_add (fun e => !e.ghost) (x := ⟨key, n, false⟩) HN.out
        have hgg := cnt_add (fun e => e.ghost) (x := ⟨key, n, false⟩) HN.out
        have hh := tree_end ts2 en2 (hex2.2.trans HT.out.ty) two2 (fr_set w2 r 2 (.int .i64 ((liveN L : Nat) + 1))) (by show _ = ((liveN (addL L ⟨key, n, false⟩) : Nat) : Int); unfold liveN; rw [hgl]; simp) (by show ((ghostN L : Nat) : Int) = _; unfold ghostN; rw [hgg]; simp) (heap_set2 hblk _)
        refine .mk ro2 ?_ ?_ (((TTo.of_below ro hb1).trans (TTo.of_mto mt2)).trans hh.2)
        · unfold insO; rw [if_neg hsz, HN.out]
        · unfold insO; rw [if_neg hsz, HN.out]; exact hh.1
      have hw : IntKind.i64.wrap (((liveN L : Nat) : Int) + 1) = ((liveN L : Nat) : Int) + 1 := by rw [IntKind.wrap_i64]; omega
      clear hex2 hblk x3 ts2 mt2 en2 two2 HN hen
      generalize liveN L = lL at *
      go_wp2
      go_ret
      exact HEND.out
    | some_ A p B i hi g m cap he hb1 hp hv hn hk =>
      subst he
      rw [hen] at hn
      have ts1 := HT.out.ts.below hb1
      have hpm : p ∈ lv H := by rw [hp]; simp
      have hro := ts1.inn H (Nat.le_refl _) p hpm
      have hrow := ts1.mem.rowE p.2 hro
      rw [hv] at hrow
      obtain ⟨y1, y2, y3⟩ := ent_cells hrow i hi
      cases hgh : (nd p.2).es[i].ghost with
      | false =>
        rw [hgh] at y3
        have HO : Hid (TOut base w ro (pt r) (insO L key n) (.returned (.int .i64 91)) w1) := by
          refine .mk ro ?_ ?_ (TTo.of_below ro hb1)
          · unfold insO; rw [if_neg hsz, hn]; simp [hgh]
          · unfold insO; rw [if_neg hsz, hn]; simp [hgh]; exact TreeAt.below HTT.out hb1
        clear hn hgh hrow hv hk ts1 hro
        go_wp2
        go_ret
        exact HO.out
      | true =>
        rw [hgh] at y3
        obtain ⟨ro2, nd2, ts2, mt2, en2, bs2⟩ := ts1.setEnt hp hi hv n false
        rw [hk, hen] at en2
        have hrt := HT.out.ts.toTM.root
        have hex2 := mt2.ex r hrt
        have hblk := ts2.mem.blk r ts2.toTM.root
        rw [hex2.1, hex2.2, HT.out.ex, HT.out.ty] at hblk
        have z1 := hrow.frozen (i * 3 + 1)
        have z2 := hrow.frozen (i * 3 + 2)
        obtain ⟨w2a, hw2a⟩ : ∃ w2a, w1.setCell ⟨g, i * 3 + 1, none⟩ (.int .i64 n) = w2a := ⟨_, rfl⟩
        have y4 : w2a.cell? ⟨g, i * 3 + 2, none⟩ = some (.bool true) := by rw [← hw2a, World.cell?_setCell_other _ _ _ _ (by simp)]; exact y3
        have z4 : w2a.frozen? ⟨g, i * 3 + 2, none⟩ = false := by rw [← hw2a, World.frozen?_setCell]; exact z2
        rw [hw2a] at ts2 mt2 hblk
        obtain ⟨w2, hw2⟩ : ∃ w2, w2a.setCell ⟨g, i * 3 + 2, none⟩ (.bool false) = w2 := ⟨_, rfl⟩
        rw [hw2] at ts2 mt2 hblk
        obtain ⟨x1, x2, x3⟩ := root_cells hblk
        have x4 := x3 3
        obtain ⟨w3, hw3⟩ : ∃ w3, w2.setCell ⟨r, 3, none⟩ (.int .i64 ((ghostN L : Nat) - 1)) = w3 := ⟨_, rfl⟩
        have hblk3 := heap_set3 hblk (.int .i64 ((ghostN L : Nat) - 1))
        rw [hw3] at hblk3
        obtain ⟨u1, u2, u3⟩ := root_cells hblk3
        have u4 := u3 2
        have hl := HT.out.line
        have hgl := cnt_set (fun e => !e.ghost) hl (e' := ⟨key, n, false⟩) hn rfl
        have hgg := cnt_set (fun e => e.ghost) hl (e' := ⟨key, n, false⟩) hn rfl
        simp only [hgh, Bool.not_true, Bool.not_false, Bool.false_eq_true, if_true, if_false, Nat.add_zero] at hgl hgg
        have HEND : Hid (TOut base w ro (pt r) (insO L key n) (.returned (.int .i64 0)) (w3.setCell ⟨r, 2, none⟩ (.int .i64 ((liveN L : Nat) + 1)))) := by
          have hh := tree_end ts2 en2 (hex2.2.trans HT.out.ty) (fun h0 => by rw [bs2]; exact HT.out.two h0) (W := w3.setCell ⟨r, 2, none⟩ (.int .i64 ((liveN L : Nat) + 1))) (by rw [← hw3]; exact (fr_set w2 r 3 _).trans (fr_set _ r 2 _) (fun k hk => Or.inl hk)) (by show _ = ((liveN (setL L ⟨key, n, false⟩) : Nat) : Int); unfold liveN; rw [hgl]; simp) (by show ((ghostN L : Nat) : Int) - 1 = ((ghostN (setL L ⟨key, n, false⟩) : Nat) : Int); unfold ghostN; omega) (heap_set2 hblk3 _)
          refine .mk ro2 ?_ ?_ (((TTo.of_below ro hb1).trans (TTo.of_mto mt2)).trans hh.2)
          · unfold insO; rw [if_neg hsz, hn]; simp [hgh]
          · unfold insO; rw [if_neg hsz, hn]; simp [hgh]; exact hh.1
        have hw : IntKind.i64.wrap (((liveN L : Nat) : Int) + 1) = ((liveN L : Nat) : Int) + 1 := by rw [IntKind.wrap_i64]; omega
        have hw' : IntKind.i64.wrap (((ghostN L : Nat) : Int) - 1) = ((ghostN L : Nat) : Int) - 1 := by rw [IntKind.wrap_i64]; omega
        clear hex2 hblk hblk3 x3 u3 ts2 mt2 en2 bs2 hn hgh hrow hv hk ts1 hro hl hgl hgg hen
        generalize liveN L = lL at *
        generalize ghostN L = gL at *
        go_wp2
        go_ret
        exact HEND.out
set_option maxHeartbeats 4000000 in
theorem tghost_any {base : Nat} {w : World} {ro : Ro} {p : Value} {L : List E} (h : TreeAt base w ro p L) (hlen : L.length ≤ 900000) (key : ByteArray) :
    Calls Try.prog 15 #[p, .string key] w fun e w' => TOut base w ro p (ghostO L key) e w' := by
  have hT := h
  obtain ⟨r, nd, H, lv, dep, rfl, h⟩ := h
  have hl1 := live_le L
  have hl2 := ghost_le L
  have hf := find_any h.ts key
  have HT : Hid _ := h
  have HTT : Hid (TreeAt base w ro (pt r) L) := hT
  have hen := h.en
  clear h hT
  go_enter Try.func15, Try.ntmps15
  go_wp2_with fail
  refine hf.mono ?_
  clear hf
  rintro e w1 hO
  cases hO with
  | none_ he hb1 hn =>
    subst he
    rw [hen] at hn
    have HO : Hid (TOut base w ro (pt r) (ghostO L key) (.returned (.int .i64 92)) w1) := by
      refine .mk ro ?_ ?_ (TTo.of_below ro hb1)
      · unfold ghostO; rw [hn]
      · unfold ghostO; rw [hn]; exact TreeAt.below HTT.out hb1
    clear hn hen
    go_wp2
    go_ret
    exact HO.out
  | some_ A p B i hi g m cap he hb1 hp hv hn hk =>
    subst he
    rw [hen] at hn
    have ts1 := HT.out.ts.below hb1
    have hpm : p ∈ lv H := by rw [hp]; simp
    have hro := ts1.inn H (Nat.le_refl _) p hpm
    have hrow := ts1.mem.rowE p.2 hro
    rw [hv] at hrow
    obtain ⟨y1, y2, y3⟩ := ent_cells hrow i hi
    cases hgh : (nd p.2).es[i].ghost with
    | true =>
      rw [hgh] at y3
      have HO : Hid (TOut base w ro (pt r) (ghostO L key) (.returned (.int .i64 92)) w1) := by
        refine .mk ro ?_ ?_ (TTo.of_below ro hb1)
        · unfold ghostO; rw [hn]; simp [hgh]
        · unfold ghostO; rw [hn]; simp [hgh]; exact TreeAt.below HTT.out hb1
      clear hn hgh hrow hv hk ts1 hro hen
      go_wp2
      go_ret
      exact HO.out
    | false =>
      rw [hgh] at y3
      obtain ⟨ro2, nd2, ts2, mt2, en2, bs2⟩ := ts1.setEnt hp hi hv (nd p.2).es[i].num true
      rw [hk, hen] at en2
      have hsame : w1.setCell ⟨g, i * 3 + 1, none⟩ (.int .i64 (nd p.2).es[i].num) = w1 := setCell_same y2
      rw [hsame] at ts2 mt2
      have hrt := HT.out.ts.toTM.root
      have hex2 := mt2.ex r hrt
      have hblk := ts2.mem.blk r ts2.toTM.root
      rw [hex2.1, hex2.2, HT.out.ex, HT.out.ty] at hblk
      have z2 := hrow.frozen (i * 3 + 2)
      obtain ⟨w2, hw2⟩ : ∃ w2, w1.setCell ⟨g, i * 3 + 2, none⟩ (.bool true) = w2 := ⟨_, rfl⟩
      rw [hw2] at ts2 mt2 hblk
      obtain ⟨x1, x2, x3⟩ := root_cells hblk
      have x4 := x3 2
      obtain ⟨w3, hw3⟩ : ∃ w3, w2.setCell ⟨r, 2, none⟩ (.int .i64 ((liveN L : Nat) - 1)) = w3 := ⟨_, rfl⟩
      have hblk3 := heap_set2 hblk (.int .i64 ((liveN L : Nat) - 1))
      rw [hw3] at hblk3
      obtain ⟨u1, u2, u3⟩ := root_cells hblk3
      have u4 := u3 3
      have hl := HT.out.line
      have hgl := cnt_set (fun e => !e.ghost) hl (e' := ⟨key, (nd p.2).es[i].num, true⟩) hn rfl
      have hgg := cnt_set (fun e => e.ghost) hl (e' := ⟨key, (nd p.2).es[i].num, true⟩) hn rfl
      simp only [hgh, Bool.not_true, Bool.not_false, Bool.false_eq_true, if_true, if_false, Nat.add_zero] at hgl hgg
      have HEND : Hid (TOut base w ro (pt r) (ghostO L key) (.returned (.int .i64 0)) (w3.setCell ⟨r, 3, none⟩ (.int .i64 ((ghostN L : Nat) + 1)))) := by
        have hh := tree_end ts2 en2 (hex2.2.trans HT.out.ty) (fun h0 => by rw [bs2]; exact HT.out.two h0) (W := w3.setCell ⟨r, 3, none⟩ (.int .i64 ((ghostN L : Nat) + 1))) (by rw [← hw3]; exact (fr_set w2 r 2 _).trans (fr_set _ r 3 _) (fun k hk => Or.inl hk)) (by show ((liveN L : Nat) : Int) - 1 = ((liveN (setL L ⟨key, (nd p.2).es[i].num, true⟩) : Nat) : Int); unfold liveN; omega) (by show _ = ((ghostN (setL L ⟨key, (nd p.2).es[i].num, true⟩) : Nat) : Int); unfold ghostN; rw [hgg]; simp) (heap_set3 hblk3 _)
        refine .mk ro2 ?_ ?_ (((TTo.of_below ro hb1).trans (TTo.of_mto mt2)).trans hh.2)
        · unfold ghostO; rw [hn]; simp [hgh]
        · unfold ghostO; rw [hn]; simp [hgh]; exact hh.1
      have hw : IntKind.i64.wrap (((ghostN L : Nat) : Int) + 1) = ((ghostN L : Nat) : Int) + 1 := by rw [IntKind.wrap_i64]; omega
      have hw' : IntKind.i64.wrap (((liveN L : Nat) : Int) - 1) = ((liveN L : Nat) : Int) - 1 := by rw [IntKind.wrap_i64]; omega
      clear hex2 hblk hblk3 x3 u3 ts2 mt2 en2 bs2 hn hgh hrow hv hk ts1 hro hl hgl hgg hen hsame
      generalize liveN L = lL at *
      generalize ghostN L = gL at *
      go_wp2
      go_ret
      exact HEND.out
set_option maxHeartbeats 4000000 in
theorem tpurge_any {base : Nat} {w : World} {ro : Ro} {p : Value} {L : List E} (h : TreeAt base w ro p L) (hlen : L.length ≤ 900000) (hb : base ≤ w.heap.size) (key : ByteArray) :
    Calls Try.prog 16 #[p, .string key] w fun e w' => TOut base w ro p (purgeO L key) e w' := by
  have hT := h
  obtain ⟨r, nd, H, lv, dep, rfl, h⟩ := h
  have hl1 := live_le L
  have hl2 := ghost_le L
  have hf := find_any h.ts key
  have HT : Hid _ := h
  have HTT : Hid (TreeAt base w ro (pt r) L) := hT
  have hen := h.en
  clear h hT
  go_enter Try.func16, Try.ntmps16
  go_wp2_with fail
  refine hf.mono ?_
  clear hf
  rintro e w1 hO
  cases hO with
  | none_ he hb1 hn =>
    subst he
    rw [hen] at hn
    have HO : Hid (TOut base w ro (pt r) (purgeO L key) (.returned (.int .i64 92)) w1) := by
      refine .mk ro ?_ ?_ (TTo.of_below ro hb1)
      · unfold purgeO; rw [hn]
      · unfold purgeO; rw [hn]; exact TreeAt.below HTT.out hb1
    clear hn hen
    go_wp2
    go_ret
    exact HO.out
  | some_ A p B i hi g m cap he hb1 hp hv hn hk =>
    subst he
    rw [hen] at hn
    have ts1 := HT.out.ts.below hb1
    have hpm : p ∈ lv H := by rw [hp]; simp
    have hro := ts1.inn H (Nat.le_refl _) p hpm
    have hrow := ts1.mem.rowE p.2 hro
    rw [hv] at hrow
    obtain ⟨y1, y2, y3⟩ := ent_cells hrow i hi
    cases hgh : (nd p.2).es[i].ghost with
    | false =>
      rw [hgh] at y3
      have HO : Hid (TOut base w ro (pt r) (purgeO L key) (.returned (.int .i64 92)) w1) := by
        refine .mk ro ?_ ?_ (TTo.of_below ro hb1)
        · unfold purgeO; rw [hn]; simp [hgh]
        · unfold purgeO; rw [hn]; simp [hgh]; exact TreeAt.below HTT.out hb1
      clear hn hgh hrow hv hk ts1 hro hen
      go_wp2
      go_ret
      exact HO.out
    | true =>
      rw [hgh] at y3
      have hdr := drop_any ts1 HT.out.two (by rw [hen]; exact hn) (Nat.le_trans hb hb1.size)
      have hl := HT.out.line
      have hgl := cnt_del (fun e => !e.ghost) hl hn
      have hgg := cnt_del (fun e => e.ghost) hl hn
      simp only [hgh, Bool.not_true, Bool.false_eq_true, if_true, if_false, Nat.add_zero] at hgl hgg
      have hpo : purgeO L key = (0, delL L key) := by unfold purgeO; rw [hn]; simp [hgh]
      have HPO : Hid (purgeO L key = (0, delL L key)) := hpo
      have HGL : Hid (liveN (delL L key) = liveN L) := hgl
      have HGG : Hid (ghostN (delL L key) + 1 = ghostN L) := hgg
      clear hn hgh hrow hv hk ts1 hro hl hgl hgg hpo
      go_wp2_with fail
      refine hdr.mono ?_
      clear hdr
      rintro e w2 ⟨ro2, nd2, H2, lv2, dep2, he, ts2, en2, hfr2, hgr2, hex2, two2⟩
      subst he
      rw [hen] at en2
      have hblk := ts2.mem.blk r ts2.toTM.root
      rw [hex2.1, hex2.2, HT.out.ex, HT.out.ty] at hblk
      obtain ⟨x1, x2, x3⟩ := root_cells hblk
      have x4 := x3 3
      have HEND : Hid (TOut base w ro (pt r) (purgeO L key) (.returned (.int .i64 0)) (w2.setCell ⟨r, 3, none⟩ (.int .i64 ((ghostN L : Nat) - 1)))) := by
        have hh := tree_end ts2 en2 (hex2.2.trans HT.out.ty) two2 (fr_set w2 r 3 (.int .i64 ((ghostN L : Nat) - 1))) (by show ((liveN L : Nat) : Int) = _; rw [HGL.out]) (by have := HGG.out; omega) (heap_set3 hblk _)
        rw [HPO.out]
        exact .mk ro2 rfl hh.1 (((TTo.of_below ro hb1).trans ⟨hfr2, hgr2⟩).trans hh.2)
      have hw' : IntKind.i64.wrap (((ghostN L : Nat) : Int) - 1) = ((ghostN L : Nat) : Int) - 1 := by rw [IntKind.wrap_i64]; omega
      clear hex2 hblk x3 ts2 en2 two2 hfr2 hgr2 hen
      generalize ghostN L = gL at *
      go_wp2
      go_ret
      exact HEND.out
end Go.Proofs.Ytfobcnmhghfanaa

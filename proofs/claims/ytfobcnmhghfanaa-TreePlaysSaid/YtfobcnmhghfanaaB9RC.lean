/- The document's sorted list: Ghost, Purge, Insert. -/
import Derived.Test.YtfobcnmhghfanaaB9RB
namespace Go.Proofs.Ytfobcnmhghfanaa
open Go.RowKit Go.Shelf
set_option linter.unusedVariables false
set_option linter.unusedSimpArgs false

abbrev RowR (base : Nat) (w : World) (v : Value) (l : List E) : Prop := Row 56 3 cE base w v l
theorem infoR : (Try.prog.info? 56).map (fun i => (i.zero, i.size, i.bytes)) = some (some (.agg #[.string ByteArray.empty, .int .i64 0, .bool false]), 3, 32) := by kernel_rfl
theorem app0R (w : World) (ty : TypeId) (so : Option Addr) (sn sc : Nat) (hs : sn ≤ sc) (hn : so = none → sn = 0 ∧ sc = 0) (vo : Option Addr) (vc : Nat) : (Builtin.append_ #[26, 26] ty #[.slice so sn sc, .slice vo 0 vc]).run Try.prog w = .ok (.slice so sn sc) w := by
  obtain ⟨i0, hi, hz0, hz1, hz2⟩ := info_parts infoR
  cases so with
  | none =>
    obtain ⟨rfl, rfl⟩ := hn rfl
    cases vo with
    | none => simp [Builtin.append_, run_underlying Try.underlying26, sizeOf, typeInfo, hi, Builtin.lenOf, Builtin.firstCells, storeCells]
    | some ad => simp [Builtin.append_, run_underlying Try.underlying26, sizeOf, typeInfo, hi, Builtin.lenOf, Builtin.firstCells, storeCells, loadCells, loadCellsFrom]
  | some a =>
    cases vo with
    | none => simp [Builtin.append_, run_underlying Try.underlying26, sizeOf, typeInfo, hi, Builtin.lenOf, Builtin.firstCells, storeCells, hs]
    | some ad => simp [Builtin.append_, run_underlying Try.underlying26, sizeOf, typeInfo, hi, Builtin.lenOf, Builtin.firstCells, storeCells, loadCells, loadCellsFrom, hs]
/-- append, to a row, of entries that lie somewhere, none or some. -/
theorem wp_appR (w : World) {ops : Array Oper} {rest : List Oper} {o : Oper} {a : Act} {Q : Exit → Act → World → Prop} (hgd : o.guard = none) (s x : Operand)
    (ho : o.op = .call { callee := .builtin .append, args := #[s, x], argTypes := #[26, 26] })
    (base : Nat) (v : Value) (l : List E) (hs : a.eval s = v) (hown : RowR base w v l)
    (xo : Option Addr) (m c : Nat) (ys : List E) (hx : a.eval x = .slice xo m c) (hB : ys = [] ∨ ∃ ad, xo = some ad ∧ ∀ j u, (ys.flatMap cE)[j]? = some u → w.cell? (ad.add j) = some u) (hm : ys.length = m)
    (hl : l.length + m ≤ 100000) (hbase : base ≤ w.heap.size)
    (h : ∀ so sn sc w', sn = l.length + m → RowR base w' (.slice so sn sc) (l ++ ys) → GrowB w v w' (.slice so sn sc) → wpList Try.prog ops Q rest (a.put o.dst (.slice so sn sc)) w') : wpList Try.prog ops Q (o :: rest) a w := by
  rcases Nat.eq_zero_or_pos m with hm0 | hm0
  · subst hm0
    have hn0 : ys = [] := List.eq_nil_of_length_eq_zero hm
    obtain ⟨so, sn, sc, hv, hsn, hle, hno⟩ : ∃ so sn sc, v = .slice so sn sc ∧ sn = l.length ∧ sn ≤ sc ∧ (so = none → sn = 0 ∧ sc = 0) := by
      rcases hown.2 with ⟨hv, hn⟩ | ⟨g, cap, cur, hv, _, _, hc, _⟩
      · exact ⟨none, 0, 0, hv, hn.symm, Nat.le_refl _, fun _ => ⟨rfl, rfl⟩⟩
      · exact ⟨some ⟨g, 0, none⟩, _, cap, hv, rfl, hc, fun e => by cases e⟩
    subst hv
    have := h so sn sc w (by omega) (by rw [hn0, List.append_nil]; exact hown) (GrowB.refl _ _)
    refine wpList_plain hgd fun K hK => ?_
    unfold Oper.wp execOp
    simp only [ho, resolve, invoke, builtin, Sem.run_bind, Sem.run_pure, Result.andThen_ok, List.map_toArray, List.map_cons, List.map_nil, hs, hx, app0R w _ so sn sc hle hno]
    exact hK _ _ this
  · rcases hB with h0 | ⟨ad, rfl, hB⟩
    · rw [h0] at hm; simp at hm; omega
    obtain ⟨i0, hi, hz0, hz1, hz2⟩ := info_parts infoR
    refine wpList_append_lies w hgd s x 26 ho base 56 i0 _ 3 _ Try.underlying26 hi hz0 hz1 hz2 rfl (by decide) v l.length (l.flatMap cE) hs hown ad m c (ys.flatMap cE) hx (by rw [flat_len cE 3 _ (cE_len _), hm]) hB (cE_one ys) hm0 (by unfold maxLen; omega) (by omega) hbase w.heap.size rfl ?_
    intro g cap w' h1 h2 h3 _
    refine h _ _ _ w' rfl ?_ ⟨h2, ?_⟩
    · show w'.ownsRow base 56 3 _ (l ++ ys).length ((l ++ ys).flatMap cE)
      rw [List.length_append, List.flatMap_append, hm]
      exact h1
    · rcases h3 with h3 | h3
      · exact Or.inl h3.symm
      · exact Or.inr fun k hk => by simp [Value.ownBlock] at hk; omega
/-- What a call leaves of the list. -/
def RO (base : Nat) (w : World) (b : Nat) (lv : Value) (o : Int × List E) (e : Ending) (w' : World) : Prop := ∃ lv', e = .returned (.int .i64 o.1) ∧ RT base w' b lv' o.2 ∧ Fr w w' (fun k => k = b ∨ lv.ownBlock = some k) ∧ ∀ k, lv'.ownBlock = some k → lv.ownBlock = some k ∨ w.heap.size ≤ k
theorem RO.same {base : Nat} {w w' : World} {b : Nat} {lv : Value} {L : List E} {o : Int × List E} {z : Int} (h : RT base w b lv L) (hb : Below w.heap.size w w') (ho : o = (z, L)) : RO base w b lv o (.returned (.int .i64 z)) w' := by
  subst ho; exact ⟨lv, rfl, h.below hb, Fr.of_below hb, fun k hk => Or.inl hk⟩
theorem RO.fresh {base : Nat} {w w1 w3 : World} {b : Nat} {lv lv3 : Value} {L L' : List E} {o : Int × List E} {z : Int} (hr : RT base w1 b lv L) (hb1 : Below w.heap.size w w1) (hblt : b < w.heap.size) (hb13 : Below w1.heap.size w1 w3) (hrow : RowR w1.heap.size w3 lv3 L') (hbase : base ≤ w1.heap.size) (ho : o = (z, L')) : RO base w b lv o (.returned (.int .i64 z)) (w3.setCell ⟨b, 0, none⟩ lv3) := by
  subst ho
  have hlt := hr.lt
  have hb3 : w3.heap[b]? = some (.cells #[lv] 28 (0, 0)) := (hb13.block b hlt).trans hr.hb
  have hne : ∀ k, lv3.ownBlock = some k → k ≠ b := fun k hk e => by have := (hrow.lo k hk).1; omega
  have hf := fr_set w3 b 0 lv3
  refine ⟨lv3, rfl, ⟨?_, ?_, fun e => hne b e rfl, hr.lo⟩, ?_, fun k hk => Or.inr (Nat.le_trans hb1.size (hrow.lo k hk).1)⟩
  · rw [setCell_eq_setRow w3 b 0 _ _ _ lv3 hb3, setRow_heap w3 b _ _ _ _ hb3]; simp
  · exact own_base (Row.of_block hrow (fun k hk => hf.block k (hrow.lo k hk).2 (hne k hk))) hbase
  · exact ((Fr.of_below hb1).trans (Fr.of_below (F := fun _ => False) hb13) (fun i h => h.elim)).trans hf (fun i h => Or.inl (Or.inl h))
/-- The parts of a list as they lie in its row. -/
theorem RT.takeC {base : Nat} {w : World} {b g n cap : Nat} {L : List E} (h : RT base w b (.slice (some ⟨g, 0, none⟩) n cap) L) (k : Nat) : ∀ j u, ((L.take k).flatMap cE)[j]? = some u → w.cell? (Addr.add ⟨g, 0, none⟩ j) = some u := fun j u hu => by
  refine World.ownsRow.cells h.row (g := g) rfl j u ?_
  have e : L.flatMap cE = (L.take k).flatMap cE ++ (L.drop k).flatMap cE := by rw [← List.flatMap_append, List.take_append_drop]
  rw [e, List.getElem?_append_left (List.getElem?_eq_some_iff.1 hu).1]; exact hu
theorem RT.dropC {base : Nat} {w : World} {b g n cap : Nat} {L : List E} (h : RT base w b (.slice (some ⟨g, 0, none⟩) n cap) L) (k : Nat) (hk : k ≤ L.length) : ∀ j u, ((L.drop k).flatMap cE)[j]? = some u → w.cell? (Addr.add ⟨g, k * 3, none⟩ j) = some u := fun j u hu => by
  have e : L.flatMap cE = (L.take k).flatMap cE ++ (L.drop k).flatMap cE := by rw [← List.flatMap_append, List.take_append_drop]
  have hl : ((L.take k).flatMap cE).length = k * 3 := by rw [flat_len cE 3 _ (cE_len _), List.length_take]; omega
  have := World.ownsRow.cells h.row (g := g) rfl (k * 3 + j) u (by rw [e, List.getElem?_append_right (by omega), hl, Nat.add_sub_cancel_left]; exact hu)
  rw [Addr.add_mid, Nat.zero_add] at this
  rw [Addr.add_mid]; exact this
theorem set_cell1 (es : List E) (i : Nat) (hi : i < es.length) (b : Bool) : (es.flatMap cE).set (i * 3 + 2) (.bool b) = (es.set i ⟨es[i].key, es[i].num, b⟩).flatMap cE := by
  have e0 : es.flatMap cE = (es.take i).flatMap cE ++ (cE es[i] ++ (es.drop (i + 1)).flatMap cE) := by
    conv => lhs; rw [split_at hi]
    rw [List.flatMap_append, List.flatMap_cons]
  have hl : ((es.take i).flatMap cE).length = i * 3 := by rw [flat_len cE 3 _ (cE_len _), List.length_take]; omega
  rw [e0, set_split hi, List.flatMap_append, List.flatMap_cons]
  rw [List.set_append_right _ _ (by omega), hl, Nat.add_sub_cancel_left]
  rfl
set_option maxRecDepth 20000 in
set_option maxHeartbeats 2000000 in
theorem rghost_any {base : Nat} {w : World} {b : Nat} {lv : Value} {L : List E} (h : RT base w b lv L) (hl : Line L) (hlen : L.length ≤ 90000) (key : ByteArray) :
    Calls Try.prog 22 #[pt b, .string key] w fun e w' => RO base w b lv (ghostO L key) e w' := by
  have ha := rat_any h (by omega) key
  have HR : Hid (RT base w b lv L) := h
  have HL : Hid (Line L) := hl
  clear h hl
  go_enter Try.func22, Try.ntmps22
  go_wp2_with fail
  refine ha.mono ?_
  clear ha
  rintro e w1 ⟨k, hp, rfl, hb1⟩
  have hr := HR.out.below hb1
  have hle := hp.le
  cases hi : isAt L key k with
  | false =>
    have hg := pos_none HL.out hp (isAt_none hi)
    have HO : Hid (RO base w b lv (ghostO L key) (.returned (.int .i64 92)) w1) := RO.same HR.out hb1 (by unfold ghostO; rw [hg])
    clear hr hp hi hb1 HR HL hg
    simp only
    go_wp2_with fail
    go_ret
    exact HO.out
  | true =>
    obtain ⟨hk, he⟩ := isAt_some hi
    have hg := pos_some HL.out hk he
    obtain ⟨g, cap, rfl, _⟩ := hr.row.at_ (by omega)
    have c0 := hr.cell
    obtain ⟨_, _, e2⟩ := hr.ent k hk
    have fz := hr.row.frozen (k * 3 + 2)
    cases hgh : L[k].ghost with
    | true =>
      rw [hgh] at e2
      have HO : Hid (RO base w b (.slice (some ⟨g, 0, none⟩) L.length cap) (ghostO L key) (.returned (.int .i64 92)) w1) := RO.same HR.out hb1 (by unfold ghostO; rw [hg]; simp [hgh])
      clear hr hp hi hb1 HR HL hg he hgh
      simp only
      go_wp2_with fail
      go_ret
      exact HO.out
    | false =>
      rw [hgh] at e2
      have HO : Hid (RO base w b (.slice (some ⟨g, 0, none⟩) L.length cap) (ghostO L key) (.returned (.int .i64 0)) (w1.setCell ⟨g, k * 3 + 2, none⟩ (.bool true))) := by
        obtain ⟨o1, g1⟩ := World.ownsRow.stored hr.row (k * 3 + 2) (.bool true)
        rw [set_cell1 _ k hk] at o1
        have hgb : g ≠ b := fun e => hr.ne (by rw [e]; rfl)
        have ho : ghostO L key = (0, L.set k ⟨L[k].key, L[k].num, true⟩) := by
          unfold ghostO; rw [hg]; simp only [hgh, Bool.false_eq_true, if_false]
          rw [pos_set HL.out hk (by simp [he]), he]
        rw [ho]
        refine ⟨.slice (some ⟨g, 0, none⟩) L.length cap, rfl, ⟨(g1.block b hr.lt (fun e => hgb (by cases e; rfl))).trans hr.hb, ?_, hr.ne, hr.lo⟩, ?_, fun k hk => Or.inl hk⟩
        · show World.ownsRow _ _ _ _ _ ((L.set k _).length) _
          rw [List.length_set]; exact o1
        · exact (Fr.of_below hb1).trans (Fr.of_grown g1 (fun i hi => Or.inr hi)) (fun i h => Or.inl h)
      clear hr hp hi hb1 HR HL hg he hgh
      simp only
      go_wp2_with fail
      go_ret
      exact HO.out
end Go.Proofs.Ytfobcnmhghfanaa

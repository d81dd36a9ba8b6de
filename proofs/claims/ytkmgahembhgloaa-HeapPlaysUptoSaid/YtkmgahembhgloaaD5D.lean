/- Package disk: Write. -/
import Derived.Test.YtkmgahembhgloaaD5C
namespace Go.Proofs.Ytkmgahembhgloaa
open Go.RowKit Go.Maps
set_option linter.unusedVariables false
set_option linter.unusedSimpArgs false

theorem fold_set (off : Nat) : ∀ (cs : List Value) (k : Nat) (cur : Array Value), off + k + cs.length ≤ cur.size →
    (cs.zipIdx k).foldl (fun a (x : Value × Nat) => a.setIfInBounds (off + x.2) x.1) cur = (cur.toList.take (off + k) ++ cs ++ cur.toList.drop (off + k + cs.length)).toArray
  | [], k, cur, _ => by simp
  | c :: cs, k, cur, h => by
    rw [List.zipIdx_cons, List.foldl_cons]
    simp only [List.length_cons] at h
    rw [fold_set off cs (k + 1) _ (by simp; omega)]
    congr 1
    have := list_seg_step cur.toList (off + k) c cs (by simp; omega)
    rw [show off + (k + 1) = off + k + 1 by omega]
    simp only [Array.toList_setIfInBounds, List.length_cons]
    rw [this]
theorem fill_one (place : Nat → Option (Nat × Nat)) (i off n : Nat) (hp : place i = some (off, n)) (v : Value) (cs : List Value) (hv : v.cells = cs.toArray) (hn : cs.length = n) (cur : List Value) (hc : off + n ≤ cur.length) (rest : List (Nat × Value)) :
    Instr.fill place cur.toArray ((i, v) :: rest) = Instr.fill place (cur.take off ++ cs ++ cur.drop (off + n)).toArray rest := by
  rw [Instr.fill, hp]
  simp only [hv, List.size_toArray, hn]
  rw [if_neg (by simp; omega)]
  have e := fold_set off cs 0 cur.toArray (by simp [hn]; omega)
  congr 1
  rw [← Array.foldl_toList, Array.toList_zipIdx]
  simp only [Nat.add_zero, hn] at e
  exact e
theorem built_write (i : Int) (s : List UInt8) (sf : Int) (hs : s.length = 128) : Try.prog.built 91 [(0, .int .i64 i), (1, .agg (s.map bv).toArray), (2, .int .i64 sf)] = some (cellsW ⟨i, s, sf⟩).toArray := by
  have e : ∀ ps, Try.prog.built 91 ps = Instr.fill (#[(0, 1), (1, 128), (129, 1)][·]?) (Value.int .i64 0 :: ((zsec.map bv) ++ [Value.int .i64 0])).toArray ps := fun ps => by kernel_rfl
  rw [e]
  rw [fill_one _ 0 0 1 rfl _ [.int .i64 i] rfl rfl _ (by simp [zsec_len])]
  rw [fill_one _ 1 1 128 rfl _ (s.map bv) rfl (by simp [hs]) _ (by simp [zsec_len])]
  rw [fill_one _ 2 129 1 rfl _ [.int .i64 sf] rfl rfl _ (by simp [zsec_len, hs])]
  rw [Instr.fill]
  simp [cellsW, zsec_len, hs, List.take_append, List.drop_append]
theorem built_row (cs : List Value) (hs : cs.length = 130) (z : List Value) (hz : z.length = 130) : Instr.fill (fun i => some (i * 130, 130)) z.toArray [(0, .agg cs.toArray)] = some cs.toArray := by
  rw [fill_one _ 0 0 130 rfl _ cs rfl hs _ (by omega), Instr.fill]
  simp [hs, hz]
theorem run_buildW (w : World) (i : Int) (s : List UInt8) (sf : Int) (hs : s.length = 128) : (Instr.build 91 #[(0, .int .i64 i), (1, .agg (s.map bv).toArray), (2, .int .i64 sf)]).run Try.prog w = .ok (.agg (cellsW ⟨i, s, sf⟩).toArray) w :=
  run_build w _ _ _ (built_write i s sf hs)
theorem run_buildR (w : World) (cs : List Value) (hs : cs.length = 130) : (Instr.buildSlice 87 1 #[(0, .agg cs.toArray)]).run Try.prog w = .ok (.slice (some ⟨w.heap.size, 0, none⟩) 1 1) (w.alloc (.cells cs.toArray 91)) := by
  have h1 : (Try.prog.info? 91).map (fun i => (i.zero, i.size, i.bytes)) = some (some (.agg (Value.int .i64 0 :: ((zsec.map bv) ++ [Value.int .i64 0])).toArray), 130, 144) := by kernel_rfl
  obtain ⟨i0, hi, hz0, hz1, hz2⟩ := info_parts h1
  refine run_buildSlice w _ 91 1 _ _ i0 _ Try.underlying87 hi hz0 (by rw [hz1]; decide) (by rw [hz1]; decide) ?_
  rw [hz1]
  have := built_row cs hs ((Array.range (1 * 130)).map fun j => (Value.agg (Value.int .i64 0 :: ((zsec.map bv) ++ [Value.int .i64 0])).toArray).cells[j % (Value.agg (Value.int .i64 0 :: ((zsec.map bv) ++ [Value.int .i64 0])).toArray).cells.size]!).toList (by rw [Array.length_toList, Array.size_map, Array.size_range])
  rw [Array.toArray_toList] at this
  exact this

theorem infoW : (Try.prog.info? 91).map (fun i => (i.zero, i.size, i.bytes)) = some (some (.agg (Value.int .i64 0 :: ((zsec.map bv) ++ [Value.int .i64 0])).toArray), 130, 144) := by kernel_rfl
theorem one_cellsW (x : W3) : ∀ u ∈ cellsW x, u.oneCell' = true := by
  intro u hu
  simp only [cellsW, List.mem_cons, List.mem_append, List.not_mem_nil, or_false] at hu
  rcases hu with rfl | hu | rfl
  · rfl
  · exact one_bv _ u hu
  · rfl
theorem new_cells {w : World} {B : Nat} {cs : List Value} {t : TypeId} (h : w.heap[B]? = some (.cells cs.toArray t (0, 0))) : ∀ j u, cs[j]? = some u → w.cell? ((⟨B, 0, none⟩ : Addr).add j) = some u := by
  intro j u hu
  rw [Addr.add_mid, cell_of_row w B (0 + j) _ _ _ h]
  simpa using hu
theorem range_sec {w : World} {L : Nat} {s : List UInt8} {t : TypeId} (h : w.heap[L]? = some (.cells (s.map bv).toArray t (0, 0))) : w.rangeAt L 0 (s.map bv) := fun j u hu => by
  rw [cell_of_row w L (0 + j) _ _ _ h]; simpa using hu

theorem wp_allocZ {w : World} {ops : Array Oper} {rest : List Oper} {o : Oper} {a : Act} {Q : Exit → Act → World → Prop} (hgd : o.guard = none) (ho : o.op = .alloc 86)
    (h : wpList Try.prog ops Q rest (a.put o.dst (.pointer (some ⟨w.heap.size, 0, none⟩))) (w.alloc (.cells (zsec.map bv).toArray 86))) : wpList Try.prog ops Q (o :: rest) a w :=
  wpList_allocS hgd 86 ho (secV zsec) zero_sec h
theorem exec_buildW {ρ : Operand → Value} {o : Oper} {x y z : Operand} {i : Int} {s : List UInt8} {sf : Int} (ho : o.op = .build 91 #[(0, x), (1, y), (2, z)]) (hx : ρ x = .int .i64 i) (hy : ρ y = .agg (s.map bv).toArray) (hz : ρ z = .int .i64 sf) (hs : s.length = 128) (w : World) :
    (execOp ρ o).run Try.prog w = .ok (.value (.agg (cellsW ⟨i, s, sf⟩).toArray)) w := by
  unfold execOp
  simp only [ho, List.map_toArray, List.map_cons, List.map_nil, hx, hy, hz, Sem.run_bind, run_buildW w i s sf hs, Sem.run_pure, Result.andThen_ok]
theorem step_buildR {w : World} {ops : Array Oper} {o : Oper} {a : Act} {K : Act → World → Prop} {Q : Exit → Act → World → Prop} {E : Prop} (hgd : o.guard = none) (x : Operand) (ho : o.op = .buildSlice 87 1 #[(0, x)])
    (cs : List Value) (hx : a.eval x = .agg cs.toArray) (hs : cs.length = 130) (B : Nat) (hB : w.heap.size = B) (h : K (a.put o.dst (.slice (some ⟨B, 0, none⟩) 1 1)) (w.alloc (.cells cs.toArray 91))) :
    if Region.wanted o (yielded ops a.tmps) = true then Oper.wp Try.prog o a w K Q else E := by
  have hw : Region.wanted o (yielded ops a.tmps) = true := by simp [Region.wanted, hgd]
  subst hB
  rw [if_pos hw]
  unfold Oper.wp execOp
  have e : (#[(0, x)].map fun (y : Nat × Operand) => (y.1, a.eval y.2)) = #[(0, Value.agg cs.toArray)] := by simp [hx]
  simp only [ho]
  have e2 : (#[(0, x)].map fun (i, y) => (i, a.eval y)) = #[(0, Value.agg cs.toArray)] := e
  rw [e2]
  simp only [Sem.run_bind, run_buildR w cs hs, Sem.run_pure, Result.andThen_ok]
  exact h
theorem step_appW (w : World) {ops : Array Oper} {o : Oper} {a : Act} {K : Act → World → Prop} {Q : Exit → Act → World → Prop} {E : Prop} (hgd : o.guard = none) (s x : Operand)
    (ho : o.op = .call { callee := .builtin .append, args := #[s, x], argTypes := #[87, 87] })
    (base : Nat) (v : Value) (l : List W3) (hs : a.eval s = v) (hown : OwnW base w v l) (y : W3) (hy : y.sec.length = 128) (B : Nat) (hx : a.eval x = .slice (some ⟨B, 0, none⟩) 1 1) (hB : w.heap[B]? = some (.cells (cellsW y).toArray 91 (0, 0)))
    (hl : l.length ≤ 1000000) (hbase : base ≤ w.heap.size)
    (h : ∀ gk cap w', OwnW base w' (.slice (some ⟨gk, 0, none⟩) (l.length + 1) cap) (l ++ [y]) → w.grownBy w' v.ownBlock → (v.ownBlock = some gk ∨ gk = w.heap.size) → K (a.put o.dst (.slice (some ⟨gk, 0, none⟩) (l.length + 1) cap)) w') :
    if Region.wanted o (yielded ops a.tmps) = true then Oper.wp Try.prog o a w K Q else E := by
  obtain ⟨i0, hi, hz0, hz1, hz2⟩ := info_parts infoW
  refine step_append_lies w hgd s x 87 ho base 91 i0 _ 130 144 Try.underlying87 hi hz0 hz1 hz2 (by simp [Value.cells, zsec_len]) (by decide) v l.length (l.flatMap cellsW) hs hown ⟨B, 0, none⟩ 1 1 (cellsW y) hx (by rw [cellsW_len hy]) (new_cells hB) (one_cellsW y) (by decide) (by unfold maxLen; omega) (by omega) hbase w.heap.size rfl ?_
  intro gk cap w' h1 h2 h3 _
  refine h gk cap w' ?_ h2 h3
  unfold OwnW
  rw [List.length_append, List.flatMap_append]
  simpa using h1
/-- Behind the append and the store: the disk as it lies then. -/
theorem write_done {base : Nat} {F : Nat → Prop} {g b1 b2 : Nat} {v : Value} {n : Nat} {D : DS} {w w1 w2 w4 : World} {i : Int} {s : List UInt8} {y : W3} {gk cap : Nat} (hD : DiskIn base w1 F g b1 b2 v n D) (hb1 : Below w.heap.size w w1) (hlt1 : w.heap.size < w1.heap.size) (HL : ∀ k, F k → k < w.heap.size)
    (hgr : w1.drew.grownBy w2 (some b2)) (hm2 : SecMap w2 b2 (n + D.ws.length + 1) (upd D.now i s)) (hs : s.length = 128) (hy : y = ⟨i, s, D.safe⟩) (hi : 0 ≤ i ∧ i < D.size) (hn : n + D.ws.length < 900000)
    (hown : OwnW base w4 (.slice (some ⟨gk, 0, none⟩) (D.ws.length + 1) cap) (D.ws ++ [y])) (hg4 : (w2.drew.alloc (.cells (cellsW y).toArray 91)).grownBy w4 v.ownBlock) (hk : v.ownBlock = some gk ∨ gk = (w2.drew.alloc (.cells (cellsW y).toArray 91)).heap.size) :
    ∃ F', DiskAt base (w4.setCell ⟨g, 3, none⟩ (.slice (some ⟨gk, 0, none⟩) (D.ws.length + 1) cap)) F' (.pointer (some ⟨g, 0, none⟩)) n { D with now := upd D.now i s, ws := D.ws ++ [⟨i, s, D.safe⟩] } ∧ Fr w (w4.setCell ⟨g, 3, none⟩ (.slice (some ⟨gk, 0, none⟩) (D.ws.length + 1) cap)) F ∧ ∀ k, F' k → F k ∨ w.heap.size ≤ k := by
  have hsz2 : w1.heap.size ≤ w2.heap.size := hgr.size
  have hsz4 : w2.heap.size + 1 ≤ w4.heap.size := by simpa using hg4.size
  have hmap : ∀ b n f, SecMap w1 b n f → b ≠ g := fun b n f hm e => by
    obtain ⟨es, clock, hx⟩ := hm.isMap
    rw [e, hD.hg] at hx; cases hx
  -- what is as it was in w1
  have k2 : ∀ k, k < w1.heap.size → k ≠ b2 → w2.heap[k]? = w1.heap[k]? := fun k hk hne => hgr.block k hk (by simpa using hne)
  have k3 : ∀ k, k < w2.heap.size → (w2.drew.alloc (.cells (cellsW y).toArray 91)).heap[k]? = w2.heap[k]? := fun k hk => Below.heap_alloc _ _ k hk
  have k4 : ∀ k, k < w2.heap.size → some k ≠ v.ownBlock → w4.heap[k]? = w2.heap[k]? := fun k hk hne => (hg4.block k (by simp; omega) hne).trans (k3 k hk)
  have k5 : ∀ k, k ≠ g → (w4.setCell ⟨g, 3, none⟩ (.slice (some ⟨gk, 0, none⟩) (D.ws.length + 1) cap)).heap[k]? = w4.heap[k]? := fun k hne => Below.heap_setCell _ _ _ _ (fun e => hne e)
  have nb : ∀ b n f, SecMap w1 b n f → v.ownBlock ≠ some b := fun b n f hm e => by
    obtain ⟨es, clock, hx⟩ := hm.isMap
    rcases hD.row.2 with ⟨hv, _⟩ | ⟨gv, cap, cur, hv, _, hh, _⟩
    · rw [hv] at e; cases e
    · rw [hv] at e
      have : gv = b := by simpa [Value.ownBlock] using e
      rw [this, hx] at hh; cases hh
  have lo := hD.lo
  have hgl := HL g hD.fg
  have h1l := HL b1 hD.f1
  have h2l := HL b2 hD.f2
  have g4 : w4.heap[g]? = w1.heap[g]? := (k4 g (by omega) (Ne.symm hD.nv)).trans (k2 g (by omega) (Ne.symm (hmap _ _ _ hD.m2)))
  have hg4' := g4.trans hD.hg
  have hset := setCell_eq_setRow w4 g 3 _ _ _ (.slice (some ⟨gk, 0, none⟩) (D.ws.length + 1) cap) hg4'
  have hgk : gk ≠ g := by
    rcases hk with hk | hk
    · intro e; exact hD.nv (by rw [hk, e])
    · simp at hk; omega
  subst hy
  refine ⟨fun k => F k ∨ (k = gk), ⟨g, b1, b2, .slice (some ⟨gk, 0, none⟩) (D.ws.length + 1) cap, rfl, ?_⟩, ?_, ?_⟩
  · exact {
      hg := by rw [hset, setRow_heap w4 g _ _ _ _ hg4']; rfl
      m1 := hD.m1.of_block (((k5 b1 (hmap _ _ _ hD.m1)).trans (k4 b1 (by omega) (Ne.symm (nb _ _ _ hD.m1)))).trans (k2 b1 (by omega) hD.ne))
      m2 := by
        have := hm2.of_block ((k5 b2 (hmap _ _ _ hD.m2)).trans (k4 b2 (by omega) (Ne.symm (nb _ _ _ hD.m2))))
        simpa [Nat.add_assoc] using this
      row := own_of_block (by simpa [OwnW] using hown) (fun b hb => k5 b (by
        have : gk = b := by simpa [Value.ownBlock] using hb
        rw [← this]; exact hgk))
      fg := Or.inl hD.fg
      f1 := Or.inl hD.f1
      f2 := Or.inl hD.f2
      fv := fun b hb => Or.inr (by
        have : gk = b := by simpa [Value.ownBlock] using hb
        exact this.symm)
      ne := hD.ne
      nv := by simpa [Value.ownBlock] using hgk
      oks := fun x hx => by
        rcases List.mem_append.1 hx with hx | hx
        · exact hD.oks x hx
        · rw [List.mem_singleton.1 hx]; exact ⟨hs, (⟨by have := hD.sz; omega, by have := hD.sz; omega⟩ : -9223372036854775808 ≤ i ∧ i ≤ 9223372036854775807)⟩
      lo := fun k hk' => by
        have e : (w4.setCell ⟨g, 3, none⟩ (.slice (some ⟨gk, 0, none⟩) (D.ws.length + 1) cap)).heap.size = w4.heap.size := by simp [World.setCell]
        rw [e]
        rcases hk' with hk' | rfl
        · exact ⟨(lo k hk').1, by have := HL k hk'; omega⟩
        · rcases hown.2 with ⟨hv, _⟩ | ⟨gv, cap', cur, hv, hbg, hh, _⟩
          · cases hv
          · have : k = gv ∧ cap = cap' := by simpa using hv
            obtain ⟨this, _⟩ := this
            subst this
            exact ⟨hbg, (Array.getElem?_eq_some_iff.1 hh).1⟩
      sz := hD.sz
      sf := by have := hD.sf; simp; omega
      cnt := by simp; omega
      wsafe := fun k hk' => by
        rw [List.length_append] at hk'
        simp only [List.length_singleton] at hk'
        by_cases hk2 : k < D.ws.length
        · rw [List.getElem_append_left hk2]; exact hD.wsafe k hk2
        · have : k = D.ws.length := by omega
          subst this
          have := hD.sf
          simp
          omega }
  · refine ⟨?_, ?_, ?_, ?_, fun k hk' hF => ?_⟩
    · exact (hg4.os.trans hgr.os).trans hb1.os
    · exact (hg4.tape.trans hgr.tape).trans hb1.tape
    · exact (hg4.output.trans hgr.output).trans hb1.output
    · simp [World.setCell]; omega
    · have n1 : k ≠ g := fun e => hF (by rw [e]; exact hD.fg)
      have n2 : k ≠ b2 := fun e => hF (by rw [e]; exact hD.f2)
      have n3 : some k ≠ v.ownBlock := fun e => hF (hD.fv k e.symm)
      exact (((k5 k n1).trans (k4 k (by omega) n3)).trans (k2 k (by omega) n2)).trans (hb1.block k hk')
  · intro k hk'
    rcases hk' with hk' | rfl
    · exact Or.inl hk'
    · rcases hk with hk | hk
      · exact Or.inl (hD.fv k hk)
      · right; simp at hk; omega

set_option maxRecDepth 20000 in
set_option maxHeartbeats 2000000 in
theorem write_any {base : Nat} {F : Nat → Prop} {p : Value} {n : Nat} {D : DS} {w : World} (h : DiskAt base w F p n D) (i : Int) (hi : 0 ≤ i ∧ i < D.size) (vb : Value) (xs : List UInt8) (hB : Bytes w vb xs) (hx : xs.length ≤ 128) (hn : n + D.ws.length < 900000) :
    Calls Try.prog 24 #[p, .int .i64 i, vb] w fun e w' => e = .returned (.int .i64 0) ∧ ∃ F', DiskAt base w' F' p n { D with now := upd D.now i (full xs), ws := D.ws ++ [⟨i, full xs, D.safe⟩] } ∧ Fr w w' F ∧ ∀ k, F' k → F k ∨ w.heap.size ≤ k := by
  obtain ⟨g, b1, b2, v, rfl, h⟩ := h
  have hh := has_any h i
  have hsz := h.sz
  have e1 : (decide (0 ≤ i) && decide (i < D.size)) = true := by simp; omega
  rw [e1] at hh
  clear e1
  obtain ⟨ao, cap, rfl, hc, _⟩ := hB.form
  have t1 : decide ((xs.length : Int) > 128) = false := by simp; omega
  have h0 : Below w.heap.size w (w.alloc (.cells (zsec.map bv).toArray 86)) := (Below.refl _ _).alloc (Nat.le_refl _) _
  obtain ⟨w1, m, hrun, hr1, h2, hf2⟩ := run_copyF (w.alloc (.cells (zsec.map bv).toArray 86)) 3 w.heap.size 86 (heap_alloc_new w _) _ xs (hB.keep h0) w.heap.size (Nat.le_refl _)
  have hb1 := h0.trans h2
  have HD : Hid (DiskIn base w1 F g b1 b2 v n D) := h.keep (Fr.of_below (F := fun _ => False) hb1) (fun _ _ => id)
  have hlt1 : w.heap.size < w1.heap.size := by have := hf2.size; simp at this; omega
  have hgl : g < w.heap.size := (h.lo g h.fg).2
  have hfl := full_len xs
  have HL : Hid (∀ k, F k → k < w.heap.size) := fun k hk => (h.lo k hk).2
  clear hB h0 h2 hf2 h
  generalize full xs = s at *
  generalize xs.length = X at *
  go_enter Try.func24, Try.ntmps24
  go_wp2_with (first
    | (go_at_call 50; refine hh.mono ?_; rintro e wx ⟨rfl, hwx⟩; rw [hwx]; clear hwx wx hh)
    | (guard_target = wpList _ _ _ (Oper.mk _ (Op.alloc _) _ _ _ _ :: _) _ _; refine wp_allocZ rfl rfl ?_))
  clear hrun t1 hc hx
  have h := HD.out
  obtain ⟨w2, hrun, hm2, hgr⟩ := (h.m2.of_block (w' := w1.drew) rfl).upd (by have := h.cnt; omega) (i := i) (by omega) hfl
  have hrun' : (Instr.mapUpdate 84 (.map (some b2)) (.int .i64 i) (.agg (s.map bv).toArray)).run Try.prog w1.drew = .ok () w2 := hrun
  have hgne : b2 ≠ g := fun e => by
    obtain ⟨es, clock, hx⟩ := h.m2.isMap
    rw [e, h.hg] at hx; cases hx
  have hbl : ∀ k, k < w1.heap.size → k ≠ b2 → w2.heap[k]? = w1.heap[k]? := fun k hk hne => hgr.block k hk (by simpa using hne)
  have hb2l : b2 < w.heap.size := HL.out b2 h.f2
  have hg2 := (hbl g (by omega) (Ne.symm hgne)).trans h.hg
  have hr2 := (hbl w.heap.size (by omega) (by omega)).trans hr1.out
  have hsz2 : w1.heap.size ≤ w2.heap.size := hgr.size
  have HR2 : Hid (w2.heap[w.heap.size]? = some (.cells (s.map bv).toArray 86 (0, 0))) := hr2
  have HG2 : Hid (w2.heap[g]? = some (.cells #[.int .i64 D.size, .map (some b1), .map (some b2), v, .int .i64 D.safe] 89 (0, 0))) := hg2
  have HGR : Hid (w1.drew.grownBy w2 (some b2)) := hgr
  have HM2 : Hid (SecMap w2 b2 (n + D.ws.length + 1) (upd D.now i s)) := hm2
  have HBL : Hid (∀ k, k < w1.heap.size → k ≠ b2 → w2.heap[k]? = w1.heap[k]?) := hbl
  have q2 : w1.cell? ⟨g, 2, none⟩ = some (.map (some b2)) := (cells5 h.hg).c2
  have q2' : w2.cell? ⟨g, 2, none⟩ = some (.map (some b2)) := (cells5 hg2).c2
  have r1 : w1.rangeAt w.heap.size 0 (s.map bv) := range_sec hr1.out
  have r2 : w2.rangeAt w.heap.size 0 (s.map bv) := range_sec hr2
  have hu : Try.prog.underlying 86 = some (.array 128 5) := Try.underlying86
  have hi58 : (Try.prog.info? 86).map (·.size) = some (s.map bv).length := by rw [infoSec]; simp [hfl]
  clear h hrun hm2 hgr hbl hg2 hr2
  go_region_held_law (fun w' => w'.cell? ⟨g, 2, none⟩ = some (.map (some b2)) ∧ w'.rangeAt w.heap.size 0 (s.map bv)) (first | exact ⟨q2, r1⟩ | exact ⟨q2', r2⟩) (fail)
  go_wp2_with fail
  have q3 : w2.cell? ⟨g, 3, none⟩ = some v := (cells5 HG2.out).c3
  have q4 : w2.cell? ⟨g, 4, none⟩ = some (.int .i64 D.safe) := (cells5 HG2.out).c4
  clear q2 q2' r1 hrun'
  refine wp_region_held_drew (S := fun w' => w'.cell? ⟨g, 4, none⟩ = some (.int .i64 D.safe) ∧ w'.rangeAt w.heap.size 0 (s.map bv)) (by kernel_rfl) ⟨q4, r2⟩ (fun hHeld => ?_)
  refine wpAnyH_take (i := 0) (v := .pointer (some ⟨g, 0, none⟩)) rfl (by kernel_rfl) (by kernel_rfl) (by kernel_rfl) (fun _ _ _ h => h) (Or.inl ⟨by rfl, ?_⟩) hHeld ?_
  · intro wq hSw; obtain ⟨hA, hB⟩ := hSw; go_simp
  simp only [List.getElem_toArray, List.getElem_cons_zero, List.getElem_cons_succ, Act.put, List.setIfInBounds_toArray, List.set_cons_zero, List.set_cons_succ]
  refine wpAnyH_take (i := 1) (v := .pointer (some ⟨g, 0, none⟩)) rfl (by kernel_rfl) (by kernel_rfl) (by kernel_rfl) (fun _ _ _ h => h) (Or.inl ⟨by rfl, ?_⟩) hHeld ?_
  · intro wq hSw; obtain ⟨hA, hB⟩ := hSw; go_simp
  simp only [List.getElem_toArray, List.getElem_cons_zero, List.getElem_cons_succ, Act.put, List.setIfInBounds_toArray, List.set_cons_zero, List.set_cons_succ]
  refine wpAnyH_take (i := 2) (v := .pointer (some ⟨g, 0, none⟩)) rfl (by kernel_rfl) (by kernel_rfl) (by kernel_rfl) (fun _ _ _ h => h) (Or.inl ⟨by rfl, ?_⟩) hHeld ?_
  · intro wq hSw; obtain ⟨hA, hB⟩ := hSw; go_simp
  simp only [List.getElem_toArray, List.getElem_cons_zero, List.getElem_cons_succ, Act.put, List.setIfInBounds_toArray, List.set_cons_zero, List.set_cons_succ]
  refine wpAnyH_take (i := 3) (v := .pointer (some ⟨g, 3, none⟩)) rfl (by kernel_rfl) (by kernel_rfl) (by kernel_rfl) (fun _ _ _ h => h) (Or.inl ⟨by rfl, ?_⟩) hHeld ?_
  · intro wq hSw; obtain ⟨hA, hB⟩ := hSw; go_simp
  simp only [List.getElem_toArray, List.getElem_cons_zero, List.getElem_cons_succ, Act.put, List.setIfInBounds_toArray, List.set_cons_zero, List.set_cons_succ]
  refine wpAnyH_take (i := 5) (v := .int .i64 i) rfl (by kernel_rfl) (by kernel_rfl) (by kernel_rfl) (fun _ _ _ h => h) (Or.inl ⟨by rfl, ?_⟩) hHeld ?_
  · intro wq hSw; obtain ⟨hA, hB⟩ := hSw; go_simp
  simp only [List.getElem_toArray, List.getElem_cons_zero, List.getElem_cons_succ, Act.put, List.setIfInBounds_toArray, List.set_cons_zero, List.set_cons_succ]
  refine wpAnyH_take (i := 6) (v := .agg (s.map bv).toArray) rfl (by kernel_rfl) (by kernel_rfl) (by kernel_rfl) (fun _ _ _ h => h) (yieldsIf_load_mid (by rfl) 86 _ rfl w.heap.size 0 rfl (s.map bv) _ (fun w hw => hw.2) hu rfl hi58) hHeld ?_
  simp only [List.getElem_toArray, List.getElem_cons_zero, List.getElem_cons_succ, Act.put, List.setIfInBounds_toArray, List.set_cons_zero, List.set_cons_succ]
  refine wpAnyH_take (i := 7) (v := .pointer (some ⟨g, 0, none⟩)) rfl (by kernel_rfl) (by kernel_rfl) (by kernel_rfl) (fun _ _ _ h => h) (Or.inl ⟨by rfl, ?_⟩) hHeld ?_
  · intro wq hSw; obtain ⟨hA, hB⟩ := hSw; go_simp
  simp only [List.getElem_toArray, List.getElem_cons_zero, List.getElem_cons_succ, Act.put, List.setIfInBounds_toArray, List.set_cons_zero, List.set_cons_succ]
  refine wpAnyH_take (i := 8) (v := .pointer (some ⟨g, 0, none⟩)) rfl (by kernel_rfl) (by kernel_rfl) (by kernel_rfl) (fun _ _ _ h => h) (Or.inl ⟨by rfl, ?_⟩) hHeld ?_
  · intro wq hSw; obtain ⟨hA, hB⟩ := hSw; go_simp
  simp only [List.getElem_toArray, List.getElem_cons_zero, List.getElem_cons_succ, Act.put, List.setIfInBounds_toArray, List.set_cons_zero, List.set_cons_succ]
  refine wpAnyH_take (i := 9) (v := .pointer (some ⟨g, 4, none⟩)) rfl (by kernel_rfl) (by kernel_rfl) (by kernel_rfl) (fun _ _ _ h => h) (Or.inl ⟨by rfl, ?_⟩) hHeld ?_
  · intro wq hSw; obtain ⟨hA, hB⟩ := hSw; go_simp
  simp only [List.getElem_toArray, List.getElem_cons_zero, List.getElem_cons_succ, Act.put, List.setIfInBounds_toArray, List.set_cons_zero, List.set_cons_succ]
  refine wpAnyH_take (i := 10) (v := .int .i64 D.safe) rfl (by kernel_rfl) (by kernel_rfl) (by kernel_rfl) (fun _ _ _ h => h) (Or.inl ⟨by rfl, ?_⟩) hHeld ?_
  · intro wq hSw; obtain ⟨hA, hB⟩ := hSw; go_simp
  simp only [List.getElem_toArray, List.getElem_cons_zero, List.getElem_cons_succ, Act.put, List.setIfInBounds_toArray, List.set_cons_zero, List.set_cons_succ]
  refine wpAnyH_take (i := 11) (v := .agg (cellsW ⟨i, s, D.safe⟩).toArray) rfl (by kernel_rfl) (by kernel_rfl) (by kernel_rfl) (fun _ _ _ h => h) (Or.inl ⟨by rfl, ?_⟩) hHeld ?_
  · exact fun wq _ => exec_buildW rfl rfl rfl rfl hfl wq
  simp only [List.getElem_toArray, List.getElem_cons_zero, List.getElem_cons_succ, Act.put, List.setIfInBounds_toArray, List.set_cons_zero, List.set_cons_succ]
  have hr2' := HR2.out
  have HO : Hid (OwnW base (w2.drew.alloc (.cells (cellsW ⟨i, s, D.safe⟩).toArray 91)) v D.ws) := by
    refine own_of_block HD.out.row fun k hk => ?_
    have hF := HL.out k (HD.out.fv k hk)
    refine (Below.heap_alloc _ _ k (by simp; omega)).trans (HBL.out k (by omega) fun e => ?_)
    obtain ⟨es, clock, hx⟩ := HD.out.m2.isMap
    rcases HD.out.row.2 with ⟨hv, _⟩ | ⟨gv, cap, cur, hv, _, hh, _⟩
    · rw [hv] at hk; cases hk
    · rw [hv] at hk
      have : gv = k := by simpa [Value.ownBlock] using hk
      rw [this, e, hx] at hh; cases hh
  have HS : Hid (base ≤ (w2.drew.alloc (.cells (cellsW ⟨i, s, D.safe⟩).toArray 91)).heap.size) := by
    have := (HD.out.lo g HD.out.fg).1
    refine (?_ : base ≤ _)
    simp; omega
  have HNV : Hid (v.ownBlock ≠ some g) := HD.out.nv
  have HNL : Hid (some w.heap.size ≠ v.ownBlock) := fun e => by have := HL.out _ (HD.out.fv _ e.symm); omega
  have HS3 : Hid ((w2.drew.alloc (.cells (cellsW ⟨i, s, D.safe⟩).toArray 91)).cell? ⟨g, 4, none⟩ = some (.int .i64 D.safe) ∧ (w2.drew.alloc (.cells (cellsW ⟨i, s, D.safe⟩).toArray 91)).rangeAt w.heap.size 0 (s.map bv)) := ⟨(World.cell?_alloc_lt _ _ _ (by simp; omega)).trans q4, World.rangeAt_alloc r2 _⟩
  have q3a : (w2.drew.alloc (.cells (cellsW ⟨i, s, D.safe⟩).toArray 91)).cell? ⟨g, 3, none⟩ = some v := (World.cell?_alloc_lt _ _ _ (by simp; omega)).trans q3
  have q3b : (w2.alloc (.cells (cellsW ⟨i, s, D.safe⟩).toArray 91)).cell? ⟨g, 3, none⟩ = some v := (World.cell?_alloc_lt _ _ _ (by simp; omega)).trans q3
  refine wpAnyH_ready (rs := [4, 12]) (by kernel_rfl) (by simp) ?_
  refine AllReadyH.cons rfl (fun K hK => ?_) (AllReadyH.cons rfl (fun K hK => ?_) AllReadyH.nil)
  · go_simp
    refine hK.out _ _ hHeld (fun hHeld => ?_)
    clear hK K
    refine wpAnyH_ready (rs := [12]) (by kernel_rfl) (by simp) ?_
    refine AllReadyH.cons rfl (fun K hK => ?_) AllReadyH.nil
    refine step_buildR rfl _ rfl _ rfl (cellsW_len hfl) w2.heap.size rfl ?_
    simp only [List.getElem_toArray, List.getElem_cons_zero, List.getElem_cons_succ, Act.put, List.setIfInBounds_toArray, List.set_cons_zero, List.set_cons_succ]
    refine hK.out _ _ HS3.out (fun hHeld => ?_)
    clear hK K
    refine wpAnyH_ready (rs := [13]) (by kernel_rfl) (by simp) ?_
    refine AllReadyH.cons rfl (fun K hK => ?_) AllReadyH.nil
    refine step_appW _ rfl _ _ rfl base v D.ws rfl HO.out ⟨i, s, D.safe⟩ hfl w2.heap.size rfl (heap_alloc_new w2.drew _) (by omega) HS.out ?_
    intro gk cap w4 hown hg4 hk
    have h4c : ∀ o, w4.cell? ⟨g, o, none⟩ = w2.cell? ⟨g, o, none⟩ := fun o => World.cell?_of_block ((hg4.block g (by simp; omega) (Ne.symm HNV.out)).trans (Below.heap_alloc _ _ g (by first | omega | (simp; omega))))
    have h4r : w4.heap[w.heap.size]? = w2.heap[w.heap.size]? := (hg4.block w.heap.size (by simp; omega) HNL.out).trans (Below.heap_alloc _ _ _ (by first | omega | (simp; omega)))
    have h4f : w4.frozen? ⟨g, 3, none⟩ = false := by rw [World.frozen?_of_block ((hg4.block g (by simp; omega) (Ne.symm HNV.out)).trans (Below.heap_alloc _ _ g (by first | omega | (simp; omega))))]; exact (cells5 HG2.out).f 3
    have h43 : w4.cell? ⟨g, 3, none⟩ = some v := (h4c 3).trans q3
    have h44 : w4.cell? ⟨g, 4, none⟩ = some (.int .i64 D.safe) := (h4c 4).trans q4
    have h4R : w4.rangeAt w.heap.size 0 (s.map bv) := range_sec (h4r.trans HR2.out)
    have HDone : Hid _ := write_done HD.out hb1 hlt1 HL.out HGR.out HM2.out hfl rfl hi hn hown hg4 hk
    have HS5 : Hid ((w4.setCell ⟨g, 3, none⟩ (.slice (some ⟨gk, 0, none⟩) (D.ws.length + 1) cap)).cell? ⟨g, 4, none⟩ = some (.int .i64 D.safe) ∧ (w4.setCell ⟨g, 3, none⟩ (.slice (some ⟨gk, 0, none⟩) (D.ws.length + 1) cap)).rangeAt w.heap.size 0 (s.map bv)) :=
      ⟨by rw [World.cell?_setCell_other _ _ _ _ (by simp)]; exact h44, fun j u hu => by rw [World.cell?_setCell_other _ _ _ _ (by simp <;> omega)]; exact h4R j u hu⟩
    clear hown hg4 hk h4c h4r
    simp only [List.getElem_toArray, List.getElem_cons_zero, List.getElem_cons_succ, Act.put, List.setIfInBounds_toArray, List.set_cons_zero, List.set_cons_succ]
    refine hK.out _ _ ⟨h44, h4R⟩ (fun hHeld => ?_)
    clear hK K
    refine wpAnyH_take (i := 14) (v := .pointer (some ⟨g, 0, none⟩)) rfl (by kernel_rfl) (by kernel_rfl) (by kernel_rfl) (fun _ _ _ h => h) (Or.inl ⟨by rfl, ?_⟩) hHeld ?_
    · intro wq hSw; obtain ⟨hA, hB⟩ := hSw; go_simp
    simp only [List.getElem_toArray, List.getElem_cons_zero, List.getElem_cons_succ, Act.put, List.setIfInBounds_toArray, List.set_cons_zero, List.set_cons_succ]
    refine wpAnyH_take (i := 15) (v := .pointer (some ⟨g, 3, none⟩)) rfl (by kernel_rfl) (by kernel_rfl) (by kernel_rfl) (fun _ _ _ h => h) (Or.inl ⟨by rfl, ?_⟩) hHeld ?_
    · intro wq hSw; obtain ⟨hA, hB⟩ := hSw; go_simp
    simp only [List.getElem_toArray, List.getElem_cons_zero, List.getElem_cons_succ, Act.put, List.setIfInBounds_toArray, List.set_cons_zero, List.set_cons_succ]
    refine wpAnyH_ready (rs := [16]) (by kernel_rfl) (by simp) ?_
    refine AllReadyH.cons rfl (fun K hK => ?_) AllReadyH.nil
    go_simp
    refine hK.out _ _ HS5.out (fun hHeld => ?_)
    clear hK K
    refine wpAnyH_done (by kernel_rfl) ?_ _
    go_wp2
    exact bodyPost_ret (v := .int .i64 0) (by simp [results, Try.results24, go_sem]) rfl ⟨rfl, HDone.out⟩
  · refine step_buildR rfl _ rfl _ rfl (cellsW_len hfl) w2.heap.size rfl ?_
    simp only [List.getElem_toArray, List.getElem_cons_zero, List.getElem_cons_succ, Act.put, List.setIfInBounds_toArray, List.set_cons_zero, List.set_cons_succ]
    refine hK.out _ _ HS3.out (fun hHeld => ?_)
    clear hK K
    refine wpAnyH_ready (rs := [4]) (by kernel_rfl) (by simp) ?_
    refine AllReadyH.cons rfl (fun K hK => ?_) AllReadyH.nil
    go_simp
    refine hK.out _ _ HS3.out (fun hHeld => ?_)
    clear hK K
    refine wpAnyH_ready (rs := [13]) (by kernel_rfl) (by simp) ?_
    refine AllReadyH.cons rfl (fun K hK => ?_) AllReadyH.nil
    refine step_appW _ rfl _ _ rfl base v D.ws rfl HO.out ⟨i, s, D.safe⟩ hfl w2.heap.size rfl (heap_alloc_new w2.drew _) (by omega) HS.out ?_
    intro gk cap w4 hown hg4 hk
    have h4c : ∀ o, w4.cell? ⟨g, o, none⟩ = w2.cell? ⟨g, o, none⟩ := fun o => World.cell?_of_block ((hg4.block g (by simp; omega) (Ne.symm HNV.out)).trans (Below.heap_alloc _ _ g (by first | omega | (simp; omega))))
    have h4r : w4.heap[w.heap.size]? = w2.heap[w.heap.size]? := (hg4.block w.heap.size (by simp; omega) HNL.out).trans (Below.heap_alloc _ _ _ (by first | omega | (simp; omega)))
    have h4f : w4.frozen? ⟨g, 3, none⟩ = false := by rw [World.frozen?_of_block ((hg4.block g (by simp; omega) (Ne.symm HNV.out)).trans (Below.heap_alloc _ _ g (by first | omega | (simp; omega))))]; exact (cells5 HG2.out).f 3
    have h43 : w4.cell? ⟨g, 3, none⟩ = some v := (h4c 3).trans q3
    have h44 : w4.cell? ⟨g, 4, none⟩ = some (.int .i64 D.safe) := (h4c 4).trans q4
    have h4R : w4.rangeAt w.heap.size 0 (s.map bv) := range_sec (h4r.trans HR2.out)
    have HDone : Hid _ := write_done HD.out hb1 hlt1 HL.out HGR.out HM2.out hfl rfl hi hn hown hg4 hk
    have HS5 : Hid ((w4.setCell ⟨g, 3, none⟩ (.slice (some ⟨gk, 0, none⟩) (D.ws.length + 1) cap)).cell? ⟨g, 4, none⟩ = some (.int .i64 D.safe) ∧ (w4.setCell ⟨g, 3, none⟩ (.slice (some ⟨gk, 0, none⟩) (D.ws.length + 1) cap)).rangeAt w.heap.size 0 (s.map bv)) :=
      ⟨by rw [World.cell?_setCell_other _ _ _ _ (by simp)]; exact h44, fun j u hu => by rw [World.cell?_setCell_other _ _ _ _ (by simp <;> omega)]; exact h4R j u hu⟩
    clear hown hg4 hk h4c h4r
    simp only [List.getElem_toArray, List.getElem_cons_zero, List.getElem_cons_succ, Act.put, List.setIfInBounds_toArray, List.set_cons_zero, List.set_cons_succ]
    refine hK.out _ _ ⟨h44, h4R⟩ (fun hHeld => ?_)
    clear hK K
    refine wpAnyH_take (i := 14) (v := .pointer (some ⟨g, 0, none⟩)) rfl (by kernel_rfl) (by kernel_rfl) (by kernel_rfl) (fun _ _ _ h => h) (Or.inl ⟨by rfl, ?_⟩) hHeld ?_
    · intro wq hSw; obtain ⟨hA, hB⟩ := hSw; go_simp
    simp only [List.getElem_toArray, List.getElem_cons_zero, List.getElem_cons_succ, Act.put, List.setIfInBounds_toArray, List.set_cons_zero, List.set_cons_succ]
    refine wpAnyH_take (i := 15) (v := .pointer (some ⟨g, 3, none⟩)) rfl (by kernel_rfl) (by kernel_rfl) (by kernel_rfl) (fun _ _ _ h => h) (Or.inl ⟨by rfl, ?_⟩) hHeld ?_
    · intro wq hSw; obtain ⟨hA, hB⟩ := hSw; go_simp
    simp only [List.getElem_toArray, List.getElem_cons_zero, List.getElem_cons_succ, Act.put, List.setIfInBounds_toArray, List.set_cons_zero, List.set_cons_succ]
    refine wpAnyH_ready (rs := [16]) (by kernel_rfl) (by simp) ?_
    refine AllReadyH.cons rfl (fun K hK => ?_) AllReadyH.nil
    go_simp
    refine hK.out _ _ HS5.out (fun hHeld => ?_)
    clear hK K
    refine wpAnyH_done (by kernel_rfl) ?_ _
    go_wp2
    exact bodyPost_ret (v := .int .i64 0) (by simp [results, Try.results24, go_sem]) rfl ⟨rfl, HDone.out⟩
end Go.Proofs.Ytkmgahembhgloaa

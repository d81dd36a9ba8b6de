/- Bytes that the call made: appends; a frame behind frames. -/
import Derived.Test.YtcjoolmlobjpbaaW6A
namespace Go.Proofs.Ytcjoolmlobjpbaa
open Go.RowKit Go.Maps
set_option linter.unusedVariables false
set_option linter.unusedSimpArgs false

theorem infoB : (Try.prog.info? 5).map (fun i => (i.zero, i.size, i.bytes)) = some (some (.int .u8 0), 1, 1) := by kernel_rfl
/-- A slice of bytes that the call made. -/
def OwnB (base : Nat) (w : World) (v : Value) (xs : List UInt8) : Prop := w.ownsRow base 5 1 v xs.length (xs.map bv)

theorem OwnB.alloc {base : Nat} {w : World} {v : Value} {xs : List UInt8} (h : OwnB base w v xs) (o : Obj) : OwnB base (w.alloc o) v xs := World.ownsRow.alloc h o
/-- Behind appends to v: v' is what came of it; of what was there, v's own block alone may be turned. -/
structure GrowB (w : World) (v : Value) (w' : World) (v' : Value) : Prop where
  grown : w.grownBy w' v.ownBlock
  own : v'.ownBlock = v.ownBlock ∨ ∀ k, v'.ownBlock = some k → w.heap.size ≤ k
theorem grownBy_trans {a b c : World} {r : Option Nat} (h : a.grownBy b r) (k : b.grownBy c r) : a.grownBy c r :=
  ⟨k.os.trans h.os, k.tape.trans h.tape, k.output.trans h.output, Nat.le_trans h.size k.size, fun i hi hr => (k.block i (Nat.lt_of_lt_of_le hi h.size) hr).trans (h.block i hi hr)⟩
theorem grownBy_drew (w : World) (r : Option Nat) : w.grownBy w.drew r := ⟨rfl, rfl, rfl, Nat.le_refl _, fun _ _ _ => rfl⟩
theorem GrowB.refl (w : World) (v : Value) : GrowB w v w v := ⟨World.grownBy.refl _ _, Or.inl rfl⟩
theorem GrowB.trans {w w1 w2 : World} {v v1 v2 : Value} (h : GrowB w v w1 v1) (k : GrowB w1 v1 w2 v2) : GrowB w v w2 v2 := by
  refine ⟨⟨k.grown.os.trans h.grown.os, k.grown.tape.trans h.grown.tape, k.grown.output.trans h.grown.output, Nat.le_trans h.grown.size k.grown.size, fun i hi hr => ?_⟩, ?_⟩
  · refine (k.grown.block i (Nat.lt_of_lt_of_le hi h.grown.size) fun e => ?_).trans (h.grown.block i hi hr)
    rcases h.own with h' | h'
    · exact hr (e.trans h')
    · have := h' i e.symm; omega
  · rcases k.own with k' | k'
    · rw [k']; exact h.own
    · exact Or.inr fun b hb => Nat.le_trans h.grown.size (k' b hb)
theorem GrowB.alloc {w w1 : World} {v v1 : Value} (h : GrowB w v w1 v1) (o : Obj) : GrowB w v (w1.alloc o) v1 := h.trans ⟨World.grownBy_alloc _ _ _, Or.inl rfl⟩
theorem GrowB.drew {w w1 : World} {v v1 : Value} (h : GrowB w v w1 v1) : GrowB w v w1.drew v1 := h.trans ⟨grownBy_drew _ _, Or.inl rfl⟩
theorem own_ge {base : Nat} {w : World} {v : Value} {xs : List UInt8} (h : OwnB base w v xs) : ∀ k, v.ownBlock = some k → base ≤ k := fun k hk => (World.ownsRow.lt h k hk).1
theorem own_lt {base : Nat} {w : World} {v : Value} {xs : List UInt8} (h : OwnB base w v xs) : ∀ k, v.ownBlock = some k → k < w.heap.size := fun k hk => (World.ownsRow.lt h k hk).2
theorem GrowB.below {base : Nat} {w w' : World} {v v' : Value} {xs : List UInt8} (h : GrowB w v w' v') (hown : OwnB base w v xs) (hb : base ≤ w.heap.size) : Below base w w' :=
  (Below.refl _ _).grown h.grown hb (own_ge hown)
theorem OwnB.drew {base : Nat} {w : World} {v : Value} {xs : List UInt8} (h : OwnB base w v xs) : OwnB base w.drew v xs := h

/-- append, to bytes that the call made, of bytes that lie somewhere. -/
theorem wp_appA (w : World) {ops : Array Oper} {rest : List Oper} {o : Oper} {a : Act} {Q : Exit → Act → World → Prop} (hgd : o.guard = none) (s x : Operand)
    (ho : o.op = .call { callee := .builtin .append, args := #[s, x], argTypes := #[36, 36] })
    (base : Nat) (v : Value) (xs : List UInt8) (hs : a.eval s = v) (hown : OwnB base w v xs)
    (ad : Addr) (m c : Nat) (ys : List UInt8) (hx : a.eval x = .slice (some ad) m c) (hB : ∀ j (hj : j < ys.length), w.cell? (ad.add j) = some (bv ys[j])) (hm : ys.length = m) (hm0 : 0 < m)
    (hl : xs.length + m ≤ 140737488355328) (hbase : base ≤ w.heap.size)
    (h : ∀ v' w', OwnB base w' v' (xs ++ ys) → GrowB w v w' v' → wpList Try.prog ops Q rest (a.put o.dst v') w') : wpList Try.prog ops Q (o :: rest) a w := by
  obtain ⟨i0, hi, hz0, hz1, hz2⟩ := info_parts infoB
  refine wpList_append_lies w hgd s x 36 ho base 5 i0 (.int .u8 0) 1 1 Try.underlying36 hi hz0 hz1 hz2 rfl (by decide) v xs.length (xs.map bv) hs hown ad m c (ys.map bv) hx (by simp [hm]) ?_ (one_bv ys) hm0 (by unfold maxLen; omega) (by omega) hbase w.heap.size rfl ?_
  · intro j u hu
    rw [List.getElem?_map] at hu
    cases hj : ys[j]? with
    | none => rw [hj] at hu; cases hu
    | some c =>
      rw [hj] at hu
      obtain ⟨hlt, hc⟩ := List.getElem?_eq_some_iff.1 hj
      rw [hB j hlt, hc]; exact hu
  · intro g cap w' h1 h2 h3 _
    refine h _ w' ?_ ⟨h2, ?_⟩
    · unfold OwnB
      rw [List.length_append, List.map_append, hm]
      exact h1
    · rcases h3 with h3 | h3
      · exact Or.inl h3.symm
      · exact Or.inr fun k hk => by simp [Value.ownBlock] at hk; omega
/-- append, to bytes that the call made, of bytes that lie in a block of their own. -/
theorem wp_appB (w : World) {ops : Array Oper} {rest : List Oper} {o : Oper} {a : Act} {Q : Exit → Act → World → Prop} (hgd : o.guard = none) (s x : Operand)
    (ho : o.op = .call { callee := .builtin .append, args := #[s, x], argTypes := #[36, 36] })
    (base : Nat) (v : Value) (xs : List UInt8) (hs : a.eval s = v) (hown : OwnB base w v xs)
    (B m : Nat) (news : Array Value) (ys : List UInt8) (hx : a.eval x = .slice (some ⟨B, 0, none⟩) m m) (hB : w.heap[B]? = some (.cells news 5 (0, 0))) (hy : news.toList = ys.map bv) (hm : ys.length = m) (hm0 : 0 < m)
    (hl : xs.length + m ≤ 140737488355328) (hbase : base ≤ w.heap.size)
    (h : ∀ v' w', OwnB base w' v' (xs ++ ys) → GrowB w v w' v' → wpList Try.prog ops Q rest (a.put o.dst v') w') : wpList Try.prog ops Q (o :: rest) a w := by
  obtain ⟨i0, hi, hz0, hz1, hz2⟩ := info_parts infoB
  refine wpList_append_lies w hgd s x 36 ho base 5 i0 (.int .u8 0) 1 1 Try.underlying36 hi hz0 hz1 hz2 rfl (by decide) v xs.length (xs.map bv) hs hown ⟨B, 0, none⟩ m m (ys.map bv) hx (by simp [hm]) ?_ (one_bv ys) hm0 (by unfold maxLen; omega) (by omega) hbase w.heap.size rfl ?_
  · rw [← hy]; exact World.news_of_block hB
  · intro g cap w' h1 h2 h3 _
    refine h _ w' ?_ ⟨h2, ?_⟩
    · unfold OwnB
      rw [List.length_append, List.map_append, hm]
      exact h1
    · rcases h3 with h3 | h3
      · exact Or.inl h3.symm
      · exact Or.inr fun k hk => by simp [Value.ownBlock] at hk; omega
theorem step_appB (w : World) {ops : Array Oper} {o : Oper} {a : Act} {K : Act → World → Prop} {Q : Exit → Act → World → Prop} {E : Prop} (hgd : o.guard = none) (s x : Operand)
    (ho : o.op = .call { callee := .builtin .append, args := #[s, x], argTypes := #[36, 36] })
    (base : Nat) (v : Value) (xs : List UInt8) (hs : a.eval s = v) (hown : OwnB base w v xs)
    (B m : Nat) (news : Array Value) (ys : List UInt8) (hx : a.eval x = .slice (some ⟨B, 0, none⟩) m m) (hB : w.heap[B]? = some (.cells news 5 (0, 0))) (hy : news.toList = ys.map bv) (hm : ys.length = m) (hm0 : 0 < m)
    (hl : xs.length + m ≤ 140737488355328) (hbase : base ≤ w.heap.size)
    (h : ∀ v' w', OwnB base w' v' (xs ++ ys) → GrowB w v w' v' → K (a.put o.dst v') w') :
    if Region.wanted o (yielded ops a.tmps) = true then Oper.wp Try.prog o a w K Q else E := by
  obtain ⟨i0, hi, hz0, hz1, hz2⟩ := info_parts infoB
  refine step_append_lies w hgd s x 36 ho base 5 i0 (.int .u8 0) 1 1 Try.underlying36 hi hz0 hz1 hz2 rfl (by decide) v xs.length (xs.map bv) hs hown ⟨B, 0, none⟩ m m (ys.map bv) hx (by simp [hm]) ?_ (one_bv ys) hm0 (by unfold maxLen; omega) (by omega) hbase w.heap.size rfl ?_
  · rw [← hy]; exact World.news_of_block hB
  · intro g cap w' h1 h2 h3 _
    refine h _ w' ?_ ⟨h2, ?_⟩
    · unfold OwnB
      rw [List.length_append, List.map_append, hm]
      exact h1
    · rcases h3 with h3 | h3
      · exact Or.inl h3.symm
      · exact Or.inr fun k hk => by simp [Value.ownBlock] at hk; omega
theorem keep_cell {w W w' : World} {v v' : Value} {base : Nat} {xs : List UInt8} {b o : Nat} {x : Value} (hg : GrowB W v w' v') (hown : OwnB base w v xs) (hb : w.heap.size ≤ b) (hlt : b < W.heap.size) (hc : W.cell? ⟨b, o, none⟩ = some x) : w'.cell? ⟨b, o, none⟩ = some x :=
  (hg.grown.cell_far ⟨b, o, none⟩ hlt (fun e => by have := own_lt hown b e.symm; omega)).trans hc

theorem new_at (w : World) (o : Obj) {B : Nat} (h : B = w.heap.size) : (w.alloc o).heap[B]? = some o := by subst h; exact heap_alloc_new _ _
theorem new_drew (w : World) (o : Obj) {B : Nat} (h : B = w.heap.size) : (w.alloc o).drew.heap[B]? = some o := new_at w o h
theorem OwnB.bytes {base : Nat} {w : World} {v : Value} {xs : List UInt8} (h : OwnB base w v xs) : (v = .slice none 0 0 ∧ xs = []) ∨ ∃ g cap, v = .slice (some ⟨g, 0, none⟩) xs.length cap ∧ ∀ j (hj : j < xs.length), w.cell? ((⟨g, 0, none⟩ : Addr).add j) = some (.int .u8 (xs[j].toNat : Int)) := by
  obtain ⟨h1, h2⟩ := h
  rcases h2 with ⟨hv, hn⟩ | ⟨g, cap, cur, hv, hg, hh, hc, hm, hs, hx⟩
  · exact Or.inl ⟨hv, List.eq_nil_of_length_eq_zero hn⟩
  · refine Or.inr ⟨g, cap, hv, fun j hj => ?_⟩
    rw [Addr.add_mid, cell_of_row w g (0 + j) cur _ _ hh]
    have : (cur.toList.take (xs.length * 1))[j]? = some (bv xs[j]) := by rw [hx]; simp [hj]
    rw [List.getElem?_take, if_pos (by omega)] at this
    simpa [bv] using this
theorem byte_low (U k : Nat) : (U : Int) / 2 ^ (8 * k) % 256 = ((UInt8.ofNat (U / 256 ^ k)).toNat : Int) := by
  have e2 : (2 : Int) ^ (8 * k) = ((256 ^ k : Nat) : Int) := by
    rw [Int.pow_mul]; simp
  rw [e2, UInt8.toNat_ofNat']
  simp

/-- What a slice grows to is not much more than it needs. -/
theorem cap_near {need old : Nat} (h : old < need) : Builtin.nextslicecap need old ≤ need + need / 4 + 1000 := by
  unfold Builtin.nextslicecap
  split
  · omega
  · split
    · omega
    · rw [growBy_four]
      repeat' split
      all_goals omega
theorem run_zeroB (w : World) : (zeroValue 5).run Try.prog w = .ok (.int .u8 0) w := by kernel_rfl
theorem zeroCells_rep (m : Nat) : (Builtin.zeroCells (Value.int .u8 0).cells m).toList = List.replicate m (.int .u8 0) := by
  have hz : (Value.int .u8 0).cells = #[Value.int .u8 0] := rfl
  rw [hz]
  simp [Builtin.zeroCells]
  apply List.ext_getElem
  · simp
  · intro i h1 h2
    simp [Nat.mod_one]
/-- append, to bytes that the call made, of so many noughts. -/
theorem run_appZ (w : World) (base : Nat) (ty : TypeId) (v : Value) (xs : List UInt8) (hown : OwnB base w v xs) (hx : 0 < xs.length) (m : Nat) (hl : xs.length + m ≤ 140737488355328) (hbase : base ≤ w.heap.size) :
    ∃ v' w', (Builtin.append_ #[36, 3] ty #[v, .int .i64 m]).run Try.prog w = .ok v' w' ∧ OwnB base w' v' (xs ++ List.replicate m 0) ∧ GrowB w v w' v' := by
  obtain ⟨i0, hi, hz0, hz1, hz2⟩ := info_parts infoB
  have hw : IntKind.i64.wrap (m : Int) = m := by rw [IntKind.wrap_i64]; omega
  have hneg : ¬ ((m : Int) < 0) := by omega
  have h48 : ¬ (281474976710656 < (m : Int)) := by omega
  rcases id hown with ⟨h0, h2⟩
  rcases h2 with ⟨rfl, hn⟩ | ⟨g, cap, cur, rfl, hbg, hg, hnc, hcm, hcs, htake⟩
  · omega
  · have hmap : (xs ++ List.replicate m (0 : UInt8)).map bv = xs.map bv ++ List.replicate m (Value.int .u8 0) := by simp [bv]
    by_cases hroom : xs.length + m ≤ cap
    · by_cases hm : m = 0
      · subst hm
        have hw0 : IntKind.i64.wrap 0 = 0 := by decide
        refine ⟨_, w, ?_, by simpa using hown, GrowB.refl _ _⟩
        simp [Builtin.append_, run_underlying Try.underlying36, run_underlying Try.underlying3, sizeOf, typeInfo, hi, hnc, storeCells, asInt, asIntOf, hz1, hw0]
      · have hst := run_storeCells_at Try.prog g (xs.length * 1) 5 (List.replicate m (.int .u8 0)) 0 cur w hg (by rw [hcs]; simp; omega) (by intro u hu; rw [List.eq_of_mem_replicate hu]; rfl)
        simp only [Nat.add_zero, Nat.mul_one] at hst
        refine ⟨_, _, by
          simp [Builtin.append_, run_underlying Try.underlying36, run_underlying Try.underlying3, sizeOf, typeInfo, hi, hroom, asInt, asIntOf, hz1, hz2, hw, hneg, h48, hm, run_zeroB, zeroCells_rep, Addr.add_lit, hst]
          exact ⟨rfl, rfl⟩, ?_, ?_⟩
        · refine ⟨by simp, Or.inr ⟨g, cap, _, by simp, hbg, setRow_heap w g cur _ 5 _ hg, by simpa using hroom, hcm, ?_, ?_⟩⟩
          · simp; simp at hcs; omega
          · rw [hmap]
            simp only [Nat.mul_one] at htake
            simp [htake]
            rw [List.take_append]
            simp
            exact List.take_of_length_le (by simp)
        · exact ⟨⟨rfl, rfl, rfl, by simp, fun k hk hne => setRow_other w g k _ (by simpa [Value.ownBlock, eq_comm] using hne)⟩, Or.inl rfl⟩
    · have hm : m ≠ 0 := by omega
      have hm' : ¬ ((m : Int) ≤ 0) := by omega
      have h63' : ¬ (9223372036854775807 < ((xs.length : Int) + (m : Int))) := by omega
      have hcn := cap_near (need := xs.length + m) (old := cap) (by omega)
      have h48' : ¬ (281474976710656 < Builtin.nextslicecap (xs.length + m) cap) := by omega
      have hold := run_firstCells_some (P := Try.prog) w.drew 1 xs.length ⟨g, 0, none⟩ xs.length cap (xs.map bv) (by simp) (by simpa using World.ownsRow.cells hown rfl)
      have hge := grownCap_ge w (xs.length + m) cap 5
      have hle := grownCap_le_maxLen w (xs.length + m) cap 5 (by unfold maxLen; omega)
      have hr : (Builtin.append_ #[36, 3] ty #[.slice (some ⟨g, 0, none⟩) xs.length cap, .int .i64 m]).run Try.prog w =
          .ok (.slice (some ⟨w.heap.size, 0, none⟩) (xs.length + m) (grownCap w (xs.length + m) cap 5))
            (w.drew.alloc (.cells ((xs.map bv).toArray ++ (List.replicate m (Value.int .u8 0)).toArray ++ Builtin.zeroCells (Value.int .u8 0).cells (grownCap w (xs.length + m) cap 5 - (xs.length + m))) 5)) := by
        have hzc : Builtin.zeroCells (Value.int .u8 0).cells m = (List.replicate m (Value.int .u8 0)).toArray := by
          apply Array.ext'; rw [zeroCells_rep]
        simp [Builtin.append_, run_underlying Try.underlying36, run_underlying Try.underlying3, sizeOf, typeInfo, hi, hroom, asInt, asIntOf, hz1, hz2, hw, hneg, h48, hm, hm', h63', h48', run_zeroB, Question.forced, hold, newRow, hzc, grownCap]
      refine ⟨_, _, hr, ?_, ⟨grownBy_trans (grownBy_drew w _) (World.grownBy_alloc w.drew _ _), Or.inr fun k hk => by simp [Value.ownBlock] at hk; omega⟩⟩
      refine ⟨by simp, Or.inr ⟨w.heap.size, _, _, by simp, hbase, heap_alloc_new w.drew _, by simpa using hge, hle, ?_, ?_⟩⟩
      · simp [size_zeroCells, Value.cells]
        omega
      · rw [hmap]
        simp [List.take_append]
        exact List.take_of_length_le (by simp)
theorem wp_appZ (w : World) {ops : Array Oper} {rest : List Oper} {o : Oper} {a : Act} {Q : Exit → Act → World → Prop} (hgd : o.guard = none) (s x : Operand)
    (ho : o.op = .call { callee := .builtin .append, args := #[s, x], argTypes := #[36, 3] })
    (base : Nat) (v : Value) (xs : List UInt8) (hs : a.eval s = v) (hown : OwnB base w v xs) (hx0 : 0 < xs.length) (m : Nat) (hx : a.eval x = .int .i64 m) (hl : xs.length + m ≤ 140737488355328) (hbase : base ≤ w.heap.size)
    (h : ∀ v' w', OwnB base w' v' (xs ++ List.replicate m 0) → GrowB w v w' v' → wpList Try.prog ops Q rest (a.put o.dst v') w') : wpList Try.prog ops Q (o :: rest) a w := by
  refine wpList_plain hgd fun K hK => ?_
  obtain ⟨v', w', hr, h2, h3⟩ := run_appZ w base o.type v xs hown hx0 m hl hbase
  unfold Oper.wp execOp
  simp only [ho, resolve, invoke, builtin, Sem.run_bind, Sem.run_pure, Result.andThen_ok, List.map_toArray, List.map_cons, List.map_nil, hs, hx, hr]
  exact hK _ _ (h v' w' h2 h3)
theorem OwnB.toBytes {base : Nat} {w : World} {v : Value} {xs : List UInt8} (h : OwnB base w v xs) : Bytes w v xs := by
  rcases id h with ⟨h1, ⟨hv, hn⟩ | ⟨g, cap, cur, hv, hg, hh, hc, _⟩⟩
  · exact Or.inl ⟨hv, List.eq_nil_of_length_eq_zero hn⟩
  · refine Or.inr ⟨⟨g, 0, none⟩, cap, hv, hc, fun j hj => ?_⟩
    exact World.ownsRow.cells h (g := g) (by rw [hv]; rfl) j (bv xs[j]) (by simp [hj])
/-- Bytes that lie in another block than v's. -/
def Apart (rv v : Value) : Prop := ∀ a n c, rv = .slice (some a) n c → v.ownBlock ≠ some a.block
theorem add_block (a : Addr) (k : Nat) : (a.add k).block = a.block := by
  unfold Addr.add; split <;> rfl
theorem Bytes.grow {w w' : World} {rv v v' : Value} {r : List UInt8} (h : Bytes w rv r) (ha : Apart rv v) (hg : GrowB w v w' v') : Bytes w' rv r := by
  rcases h with h | ⟨a, cap, hv, hc, h⟩
  · exact Or.inl h
  · refine Or.inr ⟨a, cap, hv, hc, fun j hj => ?_⟩
    have h1 := h j hj
    exact (hg.grown.cell_far (a.add j) (World.block_lt_of_cell? w _ h1) (fun e => ha a _ _ hv (by rw [← e, add_block]))).trans h1
theorem Bytes.lt {w : World} {rv : Value} {r : List UInt8} (h : Bytes w rv r) (hr : 0 < r.length) : ∀ a n c, rv = .slice (some a) n c → a.block < w.heap.size := by
  intro a n c e
  rcases h with ⟨_, h⟩ | ⟨a', cap, hv, hc, h⟩
  · rw [h] at hr; simp at hr
  · rw [hv] at e; cases e
    have := World.block_lt_of_cell? w _ (h 0 hr)
    rwa [add_block] at this
theorem Apart.grow {w w' : World} {rv v v' : Value} {r : List UInt8} (h : Apart rv v) (hb : Bytes w rv r) (hr : 0 < r.length) (hg : GrowB w v w' v') : Apart rv v' := by
  intro a n c e hx
  rcases hg.own with h1 | h1
  · exact h a n c e (h1 ▸ hx)
  · have := h1 _ hx
    have := hb.lt hr a n c e
    omega
theorem byte_low32 (U k : Nat) : (U : Int) / 2 ^ (8 * k) % 256 = ((UInt8.ofNat (U / 256 ^ k)).toNat : Int) := byte_low U k
set_option maxHeartbeats 400000 in
theorem appendWhole_any (base U : Nat) (v : Value) (xs : List UInt8) (w : World) (hown : OwnB base w v xs) (hb : base ≤ w.heap.size) (hl : xs.length ≤ 1099511627776) (hU : U < 4294967296) :
    Calls Try.prog 54 #[v, .int .u32 U] w fun e w' => ∃ v', e = .returned v' ∧ OwnB base w' v' (xs ++ leN 4 U) ∧ GrowB w v w' v' := by
  go_enter Try.func54, Try.ntmps54
  go_wp2
  go_loopw [0, 6] (fun u i wr => ∃ k : Nat, k ≤ 4 ∧ i = .int .i64 k ∧ OwnB base wr u (xs ++ (leN 4 U).take k) ∧ GrowB w v wr u) (fun _ i _ => 4 - (intOf i).toNat)
  case atStart => exact ⟨0, Nat.zero_le _, rfl, by rw [List.take_zero, List.append_nil]; exact hown, GrowB.refl _ _⟩
  case round =>
    obtain ⟨k, hk, rfl, hown, hnx⟩ := hrel
    by_cases hkn : k < 4
    · have hlen : (xs ++ (leN 4 U).take k).length ≤ 1099511627776 + 8 := by
        rw [List.length_append, List.length_take]; omega
      go_wp2_with (at_builtin; refine wp_appB _ rfl _ _ rfl base _ (xs ++ (leN 4 U).take k) rfl (hown.alloc _) wr.heap.size 1 #[.int .u8 ((U : Int) / 2 ^ (8 * k) % 256)] [UInt8.ofNat (U / 256 ^ k)] rfl (heap_alloc_new wr _) (by rw [byte_low U k]; rfl) rfl (by decide) (by omega) (by have := hnx.grown.size; simp; omega) ?_)
      intro v' w1 hown1 hgrow
      have h1 := (hnx.alloc _).trans hgrow
      have hown2 : OwnB base w1 v' (xs ++ (leN 4 U).take (k + 1)) := by rw [leN_take 4 U k hkn]; simpa using hown1
      clear hgrow hown hnx hlen hown1
      go_wp2
      go_roundw
      case rel => exact ⟨k + 1, by omega, by go_num, hown2, h1⟩
      case measure => simp [intOf]; omega
    · go_wp2
      go_ret
      obtain rfl : k = 4 := by omega
      rw [List.take_of_length_le (by rw [leN_len]; omega)] at hown
      exact ⟨_, rfl, hown, hnx⟩
set_option maxHeartbeats 1000000 in
theorem appendFrame_any (base : Nat) (v : Value) (xs : List UInt8) (rv : Value) (r : List UInt8) (w : World) (hown : OwnB base w v xs) (hb : base ≤ w.heap.size) (hl : xs.length ≤ 1000000) (hB : Bytes w rv r) (ha : Apart rv v) (hr : OkR r) :
    Calls Try.prog 49 #[v, rv] w fun e w' => ∃ v', e = .returned v' ∧ OwnB base w' v' (xs ++ frame r) ∧ GrowB w v w' v' := by
  obtain ⟨hr1, hr2⟩ := hr
  have hrn := rnd_ge r.length
  obtain ⟨vo, vcap, rfl, hvc, _⟩ := hown.toBytes.form
  obtain ⟨ao, cap, rfl, hcap, hcells⟩ := hB.form
  obtain ⟨ra, rfl, _⟩ := hcells hr1
  clear hcells
  have HC : Hid (crcL r < 4294967296) := crcL_lt r
  go_enter Try.func49, Try.ntmps49
  go_wp2_with fail
  refine (frameBytes_any r.length _ (by omega)).mono ?_
  rintro e wx ⟨rfl, hwx⟩
  subst hwx
  go_wp2_with fail
  refine (appendWhole_any base r.length _ xs _ hown hb (by omega) (by omega)).mono ?_
  rintro e w1 ⟨v1, rfl, hown1, hg1⟩
  have hB1 := hB.grow ha hg1
  have ha1 := ha.grow hB hr1 hg1
  have hb1 : base ≤ w1.heap.size := Nat.le_trans hb hg1.grown.size
  clear hown
  go_wp2_with fail
  refine (crc_any _ r _ hB1 (by omega)).mono ?_
  rintro e wy ⟨rfl, hwy⟩
  subst hwy
  go_wp2_with fail
  refine (appendWhole_any base (crcL r) _ (xs ++ leN 4 r.length) _ hown1 hb1 (by simp [leN_len]; omega) HC.out).mono ?_
  rintro e w2 ⟨v2, rfl, hown2, hg2⟩
  have hB2 := hB1.grow ha1 hg2
  have ha2 := ha1.grow hB1 hr1 hg2
  have hb2 : base ≤ w2.heap.size := Nat.le_trans hb1 hg2.grown.size
  have hg12 := hg1.trans hg2
  clear hown1 hB1 ha1 hb1 hg1 hg2
  have hcell2 : ∀ j (hj : j < r.length), w2.cell? (ra.add j) = some (bv r[j]) := by
    rcases hB2 with ⟨h, _⟩ | ⟨a', cap', h, _, h2⟩
    · cases h
    · cases h; exact h2
  have HCl : Hid (∀ j (hj : j < r.length), w2.cell? (ra.add j) = some (bv r[j])) := hcell2
  clear hcell2
  go_wp2_with (first | (at_builtin; refine wp_appA _ rfl _ _ rfl base _ _ rfl hown2 ra r.length cap r rfl HCl.out rfl (by omega) (by simp [leN_len]; omega) hb2 ?_))
  intro v3 w3 hown3 hg3
  have hb3 : base ≤ w3.heap.size := Nat.le_trans hb2 hg3.grown.size
  have hg13 := hg12.trans hg3
  clear hown2 hB2 ha2 hb2 hg12 hg3 HCl
  obtain ⟨ao3, cap3, hv3, hc3, _⟩ := hown3.toBytes.form
  have hlen3 : (xs ++ (leN 4 r.length ++ (leN 4 (crcL r) ++ r))).length = xs.length + 8 + r.length := by simp [leN_len]; omega
  rw [hlen3] at hv3 hc3
  subst hv3
  have HL3 : Hid ((xs ++ (leN 4 r.length ++ (leN 4 (crcL r) ++ r))).length = xs.length + 8 + r.length) := hlen3
  clear hlen3
  go_wp2_with (first | (at_builtin; refine wp_appZ _ rfl _ _ rfl base _ _ rfl hown3 (by rw [HL3.out]; omega) (rnd r.length - r.length) (by show Value.int .i64 _ = Value.int .i64 _; congr 1; omega) (by rw [HL3.out]; omega) hb3 ?_))
  intro v4 w4 hown4 hg4
  have hg14 := hg13.trans hg4
  clear hg4 hg13 hown3
  go_wp2
  go_ret
  exact ⟨_, rfl, by simpa [frame] using hown4, hg14⟩
end Go.Proofs.Ytcjoolmlobjpbaa

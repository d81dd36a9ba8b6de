/- Bytes that the call made: appends, parts of them, bytes.Clone. -/
import Derived.Test.YtkmgahembhgloaaD5D
import Derived.Lib.SliceRun
namespace Go.Proofs.Ytkmgahembhgloaa
open Go.RowKit Go.Maps
set_option linter.unusedVariables false
set_option linter.unusedSimpArgs false

theorem infoB : (Try.prog.info? 5).map (fun i => (i.zero, i.size, i.bytes)) = some (some (.int .u8 0), 1, 1) := by kernel_rfl
/-- A slice of bytes that the call made. -/
def OwnB (base : Nat) (w : World) (v : Value) (xs : List UInt8) : Prop := w.ownsRow base 5 1 v xs.length (xs.map bv)

theorem OwnB.alloc {base : Nat} {w : World} {v : Value} {xs : List UInt8} (h : OwnB base w v xs) (o : Obj) : OwnB base (w.alloc o) v xs := World.ownsRow.alloc h o
/-- Behind appends to v: v' is what came of it; of what was there, v's own block alone may be turned. -/
structure GrowB (w : World) (v : Value) (w' : World) (v' : Value) : Prop where
  grown : w.grownBy w' v.ownBlock
  own : v'.ownBlock = v.ownBlock ∨ ∀ k, v'.ownBlock = some k → w.heap.size ≤ k
theorem grownBy_trans {a b c : World} {r : Option Nat} (h : a.grownBy b r) (k : b.grownBy c r) : a.grownBy c r :=
  ⟨k.os.trans h.os, k.tape.trans h.tape, k.output.trans h.output, Nat.le_trans h.size k.size, fun i hi hr => (k.block i (Nat.lt_of_lt_of_le hi h.size) hr).trans (h.block i hi hr)⟩
theorem grownBy_drew (w : World) (r : Option Nat) : w.grownBy w.drew r := ⟨rfl, rfl, rfl, Nat.le_refl _, fun _ _ _ => rfl⟩
theorem GrowB.refl (w : World) (v : Value) : GrowB w v w v := ⟨World.grownBy.refl _ _, Or.inl rfl⟩
theorem GrowB.trans {w w1 w2 : World} {v v1 v2 : Value} (h : GrowB w v w1 v1) (k : GrowB w1 v1 w2 v2) : GrowB w v w2 v2 := by
  refine ⟨⟨k.grown.os.trans h.grown.os, k.grown.tape.trans h.grown.tape, k.grown.output.trans h.grown.output, Nat.le_trans h.grown.size k.grown.size, fun i hi hr => ?_⟩, ?_⟩
  · refine (k.grown.block i (Nat.lt_of_lt_of_le hi h.grown.size) fun e => ?_).trans (h.grown.block i hi hr)
    rcases h.own with h' | h'
    · exact hr (e.trans h')
    · have := h' i e.symm; omega
  · rcases k.own with k' | k'
    · rw [k']; exact h.own
    · exact Or.inr fun b hb => Nat.le_trans h.grown.size (k' b hb)
theorem GrowB.alloc {w w1 : World} {v v1 : Value} (h : GrowB w v w1 v1) (o : Obj) : GrowB w v (w1.alloc o) v1 := h.trans ⟨World.grownBy_alloc _ _ _, Or.inl rfl⟩
theorem GrowB.drew {w w1 : World} {v v1 : Value} (h : GrowB w v w1 v1) : GrowB w v w1.drew v1 := h.trans ⟨grownBy_drew _ _, Or.inl rfl⟩
theorem own_ge {base : Nat} {w : World} {v : Value} {xs : List UInt8} (h : OwnB base w v xs) : ∀ k, v.ownBlock = some k → base ≤ k := fun k hk => (World.ownsRow.lt h k hk).1
theorem own_lt {base : Nat} {w : World} {v : Value} {xs : List UInt8} (h : OwnB base w v xs) : ∀ k, v.ownBlock = some k → k < w.heap.size := fun k hk => (World.ownsRow.lt h k hk).2
theorem GrowB.below {base : Nat} {w w' : World} {v v' : Value} {xs : List UInt8} (h : GrowB w v w' v') (hown : OwnB base w v xs) (hb : base ≤ w.heap.size) : Below base w w' :=
  (Below.refl _ _).grown h.grown hb (own_ge hown)
theorem OwnB.drew {base : Nat} {w : World} {v : Value} {xs : List UInt8} (h : OwnB base w v xs) : OwnB base w.drew v xs := h

/-- append, to bytes that the call made, of bytes that lie somewhere. -/
theorem wp_appA (w : World) {ops : Array Oper} {rest : List Oper} {o : Oper} {a : Act} {Q : Exit → Act → World → Prop} (hgd : o.guard = none) (s x : Operand)
    (ho : o.op = .call { callee := .builtin .append, args := #[s, x], argTypes := #[30, 30] })
    (base : Nat) (v : Value) (xs : List UInt8) (hs : a.eval s = v) (hown : OwnB base w v xs)
    (ad : Addr) (m c : Nat) (ys : List UInt8) (hx : a.eval x = .slice (some ad) m c) (hB : ∀ j (hj : j < ys.length), w.cell? (ad.add j) = some (bv ys[j])) (hm : ys.length = m) (hm0 : 0 < m)
    (hl : xs.length + m ≤ 140737488355328) (hbase : base ≤ w.heap.size)
    (h : ∀ v' w', OwnB base w' v' (xs ++ ys) → GrowB w v w' v' → wpList Try.prog ops Q rest (a.put o.dst v') w') : wpList Try.prog ops Q (o :: rest) a w := by
  obtain ⟨i0, hi, hz0, hz1, hz2⟩ := info_parts infoB
  refine wpList_append_lies w hgd s x 30 ho base 5 i0 (.int .u8 0) 1 1 Try.underlying30 hi hz0 hz1 hz2 rfl (by decide) v xs.length (xs.map bv) hs hown ad m c (ys.map bv) hx (by simp [hm]) ?_ (one_bv ys) hm0 (by unfold maxLen; omega) (by omega) hbase w.heap.size rfl ?_
  · intro j u hu
    rw [List.getElem?_map] at hu
    cases hj : ys[j]? with
    | none => rw [hj] at hu; cases hu
    | some c =>
      rw [hj] at hu
      obtain ⟨hlt, hc⟩ := List.getElem?_eq_some_iff.1 hj
      rw [hB j hlt, hc]; exact hu
  · intro g cap w' h1 h2 h3 _
    refine h _ w' ?_ ⟨h2, ?_⟩
    · unfold OwnB
      rw [List.length_append, List.map_append, hm]
      exact h1
    · rcases h3 with h3 | h3
      · exact Or.inl h3.symm
      · exact Or.inr fun k hk => by simp [Value.ownBlock] at hk; omega
/-- append, to bytes that the call made, of bytes that lie in a block of their own. -/
theorem wp_appB (w : World) {ops : Array Oper} {rest : List Oper} {o : Oper} {a : Act} {Q : Exit → Act → World → Prop} (hgd : o.guard = none) (s x : Operand)
    (ho : o.op = .call { callee := .builtin .append, args := #[s, x], argTypes := #[30, 30] })
    (base : Nat) (v : Value) (xs : List UInt8) (hs : a.eval s = v) (hown : OwnB base w v xs)
    (B m : Nat) (news : Array Value) (ys : List UInt8) (hx : a.eval x = .slice (some ⟨B, 0, none⟩) m m) (hB : w.heap[B]? = some (.cells news 5 (0, 0))) (hy : news.toList = ys.map bv) (hm : ys.length = m) (hm0 : 0 < m)
    (hl : xs.length + m ≤ 140737488355328) (hbase : base ≤ w.heap.size)
    (h : ∀ v' w', OwnB base w' v' (xs ++ ys) → GrowB w v w' v' → wpList Try.prog ops Q rest (a.put o.dst v') w') : wpList Try.prog ops Q (o :: rest) a w := by
  obtain ⟨i0, hi, hz0, hz1, hz2⟩ := info_parts infoB
  refine wpList_append_lies w hgd s x 30 ho base 5 i0 (.int .u8 0) 1 1 Try.underlying30 hi hz0 hz1 hz2 rfl (by decide) v xs.length (xs.map bv) hs hown ⟨B, 0, none⟩ m m (ys.map bv) hx (by simp [hm]) ?_ (one_bv ys) hm0 (by unfold maxLen; omega) (by omega) hbase w.heap.size rfl ?_
  · rw [← hy]; exact World.news_of_block hB
  · intro g cap w' h1 h2 h3 _
    refine h _ w' ?_ ⟨h2, ?_⟩
    · unfold OwnB
      rw [List.length_append, List.map_append, hm]
      exact h1
    · rcases h3 with h3 | h3
      · exact Or.inl h3.symm
      · exact Or.inr fun k hk => by simp [Value.ownBlock] at hk; omega
theorem new_at (w : World) (o : Obj) {B : Nat} (h : B = w.heap.size) : (w.alloc o).heap[B]? = some o := by subst h; exact heap_alloc_new _ _
theorem new_drew (w : World) (o : Obj) {B : Nat} (h : B = w.heap.size) : (w.alloc o).drew.heap[B]? = some o := new_at w o h
theorem OwnB.toBytes {base : Nat} {w : World} {v : Value} {xs : List UInt8} (h : OwnB base w v xs) : Bytes w v xs := by
  rcases id h with ⟨h1, ⟨hv, hn⟩ | ⟨g, cap, cur, hv, hg, hh, hc, _⟩⟩
  · exact Or.inl ⟨hv, List.eq_nil_of_length_eq_zero hn⟩
  · refine Or.inr ⟨⟨g, 0, none⟩, cap, hv, hc, fun j hj => ?_⟩
    exact World.ownsRow.cells h (g := g) (by rw [hv]; rfl) j (bv xs[j]) (by simp [hj])
/-- Bytes that lie in another block than v's. -/
def Apart (rv v : Value) : Prop := ∀ a n c, rv = .slice (some a) n c → v.ownBlock ≠ some a.block
theorem add_block (a : Addr) (k : Nat) : (a.add k).block = a.block := by
  unfold Addr.add; split <;> rfl
theorem Bytes.grow {w w' : World} {rv v v' : Value} {r : List UInt8} (h : Bytes w rv r) (ha : Apart rv v) (hg : GrowB w v w' v') : Bytes w' rv r := by
  rcases h with h | ⟨a, cap, hv, hc, h⟩
  · exact Or.inl h
  · refine Or.inr ⟨a, cap, hv, hc, fun j hj => ?_⟩
    have h1 := h j hj
    exact (hg.grown.cell_far (a.add j) (World.block_lt_of_cell? w _ h1) (fun e => ha a _ _ hv (by rw [← e, add_block]))).trans h1
theorem Bytes.lt {w : World} {rv : Value} {r : List UInt8} (h : Bytes w rv r) (hr : 0 < r.length) : ∀ a n c, rv = .slice (some a) n c → a.block < w.heap.size := by
  intro a n c e
  rcases h with ⟨_, h⟩ | ⟨a', cap, hv, hc, h⟩
  · rw [h] at hr; simp at hr
  · rw [hv] at e; cases e
    have := World.block_lt_of_cell? w _ (h 0 hr)
    rwa [add_block] at this
theorem Apart.grow {w w' : World} {rv v v' : Value} {r : List UInt8} (h : Apart rv v) (hb : Bytes w rv r) (hr : 0 < r.length) (hg : GrowB w v w' v') : Apart rv v' := by
  intro a n c e hx
  rcases hg.own with h1 | h1
  · exact h a n c e (h1 ▸ hx)
  · have := h1 _ hx
    have := hb.lt hr a n c e
    omega
theorem add_add (a : Addr) (i j : Nat) : (a.add i).add j = a.add (i + j) := by
  by_cases hi : i = 0
  · subst hi; simp [Addr.add]
  · by_cases hj : j = 0
    · subst hj; simp [Addr.add]
    · simp [Addr.add, hi, hj, Nat.add_assoc]
/-- A part of bytes. -/
theorem Bytes.part {w : World} {a a' : Addr} {m cap lo hi : Nat} {xs : List UInt8} (h : Bytes w (.slice (some a) m cap) xs) (hm : xs.length = m) (h1 : lo ≤ hi) (h2 : hi ≤ m) (ha : a' = a.add lo ∨ hi = lo) : Bytes w (.slice (some a') (hi - lo) (cap - lo)) ((xs.drop lo).take (hi - lo)) := by
  subst hm
  have hl : ((xs.drop lo).take (hi - lo)).length = hi - lo := by rw [List.length_take, List.length_drop]; omega
  rcases h with ⟨h, _⟩ | ⟨b, cap', hv, hc, h⟩
  · cases h
  · cases hv
    refine Or.inr ⟨a', cap - lo, by rw [hl], by rw [hl]; omega, fun j hj => ?_⟩
    rw [hl] at hj
    rcases ha with rfl | ha
    · rw [add_add, h (lo + j) (by omega), List.getElem_take, List.getElem_drop]
    · omega
theorem Bytes.none_len {w : World} {n cap : Nat} {xs : List UInt8} (h : Bytes w (.slice none n cap) xs) : n = 0 := by
  rcases h with ⟨h, _⟩ | ⟨a, c, h, _⟩
  · cases h; rfl
  · cases h
theorem Bytes.none_cap {w : World} {n cap : Nat} {xs : List UInt8} (h : Bytes w (.slice none n cap) xs) : cap = 0 := by
  rcases h with ⟨h, _⟩ | ⟨a, c, h, _⟩
  · cases h; rfl
  · cases h
theorem bytes_mt {w : World} {a : Addr} {n cap : Nat} {xs : List UInt8} (h1 : n = 0) (h : xs.length = 0) : Bytes w (.slice (some a) n cap) xs := by
  subst h1
  obtain rfl := List.eq_nil_of_length_eq_zero h
  exact Or.inr ⟨a, cap, rfl, Nat.zero_le _, fun j hj => by simp at hj⟩
theorem bytes_none {w : World} {n cap : Nat} {xs : List UInt8} (h1 : n = 0) (h2 : cap = 0) (h : xs.length = 0) : Bytes w (.slice none n cap) xs := by
  subst h1 h2
  exact Or.inl ⟨rfl, List.eq_nil_of_length_eq_zero h⟩
theorem fr_cell {w w' : World} {F : Nat → Prop} (hf : Fr w w' F) {g o : Nat} {v : Value} (hg : ¬ F g) (h : w.cell? ⟨g, o, none⟩ = some v) : w'.cell? ⟨g, o, none⟩ = some v := by
  have hlt := World.block_lt_of_cell? w _ h
  rw [World.cell?_of_block (hf.block g hlt hg)]; exact h
theorem nil_eql (w : World) (ao : Option Addr) (n c : Nat) : (binOp .eql 30 (.slice ao n c) (.slice none 0 0)).run Try.prog w = .ok (.bool ao.isNone) w := Lib.run_eql_slice_nil w 30 5 ao n c 0 0 Try.underlying30
theorem own_empty (base : Nat) (w : World) (hb : base ≤ w.heap.size) : OwnB base (w.alloc (.cells #[] 5)) (.slice (some ⟨w.heap.size, 0, none⟩) 0 0) [] :=
  ⟨rfl, Or.inr ⟨w.heap.size, 0, #[], rfl, hb, heap_alloc_new w _, Nat.le_refl _, by unfold maxLen; omega, rfl, rfl⟩⟩
theorem build_empty (w : World) : (Instr.buildSlice 30 0 #[]).run Try.prog w = .ok (.slice (some ⟨w.heap.size, 0, none⟩) 0 0) (w.alloc (.cells #[] 5)) := by kernel_rfl
set_option maxHeartbeats 1000000 in
/-- bytes.Clone. -/
theorem clone_bytes (base : Nat) (v : Value) (xs : List UInt8) (w : World) (h : Bytes w v xs) (hx : 0 < xs.length) (hl : xs.length ≤ 1000000) (hb : base ≤ w.heap.size) :
    Calls Try.prog 68 #[v] w fun e w' => ∃ v', e = .returned v' ∧ OwnB base w' v' xs ∧ (∀ k, v'.ownBlock = some k → w.heap.size ≤ k) ∧ Below w.heap.size w w' := by
  obtain ⟨ao, cap, rfl, hc, hcells⟩ := h.form
  obtain ⟨a, rfl, _⟩ := hcells hx
  clear hcells
  have h0 : Below w.heap.size w (w.alloc (.cells #[] 5)) := (Below.refl _ _).alloc (Nat.le_refl _) _
  have h1 := h.keep h0
  have HC : Hid (∀ j (hj : j < xs.length), (w.alloc (.cells #[] 5)).cell? (a.add j) = some (bv xs[j])) := by
    rcases h1 with ⟨h, _⟩ | ⟨a', cap', h, _, h2⟩
    · cases h
    · cases h; exact h2
  have HO : Hid (OwnB base (w.alloc (.cells #[] 5)) (.slice (some ⟨w.heap.size, 0, none⟩) 0 0) []) := own_empty base w hb
  have hbe := build_empty w
  have hq := nil_eql
  clear h1 h
  go_enter Try.func68, Try.ntmps68
  go_wp2_with (first | (at_builtin; refine wp_appA _ rfl _ _ rfl base _ [] rfl HO.out a xs.length cap xs rfl HC.out rfl hx (by simp; omega) (by simp; omega) ?_))
  intro v' w2 ho hg
  have hG : GrowB w (.slice (some ⟨w.heap.size, 0, none⟩) 0 0) w2 v' := ((GrowB.refl w _).alloc _).trans hg
  have hb2 : Below w.heap.size w w2 := h0.grown hg.grown (by simp) (by intro k hk; simp [Value.ownBlock] at hk; omega)
  have hn : ∀ k, v'.ownBlock = some k → w.heap.size ≤ k := fun k hk => by
    rcases hg.own with e | e
    · rw [e] at hk; simp [Value.ownBlock] at hk; omega
    · have := e k hk; simp at this; omega
  clear hG hg
  go_wp2
  go_ret
  exact ⟨v', rfl, by simpa using ho, hn, hb2⟩
end Go.Proofs.Ytkmgahembhgloaa

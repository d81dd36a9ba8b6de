/- Rows of entries: one goes, one comes, a copy. -/
import Derived.Test.YtfobcnmhghfanaaB9A
namespace Go.Proofs.Ytfobcnmhghfanaa
open Go.RowKit
set_option linter.unusedVariables false
set_option linter.unusedSimpArgs false

theorem sizeE : (Try.prog.info? 66).map (·.size) = some 3 := by kernel_rfl
/-- What a deletion at i leaves of the cells. -/
def cutE (l : List E) (i : Nat) (cur : List Value) : List Value := splice (splice cur (i * 3) ((l.drop (i + 1)).flatMap cE)) ((l.length - 1) * 3) (Builtin.zeroCells (Value.agg #[.string ByteArray.empty, .int .i64 0, .bool false]).cells 1).toList
theorem cutE_row {l : List E} {i cap : Nat} {cur : List Value} (hi : i < l.length) (hc : l.length ≤ cap) (hs : cur.length = cap * 3) (hx : cur.take (l.length * 3) = l.flatMap cE) :
    (cutE l i cur).length = cap * 3 ∧ (cutE l i cur).take ((l.length - 1) * 3) = (l.eraseIdx i).flatMap cE := by
  have hd : ((l.drop (i + 1)).flatMap cE).length = (l.length - (i + 1)) * 3 := by rw [flat_len cE 3 _ (cE_len _), List.length_drop]
  have hzl : (Builtin.zeroCells (Value.agg #[.string ByteArray.empty, .int .i64 0, .bool false]).cells 1).toList.length = 3 := by rw [zeroCells_len]; rfl
  have h1 : (splice cur (i * 3) ((l.drop (i + 1)).flatMap cE)).length = cap * 3 := by
    rw [length_splice _ _ _ (by rw [hd, hs]; omega)]; exact hs
  refine ⟨by unfold cutE; rw [length_splice _ _ _ (by rw [hzl, h1]; omega)]; exact h1, ?_⟩
  unfold cutE
  rw [splice_take _ _ _ _ (by rw [hzl, h1]; omega) (Nat.le_refl _)]
  have e1 : cur.take (i * 3) = (l.take i).flatMap cE := by
    rw [← flat_take cE 3 l (cE_len l), ← hx, List.take_take, Nat.min_eq_left (by omega)]
  unfold splice
  rw [e1, ← List.append_assoc, List.take_append_of_le_length (by rw [List.length_append, hd, flat_len cE 3 _ (cE_len _), List.length_take]; omega), List.take_of_length_le (by rw [List.length_append, hd, flat_len cE 3 _ (cE_len _), List.length_take]; omega), ← List.flatMap_append, List.eraseIdx_eq_take_drop_succ]
set_option maxHeartbeats 1600000 in
set_option maxRecDepth 1000000 in
/-- slices.Delete(s, i, i+1). -/
theorem delE {base : Nat} {w : World} {g n cap : Nat} {l : List E} (h : OwnE base w (.slice (some ⟨g, 0, none⟩) n cap) l) (i : Nat) (hi : i < n) (hn : n ≤ 1000) :
    Calls Try.prog 42 #[.slice (some ⟨g, 0, none⟩) n cap, .int .i64 i, .int .i64 ((i : Int) + 1)] w fun e w' => e = .returned (.slice (some ⟨g, 0, none⟩) (n - 1) cap) ∧ OwnE base w' (.slice (some ⟨g, 0, none⟩) (n - 1) cap) (l.eraseIdx i) ∧ w.grownBy w' (some g) := by
  obtain rfl := h.len
  rcases id h with ⟨h1, ⟨hv, _⟩ | ⟨g', cap', cur, hv, hb, hh, hc, hm, hs, hx⟩⟩
  · cases hv
  cases hv
  obtain ⟨i0, hi0, hz0, hz1, hz2⟩ := info_parts infoE
  obtain ⟨mv, hmv⟩ : ∃ mv, (l.drop (i + 1)).flatMap cE = mv := ⟨_, rfl⟩
  have hml : mv.length = (l.length - (i + 1)) * 3 := by rw [← hmv, flat_len cE 3 _ (cE_len _), List.length_drop]
  have hm1 : ∀ u ∈ mv, u.oneCell' = true := by rw [← hmv]; exact cE_one _
  have hsrc : ∀ j u, mv[j]? = some u → w.drew.cell? ⟨g, (i + 1) * 3 + j, none⟩ = some u := fun j u hu => by
    rw [← hmv, ← flat_drop cE 3 l (cE_len l), List.getElem?_drop] at hu
    have := World.ownsRow.cells h (g := g) rfl _ u hu
    rwa [Addr.add_mid, Nat.zero_add] at this
  obtain ⟨A, hA, hnews⟩ : ∃ A : Addr, (if cap = i + 1 then some (⟨g, 0, none⟩ : Addr) else some ⟨g, (i + 1) * 3, none⟩) = some A ∧ Hid (∀ j u, mv[j]? = some u → w.drew.cell? (A.add j) = some u) := by
    by_cases h : cap = i + 1
    · refine ⟨⟨g, 0, none⟩, by simp [h], fun j u hu => ?_⟩
      have h0 : mv.length = 0 := by rw [hml]; omega
      rw [List.length_eq_zero_iff.1 h0] at hu
      simp at hu
    · refine ⟨⟨g, (i + 1) * 3, none⟩, by simp [h], fun j u hu => ?_⟩
      rw [Addr.add_lit]
      exact hsrc j u hu
  have hsz : i * 3 + mv.length ≤ cur.size := by rw [hs, hml]; omega
  have HR : Hid (∀ ty m c, m = l.length - (i + 1) → (Builtin.append_ #[49, 49] ty #[.slice (some ⟨g, 0, none⟩) i cap, .slice (some A) m c]).run Try.prog w.drew = .ok (.slice (some ⟨g, 0, none⟩) (i + (l.length - (i + 1))) cap) (w.drew.setRow g (splice cur.toList (i * 3) mv).toArray)) := fun ty m c e => by
    subst e
    have := run_append_room (P := Try.prog) w.drew 49 ty 66 i0 Try.underlying49 hi0 g i cap cur hh A (l.length - (i + 1)) c mv (by rw [hz1]; exact hml) hnews.out hm1 (by omega) (by rw [hz1]; exact hsz)
    rw [this, hz1]
    simp [splice]
  obtain ⟨w1, hw1⟩ : ∃ w1, w.drew.setRow g (splice cur.toList (i * 3) mv).toArray = w1 := ⟨_, rfl⟩
  have hh1 : w1.heap[g]? = some (.cells (splice cur.toList (i * 3) mv).toArray 66 (0, 0)) := by rw [← hw1]; exact setRow_heap _ g cur _ _ _ hh
  have hl1 : (splice cur.toList (i * 3) mv).length = cap * 3 := by rw [length_splice _ _ _ (by simpa using hsz)]; simpa using hs
  have HC : Hid (∀ ty c, (Builtin.clear_ #[49] ty #[.slice (some ⟨g, (l.length - 1) * 3, none⟩) 1 c]).run Try.prog w1 = .ok (.tuple #[]) (w1.setRow g (cutE l i cur.toList).toArray)) := fun ty c => by
    have := run_clearZ Try.prog w1 49 ty 66 g ((l.length - 1) * 3) 1 c (Value.agg #[.string ByteArray.empty, .int .i64 0, .bool false]) _ 66 Try.underlying49 zeroE (by omega) hh1 (by rw [zeroCells_len]; simp [hl1, Value.cells]; omega) (by intro v hv; simp [Builtin.zeroCells, Value.cells, Array.range, List.range, List.range.loop] at hv; rcases hv with rfl | rfl | rfl <;> rfl)
    rw [this]
    unfold cutE
    rw [hmv]
  have HE : Hid (OwnE base (w1.setRow g (cutE l i cur.toList).toArray) (.slice (some ⟨g, 0, none⟩) (l.length - 1) cap) (l.eraseIdx i) ∧ w.grownBy (w1.setRow g (cutE l i cur.toList).toArray) (some g)) := by
    obtain ⟨c1, c2⟩ := cutE_row hi hc (by simpa using hs) hx
    have hle : (l.eraseIdx i).length = l.length - 1 := by rw [List.length_eraseIdx, if_pos hi]
    refine ⟨⟨by rw [flat_len cE 3 _ (cE_len _)], Or.inr ⟨g, cap, _, by rw [hle], hb, setRow_heap w1 g _ _ _ _ hh1, by rw [hle]; omega, hm, by simpa using c1, by rw [hle]; simpa using c2⟩⟩, ?_⟩
    exact grownBy_trans (grownBy_trans (grownBy_drew w _) (hw1 ▸ setRow_grown w.drew g _)) (setRow_grown w1 g _)
  have hic : i ≤ cap := by omega
  have hicl : i + (l.length - (i + 1)) = l.length - 1 := by omega
  rw [hicl, hw1] at HR
  clear h hh hx hs hml hsrc hmv hm1 hh1 hl1 hw1 h1 hz0 hz1 hz2 hi0 i0 hsz hicl
  generalize l.length = n at *
  obtain ⟨k, rfl⟩ : ∃ k, n = k + 1 := ⟨n - 1, by omega⟩
  simp only [Nat.add_sub_cancel] at HR HC HE ⊢
  have hp1 : (i : Int) ≤ (k : Int) := by omega
  have hp2 : ((i : Int) + 1).toNat = i + 1 := by omega
  have hp3 : ¬ ((i : Int) = (i : Int) + 1) := by omega
  have hp4 : ¬ (cap = k) := by omega
  have hp5 : k + 1 - k = 1 := by omega
  have hp7 : (0 : Int) ≤ (i : Int) + 1 := by omega
  have hp8 : k + 1 - (i + 1) = k - i := by omega
  rw [hp8] at HR
  go_enter Try.func42, Try.ntmps42
  go_wp2_with fail
  go_region_law (refine step_appendZ rfl (.tmp 22) (.tmp 25) 49 49 rfl (by simp [Act.eval, Act.put]) (by simp [Act.eval, Act.put]) (HR.out _ (k - i) (cap - (i + 1)) rfl) ?_)
  go_wp2_with fail
  rw [HC.out]
  simp only [Result.andThen]
  rw [Oper.upon_value]
  go_wp2
  go_ret
  exact ⟨rfl, HE.out⟩
theorem nileqE (w : World) (ao : Option Addr) (n c : Nat) : (binOp .eql 49 (.slice ao n c) (.slice none 0 0)).run Try.prog w = .ok (.bool ao.isNone) w := Lib.run_eql_slice_nil w 49 66 ao n c 0 0 Try.underlying49
theorem emptyE (base : Nat) (w : World) (hb : base ≤ w.heap.size) : OwnE base (w.alloc (.cells #[] 66)) (.slice (some ⟨w.heap.size, 0, none⟩) 0 0) [] :=
  ⟨by simp, Or.inr ⟨w.heap.size, 0, #[], rfl, hb, heap_alloc_new w _, Nat.le_refl _, by unfold maxLen; omega, rfl, rfl⟩⟩
theorem buildE (w : World) : (Instr.buildSlice 49 0 #[]).run Try.prog w = .ok (.slice (some ⟨w.heap.size, 0, none⟩) 0 0) (w.alloc (.cells #[] 66)) := by kernel_rfl
/-- append, to a row, of things that lie somewhere. -/
theorem wp_appE (w : World) {ops : Array Oper} {rest : List Oper} {o : Oper} {a : Act} {Q : Exit → Act → World → Prop} (hgd : o.guard = none) (s x : Operand)
    (ho : o.op = .call { callee := .builtin .append, args := #[s, x], argTypes := #[49, 49] })
    (base : Nat) (v : Value) (l : List E) (hs : a.eval s = v) (hown : OwnE base w v l)
    (ad : Addr) (m c : Nat) (ys : List E) (hx : a.eval x = .slice (some ad) m c) (hB : ∀ j u, (ys.flatMap cE)[j]? = some u → w.cell? (ad.add j) = some u) (hm : ys.length = m) (hm0 : 0 < m)
    (hl : l.length + m ≤ 100000) (hbase : base ≤ w.heap.size)
    (h : ∀ g cap w', OwnE base w' (.slice (some ⟨g, 0, none⟩) (l.length + m) cap) (l ++ ys) → GrowB w v w' (.slice (some ⟨g, 0, none⟩) (l.length + m) cap) → wpList Try.prog ops Q rest (a.put o.dst (.slice (some ⟨g, 0, none⟩) (l.length + m) cap)) w') : wpList Try.prog ops Q (o :: rest) a w := by
  obtain ⟨i0, hi, hz0, hz1, hz2⟩ := info_parts infoE
  refine wpList_append_lies w hgd s x 49 ho base 66 i0 _ 3 _ Try.underlying49 hi hz0 hz1 hz2 rfl (by decide) v l.length (l.flatMap cE) hs hown ad m c (ys.flatMap cE) hx (by rw [flat_len cE 3 _ (cE_len _), hm]) hB (cE_one ys) hm0 (by unfold maxLen; omega) (by omega) hbase w.heap.size rfl ?_
  intro g cap w' h1 h2 h3 _
  refine h _ _ w' ?_ ⟨h2, ?_⟩
  · show w'.ownsRow base 66 3 _ (l ++ ys).length ((l ++ ys).flatMap cE)
    rw [List.length_append, List.flatMap_append, hm]
    exact h1
  · rcases h3 with h3 | h3
    · exact Or.inl h3.symm
    · exact Or.inr fun k hk => by simp [Value.ownBlock] at hk; omega
set_option maxHeartbeats 1000000 in
/-- slices.Clone of some things. -/
theorem cloneE (base : Nat) (a : Addr) (n cap : Nat) (ys : List E) (w : World) (hB : ∀ j u, (ys.flatMap cE)[j]? = some u → w.cell? (a.add j) = some u) (hn : ys.length = n) (hx : 0 < n) (hl : n ≤ 1000) (hb : base ≤ w.heap.size) :
    Calls Try.prog 58 #[.slice (some a) n cap] w fun e w' => ∃ g cp, e = .returned (.slice (some ⟨g, 0, none⟩) n cp) ∧ OwnE base w' (.slice (some ⟨g, 0, none⟩) n cp) ys ∧ w.heap.size ≤ g ∧ Below w.heap.size w w' := by
  have h0 : Below w.heap.size w (w.alloc (.cells #[] 66)) := (Below.refl _ _).alloc (Nat.le_refl _) _
  have HC : Hid (∀ j u, (ys.flatMap cE)[j]? = some u → (w.alloc (.cells #[] 66)).cell? (a.add j) = some u) := fun j u hu => by
    have h1 := hB j u hu
    exact (h0.cell (p := a.add j) (World.block_lt_of_cell? w _ h1)).trans h1
  have HO : Hid (OwnE base (w.alloc (.cells #[] 66)) (.slice (some ⟨w.heap.size, 0, none⟩) 0 0) []) := emptyE base w hb
  have hbe := buildE w
  have hq := nileqE
  clear hB
  have HN : Hid (ys.length = n) := hn
  clear hn
  go_enter Try.func58, Try.ntmps58
  go_wp2_with (first | (at_builtin; refine wp_appE _ rfl _ _ rfl base _ [] rfl HO.out a n cap ys rfl HC.out HN.out hx (by simp; omega) (by simp; omega) ?_))
  intro g cp w2 ho hg
  have hb2 : Below w.heap.size w w2 := h0.grown hg.grown (by simp) (by intro k hk; simp [Value.ownBlock] at hk; omega)
  have hgg : w.heap.size ≤ g := by
    rcases hg.own with e | e
    · simp [Value.ownBlock] at e; omega
    · have := e g rfl; simp at this; omega
  clear hg
  go_wp2
  go_ret
  exact ⟨g, cp, rfl, by simpa using ho, hgg, hb2⟩
/-- What cut leaves. -/
inductive CutE (base : Nat) (w : World) (k : Nat) (l : List E) (e : Ending) (w' : World) : Prop
  | mk (g1 c1 g2 c2 : Nat) (he : e = .returned (.tuple #[.slice (some ⟨g1, 0, none⟩) k c1, .slice (some ⟨g2, 0, none⟩) (l.length - k) c2])) (h1 : OwnE base w' (.slice (some ⟨g1, 0, none⟩) k c1) (l.take k)) (h2 : OwnE base w' (.slice (some ⟨g2, 0, none⟩) (l.length - k) c2) (l.drop k)) (hg1 : w.heap.size ≤ g1) (hg2 : w.heap.size ≤ g2) (hne : g1 ≠ g2) (hb : Below w.heap.size w w')
theorem row_takeE {base : Nat} {w : World} {g n cap : Nat} {l : List E} (h : OwnE base w (.slice (some ⟨g, 0, none⟩) n cap) l) (k : Nat) : ∀ j u, ((l.take k).flatMap cE)[j]? = some u → w.cell? ((⟨g, 0, none⟩ : Addr).add j) = some u := fun j u hu => by
  rw [← flat_take cE 3 l (cE_len l), List.getElem?_take] at hu
  split at hu
  · exact World.ownsRow.cells h (g := g) rfl j u hu
  · cases hu
theorem row_dropE {base : Nat} {w : World} {g n cap : Nat} {l : List E} (h : OwnE base w (.slice (some ⟨g, 0, none⟩) n cap) l) (k : Nat) : ∀ j u, ((l.drop k).flatMap cE)[j]? = some u → w.cell? ((⟨g, k * 3, none⟩ : Addr).add j) = some u := fun j u hu => by
  rw [← flat_drop cE 3 l (cE_len l), List.getElem?_drop] at hu
  have := World.ownsRow.cells h (g := g) rfl _ u hu
  rw [Addr.add_mid, Nat.zero_add] at this
  rwa [Addr.add_lit]
set_option maxHeartbeats 2000000 in
theorem cutfE {base : Nat} {w : World} {g n cap : Nat} {l : List E} (h : OwnE base w (.slice (some ⟨g, 0, none⟩) n cap) l) (k : Nat) (hk0 : 0 < k) (hk : k < n) (hn : n ≤ 1000) (hb : base ≤ w.heap.size) :
    Calls Try.prog 52 #[.slice (some ⟨g, 0, none⟩) n cap, .int .i64 k] w fun e w' => CutE base w k l e w' := by
  obtain rfl := h.len
  obtain ⟨_, _, hv, hc, _⟩ := h.form
  cases hv
  have hg : g < w.heap.size := (h.lo g rfl).2
  have HT : Hid (∀ W, Below w.heap.size w W → Calls Try.prog 58 #[.slice (some ⟨g, 0, none⟩) k cap] W fun e w' => ∃ g1 cp, e = .returned (.slice (some ⟨g1, 0, none⟩) k cp) ∧ OwnE base w' (.slice (some ⟨g1, 0, none⟩) k cp) (l.take k) ∧ W.heap.size ≤ g1 ∧ Below W.heap.size W w') := fun W hW =>
    cloneE base _ k cap (l.take k) W (fun j u hu => (hW.cell (p := (⟨g, 0, none⟩ : Addr).add j) (by rw [Addr.add_mid]; exact hg)).trans (row_takeE h k j u hu)) (by rw [List.length_take]; omega) hk0 (by omega) (Nat.le_trans hb hW.size)
  have HD : Hid (∀ W, Below w.heap.size w W → Calls Try.prog 58 #[.slice (some ⟨g, k * 3, none⟩) (l.length - k) (cap - k)] W fun e w' => ∃ g1 cp, e = .returned (.slice (some ⟨g1, 0, none⟩) (l.length - k) cp) ∧ OwnE base w' (.slice (some ⟨g1, 0, none⟩) (l.length - k) cp) (l.drop k) ∧ W.heap.size ≤ g1 ∧ Below W.heap.size W w') := fun W hW =>
    cloneE base _ _ _ (l.drop k) W (fun j u hu => (hW.cell (p := (⟨g, k * 3, none⟩ : Addr).add j) (by rw [Addr.add_lit]; exact hg)).trans (row_dropE h k j u hu)) (by rw [List.length_drop]) (by omega) (by omega) (Nat.le_trans hb hW.size)
  have hq1 : ¬ (cap = k) := by omega
  have hq2 : k ≤ cap := by omega
  have hq3 : k ≤ l.length := by omega
  clear h
  have HP : Hid (∀ g1 c1 g2 c2 W1 W2, Below w.heap.size w W1 → Below W1.heap.size W1 W2 → OwnE base W1 (.slice (some ⟨g1, 0, none⟩) k c1) (l.take k) → w.heap.size ≤ g1 → OwnE base W2 (.slice (some ⟨g2, 0, none⟩) (l.length - k) c2) (l.drop k) → W1.heap.size ≤ g2 → CutE base w k l (.returned (.tuple #[.slice (some ⟨g1, 0, none⟩) k c1, .slice (some ⟨g2, 0, none⟩) (l.length - k) c2])) W2) := fun g1 c1 g2 c2 W1 W2 b1 b2 o1 k1 o2 k2 => by
    have := b1.size
    have h1 := (o1.lo g1 rfl).2
    exact .mk g1 c1 g2 c2 rfl (o1.of_block (fun b hb => by cases hb; exact b2.block _ h1)) o2 k1 (by omega) (by omega) (b1.trans (b2.mono (by omega)))
  generalize hln : l.length = n at *
  clear hln
  go_enter Try.func52, Try.ntmps52
  go_wp2
  go_region_with (go_at_call 58; first
    | (refine (HT.out _ (Below.refl _ _).drew).mono ?_; rintro e W0 ⟨g0, c0, rfl, o0, k0, b0⟩; have b0' := Below.undrew b0)
    | (refine (HD.out _ b0').mono ?_; rintro e W1 ⟨g1, c1, rfl, o1, k1, b1⟩))
  have HF := HP.out g0 c0 g1 c1 W0 W1 b0' b1 o0 k0 o1 k1
  clear o0 k0 b0 b0' o1 k1 b1
  go_wp2
  refine bodyPost_ret (v := .tuple #[.slice (some ⟨g0, 0, none⟩) k c0, .slice (some ⟨g1, 0, none⟩) (n - k) c1]) (by simp [results, Try.results52, go_sem]) rfl ?_
  exact HF
/-- What an insertion leaves. -/
inductive InsE (base : Nat) (w : World) (v : Value) (l : List E) (n : Nat) (e : Ending) (w' : World) : Prop
  | mk (g c : Nat) (he : e = .returned (.slice (some ⟨g, 0, none⟩) n c)) (h1 : OwnE base w' (.slice (some ⟨g, 0, none⟩) n c) l) (h2 : GrowB w v w' (.slice (some ⟨g, 0, none⟩) n c))
set_option maxHeartbeats 2000000 in
/-- slices.Insert at the end. -/
theorem insEndE {base : Nat} {w : World} {ao : Option Addr} {n cap : Nat} {l : List E} (h : OwnE base w (.slice ao n cap) l) (x : E) {vb : Nat} {tv : TypeId} (hv : w.heap[vb]? = some (.cells (cE x).toArray tv (0, 0))) (hn : n ≤ 1000) (hb : base ≤ w.heap.size) :
    Calls Try.prog 39 #[.slice ao n cap, .int .i64 n, .slice (some ⟨vb, 0, none⟩) 1 1] w fun e w' => InsE base w (.slice ao n cap) (l ++ [x]) (n + 1) e w' := by
  obtain rfl := h.len
  obtain ⟨_, _, hv', hc, hm⟩ := h.form
  cases hv'
  have HO : Hid (OwnE base w (.slice ao l.length cap) l) := h
  have HV : Hid (∀ j u, ([x].flatMap cE)[j]? = some u → w.cell? ((⟨vb, 0, none⟩ : Addr).add j) = some u) := fun j u hu => World.news_of_block hv j u (by simpa using hu)
  have hnil : ao = none → l.length = 0 := fun e => by
    rcases h with ⟨_, ⟨h1, h2⟩ | ⟨g, c, cur, h1, _⟩⟩
    · exact h2
    · subst e; cases h1
  have hcap : ao = none → cap = 0 := fun e => by
    rcases h with ⟨_, ⟨h1, h2⟩ | ⟨g, c, cur, h1, _⟩⟩
    · simp at h1; exact h1.2.2
    · subst e; cases h1
  clear h hv
  generalize hln : l.length = n at *
  have HLN : Hid (l.length = n) := hln
  clear hln
  cases ao with
  | none =>
    obtain rfl := hnil rfl
    obtain rfl := hcap rfl
    clear hnil hcap
    go_enter Try.func39, Try.ntmps39
    go_wp2_with (first | (at_builtin; refine wp_appE _ rfl _ _ rfl base _ l rfl HO.out ⟨vb, 0, none⟩ 1 1 [x] rfl HV.out rfl (by omega) (by rw [HLN.out]; omega) hb ?_))
    intro g cp w2 ho hg
    rw [HLN.out] at ho hg ⊢
    go_wp2
    go_ret
    exact .mk g cp rfl ho hg
  | some a =>
    clear hnil hcap
    by_cases hcn : cap = n
    · subst hcn
      go_enter Try.func39, Try.ntmps39
      go_wp2_with (first | (at_builtin; refine wp_appE _ rfl _ _ rfl base _ l rfl HO.out ⟨vb, 0, none⟩ 1 1 [x] rfl HV.out rfl (by omega) (by rw [HLN.out]; omega) hb ?_))
      intro g cp w2 ho hg
      rw [HLN.out] at ho hg ⊢
      go_wp2
      go_ret
      exact .mk g cp rfl ho hg
    · go_enter Try.func39, Try.ntmps39
      go_wp2_with (first | (at_builtin; refine wp_appE _ rfl _ _ rfl base _ l rfl HO.out ⟨vb, 0, none⟩ 1 1 [x] rfl HV.out rfl (by omega) (by rw [HLN.out]; omega) hb ?_))
      intro g cp w2 ho hg
      rw [HLN.out] at ho hg ⊢
      go_wp2
      go_ret
      exact .mk g cp rfl ho hg
/-- The cells of a row with one more. -/
theorem midE (l : List E) (i : Nat) (x : E) : (l.take i ++ x :: l.drop i).flatMap cE = (l.take i).flatMap cE ++ (cE x ++ (l.drop i).flatMap cE) := by
  rw [List.flatMap_append, List.flatMap_cons]
theorem roomE {l : List E} {i cap : Nat} {cur : List Value} (x : E) (hi : i < l.length) (hc : l.length + 1 ≤ cap) (hs : cur.length = cap * 3) (hx : cur.take (l.length * 3) = l.flatMap cE) :
    (splice (splice cur ((i + 1) * 3) ((l.drop i).flatMap cE)) (i * 3) (cE x)).length = cap * 3 ∧ (splice (splice cur ((i + 1) * 3) ((l.drop i).flatMap cE)) (i * 3) (cE x)).take ((l.length + 1) * 3) = (l.take i ++ x :: l.drop i).flatMap cE := by
  have hd : ((l.drop i).flatMap cE).length = (l.length - i) * 3 := by rw [flat_len cE 3 _ (cE_len _), List.length_drop]
  have hxl : (cE x).length = 3 := rfl
  have h1 : (splice cur ((i + 1) * 3) ((l.drop i).flatMap cE)).length = cap * 3 := by
    rw [length_splice _ _ _ (by rw [hd, hs]; omega)]; exact hs
  refine ⟨by rw [length_splice _ _ _ (by rw [hxl, h1]; omega)]; exact h1, ?_⟩
  have e1 : cur.take (i * 3) = (l.take i).flatMap cE := by
    rw [← flat_take cE 3 l (cE_len l), ← hx, List.take_take, Nat.min_eq_left (by omega)]
  have e2 : (splice cur ((i + 1) * 3) ((l.drop i).flatMap cE)).take (i * 3) = (l.take i).flatMap cE := by
    rw [splice_take _ _ _ _ (by rw [hd, hs]; omega) (by omega), e1]
  have e3 : (splice cur ((i + 1) * 3) ((l.drop i).flatMap cE)).drop (i * 3 + 3) = (l.drop i).flatMap cE ++ cur.drop ((i + 1) * 3 + (l.length - i) * 3) := by
    unfold splice
    rw [List.drop_append, List.drop_eq_nil_of_le (by rw [List.length_take]; omega), List.nil_append, List.length_take, hs, show i * 3 + 3 - min ((i + 1) * 3) (cap * 3) = 0 by omega, List.drop_zero, hd]
  have e4 : splice (splice cur ((i + 1) * 3) ((l.drop i).flatMap cE)) (i * 3) (cE x) = (l.take i).flatMap cE ++ (cE x ++ ((l.drop i).flatMap cE ++ cur.drop ((i + 1) * 3 + (l.length - i) * 3))) := by
    rw [← e3, ← e2]; rfl
  rw [e4, midE, ← List.append_assoc, ← List.append_assoc, ← List.append_assoc, List.take_append_of_le_length, List.take_of_length_le]
  all_goals (simp only [List.length_append, hd, hxl, flat_len cE 3 _ (cE_len (l.take i)), List.length_take]; omega)
theorem growE {l : List E} {i m : Nat} (x : E) (zs : List Value) (hi : i < l.length) (hz : zs.length = (l.length + 1 - i) * 3 + m * 3) :
    (splice (splice ((l.take i).flatMap cE ++ zs) (i * 3) (cE x)) ((i + 1) * 3) ((l.drop i).flatMap cE)).length = (l.length + 1 + m) * 3 ∧ (splice (splice ((l.take i).flatMap cE ++ zs) (i * 3) (cE x)) ((i + 1) * 3) ((l.drop i).flatMap cE)).take ((l.length + 1) * 3) = (l.take i ++ x :: l.drop i).flatMap cE := by
  have hd : ((l.drop i).flatMap cE).length = (l.length - i) * 3 := by rw [flat_len cE 3 _ (cE_len _), List.length_drop]
  have ht : ((l.take i).flatMap cE).length = i * 3 := by rw [flat_len cE 3 _ (cE_len _), List.length_take]; omega
  have hxl : (cE x).length = 3 := rfl
  have e2 : splice (splice ((l.take i).flatMap cE ++ zs) (i * 3) (cE x)) ((i + 1) * 3) ((l.drop i).flatMap cE) = ((l.take i).flatMap cE ++ cE x) ++ ((l.drop i).flatMap cE ++ zs.drop (3 + (l.length - i) * 3)) := by
    have := splice_two ((l.take i).flatMap cE) (cE x) ((l.drop i).flatMap cE) zs
    rwa [ht, hxl, hd, show i * 3 + 3 = (i + 1) * 3 by omega] at this
  rw [e2]
  constructor
  · simp only [List.length_append, ht, hxl, hd, List.length_drop, hz]; omega
  · rw [midE, ← List.append_assoc, ← List.append_assoc, List.take_append_of_le_length, List.take_of_length_le]
    all_goals (simp only [List.length_append, hd, hxl, ht]; omega)
end Go.Proofs.Ytfobcnmhghfanaa

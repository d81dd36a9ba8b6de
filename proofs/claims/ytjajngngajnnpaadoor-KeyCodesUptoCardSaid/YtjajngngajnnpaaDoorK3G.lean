/- The walk of keycode.Decode at every text: the values that it is the code of; or it is no code. -/
import Derived.Test.YtjajngngajnnpaaDoorK3F
namespace Go.Proofs.YtjajngngajnnpaaDoor
open Go.RowKit
set_option linter.unusedVariables false

theorem catch_panicking (b1 b2 : Nat) (v1 v2 : Value) (older : List PanicEntry) (w : World) (h1 : w.heap[b1]? = some (.cells #[v1] 24 (0, 0))) (h2 : w.heap[b2]? = some (.cells #[v2] 26 (0, 0))) :
    CallsD Tryd.prog 18 #[.pointer (some ⟨b1, 0, none⟩), .pointer (some ⟨b2, 0, none⟩)] (.panicking ({ v := noCodeV, recovered := false } :: older)) w fun e u' w' =>
      e = .returned (.tuple #[]) ∧ u' = .panicking ({ v := noCodeV, recovered := true } :: older) ∧ w' = ((w.alloc (.cells #[] 44)).setCell ⟨b1, 0, none⟩ (.slice none 0 0)).setCell ⟨b2, 0, none⟩ (.int .i64 31) := by
  have hne : b1 ≠ b2 := by
    rintro rfl
    have := h1.symm.trans h2
    simp at this
  have k1 : (w.alloc (.cells #[] 44)).heap[b1]? = some (.cells #[v1] 24 (0, 0)) := (Below.heap_alloc _ _ _ (lt_of_block h1)).trans h1
  have k2 : ((w.alloc (.cells #[] 44)).setCell ⟨b1, 0, none⟩ (.slice none 0 0)).heap[b2]? = some (.cells #[v2] 26 (0, 0)) := by
    rw [Below.heap_setCell _ _ _ _ (Ne.symm hne)]
    exact (Below.heap_alloc _ _ _ (lt_of_block h2)).trans h2
  have c1 := cell_of_one k1
  have f1 := free_of_one k1
  have c2 := cell_of_one k2
  have f2 := free_of_one k2
  clear k1 k2 h1 h2
  have hta : ∀ w : World, (Instr.typeAssert noCodeV 20 44 true).run Tryd.prog w = .ok (.tuple #[.agg #[], .bool true]) w := fun _ => by kernel_rfl
  refine callsD_of_wpS Tryd.func18 rfl fun c₀ cs hu => ?_
  apply wpS_seq
  apply wpS_region
  simp [wpOpsS, go_sem, recoverD, hu, Tryd.ntmps18, Exit.thenS]
  refine wpS_of_wp ?_
  rw [show (#[Value.pointer (some ⟨b1, 0, none⟩), Value.pointer (some ⟨b2, 0, none⟩)] ++ ((Array.replicate 14 undef).setIfInBounds 3 noCodeV).setIfInBounds 0 noCodeV) = #[Value.pointer (some ⟨b1, 0, none⟩), Value.pointer (some ⟨b2, 0, none⟩), noCodeV, undef, undef, noCodeV, undef, undef, undef, undef, undef, undef, undef, undef, undef, undef] from rfl]
  go_wp2
  exact ⟨rfl, _, rfl, _, results_none rfl _ _ _, rfl, rfl, rfl⟩
theorem catch_idle (b1 b2 : Nat) (w : World) :
    CallsD Tryd.prog 18 #[.pointer (some ⟨b1, 0, none⟩), .pointer (some ⟨b2, 0, none⟩)] .returning w fun e u' w' => e = .returned (.tuple #[]) ∧ u' = .returning ∧ w' = w := by
  refine callsD_of_wpS Tryd.func18 rfl fun c₀ cs hu => ?_
  apply wpS_seq
  apply wpS_region
  simp [wpOpsS, go_sem, recoverD, hu, Tryd.ntmps18, Exit.thenS]
  refine wpS_of_wp ?_
  rw [show (#[Value.pointer (some ⟨b1, 0, none⟩), Value.pointer (some ⟨b2, 0, none⟩)] ++ ((Array.replicate 14 undef).setIfInBounds 3 Value.nilIface).setIfInBounds 0 Value.nilIface) = #[Value.pointer (some ⟨b1, 0, none⟩), Value.pointer (some ⟨b2, 0, none⟩), Value.nilIface, undef, undef, Value.nilIface, undef, undef, undef, undef, undef, undef, undef, undef, undef, undef] from rfl]
  go_wp2
  refine ⟨rfl, _, rfl, _, results_none rfl _ _ _, rfl, ?_, rfl⟩
  exact hu

theorem infoR : (Tryd.prog.info? 39).map (fun i => (i.zero, i.size, i.bytes)) = some (some (val 0 0 ⟨#[]⟩ false), 4, 40) := by kernel_rfl
theorem flat_len (l : List V4) : (l.flatMap cellsV).length = l.length * 4 := by
  induction l with
  | nil => rfl
  | cons x l ih => rw [List.flatMap_cons, List.length_append, ih, cellsV_len, List.length_cons]; omega
theorem one_cells (l : List V4) : ∀ u ∈ l.flatMap cellsV, u.oneCell' = true := by
  intro u hu
  obtain ⟨x, _, hx⟩ := List.mem_flatMap.1 hu
  simp only [cellsV, List.mem_cons, List.not_mem_nil, or_false] at hx
  rcases hx with rfl | rfl | rfl | rfl <;> rfl
theorem flat_cells {w : World} {g : Nat} {l : List V4} (h : ∀ k (h : k < l.length), w.rangeAt g (k * 4) (cellsV l[k])) : ∀ j u, (l.flatMap cellsV)[j]? = some u → w.cell? ((⟨g, 0, none⟩ : Addr).add j) = some u := by
  intro j u hu
  have hj := (List.getElem?_eq_some_iff.1 hu).1
  rw [flat_len] at hj
  have hk : j / 4 < l.length := by omega
  have e : j = j / 4 * 4 + j % 4 := by omega
  rw [e, flat_at l (j / 4) hk (j % 4) (by omega)] at hu
  have := h (j / 4) hk (j % 4) u hu
  rw [Addr.add_mid, Nat.zero_add, e]
  exact this
theorem OwnR.alloc {base : Nat} {w : World} {v : Value} {l : List V4} (h : OwnR base w v l) (o : Obj) : OwnR base (w.alloc o) v l := World.ownsRow.alloc h o
theorem OwnR.drew {base : Nat} {w : World} {v : Value} {l : List V4} (h : OwnR base w v l) : OwnR base w.drew v l := h
theorem OwnR.ge {base : Nat} {w : World} {v : Value} {l : List V4} (h : OwnR base w v l) : ∀ k, v.ownBlock = some k → base ≤ k := fun k hk => (World.ownsRow.lt h k hk).1
/-- append, to a row that the call made, of values that lie somewhere. -/
theorem wp_appR (w : World) {ops : Array Oper} {rest : List Oper} {o : Oper} {a : Act} {Q : Exit → Act → World → Prop} (hgd : o.guard = none) (s x : Operand)
    (ho : o.op = .call { callee := .builtin .append, args := #[s, x], argTypes := #[24, 24] })
    (base : Nat) (v : Value) (l : List V4) (hs : a.eval s = v) (hown : OwnR base w v l)
    (g m c : Nat) (l2 : List V4) (hx : a.eval x = .slice (some ⟨g, 0, none⟩) m c) (hB : ∀ k (h : k < l2.length), w.rangeAt g (k * 4) (cellsV l2[k])) (hm : l2.length = m) (hm0 : 0 < m)
    (hl : l.length + m ≤ 3000000000000) (hbase : base ≤ w.heap.size)
    (h : ∀ v' w', OwnR base w' v' (l ++ l2) → GrowB w v w' v' → wpList Tryd.prog ops Q rest (a.put o.dst v') w') : wpList Tryd.prog ops Q (o :: rest) a w := by
  obtain ⟨i0, hi, hz0, hz1, hz2⟩ := info_parts infoR
  refine wpList_append_lies w hgd s x 24 ho base 39 i0 (val 0 0 ⟨#[]⟩ false) 4 40 Tryd.underlying24 hi hz0 hz1 hz2 rfl (by decide) v l.length (l.flatMap cellsV) hs hown ⟨g, 0, none⟩ m c (l2.flatMap cellsV) hx (by rw [flat_len, hm]) (flat_cells hB) (one_cells l2) hm0 (by unfold maxLen; omega) (by omega) hbase w.heap.size rfl ?_
  intro g cap w' h1 h2 h3 _
  refine h _ w' ?_ ⟨h2, ?_⟩
  · unfold OwnR
    rw [List.length_append, List.flatMap_append, hm]
    exact h1
  · rcases h3 with h3 | h3
    · exact Or.inl h3.symm
    · exact Or.inr fun k hk => by simp [Value.ownBlock] at hk; omega
theorem step_appR (w : World) {ops : Array Oper} {o : Oper} {a : Act} {K : Act → World → Prop} {Q : Exit → Act → World → Prop} {E : Prop} (hgd : o.guard = none) (s x : Operand)
    (ho : o.op = .call { callee := .builtin .append, args := #[s, x], argTypes := #[24, 24] })
    (base : Nat) (v : Value) (l : List V4) (hs : a.eval s = v) (hown : OwnR base w v l)
    (g m c : Nat) (l2 : List V4) (hx : a.eval x = .slice (some ⟨g, 0, none⟩) m c) (hB : ∀ k (h : k < l2.length), w.rangeAt g (k * 4) (cellsV l2[k])) (hm : l2.length = m) (hm0 : 0 < m)
    (hl : l.length + m ≤ 3000000000000) (hbase : base ≤ w.heap.size)
    (h : ∀ v' w', OwnR base w' v' (l ++ l2) → GrowB w v w' v' → K (a.put o.dst v') w') :
    if Region.wanted o (yielded ops a.tmps) = true then Oper.wp Tryd.prog o a w K Q else E := by
  obtain ⟨i0, hi, hz0, hz1, hz2⟩ := info_parts infoR
  refine step_append_lies w hgd s x 24 ho base 39 i0 (val 0 0 ⟨#[]⟩ false) 4 40 Tryd.underlying24 hi hz0 hz1 hz2 rfl (by decide) v l.length (l.flatMap cellsV) hs hown ⟨g, 0, none⟩ m c (l2.flatMap cellsV) hx (by rw [flat_len, hm]) (flat_cells hB) (one_cells l2) hm0 (by unfold maxLen; omega) (by omega) hbase w.heap.size rfl ?_
  intro g cap w' h1 h2 h3 _
  refine h _ w' ?_ ⟨h2, ?_⟩
  · unfold OwnR
    rw [List.length_append, List.flatMap_append, hm]
    exact h1
  · rcases h3 with h3 | h3
    · exact Or.inl h3.symm
    · exact Or.inr fun k hk => by simp [Value.ownBlock] at hk; omega

theorem takeValue_ok (p q : Nat) (s : ByteArray) (i : Nat) (w : World) (x : V4) (y : List UInt8) (h : Cur w p q s i) (hs : s.size ≤ 1099511627776) (hx : NF x) (hr : rest s i = code1 x ++ y) :
    Calls Tryd.prog 20 #[nextF p q] w fun e w' => e = .returned (valV x) ∧ w.grownBy w' (some p) ∧ Cur w' p q s (i + (code1 x).length) := by
  refine (takeValue_any p q s i w h hs).mono fun e w' hh => ?_
  rcases hh with ⟨x', j, he, hg, hc, hij, hx', hr'⟩ | ⟨_, _, hn⟩
  · obtain ⟨rfl, hy⟩ := parse_one hx' hx (hr'.symm.trans hr)
    refine ⟨he, hg, ?_⟩
    have h1 := congrArg List.length hr'
    rw [List.length_append, rest_len, rest_len] at h1
    have h2 := hc.le
    have e2 : j = i + (code1 x').length := by omega
    rw [← e2]; exact hc
  · exact absurd hr (hn x y hx)
theorem takeValue_bad (p q : Nat) (s : ByteArray) (i : Nat) (w : World) (h : Cur w p q s i) (hs : s.size ≤ 1099511627776) (hn : NoVal (rest s i)) :
    Calls Tryd.prog 20 #[nextF p q] w fun e w' => e = .panicked noCodeP ∧ w.grownBy w' (some p) := by
  refine (takeValue_any p q s i w h hs).mono fun e w' hh => ?_
  rcases hh with ⟨x', j, he, hg, hc, hij, hx', hr'⟩ | ⟨he, hg, _⟩
  · exact absurd hr' (hn x' _ hx')
  · exact ⟨he, hg⟩
end Go.Proofs.YtjajngngajnnpaaDoor

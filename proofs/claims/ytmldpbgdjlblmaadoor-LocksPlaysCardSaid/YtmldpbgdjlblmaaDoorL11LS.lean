/- slices.Clone of requests; List. -/
import Derived.Test.YtmldpbgdjlblmaaDoorL11ER
import Derived.Test.YtmldpbgdjlblmaaDoorL11H
namespace Go.Proofs.YtmldpbgdjlblmaaDoor
open Go.RowKit Go.Joins Go.Maps Go.Shelf
set_option linter.unusedVariables false
set_option linter.unusedSimpArgs false

theorem nileqQ (w : World) (ao : Option Addr) (n c : Nat) : (binOp .eql 29 (.slice ao n c) (.slice none 0 0)).run Tryd.prog w = .ok (.bool ao.isNone) w := Lib.run_eql_slice_nil w 29 53 ao n c 0 0 Tryd.underlying29
theorem emptyQ (base : Nat) (w : World) (hb : base ≤ w.heap.size) : OwnQ base (w.alloc (.cells #[] 53)) (.slice (some ⟨w.heap.size, 0, none⟩) 0 0) [] :=
  ⟨by simp, Or.inr ⟨w.heap.size, 0, #[], rfl, hb, World.alloc_heap_new w _, Nat.le_refl _, by unfold maxLen; omega, rfl, rfl⟩⟩
theorem buildQ (w : World) : (Instr.buildSlice 29 0 #[]).run Tryd.prog w = .ok (.slice (some ⟨w.heap.size, 0, none⟩) 0 0) (w.alloc (.cells #[] 53)) := by kernel_rfl
theorem cellsQ_one (l : List Rq) : ∀ u ∈ l.flatMap Rq.cells, u.oneCell' = true := by
  intro u hu
  rw [List.mem_flatMap] at hu
  obtain ⟨r, _, hu⟩ := hu
  simp [Rq.cells] at hu
  rcases hu with rfl | rfl | rfl | rfl | rfl | rfl | rfl | rfl | rfl <;> rfl
/-- append, to a row of requests, of some that lie somewhere. -/
theorem wp_appQs (w : World) {ops : Array Oper} {rest : List Oper} {o : Oper} {a : Act} {Q : Exit → Act → World → Prop} (hgd : o.guard = none) (s x : Operand)
    (ho : o.op = .call { callee := .builtin .append, args := #[s, x], argTypes := #[29, 29] })
    (base : Nat) (v : Value) (l : List Rq) (hs : a.eval s = v) (hown : OwnQ base w v l)
    (ad : Addr) (m c : Nat) (ys : List Rq) (hx : a.eval x = .slice (some ad) m c) (hB : ∀ j u, (ys.flatMap Rq.cells)[j]? = some u → w.cell? (ad.add j) = some u) (hm : ys.length = m) (hm0 : 0 < m)
    (hl : l.length + m ≤ 100000) (hbase : base ≤ w.heap.size)
    (h : ∀ g cap w', OwnQ base w' (.slice (some ⟨g, 0, none⟩) (l.length + m) cap) (l ++ ys) → GrowB w v w' (.slice (some ⟨g, 0, none⟩) (l.length + m) cap) → wpList Tryd.prog ops Q rest (a.put o.dst (.slice (some ⟨g, 0, none⟩) (l.length + m) cap)) w') : wpList Tryd.prog ops Q (o :: rest) a w := by
  obtain ⟨i0, hi, hz0, hz1, hz2⟩ := info_parts infoQ
  refine wpList_append_lies w hgd s x 29 ho base 53 i0 _ 9 88 Tryd.underlying29 hi hz0 hz1 hz2 rfl (by decide) v l.length (l.flatMap Rq.cells) hs hown ad m c (ys.flatMap Rq.cells) hx (by rw [flat_len Rq.cells 9 _ (rqc_len _), hm]) hB (cellsQ_one ys) hm0 (by unfold maxLen; omega) (by omega) hbase w.heap.size rfl ?_
  intro g cap w' h1 h2 h3 _
  refine h _ _ w' ?_ ⟨h2, ?_⟩
  · show w'.ownsRow base 53 9 _ (l ++ ys).length ((l ++ ys).flatMap Rq.cells)
    rw [List.length_append, List.flatMap_append, hm]
    exact h1
  · rcases h3 with h3 | h3
    · exact Or.inl h3.symm
    · exact Or.inr fun k hk => by simp [Value.ownBlock] at hk; omega
/-- What a clone is. -/
def CloneTo (w : World) (L : List Rq) (e : Ending) (w' : World) : Prop := ∃ v, e = .returned v ∧ OwnQ w.heap.size w' v L ∧ Below w.heap.size w w'
set_option maxHeartbeats 2000000 in
theorem cloneQ_some (a : Addr) (n cap : Nat) (ys : List Rq) (w : World) (hB : ∀ j u, (ys.flatMap Rq.cells)[j]? = some u → w.cell? (a.add j) = some u) (hn : ys.length = n) (hx : 0 < n) (hl : n ≤ 90000) :
    Calls Tryd.prog 43 #[.slice (some a) n cap] w fun e w' => CloneTo w ys e w' := by
  have h0 : Below w.heap.size w (w.alloc (.cells #[] 53)) := (Below.refl _ _).alloc (Nat.le_refl _) _
  have HC : Hid (∀ j u, (ys.flatMap Rq.cells)[j]? = some u → (w.alloc (.cells #[] 53)).cell? (a.add j) = some u) := fun j u hu => by
    have h1 := hB j u hu
    exact (h0.cell (p := a.add j) (World.block_lt_of_cell? w _ h1)).trans h1
  have HO : Hid (OwnQ w.heap.size (w.alloc (.cells #[] 53)) (.slice (some ⟨w.heap.size, 0, none⟩) 0 0) []) := emptyQ w.heap.size w (Nat.le_refl _)
  have hbe := buildQ w
  have hq := nileqQ
  clear hB
  have HN : Hid (ys.length = n) := hn
  clear hn
  go_enter Tryd.func43, Tryd.ntmps43
  go_wp2_with (first | (at_builtin; refine wp_appQs _ rfl _ _ rfl w.heap.size _ [] rfl HO.out a n cap ys rfl HC.out HN.out hx (by simp; omega) (by simp) ?_))
  intro g cp w2 ho hg
  have hb2 : Below w.heap.size w w2 := h0.grown hg.grown (by simp) (by intro k hk; simp [Value.ownBlock] at hk; omega)
  clear hg
  go_wp2
  go_ret
  exact ⟨_, rfl, by simpa using ho, hb2⟩
theorem cloneQ_nil (w : World) : Calls Tryd.prog 43 #[.slice none 0 0] w fun e w' => CloneTo w [] e w' := by
  have h0 : Below w.heap.size w (w.alloc (.cells #[] 53)) := (Below.refl _ _).alloc (Nat.le_refl _) _
  have hbe := buildQ w
  have hq := nileqQ
  have HO : Hid (OwnQ w.heap.size w (.slice none 0 0) []) := Row.nil_ _ _ _ _ _
  go_enter Tryd.func43, Tryd.ntmps43
  go_wp2_with fail
  go_ret
  exact ⟨_, rfl, HO.out, Below.refl _ _⟩
theorem cloneQ_none (a : Addr) (cap : Nat) (w : World) : Calls Tryd.prog 43 #[.slice (some a) 0 cap] w fun e w' => CloneTo w [] e w' := by
  have h0 : Below w.heap.size w (w.alloc (.cells #[] 53)) := (Below.refl _ _).alloc (Nat.le_refl _) _
  have hbe := buildQ w
  have hq := nileqQ
  have HO : Hid (OwnQ w.heap.size (w.alloc (.cells #[] 53)) (.slice (some ⟨w.heap.size, 0, none⟩) 0 0) []) := emptyQ w.heap.size w (Nat.le_refl _)
  go_enter Tryd.func43, Tryd.ntmps43
  go_wp2_with fail
  go_ret
  exact ⟨_, rfl, HO.out, h0⟩
theorem cloneQ {base : Nat} {w : World} {v : Value} {L : List Rq} (h : OwnQ base w v L) (hl : L.length ≤ 90000) : Calls Tryd.prog 43 #[v] w fun e w' => CloneTo w L e w' := by
  by_cases h0 : L.length = 0
  · have e0 := List.eq_nil_of_length_eq_zero h0
    subst e0
    rcases id h with ⟨_, ⟨rfl, _⟩ | ⟨g, cap, cur, rfl, _⟩⟩
    · exact cloneQ_nil w
    · exact cloneQ_none ⟨g, 0, none⟩ cap w
  · rcases id h with ⟨_, ⟨_, hn⟩ | ⟨g, cap, cur, rfl, _⟩⟩
    · exact absurd hn h0
    · exact cloneQ_some ⟨g, 0, none⟩ L.length cap L w (fun j u hu => World.ownsRow.cells h (g := g) rfl j u hu) rfl (by omega) hl
theorem plist_any {base : Nat} {w : World} {t : Nat} {most : Int} {lv : Value} {L : List Rq} (h : TOwn base w t most lv L) (hl : L.length ≤ 90000) : Calls Tryd.prog 19 #[.pointer (some ⟨t, 0, none⟩)] w fun e w' => CloneTo w L e w' := by
  obtain ⟨ao, cap, rfl, hQ⟩ := h.tab
  have c1 := hQ.l
  have hc := cloneQ h.row hl
  clear hQ h
  go_enter Tryd.func19, Tryd.ntmps19
  go_wp2_with fail
  refine hc.mono ?_
  rintro e w1 ⟨v, rfl, hq⟩
  obtain ⟨ao2, cap2, rfl, _, _⟩ := hq.1.form
  clear hc c1
  go_wp2_with fail
  go_ret
  exact ⟨_, rfl, hq⟩
theorem CloneTo.list {w w' : World} {L : List Rq} {v : Value} (h : OwnQ w.heap.size w' v L) : ∃ ao cap, v = .slice ao L.length cap ∧ QList w' ao cap L := by
  rcases id h with ⟨_, ⟨hv, hn⟩ | ⟨g, cap, cur, hv, hg, hh, hc, _⟩⟩
  · exact ⟨none, 0, by rw [hv, hn], by omega, Or.inl (List.eq_nil_of_length_eq_zero hn)⟩
  · refine ⟨some ⟨g, 0, none⟩, cap, hv, hc, Or.inr ⟨g, rfl, fun k hk => ?_⟩⟩
    rw [hv] at h
    exact OwnQ.rq h hk
end Go.Proofs.YtmldpbgdjlblmaaDoor

/- The document's disk: Sync. -/
import Derived.Test.YtpmbpadckbkglaaD5T
namespace Go.Proofs.Ytpmbpadckbkglaa
open Go.RowKit Go.Maps
set_option linter.unusedVariables false
set_option linter.unusedSimpArgs false

theorem infoE : (Try.prog.info? 83).map (fun i => (i.zero, i.size, i.bytes)) = some (some (.agg #[.int .i64 0, .slice none 0 0, .bool false]), 3, 40) := by kernel_rfl
theorem one_cellsE (e : EV) (h : e.v.oneCell' = true) : ∀ u ∈ cellsE e, u.oneCell' = true := by
  intro u hu
  simp only [cellsE, List.mem_cons, List.not_mem_nil, or_false] at hu
  rcases hu with rfl | rfl | rfl
  · rfl
  · exact h
  · rfl
/-- append of one entry that was laid now. -/
theorem wp_appE (w : World) {ops : Array Oper} {rest : List Oper} {o : Oper} {a : Act} {Q : Exit → Act → World → Prop} (hgd : o.guard = none) (s x : Operand)
    (ho : o.op = .call { callee := .builtin .append, args := #[s, x], argTypes := #[36, 36] })
    (base : Nat) (v : Value) (l : List EV) (hs : a.eval s = v) (hown : OwnE base w v l) (e : EV) (he : e.v.oneCell' = true) (B : Nat) (hx : a.eval x = .slice (some ⟨B, 0, none⟩) 1 1) (hB : w.heap[B]? = some (.cells (cellsE e).toArray 83 (0, 0)))
    (hl : l.length ≤ 1000000) (hbase : base ≤ w.heap.size)
    (h : ∀ gk cap w', OwnE base w' (.slice (some ⟨gk, 0, none⟩) (l.length + 1) cap) (l ++ [e]) → w.grownBy w' v.ownBlock → (v.ownBlock = some gk ∨ gk = w.heap.size) → wpList Try.prog ops Q rest (a.put o.dst (.slice (some ⟨gk, 0, none⟩) (l.length + 1) cap)) w') : wpList Try.prog ops Q (o :: rest) a w := by
  obtain ⟨i0, hi, hz0, hz1, hz2⟩ := info_parts infoE
  refine wpList_append_lies w hgd s x 36 ho base 83 i0 _ 3 40 Try.underlying36 hi hz0 hz1 hz2 rfl (by decide) v l.length (l.flatMap cellsE) hs hown ⟨B, 0, none⟩ 1 1 (cellsE e) hx rfl (new_cells hB) (one_cellsE e he) (by decide) (by unfold maxLen; omega) (by omega) hbase w.heap.size rfl ?_
  intro gk cap w' h1 h2 h3 _
  refine h gk cap w' ?_ h2 h3
  unfold OwnE
  rw [List.length_append, List.flatMap_append]
  simpa using h1
theorem step_appE (w : World) {ops : Array Oper} {o : Oper} {a : Act} {K : Act → World → Prop} {Q : Exit → Act → World → Prop} {E : Prop} (hgd : o.guard = none) (s x : Operand)
    (ho : o.op = .call { callee := .builtin .append, args := #[s, x], argTypes := #[36, 36] })
    (base : Nat) (v : Value) (l : List EV) (hs : a.eval s = v) (hown : OwnE base w v l) (e : EV) (he : e.v.oneCell' = true) (B : Nat) (hx : a.eval x = .slice (some ⟨B, 0, none⟩) 1 1) (hB : w.heap[B]? = some (.cells (cellsE e).toArray 83 (0, 0)))
    (hl : l.length ≤ 1000000) (hbase : base ≤ w.heap.size)
    (h : ∀ gk cap w', OwnE base w' (.slice (some ⟨gk, 0, none⟩) (l.length + 1) cap) (l ++ [e]) → w.grownBy w' v.ownBlock → (v.ownBlock = some gk ∨ gk = w.heap.size) → K (a.put o.dst (.slice (some ⟨gk, 0, none⟩) (l.length + 1) cap)) w') :
    if Region.wanted o (yielded ops a.tmps) = true then Oper.wp Try.prog o a w K Q else E := by
  obtain ⟨i0, hi, hz0, hz1, hz2⟩ := info_parts infoE
  refine step_append_lies w hgd s x 36 ho base 83 i0 _ 3 40 Try.underlying36 hi hz0 hz1 hz2 rfl (by decide) v l.length (l.flatMap cellsE) hs hown ⟨B, 0, none⟩ 1 1 (cellsE e) hx rfl (new_cells hB) (one_cellsE e he) (by decide) (by unfold maxLen; omega) (by omega) hbase w.heap.size rfl ?_
  intro gk cap w' h1 h2 h3 _
  refine h gk cap w' ?_ h2 h3
  unfold OwnE
  rw [List.length_append, List.flatMap_append]
  simpa using h1
theorem own_typed {base : Nat} {w : World} {v : Value} {l : List EV} (h : OwnE base w v l) {b : Nat} (hb : v.ownBlock = some b) : ∃ cur, w.heap[b]? = some (.cells cur 83 (0, 0)) := own_block h hb
/-- Behind an append to L and the store: the document's disk as it lies then. -/
theorem ref_put {base : Nat} {w wA w4 : World} {G : Nat → Prop} {g : Nat} {vF vL : Value} {N : Int} {F L : List EV} (h : RefIn base w G g vF vL N F L) (hA : Below w.heap.size w wA) (hg4 : wA.grownBy w4 vL.ownBlock) {e : EV} {gk cap : Nat}
    (hown : OwnE base w4 (.slice (some ⟨gk, 0, none⟩) (L.length + 1) cap) (L ++ [e])) (hk : vL.ownBlock = some gk ∨ gk = wA.heap.size) (he : (e.v = .slice none 0 0 ∧ e.s = [] ∧ e.sync = true) ∨ ∃ k, e.v = sl k ∧ RowB wA k e.s ∧ w.heap.size ≤ k ∧ e.s.length = 128 ∧ e.sync = false) (hl : F.length + L.length < 100000) :
    RefIn base (w4.setCell ⟨g, 2, none⟩ (.slice (some ⟨gk, 0, none⟩) (L.length + 1) cap)) (fun k => G k ∨ w.heap.size ≤ k ∧ k < w4.heap.size) g vF (.slice (some ⟨gk, 0, none⟩) (L.length + 1) cap) N F (L ++ [e]) ∧ Fr w (w4.setCell ⟨g, 2, none⟩ (.slice (some ⟨gk, 0, none⟩) (L.length + 1) cap)) G := by
  have sA := hA.size
  have s4 := hg4.size
  have hgl := (h.lo g h.gg).2
  have kw : ∀ k, k < w.heap.size → some k ≠ vL.ownBlock → w4.heap[k]? = w.heap[k]? := fun k hk hne => (hg4.block k (by omega) hne).trans (hA.block k hk)
  have k5 : ∀ k, k ≠ g → (w4.setCell ⟨g, 2, none⟩ (.slice (some ⟨gk, 0, none⟩) (L.length + 1) cap)).heap[k]? = w4.heap[k]? := fun k hne => Below.heap_setCell _ _ _ _ (fun e => hne e)
  have e5 : (w4.setCell ⟨g, 2, none⟩ (.slice (some ⟨gk, 0, none⟩) (L.length + 1) cap)).heap.size = w4.heap.size := by simp [World.setCell]
  have ngL : vL.ownBlock ≠ some g := fun e' => by
    obtain ⟨cur, hh⟩ := own_typed h.rL e'
    rw [h.hg] at hh; simp at hh
  have ngF : vF.ownBlock ≠ some g := fun e' => by
    obtain ⟨cur, hh⟩ := own_typed h.rF e'
    rw [h.hg] at hh; simp at hh
  have hg' := (kw g hgl (Ne.symm ngL)).trans h.hg
  have hset := setCell_eq_setRow w4 g 2 _ _ _ (.slice (some ⟨gk, 0, none⟩) (L.length + 1) cap) hg'
  have hgk : gk ≠ g := by
    rcases hk with hk | hk
    · intro e'; exact ngL (by rw [hk, e'])
    · omega
  have rowk : ∀ b s', RowB w b s' → RowB (w4.setCell ⟨g, 2, none⟩ (.slice (some ⟨gk, 0, none⟩) (L.length + 1) cap)) b s' := fun b s' hb => by
    refine (k5 b fun e' => ?_).trans ((kw b hb.lt fun e' => ?_).trans hb)
    · have := h.hg
      rw [← e', hb] at this
      simp at this
    · obtain ⟨cur, hh⟩ := own_typed h.rL e'.symm
      rw [hb] at hh
      simp at hh
  have old : ∀ x, EOk w G x → EOk (w4.setCell ⟨g, 2, none⟩ (.slice (some ⟨gk, 0, none⟩) (L.length + 1) cap)) (fun k => G k ∨ w.heap.size ≤ k ∧ k < w4.heap.size) x := fun x hx => by
    rcases hx with hx | ⟨k, h1, h2, h3, h4⟩
    · exact Or.inl hx
    · exact Or.inr ⟨k, h1, rowk k _ h2, Or.inl h3, h4⟩
  have gkl : gk < w4.heap.size := by
    obtain ⟨cur, hh⟩ := own_typed hown (b := gk) rfl
    exact (Array.getElem?_eq_some_iff.1 hh).1
  refine ⟨⟨by rw [hset, setRow_heap w4 g _ _ _ _ hg']; rfl, ?_, ?_, fun x hx => old x (h.oF x hx), fun x hx => ?_, Or.inl h.gg, fun k hk' => Or.inl (h.gF k hk'), fun k hk' => ?_, fun k hk' hk2 => ?_, fun k hk' => ?_, by simp; omega⟩, ?_⟩
  · exact own_of_block h.rF (fun b hb => (k5 b (fun e' => ngF (by rw [hb, e']))).trans (kw b (h.lo b (h.gF b hb)).2 (fun e' => h.ne b hb e'.symm)))
  · have := own_of_block (w' := w4.setCell ⟨g, 2, none⟩ (.slice (some ⟨gk, 0, none⟩) (L.length + 1) cap)) hown (fun b hb => k5 b (by
      have : gk = b := by simpa [Value.ownBlock] using hb
      rw [← this]; exact hgk))
    exact this
  · rcases List.mem_append.1 hx with hx | hx
    · exact old x (h.oL x hx)
    · rw [List.mem_singleton.1 hx]
      rcases he with he | ⟨k, h1, h2, h3, h4⟩
      · exact Or.inl he
      · have hkl := h2.lt
        refine Or.inr ⟨k, h1, (k5 k (by omega)).trans ((hg4.block k hkl (fun e' => ?_)).trans h2), Or.inr ⟨h3, by omega⟩, h4⟩
        have := (h.lo k (h.gL k e'.symm)).2; omega
  · have : gk = k := by simpa [Value.ownBlock] using hk'
    subst this
    rcases hk with hk | hk
    · exact Or.inl (h.gL _ hk)
    · exact Or.inr ⟨by omega, gkl⟩
  · have : gk = k := by simpa [Value.ownBlock] using hk2
    subst this
    rcases hk with hk | hk
    · exact h.ne _ hk' hk
    · have := (h.lo _ (h.gF _ hk')).2; omega
  · rw [e5]
    rcases hk' with hk' | hk'
    · exact ⟨(h.lo k hk').1, by have := (h.lo k hk').2; omega⟩
    · exact ⟨by have := (h.lo g h.gg).1; omega, hk'.2⟩
  · refine ⟨hg4.os.trans hA.os, hg4.tape.trans hA.tape, hg4.output.trans hA.output, by rw [e5]; omega, fun k hk' hG => ?_⟩
    exact (k5 k (fun e' => hG (by rw [e']; exact h.gg))).trans (kw k hk' (fun e' => hG (h.gL k e'.symm)))
/-- The document's disk, turned. -/
def RefTurned (base : Nat) (w : World) (G : Nat → Prop) (q : Value) (N : Int) (F L : List EV) (w' : World) : Prop := ∃ G', RefAt base w' G' q N F L ∧ Fr w w' G ∧ ∀ k, G' k → G k ∨ w.heap.size ≤ k
abbrev syncE : EV := ⟨0, .slice none 0 0, true, []⟩
end Go.Proofs.Ytpmbpadckbkglaa

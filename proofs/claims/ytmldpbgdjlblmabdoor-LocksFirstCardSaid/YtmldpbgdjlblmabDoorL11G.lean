/- The document's table of locks: drop, End, EndShort. -/
import Derived.Test.YtmldpbgdjlblmabDoorL11F
namespace Go.Proofs.YtmldpbgdjlblmabDoor
open Go.RowKit Go.Joins
set_option linter.unusedVariables false
set_option linter.unusedSimpArgs false

theorem infoQ : (Tryd.prog.info? 35).map (fun i => (i.zero, i.size, i.bytes)) = some (some (.agg #[.int .i64 0, .int .i64 0, .string ByteArray.empty, .string ByteArray.empty, .string ByteArray.empty, .bool false, .int .i64 0, .bool false, .bool false]), 9, 88) := by kernel_rfl
/-- append, to a row of requests, of one more. -/
theorem wp_appQ (w : World) {ops : Array Oper} {rest : List Oper} {o : Oper} {a : Act} {Q : Exit → Act → World → Prop} (hgd : o.guard = none) (s x : Operand)
    (ho : o.op = .call { callee := .builtin .append, args := #[s, x], argTypes := #[30, 30] })
    (base : Nat) (v : Value) (l : List Rq) (hs : a.eval s = v) (hown : OwnQ base w v l) (Bk : Nat) (r : Rq) (hx : a.eval x = .slice (some ⟨Bk, 0, none⟩) 1 1) (hB : w.heap[Bk]? = some (.cells (Rq.cells r).toArray 35 (0, 0))) (hl : l.length ≤ 1000000) (hbase : base ≤ w.heap.size)
    (h : ∀ g cap w', OwnQ base w' (.slice (some ⟨g, 0, none⟩) (l.length + 1) cap) (l ++ [r]) → w.grownBy w' v.ownBlock → (v.ownBlock = some g ∨ w.heap.size ≤ g) → wpList Tryd.prog ops Q rest (a.put o.dst (.slice (some ⟨g, 0, none⟩) (l.length + 1) cap)) w') : wpList Tryd.prog ops Q (o :: rest) a w := by
  obtain ⟨i0, hi, hz0, hz1, hz2⟩ := info_parts infoQ
  refine wpList_append_lies w hgd s x 30 ho base 35 i0 _ 9 88 Tryd.underlying30 hi hz0 hz1 hz2 rfl (by decide) v l.length (l.flatMap Rq.cells) hs hown ⟨Bk, 0, none⟩ 1 1 (Rq.cells r) hx rfl (World.news_of_block hB) (by intro u hu; simp [Rq.cells] at hu; rcases hu with rfl | rfl | rfl | rfl | rfl | rfl | rfl | rfl | rfl <;> rfl) (by decide) (by unfold maxLen; omega) (by omega) hbase w.heap.size rfl ?_
  intro g cap w' h1 h2 h3 _
  refine h g cap w' ?_ h2 (h3.imp (fun e => e) (fun e => by omega))
  show World.ownsRow _ _ _ _ _ _ _
  rw [List.length_append, List.length_singleton, List.flatMap_append]
  simpa using h1
theorem sizeQ : (Tryd.prog.info? 35).map (·.size) = some 9 := by kernel_rfl
theorem RqAt.range {w : World} {g k : Nat} {r : Rq} (h : RqAt w g k r) : w.rangeAt g (k * 9) (Rq.cells r) := by
  obtain ⟨q0, q1, q2, q3, q4, q5, q6, q7, q8⟩ := h
  intro j u hu
  match j with
  | 0 => simp [Rq.cells] at hu; subst hu; exact q0
  | 1 => simp [Rq.cells] at hu; subst hu; exact q1
  | 2 => simp [Rq.cells] at hu; subst hu; exact q2
  | 3 => simp [Rq.cells] at hu; subst hu; exact q3
  | 4 => simp [Rq.cells] at hu; subst hu; exact q4
  | 5 => simp [Rq.cells] at hu; subst hu; exact q5
  | 6 => simp [Rq.cells] at hu; subst hu; exact q6
  | 7 => simp [Rq.cells] at hu; subst hu; exact q7
  | 8 => simp [Rq.cells] at hu; subst hu; exact q8
  | j + 9 => simp [Rq.cells] at hu
theorem filter_take_succ {L : List Rq} {p : Rq → Bool} {k : Nat} (hk : k < L.length) : (L.take (k + 1)).filter p = (L.take k).filter p ++ (if p L[k] then [L[k]] else []) := by
  rw [List.take_succ_eq_append_getElem hk, List.filter_append]
  congr 1
  by_cases h : p L[k] = true <;> simp [h]
end Go.Proofs.YtmldpbgdjlblmabDoor

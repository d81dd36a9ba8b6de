/- The document's table of locks as it lies: wake. -/
import Derived.Test.YtmldpbgdjlblmabDoorL11E
import Derived.Test.YtmldpbgdjlblmabDoorG11
namespace Go.Proofs.YtmldpbgdjlblmabDoor
open Go.RowKit Go.Joins
set_option linter.unusedVariables false
set_option linter.unusedSimpArgs false

theorem rqc_len (l : List Rq) : ∀ x ∈ l, (Rq.cells x).length = 9 := fun _ _ => rfl
abbrev OwnQ (base : Nat) (w : World) (v : Value) (l : List Rq) : Prop := Row 35 9 Rq.cells base w v l
theorem OwnQ.rq {base : Nat} {w : World} {g n cap : Nat} {L : List Rq} (h : OwnQ base w (.slice (some ⟨g, 0, none⟩) n cap) L) {k : Nat} (hk : k < L.length) : RqAt w g k L[k] := by
  have c := fun j hj => Row.cell h (rqc_len L) k hk j hj
  exact ⟨c 0 (by omega), c 1 (by omega), c 2 (by omega), c 3 (by omega), c 4 (by omega), c 5 (by omega), c 6 (by omega), c 7 (by omega), c 8 (by omega)⟩
theorem flat_set (L : List Rq) : ∀ (i : Nat), i < L.length → (L.flatMap Rq.cells).set (i * 9 + 7) (.bool true) = (grant L i).flatMap Rq.cells := by
  induction L with
  | nil => intro i hi; simp at hi
  | cons a l ih =>
    intro i hi
    cases i with
    | zero => rfl
    | succ i =>
      rw [List.flatMap_cons]
      have e : (i + 1) * 9 + 7 = (Rq.cells a).length + (i * 9 + 7) := by show _ = 9 + _; omega
      rw [e, List.set_append, if_neg (by omega), Nat.add_sub_cancel_left]
      show _ = Rq.cells a ++ (grant l i).flatMap Rq.cells
      rw [← ih i (by simpa using hi)]
theorem grant_len (L : List Rq) (i : Nat) : (grant L i).length = L.length := by simp [grant]
theorem infoI11 : (Tryd.prog.info? 3).map (fun i => (i.zero, i.size, i.bytes)) = some (some (.int .i64 0), 1, 8) := by kernel_rfl
/-- append, to a row of numbers, of one more. -/
theorem wp_appI11 (w : World) {ops : Array Oper} {rest : List Oper} {o : Oper} {a : Act} {Q : Exit → Act → World → Prop} (hgd : o.guard = none) (s x : Operand)
    (ho : o.op = .call { callee := .builtin .append, args := #[s, x], argTypes := #[43, 43] })
    (base : Nat) (v : Value) (n : Nat) (vs : List Value) (hs : a.eval s = v) (hown : w.ownsRow base 3 1 v n vs) (Bk : Nat) (u : Value) (hx : a.eval x = .slice (some ⟨Bk, 0, none⟩) 1 1) (hB : w.heap[Bk]? = some (.cells #[u] 3 (0, 0))) (hu : u.oneCell' = true) (hl : n ≤ 1000000) (hbase : base ≤ w.heap.size)
    (h : ∀ g cap w', w'.ownsRow base 3 1 (.slice (some ⟨g, 0, none⟩) (n + 1) cap) (n + 1) (vs ++ [u]) → w.grownBy w' v.ownBlock → wpList Tryd.prog ops Q rest (a.put o.dst (.slice (some ⟨g, 0, none⟩) (n + 1) cap)) w') : wpList Tryd.prog ops Q (o :: rest) a w := by
  obtain ⟨i0, hi, hz0, hz1, hz2⟩ := info_parts infoI11
  refine wpList_append_lies w hgd s x 43 ho base 3 i0 (.int .i64 0) 1 8 Tryd.underlying43 hi hz0 hz1 hz2 rfl (by decide) v n vs hs hown ⟨Bk, 0, none⟩ 1 1 [u] hx rfl (World.news_of_block hB) (by intro y hy; simp at hy; rw [hy]; exact hu) (by decide) (by unfold maxLen; omega) (by omega) hbase w.heap.size rfl ?_
  intro g cap w' h1 h2 h3 _
  exact h g cap w' h1 h2
theorem wc_le (L : List Rq) : wc L ≤ L.length := List.countP_le_length
end Go.Proofs.YtmldpbgdjlblmabDoor

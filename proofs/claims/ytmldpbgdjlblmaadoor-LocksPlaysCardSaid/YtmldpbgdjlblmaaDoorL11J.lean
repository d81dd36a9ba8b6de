/- Rows of pairs of numbers: the document's SameEdges, of equal ones; an append of one more. -/
import Derived.Test.YtmldpbgdjlblmaaDoorL11H
namespace Go.Proofs.YtmldpbgdjlblmaaDoor
open Go.RowKit Go.Joins
set_option linter.unusedVariables false
set_option linter.unusedSimpArgs false

def prC (x : Int × Int) : List Value := [.int .i64 x.1, .int .i64 x.2]
/-- A row of pairs that is somebody's own. -/
abbrev OwnP (base : Nat) (w : World) (v : Value) (l : List (Int × Int)) : Prop := Row 55 2 prC base w v l
/-- A row of pairs, as it is read. -/
structure PList (w : World) (ao : Option Addr) (cap : Nat) (E : List (Int × Int)) : Prop where
  le : E.length ≤ cap
  row : E = [] ∨ ∃ g, ao = some ⟨g, 0, none⟩ ∧ ∀ k (h : k < E.length), w.cell? ⟨g, k * 2, none⟩ = some (.int .i64 E[k].1) ∧ w.cell? ⟨g, k * 2 + 1, none⟩ = some (.int .i64 E[k].2)
theorem PList.of_own {base : Nat} {w : World} {v : Value} {E : List (Int × Int)} (h : OwnP base w v E) : ∃ ao cap, v = .slice ao E.length cap ∧ PList w ao cap E := by
  obtain ⟨ao, cap, hv, hle, _⟩ := Row.form h
  refine ⟨ao, cap, hv, hle, ?_⟩
  by_cases h0 : E = []
  · exact Or.inl h0
  · right
    obtain ⟨g, cap', hv', _, _, _⟩ := Row.at_ h (List.length_pos_iff.2 h0)
    rw [hv] at hv'
    cases hv'
    refine ⟨g, rfl, fun k hk => ?_⟩
    subst hv
    have hz : ∀ x ∈ E, (prC x).length = 2 := fun x _ => rfl
    exact ⟨Row.cell h hz k hk 0 (by omega), Row.cell h hz k hk 1 (by omega)⟩
theorem PList.keep {w w' : World} {ao : Option Addr} {cap : Nat} {E : List (Int × Int)} (h : PList w ao cap E) (hb : Below w.heap.size w w') : PList w' ao cap E :=
  ⟨h.le, h.row.imp id (fun ⟨g, e, hX⟩ => ⟨g, e, fun k hk => ⟨cell_keep hb (hX k hk).1, cell_keep hb (hX k hk).2⟩⟩)⟩
theorem PList.at_ {w : World} {ao : Option Addr} {cap : Nat} {E : List (Int × Int)} (h : PList w ao cap E) {k : Nat} (hk : k < E.length) : ∃ g, ao = some ⟨g, 0, none⟩ ∧ w.cell? ⟨g, k * 2, none⟩ = some (.int .i64 E[k].1) ∧ w.cell? ⟨g, k * 2 + 1, none⟩ = some (.int .i64 E[k].2) := by
  rcases h.row with h0 | ⟨g, e, hX⟩
  · rw [h0] at hk; simp at hk
  · exact ⟨g, e, hX k hk⟩
theorem eqIn_pair (d : Nat) (a b c e : Int) (w : World) : (Op.equalIn (d + 2) 55 (.agg #[.int .i64 a, .int .i64 b]) (.agg #[.int .i64 c, .int .i64 e])).run Tryd.prog w = .ok (a == c && b == e) w := by
  have hu := Tryd.underlying55
  have he := Tryd.underlying3
  have hsz : ∀ w, (sizeOf 3).run Tryd.prog w = .ok 1 w := fun w => by go_simp
  rw [Op.equalIn]
  have p0 : ∀ (x y : Int) w, (part 3 #[.int .i64 x, .int .i64 y] (0 * 1)).run Tryd.prog w = .ok (.int .i64 x) w := fun x y w => by simp [part, isAgg, run_underlying he]
  have p1 : ∀ (x y : Int) w, (part 3 #[.int .i64 x, .int .i64 y] (1 * 1)).run Tryd.prog w = .ok (.int .i64 y) w := fun x y w => by simp [part, isAgg, run_underlying he]
  have pe : ∀ (x y : Int) w, (Op.equalIn (d + 1) 3 (.int .i64 x) (.int .i64 y)).run Tryd.prog w = .ok (x == y) w := fun x y w => run_equalIn_int w d _ .i64 .i64 x y he
  simp only [Sem.run_bind, run_underlying hu, Result.andThen_ok, hsz, Std.Legacy.Range.forIn_eq_forIn_range', Std.Legacy.Range.size, Nat.sub_zero, Nat.add_sub_cancel, Nat.div_one]
  simp only [show List.range' 0 2 1 = [0, 1] from rfl, List.forIn_cons, List.forIn_nil, Sem.run_bind, p0, p1, pe, Result.andThen_ok]
  cases h1 : (a == c) <;> cases h2 : (b == e) <;> simp [p1, pe, h2]
@[go_sem] theorem eqIn_pair' (a b c e : Int) (w : World) : (Op.equalIn 10000 55 (.agg #[.int .i64 a, .int .i64 b]) (.agg #[.int .i64 c, .int .i64 e])).run Tryd.prog w = .ok (a == c && b == e) w := eqIn_pair 9998 a b c e w
@[go_sem] theorem guard_pair (op : BinOp) (x y : Operand) (xs ys : Array Value) (w : World) : (eqGuard op 55 x y (.agg xs) (.agg ys)).run Tryd.prog w = .ok () w := run_eqGuard_agg w op _ x y xs ys (by kernel_rfl)
@[go_sem] theorem neq_pair (a b c e : Int) (w : World) : (binOp .neq 55 (.agg #[.int .i64 a, .int .i64 b]) (.agg #[.int .i64 c, .int .i64 e])).run Tryd.prog w = .ok (.bool (!(a == c && b == e))) w := by
  rw [run_neq_struct, eqIn_pair 9998]
  rfl
set_option maxRecDepth 100000 in
set_option maxHeartbeats 8000000 in
theorem sameE_eq {w : World} {a1 a2 : Option Addr} {c1 c2 : Nat} {E : List (Int × Int)} (h1 : PList w a1 c1 E) (h2 : PList w a2 c2 E) (hl : E.length ≤ 100000000) :
    Calls Tryd.prog 20 #[.slice a1 E.length c1, .slice a2 E.length c2] w fun e w' => e = .returned (.bool true) ∧ ∃ q, w' = w.drewN q := by
  have H1 : Hid (PList w a1 c1 E) := h1
  have H2 : Hid (PList w a2 c2 E) := h2
  have l1 := h1.le
  have l2 := h2.le
  clear h1 h2
  go_enter Tryd.func20, Tryd.ntmps20
  go_wp2_with fail
  go_loopw [5] (fun x wr => ∃ k : Nat, x = .int .i64 k ∧ k ≤ E.length ∧ ∃ q, wr = w.drewN q) (fun x _ => E.length - (intOf x).toNat)
  case atStart => exact ⟨0, rfl, Nat.zero_le _, 0, rfl⟩
  case round =>
    obtain ⟨k, rfl, hk, q, rfl⟩ := hrel
    by_cases hlt : k < E.length
    · have tk : decide ((k : Int) < (E.length : Int)) = true := decide_eq_true (by omega)
      have hk2 : (k : Int) < (E.length : Int) := by omega
      obtain ⟨g, rfl, p0, p1⟩ := H1.out.at_ hlt
      obtain ⟨g2, rfl, r0, r1⟩ := H2.out.at_ hlt
      generalize E[k] = x at *
      obtain ⟨x1, x2⟩ := x
      simp only at p0 p1 r0 r1
      go_wp2_with fail
      go_quiet (fail)
      go_wp2
      go_roundw
      case rel => exact ⟨k + 1, by go_num, by omega, _, by first | rfl | trivial⟩
      case measure => simp [intOf]; omega
    · have tk : decide ((k : Int) < (E.length : Int)) = false := decide_eq_false (by omega)
      go_wp2_with fail
      go_ret
      exact ⟨rfl, _, rfl⟩
theorem infoP : (Tryd.prog.info? 55).map (fun i => (i.zero, i.size, i.bytes)) = some (some (.agg #[.int .i64 0, .int .i64 0]), 2, 16) := by kernel_rfl
/-- append, to a row of pairs, of one more. -/
theorem wp_appP (w : World) {ops : Array Oper} {rest : List Oper} {o : Oper} {a : Act} {Q : Exit → Act → World → Prop} (hgd : o.guard = none) (s x : Operand)
    (ho : o.op = .call { callee := .builtin .append, args := #[s, x], argTypes := #[45, 45] })
    (base : Nat) (v : Value) (l : List (Int × Int)) (hs : a.eval s = v) (hown : OwnP base w v l) (Bk : Nat) (r : Int × Int) (hx : a.eval x = .slice (some ⟨Bk, 0, none⟩) 1 1) (hB : w.heap[Bk]? = some (.cells (prC r).toArray 55 (0, 0))) (hl : l.length ≤ 100000000) (hbase : base ≤ w.heap.size)
    (h : ∀ g cap w', OwnP base w' (.slice (some ⟨g, 0, none⟩) (l.length + 1) cap) (l ++ [r]) → w.grownBy w' v.ownBlock → (v.ownBlock = some g ∨ w.heap.size ≤ g) → wpList Tryd.prog ops Q rest (a.put o.dst (.slice (some ⟨g, 0, none⟩) (l.length + 1) cap)) w') : wpList Tryd.prog ops Q (o :: rest) a w := by
  obtain ⟨i0, hi, hz0, hz1, hz2⟩ := info_parts infoP
  refine wpList_append_lies w hgd s x 45 ho base 55 i0 _ 2 16 Tryd.underlying45 hi hz0 hz1 hz2 rfl (by decide) v l.length (l.flatMap prC) hs hown ⟨Bk, 0, none⟩ 1 1 (prC r) hx rfl (World.news_of_block hB) (by intro u hu; simp [prC] at hu; rcases hu with rfl | rfl <;> rfl) (by decide) (by unfold maxLen; omega) (by omega) hbase w.heap.size rfl ?_
  intro g cap w' h1 h2 h3 _
  refine h g cap w' ?_ h2 (h3.imp (fun e => e) (fun e => by omega))
  show World.ownsRow _ _ _ _ _ _ _
  rw [List.length_append, List.length_singleton, List.flatMap_append]
  simpa using h1
end Go.Proofs.YtmldpbgdjlblmaaDoor

/- A ground for any layer: rows of things of several cells, what a copy leaves of them, what a call may turn (out of B9A). -/
import Derived.Test.YtifnmclidabkfaaDoorRows
import Derived.WalkKit
import Derived.WalkSpells
import Derived.WalkLawsBesides
import Derived.Deep.QuietTactic
import Derived.BigQuiet
import Derived.BigRegion
import Derived.Deep.RegionHeld3
import Derived.Deep.AppendLies
import Derived.Deep.RegionHeldLaw
import Derived.Deep.RegionWith
import Derived.Deep.MidRow
import Derived.Deep.LoopGhost
import Derived.Deep.DeepCutAuto
import Derived.Deep.CutBlock
import Derived.Laws.CopyOwn
import Derived.Laws.EntriesVeiled
import Derived.Lib.SliceRun
import Derived.Lib.Overlaps
import Derived.Lib.AppendZerosOnto
import Derived.Great.BuildSlice
namespace Go.Proofs.YtifnmclidabkfaaDoor
open Go.RowKit
set_option linter.unusedVariables false
set_option linter.unusedSimpArgs false

theorem flat_at {α β : Type} (c : α → List β) (n : Nat) (l : List α) (hl : ∀ x ∈ l, (c x).length = n) (k : Nat) (h : k < l.length) (j : Nat) (hj : j < n) : (l.flatMap c)[k * n + j]? = (c l[k])[j]? := by
  induction l generalizing k with
  | nil => simp at h
  | cons x l ih =>
    rw [List.flatMap_cons]
    have hx : (c x).length = n := hl x (by simp)
    cases k with
    | zero =>
      rw [List.getElem?_append_left (by rw [hx]; omega)]
      simp
    | succ k =>
      have e : (k + 1) * n + j = n + (k * n + j) := by rw [Nat.succ_mul]; omega
      rw [e, List.getElem?_append_right (by rw [hx]; omega), hx, Nat.add_sub_cancel_left]
      simpa using ih (fun y hy => hl y (by simp [hy])) k (by simpa using h)
theorem flat_len {α β : Type} (c : α → List β) (n : Nat) (l : List α) (hl : ∀ x ∈ l, (c x).length = n) : (l.flatMap c).length = l.length * n := by
  induction l with
  | nil => simp
  | cons x l ih =>
    rw [List.flatMap_cons, List.length_append, hl x (by simp), ih (fun y hy => hl y (by simp [hy])), List.length_cons, Nat.succ_mul]; omega
theorem flat_take {α β : Type} (c : α → List β) (n : Nat) (l : List α) (hl : ∀ x ∈ l, (c x).length = n) (i : Nat) : (l.flatMap c).take (i * n) = (l.take i).flatMap c := by
  induction l generalizing i with
  | nil => simp
  | cons x l ih =>
    cases i with
    | zero => simp
    | succ i =>
      have hx : (c x).length = n := hl x (by simp)
      rw [List.take_succ_cons, List.flatMap_cons, List.flatMap_cons, List.take_append, hx, show (i + 1) * n - n = i * n by rw [Nat.succ_mul]; omega, ih (fun y hy => hl y (by simp [hy])), List.take_of_length_le (by rw [hx, Nat.succ_mul]; omega)]
theorem flat_drop {α β : Type} (c : α → List β) (n : Nat) (l : List α) (hl : ∀ x ∈ l, (c x).length = n) (i : Nat) : (l.flatMap c).drop (i * n) = (l.drop i).flatMap c := by
  induction l generalizing i with
  | nil => simp
  | cons x l ih =>
    cases i with
    | zero => simp
    | succ i =>
      have hx : (c x).length = n := hl x (by simp)
      rw [List.drop_succ_cons, List.flatMap_cons, List.drop_append, hx, show (i + 1) * n - n = i * n by rw [Nat.succ_mul]; omega, ih (fun y hy => hl y (by simp [hy])), List.drop_eq_nil_of_le (by rw [hx, Nat.succ_mul]; omega)]
      rfl

/-- What a call may turn: blocks of F alone; new ones come. -/
structure Fr (w w' : World) (F : Nat → Prop) : Prop where
  os : w'.os = w.os
  tape : w'.tape = w.tape
  output : w'.output = w.output
  size : w.heap.size ≤ w'.heap.size
  block : ∀ k, k < w.heap.size → ¬ F k → w'.heap[k]? = w.heap[k]?
theorem Fr.refl (w : World) (F : Nat → Prop) : Fr w w F := ⟨rfl, rfl, rfl, Nat.le_refl _, fun _ _ _ => rfl⟩
theorem Fr.of_below {w w' : World} {F : Nat → Prop} (h : Below w.heap.size w w') : Fr w w' F := ⟨h.os, h.tape, h.output, h.size, fun k hk _ => h.block k hk⟩
theorem Fr.mono {w w' : World} {F G : Nat → Prop} (h : Fr w w' F) (hg : ∀ k, F k → G k) : Fr w w' G := ⟨h.os, h.tape, h.output, h.size, fun k hk hn => h.block k hk (fun x => hn (hg k x))⟩
theorem Fr.trans {a b c : World} {F G : Nat → Prop} (h : Fr a b F) (k : Fr b c G) (hg : ∀ i, G i → F i ∨ a.heap.size ≤ i) : Fr a c F :=
  ⟨k.os.trans h.os, k.tape.trans h.tape, k.output.trans h.output, Nat.le_trans h.size k.size, fun i hi hn => (k.block i (Nat.lt_of_lt_of_le hi h.size) (fun x => by rcases hg i x with x | x; exact hn x; omega)).trans (h.block i hi hn)⟩
theorem Fr.of_grown {w w' : World} {F : Nat → Prop} {r : Option Nat} (h : w.grownBy w' r) (hr : ∀ k, r = some k → F k) : Fr w w' F :=
  ⟨h.os, h.tape, h.output, h.size, fun k hk hn => h.block k hk (fun e => hn (hr k e.symm))⟩
theorem Fr.below {w w' : World} {F : Nat → Prop} (h : Fr w w' F) {B : Nat} (hB : B ≤ w.heap.size) (hF : ∀ k, F k → B ≤ k) : Below B w w' :=
  ⟨h.os, h.tape, h.output, h.size, fun k hk => h.block k (by omega) (fun x => by have := hF k x; omega)⟩
theorem Fr.drew (w : World) (F : Nat → Prop) : Fr w w.drew F := ⟨rfl, rfl, rfl, Nat.le_refl _, fun _ _ _ => rfl⟩
theorem Fr.alloc (w : World) (o : Obj) (F : Nat → Prop) : Fr w (w.alloc o) F := Fr.of_below ((Below.refl _ _).alloc (Nat.le_refl _) o)
theorem own_of_block {base : Nat} {w w' : World} {e n k : Nat} {v : Value} {xs : List Value} (h : w.ownsRow base e n v k xs) (hb : ∀ b, v.ownBlock = some b → w'.heap[b]? = w.heap[b]?) : w'.ownsRow base e n v k xs := by
  obtain ⟨h1, h2⟩ := h
  refine ⟨h1, ?_⟩
  rcases h2 with h | ⟨g, cap, cur, hv, hg, hh, hr⟩
  · exact Or.inl h
  · exact Or.inr ⟨g, cap, cur, hv, hg, (hb g (by rw [hv]; rfl)).trans hh, hr⟩
theorem own_base {base b2 : Nat} {w : World} {e n k : Nat} {v : Value} {xs : List Value} (h : w.ownsRow base e n v k xs) (hb : b2 ≤ base) : w.ownsRow b2 e n v k xs := by
  obtain ⟨h1, h2⟩ := h
  refine ⟨h1, ?_⟩
  rcases h2 with h | ⟨g, cap, cur, hv, hg, hr⟩
  · exact Or.inl h
  · exact Or.inr ⟨g, cap, cur, hv, Nat.le_trans hb hg, hr⟩
theorem frozen_row {w : World} {g : Nat} {cs : Array Value} {t : TypeId} (h : w.heap[g]? = some (.cells cs t (0, 0))) (o : Nat) : w.frozen? ⟨g, o, none⟩ = false := by
  simp [World.frozen?, h]
theorem grownBy_trans {a b c : World} {r : Option Nat} (h : a.grownBy b r) (k : b.grownBy c r) : a.grownBy c r :=
  ⟨k.os.trans h.os, k.tape.trans h.tape, k.output.trans h.output, Nat.le_trans h.size k.size, fun i hi hr => (k.block i (Nat.lt_of_lt_of_le hi h.size) hr).trans (h.block i hi hr)⟩
theorem grownBy_drew (w : World) (r : Option Nat) : w.grownBy w.drew r := ⟨rfl, rfl, rfl, Nat.le_refl _, fun _ _ _ => rfl⟩
theorem fr_set (w : World) (g o : Nat) (u : Value) : Fr w (w.setCell ⟨g, o, none⟩ u) (fun k => k = g) :=
  ⟨rfl, rfl, rfl, by simp [World.setCell], fun k _ hk => Below.heap_setCell _ _ _ _ (fun e => hk e)⟩
theorem fr_cell {w w' : World} {F : Nat → Prop} (hf : Fr w w' F) {g o : Nat} {v : Value} (hg : ¬ F g) (h : w.cell? ⟨g, o, none⟩ = some v) : w'.cell? ⟨g, o, none⟩ = some v := by
  have hlt := World.block_lt_of_cell? w _ h
  rw [World.cell?_of_block (hf.block g hlt hg)]; exact h
/-- Behind what is done to the row v: v' is what came of it; of what was there, v's own block alone may be turned. -/
structure GrowB (w : World) (v : Value) (w' : World) (v' : Value) : Prop where
  grown : w.grownBy w' v.ownBlock
  own : v'.ownBlock = v.ownBlock ∨ ∀ k, v'.ownBlock = some k → w.heap.size ≤ k
theorem GrowB.refl (w : World) (v : Value) : GrowB w v w v := ⟨World.grownBy.refl _ _, Or.inl rfl⟩

/-- A row of things of z cells. -/
def Row {α : Type} (e z : Nat) (c : α → List Value) (base : Nat) (w : World) (v : Value) (l : List α) : Prop := w.ownsRow base e z v l.length (l.flatMap c)
theorem Row.form {α : Type} {e z : Nat} {c : α → List Value} {base : Nat} {w : World} {v : Value} {l : List α} (h : Row e z c base w v l) : ∃ ao cap, v = .slice ao l.length cap ∧ l.length ≤ cap ∧ cap ≤ maxLen := by
  rcases id h with ⟨_, ⟨hv, hn⟩ | ⟨g, cap, cur, hv, hg, hh, hc, hm, _⟩⟩
  · exact ⟨none, 0, by rw [hv, hn], by omega, by unfold maxLen; omega⟩
  · exact ⟨_, cap, hv, hc, hm⟩
theorem Row.at_ {α : Type} {e z : Nat} {c : α → List Value} {base : Nat} {w : World} {v : Value} {l : List α} (h : Row e z c base w v l) (hl : 0 < l.length) : ∃ g cap, v = .slice (some ⟨g, 0, none⟩) l.length cap ∧ l.length ≤ cap ∧ base ≤ g ∧ g < w.heap.size := by
  rcases id h with ⟨_, ⟨hv, hn⟩ | ⟨g, cap, cur, hv, hg, hh, hc, hm, _⟩⟩
  · omega
  · exact ⟨g, cap, hv, hc, hg, (Array.getElem?_eq_some_iff.1 hh).1⟩
theorem Row.cell {α : Type} {e z : Nat} {c : α → List Value} {base : Nat} {w : World} {g n cap : Nat} {l : List α} (h : Row e z c base w (.slice (some ⟨g, 0, none⟩) n cap) l) (hz : ∀ x ∈ l, (c x).length = z) (k : Nat) (hk : k < l.length) (j : Nat) (hj : j < z) : w.cell? ⟨g, k * z + j, none⟩ = (c l[k])[j]? := by
  have h2 := World.ownsRow.cells h (g := g) rfl
  have h3 := flat_at c z l hz k hk j hj
  have hz1 := hz l[k] (List.getElem_mem hk)
  obtain ⟨u, hu⟩ : ∃ u, (c l[k])[j]? = some u := ⟨(c l[k])[j], List.getElem?_eq_getElem (by omega)⟩
  rw [hu] at h3 ⊢
  have := h2 _ _ h3
  rwa [Addr.add_mid, Nat.zero_add] at this
theorem Row.frozen {α : Type} {e z : Nat} {c : α → List Value} {base : Nat} {w : World} {g n cap : Nat} {l : List α} (h : Row e z c base w (.slice (some ⟨g, 0, none⟩) n cap) l) (o : Nat) : w.frozen? ⟨g, o, none⟩ = false := by
  rcases id h with ⟨_, ⟨hv, hn⟩ | ⟨g', cap', cur, hv, hg, hh, _⟩⟩
  · cases hv
  · cases hv; exact frozen_row hh o
theorem Row.len {α : Type} {e z : Nat} {c : α → List Value} {base : Nat} {w : World} {ao : Option Addr} {n cap : Nat} {l : List α} (h : Row e z c base w (.slice ao n cap) l) : n = l.length := by
  obtain ⟨_, _, hv, _⟩ := h.form; cases hv; rfl
theorem Row.of_block {α : Type} {e z : Nat} {c : α → List Value} {base : Nat} {w w' : World} {v : Value} {l : List α} (h : Row e z c base w v l) (hb : ∀ b, v.ownBlock = some b → w'.heap[b]? = w.heap[b]?) : Row e z c base w' v l := own_of_block h hb
theorem Row.nil_ {α : Type} (e z : Nat) (c : α → List Value) (base : Nat) (w : World) : Row e z c base w (.slice none 0 0) ([] : List α) := ⟨by simp, Or.inl ⟨rfl, rfl⟩⟩
theorem Row.lo {α : Type} {e z : Nat} {c : α → List Value} {base : Nat} {w : World} {v : Value} {l : List α} (h : Row e z c base w v l) : ∀ k, v.ownBlock = some k → base ≤ k ∧ k < w.heap.size := World.ownsRow.lt h

variable (P : Program) in
/-- A copy of things of z cells into a row that is known whole. -/
theorem run_copyZ (w : World) (dT sT ty elem : TypeId) (z g o dLen dCap : Nat) (a : Addr) (sLen sCap : Nat) (cur : Array Value) (t : TypeId) (cs : List Value)
    (hu : P.underlying dT = some (.slice elem)) (hs : (P.info? elem).map (·.size) = some z)
    (hg : w.heap[g]? = some (.cells cur t (0, 0))) (hn : cs.length = Nat.min sLen dLen * z)
    (hsrc : ∀ j v, cs[j]? = some v → w.cell? (a.add j) = some v) (hfit : o + cs.length ≤ cur.size) (h1 : ∀ v ∈ cs, v.oneCell' = true) :
    (Builtin.copy_ #[dT, sT] ty #[.slice (some ⟨g, o, none⟩) dLen dCap, .slice (some a) sLen sCap]).run P w =
      .ok (goInt (Nat.min sLen dLen)) (w.setRow g (splice cur.toList o cs).toArray) := by
  have hl := run_loadCells_list (P := P) w a cs hsrc
  have hst := run_storeCells_at P g o t cs 0 cur w hg (by simpa using hfit) h1
  cases hq : P.info? elem with
  | none => simp [hq] at hs
  | some i =>
    have hi : i.size = z := by simpa [hq] using hs
    simp [Builtin.copy_, run_underlying hu, Builtin.lenOf, Builtin.firstCells, sizeOf, typeInfo, hq, hi, ← hn, hl, hst, splice]
variable {P : Program} in
theorem wpList_copyZ {w : World} {ops : Array Oper} {rest : List Oper} {o : Oper} {a : Act} {Q : Exit → Act → World → Prop} (hgd : o.guard = none) (d s : Operand) (dT sT : TypeId)
    (ho : o.op = .call { callee := .builtin .copy, args := #[d, s], argTypes := #[dT, sT] }) {v u v' : Value} {w' : World} (hd : a.eval d = v) (hs : a.eval s = u)
    (hr : (Builtin.copy_ #[dT, sT] o.type #[v, u]).run P w = .ok v' w') (h : wpList P ops Q rest (a.put o.dst v') w') : wpList P ops Q (o :: rest) a w := by
  refine wpList_plain hgd fun K hK => ?_
  unfold Oper.wp
  simp [execOp, ho, resolve, invoke, builtin, hd, hs, hr, Result.andThen]
  exact hK _ _ h
variable {P : Program} in
theorem step_copyZ {w : World} {ops : Array Oper} {o : Oper} {a : Act} {K : Act → World → Prop} {Q : Exit → Act → World → Prop} {E : Prop} (hgd : o.guard = none) (d s : Operand) (dT sT : TypeId)
    (ho : o.op = .call { callee := .builtin .copy, args := #[d, s], argTypes := #[dT, sT] }) {v u v' : Value} {w' : World} (hd : a.eval d = v) (hs : a.eval s = u)
    (hr : (Builtin.copy_ #[dT, sT] o.type #[v, u]).run P w = .ok v' w') (h : K (a.put o.dst v') w') :
    if Region.wanted o (yielded ops a.tmps) = true then Oper.wp P o a w K Q else E := by
  have hw : Region.wanted o (yielded ops a.tmps) = true := by simp [Region.wanted, hgd]
  rw [if_pos hw]
  unfold Oper.wp
  simp [execOp, ho, resolve, invoke, builtin, hd, hs, hr, Result.andThen]
  exact h
variable {P : Program} in
theorem step_appendZ {w : World} {ops : Array Oper} {o : Oper} {a : Act} {K : Act → World → Prop} {Q : Exit → Act → World → Prop} {E : Prop} (hgd : o.guard = none) (d s : Operand) (dT sT : TypeId)
    (ho : o.op = .call { callee := .builtin .append, args := #[d, s], argTypes := #[dT, sT] }) {v u v' : Value} {w' : World} (hd : a.eval d = v) (hs : a.eval s = u)
    (hr : (Builtin.append_ #[dT, sT] o.type #[v, u]).run P w = .ok v' w') (h : K (a.put o.dst v') w') :
    if Region.wanted o (yielded ops a.tmps) = true then Oper.wp P o a w K Q else E := by
  have hw : Region.wanted o (yielded ops a.tmps) = true := by simp [Region.wanted, hgd]
  rw [if_pos hw]
  unfold Oper.wp
  simp [execOp, ho, resolve, invoke, builtin, hd, hs, hr, Result.andThen]
  exact h
variable (P : Program) in
/-- Things of z cells, cleared in a row that is known whole. -/
theorem run_clearZ (w : World) (sT ty elem : TypeId) (g o n cap : Nat) (z : Value) (cur : Array Value) (t : TypeId) (hu : P.underlying sT = some (.slice elem)) (hz : ∀ w, (zeroValue elem).run P w = .ok z w) (hn : 0 < n)
    (hg : w.heap[g]? = some (.cells cur t (0, 0))) (hfit : o + (Builtin.zeroCells z.cells n).toList.length ≤ cur.size) (h1 : ∀ v ∈ (Builtin.zeroCells z.cells n).toList, v.oneCell' = true) :
    (Builtin.clear_ #[sT] ty #[.slice (some ⟨g, o, none⟩) n cap]).run P w = .ok (.tuple #[]) (w.setRow g (splice cur.toList o (Builtin.zeroCells z.cells n).toList).toArray) := by
  have hst := run_storeCells_at P g o t (Builtin.zeroCells z.cells n).toList 0 cur w hg (by simpa using hfit) h1
  obtain ⟨m, rfl⟩ : ∃ m, n = m + 1 := ⟨n - 1, by omega⟩
  simp only [Builtin.clear_]
  simp [run_underlying hu, hz, hst, splice]
variable {P : Program} in
theorem wpList_clearZ {w : World} {ops : Array Oper} {rest : List Oper} {o : Oper} {a : Act} {Q : Exit → Act → World → Prop} (hgd : o.guard = none) (s : Operand) (sT : TypeId)
    (ho : o.op = .call { callee := .builtin .clear, args := #[s], argTypes := #[sT] }) {v v' : Value} {w' : World} (hs : a.eval s = v)
    (hr : (Builtin.clear_ #[sT] o.type #[v]).run P w = .ok v' w') (h : wpList P ops Q rest (a.put o.dst v') w') : wpList P ops Q (o :: rest) a w := by
  refine wpList_plain hgd fun K hK => ?_
  unfold Oper.wp
  simp [execOp, ho, resolve, invoke, builtin, hs, hr, Result.andThen]
  exact hK _ _ h
theorem zeroCells_len (z : Array Value) (n : Nat) : (Builtin.zeroCells z n).toList.length = n * z.size := by simp [Builtin.zeroCells]
theorem splice_take {α : Type} (L cs : List α) (o m : Nat) (h : o + cs.length ≤ L.length) (hm : m ≤ o) : (splice L o cs).take m = L.take m := by
  unfold splice
  rw [List.take_append_of_le_length (by simp; omega), List.take_take, Nat.min_eq_left hm]
theorem setRow_grown (w : World) (g : Nat) (cs : Array Value) : w.grownBy (w.setRow g cs) (some g) :=
  ⟨rfl, rfl, rfl, by simp [World.setRow], fun k hk hne => setRow_other w g k cs (fun e => hne (by rw [e]))⟩

theorem splice_two {α : Type} (T X D zs : List α) : splice (splice (T ++ zs) T.length X) (T.length + X.length) D = (T ++ X) ++ (D ++ zs.drop (X.length + D.length)) := by
  have e1 : splice (T ++ zs) T.length X = (T ++ X) ++ zs.drop X.length := by
    unfold splice
    rw [List.take_append_of_le_length (Nat.le_refl _), List.take_of_length_le (Nat.le_refl _), List.drop_append, List.drop_eq_nil_of_le (by omega), List.nil_append, Nat.add_sub_cancel_left, List.append_assoc]
  rw [e1]
  unfold splice
  rw [List.take_append_of_le_length (by simp), List.take_of_length_le (by simp), List.drop_append, List.drop_eq_nil_of_le (by simp), List.nil_append, List.drop_drop, List.length_append]
  congr 3
  omega
theorem Below.undrew {B : Nat} {w w' : World} (h : Below B w.drew w') : Below B w w' := ⟨h.os, h.tape, h.output, h.size, h.block⟩
end Go.Proofs.YtifnmclidabkfaaDoor

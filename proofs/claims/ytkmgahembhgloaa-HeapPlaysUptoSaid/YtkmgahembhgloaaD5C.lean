/- Package disk: Read; the document's Full; a list of bytes held against another. -/
import Derived.Test.YtkmgahembhgloaaD5B
namespace Go.Proofs.Ytkmgahembhgloaa
open Go.RowKit Go.Maps
set_option linter.unusedVariables false
set_option linter.unusedSimpArgs false

/-- Whole bytes in a block of their own. -/
def RowB (w : World) (k : Nat) (s : List UInt8) : Prop := w.heap[k]? = some (.cells (s.map bv).toArray 5 (0, 0))
theorem RowB.lt {w : World} {k : Nat} {s : List UInt8} (h : RowB w k s) : k < w.heap.size := (Array.getElem?_eq_some_iff.1 h).1
theorem RowB.keep {w w' : World} {k : Nat} {s : List UInt8} (h : RowB w k s) (hb : Below w.heap.size w w') : RowB w' k s := (hb.block k h.lt).trans h
theorem RowB.cell {w : World} {k : Nat} {s : List UInt8} (h : RowB w k s) (j : Nat) (hj : j < s.length) : w.cell? ((⟨k, 0, none⟩ : Addr).add j) = some (bv s[j]) := by
  rw [Addr.add_mid, cell_of_row w k (0 + j) _ _ _ h]
  simp [hj]
theorem RowB.bytes {w : World} {k : Nat} {s : List UInt8} (h : RowB w k s) {n cap : Nat} (hn : s.length = n) (hc : n ≤ cap) : Bytes w (.slice (some ⟨k, 0, none⟩) n cap) s :=
  Or.inr ⟨⟨k, 0, none⟩, cap, by rw [hn], by omega, fun j hj => h.cell j hj⟩
theorem make_run (w : World) : (Instr.makeSlice 30 (.int .i64 128) (.int .i64 128)).run Try.prog w = .ok (.slice (some ⟨w.heap.size, 0, none⟩) 128 128) (w.alloc (.cells (zsec.map bv).toArray 5)) := by kernel_rfl
theorem wp_make (w : World) {ops : Array Oper} {rest : List Oper} {o : Oper} {a : Act} {Q : Exit → Act → World → Prop} (hgd : o.guard = none)
    (ho : o.op = .makeSlice 30 (.const (.int .i64 128)) (.const (.int .i64 128)))
    (h : wpList Try.prog ops Q rest (a.put o.dst (.slice (some ⟨w.heap.size, 0, none⟩) 128 128)) (w.alloc (.cells (zsec.map bv).toArray 5))) : wpList Try.prog ops Q (o :: rest) a w := by
  refine wpList_plain hgd fun K hK => ?_
  unfold Oper.wp execOp
  have e1 : a.eval (.const (.int .i64 128)) = .int .i64 128 := rfl
  simp only [ho, e1, make_run w, Sem.run_bind, Sem.run_pure, Result.andThen_ok]
  exact hK _ _ h
theorem infoB1 : (Try.prog.info? 5).map (·.size) = some 1 := by kernel_rfl
theorem infoSec : (Try.prog.info? 86).map (·.size) = some 128 := by kernel_rfl
/-- copy, of bytes that lie somewhere, to noughts that were made now. -/
theorem run_copyF (w : World) (ty : TypeId) (g : Nat) (t : TypeId) (hg : w.heap[g]? = some (.cells (zsec.map bv).toArray t (0, 0))) (v : Value) (xs : List UInt8) (hB : Bytes w v xs) (B : Nat) (hBg : B ≤ g) :
    ∃ w' m, (Builtin.copy_ #[30, 30] ty #[.slice (some ⟨g, 0, none⟩) 128 128, v]).run Try.prog w = .ok (goInt m) w' ∧ Hid (w'.heap[g]? = some (.cells ((full xs).map bv).toArray t (0, 0))) ∧ Below B w w' ∧ Fr w w' (fun k => k = g) := by
  obtain ⟨ao, cap, rfl, hc, hx⟩ := hB.form
  by_cases h0 : xs.length = 0
  · have hx0 : xs = [] := List.eq_nil_of_length_eq_zero h0
    subst hx0
    refine ⟨w, 0, run_copy_none w _ _ ty 5 _ _ _ _ _ _ Try.underlying30 infoB1 (by simp), ?_, Below.refl _ _, Fr.refl _ _⟩
    have : (full []) = zsec := by simp [full, zsec]
    rw [this]; exact hg
  · obtain ⟨a0, rfl, hx2⟩ := hx (by omega)
    have hr := run_copy_row (P := Try.prog) w 30 30 ty 5 g 0 128 128 a0 xs.length cap (zsec.map bv).toArray t ((xs.take 128).map bv) Try.underlying30 infoB1 hg (by simp [Nat.min_comm]) (fun j u hu => hx2 j u (by
      rw [List.map_take, List.getElem?_take] at hu
      split at hu
      · exact hu
      · cases hu)) (by simp [zsec_len]; omega) (one_bv _)
    refine ⟨_, _, hr, ?_, below_setRow (Below.refl _ _) hBg _, ⟨rfl, rfl, rfl, by simp, fun k _ hk => setRow_other w g k _ hk⟩⟩
    have := setRow_heap w g _ (((zsec.map bv).toArray).toList.take 0 ++ (xs.take 128).map bv ++ ((zsec.map bv).toArray).toList.drop (0 + ((xs.take 128).map bv).length)).toArray t (0, 0) hg
    have e := splice_full xs
    unfold splice at e
    rw [← e]
    show _ = _
    simpa using this

theorem wp_storeS {w : World} {ops : Array Oper} {rest : List Oper} {o : Oper} {a : Act} {Q : Exit → Act → World → Prop} (hgd : o.guard = none) (x y : Operand) (ho : o.op = .store 86 x y)
    (g : Nat) (s : List UInt8) (hx : a.eval x = .pointer (some ⟨g, 0, none⟩)) (hy : a.eval y = secV s) {t : TypeId} {old : Array Value} (hg : w.heap[g]? = some (.cells old t (0, 0))) (hold : old.size = 128) (hs : s.length = 128)
    (h : ∀ w1, Hid (w1.heap[g]? = some (.cells (s.map bv).toArray t (0, 0))) → Fr w w1 (fun k => k = g) → wpList Try.prog ops Q rest (a.put o.dst undef) w1) : wpList Try.prog ops Q (o :: rest) a w :=
  wpList_store_row hgd 86 x y ho g (s.map bv).toArray hx hy t old hg (by rw [infoSec]; simp [hs]) (by simp [hold, hs]) (all_oneCell_toArray (one_bv s))
    (h _ (setRow_heap w g _ _ t _ hg) ⟨rfl, rfl, rfl, by simp, fun k _ hk => setRow_other w g k _ hk⟩)
theorem bytes_sec {w : World} {g : Nat} {s : List UInt8} {t : TypeId} (h : w.heap[g]? = some (.cells (s.map bv).toArray t (0, 0))) (hs : s.length = 128) : Bytes w (.slice (some ⟨g, 0, none⟩) 128 128) s :=
  Or.inr ⟨⟨g, 0, none⟩, 128, by rw [hs], by omega, fun j hj => by rw [Addr.add_mid, cell_of_row w g (0 + j) _ _ _ h]; simp [hj]⟩
theorem full_id {s : List UInt8} (hs : s.length = 128) : full s = s := by simp [full, hs, List.take_of_length_le]
set_option maxHeartbeats 400000 in
/-- Read. -/
theorem read_any {base : Nat} {F : Nat → Prop} {p : Value} {n : Nat} {D : DS} {w : World} (h : DiskAt base w F p n D) (i : Int) (hi : 0 ≤ i ∧ i < D.size) :
    Calls Try.prog 76 #[p, .int .i64 i] w fun e w' => ∃ k, w.heap.size ≤ k ∧ e = .returned (.tuple #[.slice (some ⟨k, 0, none⟩) 128 128, .int .i64 0]) ∧ RowB w' k (D.now i) ∧ Below w.heap.size w w' := by
  obtain ⟨g, b1, b2, v, rfl, h⟩ := h
  have hh := has_any h i
  obtain ⟨c0, c1, c2, c3, c4, fz⟩ := cells5 h.hg
  have hsz := h.sz
  have hlook := h.m2.look (i := i) (by omega)
  have hlen := h.m2.len i
  have e1 : (decide (0 ≤ i) && decide (i < D.size)) = true := by simp; omega
  rw [e1] at hh
  clear h e1
  generalize D.now i = s at *
  have h0 : Below w.heap.size w (w.alloc (.cells (secV zsec).cells 86)) := (Below.refl _ _).alloc (Nat.le_refl _) _
  have hnew := heap_alloc_new w (.cells (secV zsec).cells 86)
  have hnl : (secV zsec).cells.size = 128 := by simp [secV, Value.cells, zsec_len]
  go_enter Try.func76, Try.ntmps76
  go_wp2_with (first
    | (go_at_call 50; refine hh.mono ?_; rintro e wx ⟨rfl, hwx⟩; rw [hwx]; clear hwx wx hh)
    | (guard_target = wpList _ _ _ (Oper.mk _ (Op.alloc _) _ _ _ _ :: _) _ _; refine wpList_allocS rfl 86 rfl (secV zsec) zero_sec ?_)
    | (guard_target = wpList _ _ _ (Oper.mk _ (Op.store _ _ _) _ _ _ _ :: _) _ _; refine wp_storeS rfl _ _ rfl w.heap.size s rfl rfl hnew hnl hlen ?_
       intro w1 hr hf
       have hb1 : Below w.heap.size w w1 := h0.trans (hf.below (by simp) (fun k hk => by omega))
       have hlt : w.heap.size < w1.heap.size := by have := hf.size; simp at this; omega
       have hB := (bytes_sec hr.out hlen).keep ((Below.refl _ w1).alloc (Nat.le_refl _) (.cells (zsec.map bv).toArray 5))
       obtain ⟨w2, m, hrun, h1, h2, _⟩ := run_copyF (w1.alloc (.cells (zsec.map bv).toArray 5)) 3 w1.heap.size 5 (heap_alloc_new w1 _) _ s hB w.heap.size (by omega)
       rw [full_id hlen] at h1
       have hb2 := (hb1.alloc (by omega) (.cells (zsec.map bv).toArray 5)).trans h2
       clear hnew hnl hf hr hB h2 h0 hlook c0 c1 c2 c3 c4 fz)
    | (at_make; refine wp_make _ rfl rfl ?_))
  exact bodyPost_ret (v := .tuple #[.slice (some ⟨w1.heap.size, 0, none⟩) 128 128, .int .i64 0]) (by simp [results, Try.results76, go_sem]) rfl ⟨_, Nat.le_of_lt hlt, rfl, h1.out, hb2⟩
theorem read_bad {base : Nat} {F : Nat → Prop} {p : Value} {n : Nat} {D : DS} {w : World} (h : DiskAt base w F p n D) (i : Int) (hi : i < 0 ∨ D.size ≤ i) :
    Calls Try.prog 76 #[p, .int .i64 i] w fun e w' => e = .returned (.tuple #[.slice none 0 0, .int .i64 51]) ∧ w' = w := by
  obtain ⟨g, b1, b2, v, rfl, h⟩ := h
  have hh := has_any h i
  have e1 : (decide (0 ≤ i) && decide (i < D.size)) = false := by simp; omega
  rw [e1] at hh
  clear h e1
  go_enter Try.func76, Try.ntmps76
  go_wp2_with (go_at_call 50; refine hh.mono ?_; rintro e wx ⟨rfl, hwx⟩; rw [hwx]; clear hwx wx hh)
  exact bodyPost_ret (v := .tuple #[.slice none 0 0, .int .i64 51]) (by simp [results, Try.results76, go_sem]) rfl ⟨rfl, rfl⟩
end Go.Proofs.Ytkmgahembhgloaa

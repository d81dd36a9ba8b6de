/- A script without some of its acts, made by append; what a script weighs; who comes first, behind a script. -/
import Derived.Test.YtmldpbgdjlblmabDoorL11PL
namespace Go.Proofs.YtmldpbgdjlblmabDoor
open Go.RowKit Go.ChangeShapes Go.WideShapes Go.ChangeAt Go.Joins Go.Maps Go.Shelf Go.Deep
set_option linter.unusedVariables false
set_option linter.unusedSimpArgs false

/-- A row of acts that the call made. -/
abbrev OwnO (base : Nat) (w : World) (v : Value) (l : List Op11) : Prop := Row 26 9 cells11 base w v l
theorem opc_len (l : List Op11) : ∀ x ∈ l, (cells11 x).length = 9 := fun _ _ => rfl
theorem infoO : (Tryd.prog.info? 26).map (fun i => (i.zero, i.size, i.bytes)) = some (some (.agg #[.int .i64 0, .int .i64 0, .int .i64 0, .string ByteArray.empty, .string ByteArray.empty, .string ByteArray.empty, .bool false, .int .i64 0, .bool false]), 9, 96) := by kernel_rfl
theorem sizeO : (Tryd.prog.info? 26).map (·.size) = some 9 := by kernel_rfl
theorem wp_appO (w : World) {ops : Array Oper} {rest : List Oper} {o : Oper} {a : Act} {Q : Exit → Act → World → Prop} (hgd : o.guard = none) (s x : Operand)
    (ho : o.op = .call { callee := .builtin .append, args := #[s, x], argTypes := #[22, 22] })
    (base : Nat) (v : Value) (l : List Op11) (hs : a.eval s = v) (hown : OwnO base w v l) (Bk : Nat) (r : Op11) (hx : a.eval x = .slice (some ⟨Bk, 0, none⟩) 1 1) (hB : w.heap[Bk]? = some (.cells (cells11 r).toArray 26 (0, 0))) (hl : (l.length + 1) * 96 ≤ 140737488355328) (hbase : base ≤ w.heap.size)
    (h : ∀ g cap w', OwnO base w' (.slice (some ⟨g, 0, none⟩) (l.length + 1) cap) (l ++ [r]) → w.grownBy w' v.ownBlock → wpList Tryd.prog ops Q rest (a.put o.dst (.slice (some ⟨g, 0, none⟩) (l.length + 1) cap)) w') : wpList Tryd.prog ops Q (o :: rest) a w := by
  obtain ⟨i0, hi, hz0, hz1, hz2⟩ := info_parts infoO
  refine wpList_append_lies w hgd s x 22 ho base 26 i0 _ 9 96 Tryd.underlying22 hi hz0 hz1 hz2 rfl (by decide) v l.length (l.flatMap cells11) hs hown ⟨Bk, 0, none⟩ 1 1 (cells11 r) hx rfl (World.news_of_block hB) (by intro u hu; simp [cells11] at hu; rcases hu with rfl | rfl | rfl | rfl | rfl | rfl | rfl | rfl | rfl <;> rfl) (by decide) (by unfold maxLen; omega) hl hbase w.heap.size rfl ?_
  intro g cap w' h1 h2 _ _
  refine h g cap w' ?_ h2
  show World.ownsRow _ _ _ _ _ _ _
  rw [List.length_append, List.length_singleton, List.flatMap_append]
  simpa using h1
theorem OwnO.ops {base : Nat} {w : World} {v : Value} {l : List Op11} (h : OwnO base w v l) : Ops11 w v l := by
  rcases id h with ⟨_, ⟨hv, hn⟩ | ⟨g, cap, cur, hv, hg, hh, hc, _⟩⟩
  · exact ⟨none, 0, by rw [hv, hn], by omega, Or.inl (List.eq_nil_of_length_eq_zero hn)⟩
  · refine ⟨some ⟨g, 0, none⟩, cap, hv, hc, Or.inr ⟨g, 0, rfl, fun k hk j u hu => ?_⟩⟩
    rw [hv] at h
    have hj : j < 9 := (List.getElem?_eq_some_iff.1 hu).1
    have := Row.cell h (opc_len l) k hk j hj
    rw [Nat.zero_add, this]
    exact hu
/-- The script without kind 3. -/
def FO (rs : List Op11) (k : Nat) : List Op11 := (rs.take k).filter fun x => decide (x.kind ≠ 3)
theorem FO_len (rs : List Op11) (k : Nat) : (FO rs k).length ≤ k := by
  unfold FO
  have h1 := List.length_filter_le (fun x : Op11 => decide (x.kind ≠ 3)) (rs.take k)
  have h2 : (rs.take k).length ≤ k := by rw [List.length_take]; omega
  omega
theorem FO_no {rs : List Op11} {k : Nat} (h : k < rs.length) (h3 : rs[k].kind = 3) : FO rs (k + 1) = FO rs k := by
  unfold FO
  rw [List.take_succ_eq_append_getElem h, List.filter_append]
  simp [h3]
theorem FO_yes {rs : List Op11} {k : Nat} (h : k < rs.length) (h3 : ¬ rs[k].kind = 3) : FO rs (k + 1) = FO rs k ++ [rs[k]] := by
  unfold FO
  rw [List.take_succ_eq_append_getElem h, List.filter_append]
  simp [h3]
theorem FO_kind {rs : List Op11} {k : Nat} : ∀ x ∈ FO rs k, ¬ x.kind = 3 := by
  intro x hx
  have := (List.mem_filter.1 hx).2
  simpa using this
/-- Behind a script in which nobody's short locks are ended. -/
theorem first_run (most : Int) (rs : List Op11) (h : ∀ x ∈ rs, ¬ x.kind = 3) : FI (runF most rs) := by
  have : ∀ (rs : List Op11) (L : List Rq), (∀ x ∈ rs, ¬ x.kind = 3) → TInv L → FI L → FI (rs.foldl (opF most) L) := by
    intro rs
    induction rs with
    | nil => intro L _ _ h; exact h
    | cons x l ih =>
      intro L h hT hF
      have h3 := h x (by simp)
      refine ih _ (fun y hy => h y (by simp [hy])) ?_ ?_
      · unfold opF
        repeat' split
        · exact hT.ask _ _ _ _ _
        all_goals first | exact hT | exact hT.end_ _ _
      · unfold opF
        split
        · exact hF.ask hT _ _ _ _ _
        · split
          · exact hF.end_ hT _
          · first | exact hF | (rw [if_neg h3]; exact hF)
  exact this rs [] h TInv.nil FI.nil
theorem bytesOp11 : Tryd.prog.bytesOf 26 = 96 := by kernel_rfl
/-- A script that was handed in is not longer than the reach. -/
theorem ops_weight {H : Type} {enc : TypeId × Value → H} {W : World} {base : Nat} {v : Value} {d : DataW H} {p : List MemPlace} {M : Nat} {rs : List Op11}
    (hv : Value.okWide Tryd.prog W .any base 22 v) (h : DataW.Trod enc Tryd.prog W 0 (fun _ => true) true 22 v d p) (hM : ∀ n ∈ d.weights Tryd.prog 22, n ≤ M) (hx : Ops11 W v rs) : rs.length * 96 ≤ M := by
  obtain ⟨a0, len0, cap0, rfl⟩ := okWide_slice Tryd.underlying22 hv
  obtain ⟨fuel, hf⟩ := h
  obtain ⟨ao, cp, e, _, _⟩ := hx
  simp only [Value.slice.injEq] at e
  obtain ⟨_, e2, _⟩ := e
  have hf' : DataW.trod enc Tryd.prog W 0 (fun _ => true) true fuel 22 [.slice a0 len0 cap0] = some (d, p) := hf
  rcases open_slice Tryd.underlying22 hf' with ⟨hc, _⟩ | ⟨a, len, cap, m, n, D, Pl, hc, _, hlc, hcm, hm, hx, hel⟩
  · simp only [List.cons.injEq, Value.slice.injEq, and_true] at hc
    rw [← e2, hc.2.1]; omega
  · simp only [if_true] at hm
    subst hm
    have hd : d = .slice ((List.range len).map D) ((List.range (m - len)).map fun j => D (len + j)) := congrArg Prod.fst hx
    rw [hd] at hM
    simp only [DataW.weights, Tryd.underlying22, bytesOp11] at hM
    have := hM _ (List.mem_cons_self ..)
    simp only [List.length_map, List.length_range] at this
    simp only [List.cons.injEq, Value.slice.injEq, and_true] at hc
    rw [← e2, hc.2.1]
    omega
end Go.Proofs.YtmldpbgdjlblmabDoor

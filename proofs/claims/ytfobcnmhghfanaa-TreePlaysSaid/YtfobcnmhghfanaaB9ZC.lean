/- Is a tree well-formed? What is passed on the way; passes. -/
import Derived.Test.YtfobcnmhghfanaaB9Y
namespace Go.Proofs.Ytfobcnmhghfanaa
open Go.RowKit Go.Shelf
set_option linter.unusedVariables false
set_option linter.unusedSimpArgs false

/-- The leaves that lie k levels under a branch, and what is passed there. -/
def under (nd : Nat → Nd) : Nat → Br → List Br
  | 0, q => [q]
  | k + 1, q => (nd q.2).bs.flatMap (under nd k)
def U (nd : Nat → Nd) (k : Nat) (q : Br) : List It := (under nd k q).flatMap (its nd)
theorem U_zero (nd : Nat → Nd) (q : Br) : U nd 0 q = its nd q := by simp [U, under]
theorem U_succ (nd : Nat → Nd) (k : Nat) (q : Br) : U nd (k + 1) q = (nd q.2).bs.flatMap (U nd k) := by
  show ((nd q.2).bs.flatMap (under nd k)).flatMap (its nd) = _
  rw [List.flatMap_assoc]
  rfl
theorem Shape.under {nd : Nat → Nd} {r H : Nat} {lv : Nat → List Br} {dep : Nat → Nat} (h : Shape nd r H lv dep) : ∀ k j, j + k ≤ H → lv (j + k) = (lv j).flatMap (Go.Proofs.Ytfobcnmhghfanaa.under nd k)
  | 0, j, _ => by
    show lv j = (lv j).flatMap (fun q => [q])
    simp
  | k + 1, j, hk => by
    rw [show j + (k + 1) = (j + 1) + k by omega, h.under k (j + 1) (by omega), h.nx j (by omega)]
    unfold next
    rw [List.flatMap_assoc]
    rfl
theorem Shape.ordU {nd : Nat → Nd} {r H : Nat} {lv : Nat → List Br} {dep : Nat → Nat} (h : Shape nd r H lv dep) {k j : Nat} (hk : j + k = H) {q : Br} (hq : q ∈ lv j) : (U nd k q).Pairwise R := by
  have ho := h.ord
  rw [← hk, h.under k j (by omega)] at ho
  obtain ⟨X, Y, e⟩ := List.append_of_mem hq
  rw [e, List.flatMap_append, List.flatMap_cons, List.flatMap_append, List.flatMap_append] at ho
  exact (List.pairwise_append.1 (List.pairwise_append.1 ho).2.1).1
theorem Shape.headU {nd : Nat → Nd} {r H : Nat} {lv : Nat → List Br} {dep : Nat → Nat} (h : Shape nd r H lv dep) : ∀ k j, j + k = H → ∀ q ∈ lv j, ∃ t, U nd k q = (q.1, false) :: t
  | 0, j, _, q, hq => ⟨_, by rw [U_zero]; rfl⟩
  | k + 1, j, hk, q, hq => by
    obtain ⟨_, c, t, hb⟩ := h.inner j (by omega) q hq
    obtain ⟨t', ht⟩ := h.headU k (j + 1) (by omega) (q.1, c) (by rw [h.nx j (by omega)]; exact List.mem_flatMap.2 ⟨q, hq, by rw [hb]; simp⟩)
    exact ⟨t' ++ t.flatMap (U nd k), by rw [U_succ, hb, List.flatMap_cons, ht]; rfl⟩
def lastI (l : List It) : It := l.getLastD (ByteArray.empty, false)
theorem lastI_app {a b : List It} (h : b ≠ []) : lastI (a ++ b) = lastI b := by
  unfold lastI
  rw [List.getLastD_eq_getLast?, List.getLastD_eq_getLast?, List.getLast?_append]
  cases hb : b.getLast? with
  | none => exact absurd (List.getLast?_eq_none_iff.1 hb) h
  | some x => rfl
theorem lastI_mem {a : List It} (h : a ≠ []) : lastI a ∈ a := by
  unfold lastI
  rw [List.getLastD_eq_getLast?]
  cases hb : a.getLast? with
  | none => exact absurd (List.getLast?_eq_none_iff.1 hb) h
  | some x => exact List.mem_of_getLast? hb
/-- Where the passing stands ahead of branch i. -/
def stI (nd : Nat → Nd) (k : Nat) (q : Br) (i : Nat) : It := lastI ((q.1, false) :: ((nd q.2).bs.take i).flatMap (U nd k))
theorem stI_step {nd : Nat → Nd} {r H : Nat} {lv : Nat → List Br} {dep : Nat → Nat} (h : Shape nd r H lv dep) {k j : Nat} (hk : j + (k + 1) = H) {q : Br} (hq : q ∈ lv j) {i : Nat} (hi : i < (nd q.2).bs.length) : R (stI nd k q i) ((nd q.2).bs[i].1, false) ∧ stI nd k q (i + 1) = lastI (U nd k (nd q.2).bs[i]) := by
  have hm : ∀ t (ht : t < (nd q.2).bs.length), (nd q.2).bs[t] ∈ lv (j + 1) := fun t ht => by
    rw [h.nx j (by omega)]; exact List.mem_flatMap.2 ⟨q, hq, List.getElem_mem ht⟩
  obtain ⟨t0, ht0⟩ := h.headU k (j + 1) (by omega) _ (hm i hi)
  obtain ⟨t1, ht1⟩ := h.headU (k + 1) j hk q hq
  have ho := h.ordU hk hq
  have hZ : ((q.1, false) :: U nd (k + 1) q).Pairwise R := by
    refine List.pairwise_cons.2 ⟨fun y hy => ?_, ho⟩
    rw [ht1] at hy ho
    rcases List.mem_cons.1 hy with rfl | hy
    · exact Or.inr ⟨rfl, rfl⟩
    · exact (List.pairwise_cons.1 ho).1 y hy
  have hsp : (nd q.2).bs = (nd q.2).bs.take i ++ (nd q.2).bs[i] :: (nd q.2).bs.drop (i + 1) := by
    conv => lhs; rw [← List.take_append_drop i (nd q.2).bs, List.drop_eq_getElem_cons hi]
  constructor
  · rw [U_succ, hsp, List.flatMap_append, List.flatMap_cons, ht0, ← List.cons_append] at hZ
    exact (List.pairwise_append.1 hZ).2.2 _ (lastI_mem (by simp)) _ (by simp)
  · unfold stI
    rw [List.take_succ_eq_append_getElem hi, List.flatMap_append, ← List.cons_append, List.flatMap_cons, List.flatMap_nil, List.append_nil]
    exact lastI_app (by rw [ht0]; simp)
theorem stI_end {nd : Nat → Nd} {r H : Nat} {lv : Nat → List Br} {dep : Nat → Nat} (h : Shape nd r H lv dep) {k j : Nat} (hk : j + (k + 1) = H) {q : Br} (hq : q ∈ lv j) : stI nd k q (nd q.2).bs.length = lastI (U nd (k + 1) q) := by
  obtain ⟨t1, ht1⟩ := h.headU (k + 1) j hk q hq
  unfold stI
  rw [List.take_length, ← U_succ, ht1]
  exact lastI_app (a := [(q.1, false)]) (b := (q.1, false) :: t1) (by simp)
/-- How far the keys were passed, as it lies. -/
def OB (w : World) (ob : Nat) (o : It) : Prop := w.heap[ob]? = some (.cells #[.string o.1, .bool o.2] 61 (0, 0))
theorem OB.cells {w : World} {ob : Nat} {o : It} (h : OB w ob o) : w.cell? ⟨ob, 0, none⟩ = some (.string o.1) ∧ w.cell? ⟨ob, 1, none⟩ = some (.bool o.2) ∧ ∀ x, w.frozen? ⟨ob, x, none⟩ = false :=
  ⟨by rw [cell_of_row w ob 0 _ _ _ h]; rfl, by rw [cell_of_row w ob 1 _ _ _ h]; rfl, frozen_row h⟩
theorem OB.below {w w' : World} {ob : Nat} {o : It} (h : OB w ob o) (hb : Below w.heap.size w w') : OB w' ob o := (hb.block ob (Array.getElem?_eq_some_iff.1 h).1).trans h
theorem OB.set {w : World} {ob : Nat} {o : It} (h : OB w ob o) (x : It) : OB ((w.setCell ⟨ob, 0, none⟩ (.string x.1)).setCell ⟨ob, 1, none⟩ (.bool x.2)) ob x := by
  have h1 : w.heap[ob]? = some (.cells (.string o.1 :: .bool o.2 :: []).toArray 61 (0, 0)) := h
  exact heap_set1 (heap_set0 h1 _) _
set_option maxHeartbeats 1000000 in
theorem passes_any {w : World} {ob : Nat} {o : It} (h : OB w ob o) (x : It) (hR : R o x) :
    Calls Try.prog 35 #[pt ob, .string x.1, .bool x.2] w fun e w' => e = .returned (.bool true) ∧ OB w' ob x ∧ Fr w w' (fun k => k = ob) := by
  have HS : Hid _ := h.set x
  have HF : Hid (Fr w ((w.setCell ⟨ob, 0, none⟩ (.string x.1)).setCell ⟨ob, 1, none⟩ (.bool x.2)) (fun k => k = ob)) := (fr_set w ob 0 _).trans (fr_set _ ob 1 _) (fun k hk => Or.inl hk)
  obtain ⟨c0, c1, f⟩ := h.cells
  have f0 := f 0
  have f1 := f 1
  obtain ⟨last, isk⟩ := o
  obtain ⟨nx, k⟩ := x
  simp only at *
  have hgt := gt_kl nx last
  clear h f
  rcases hR with hR | ⟨hR, hR2⟩
  · simp only at hR
    rw [hR] at hgt
    go_enter Try.func35, Try.ntmps35
    go_wp2
    go_ret
    exact ⟨rfl, HS.out, HF.out⟩
  · simp only at hR hR2
    subst hR hR2
    rw [kl_irrefl] at hgt
    go_enter Try.func35, Try.ntmps35
    go_wp2
    go_ret
    exact ⟨rfl, HS.out, HF.out⟩
end Go.Proofs.Ytfobcnmhghfanaa

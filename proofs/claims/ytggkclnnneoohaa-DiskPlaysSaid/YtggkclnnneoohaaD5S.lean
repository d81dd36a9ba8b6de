/- What the law DiskSafe keeps beside the disk: what stood there, and what was written since, sector by sector. -/
import Derived.Test.YtggkclnnneoohaaD5H
namespace Go.Proofs.Ytggkclnnneoohaa
open Go.RowKit Go.Maps
set_option linter.unusedVariables false
set_option linter.unusedSimpArgs false

abbrev sl (k : Nat) : Value := .slice (some ⟨k, 0, none⟩) 128 128
/-- Eight lists of bytes in a block, the first j of them sectors. -/
structure Was (w : World) (B T : Nat) (j : Nat) (vs : Nat → Value) (f : Int → List UInt8) : Prop where
  hB : w.heap[B]? = some (.cells #[vs 0, vs 1, vs 2, vs 3, vs 4, vs 5, vs 6, vs 7] 46 (0, 0))
  rows : ∀ i, i < j → ∃ k, vs i = sl k ∧ RowB w k (f i) ∧ B < k ∧ k < T
  BT : B < T
theorem Was.keep {w w' : World} {B T j : Nat} {vs : Nat → Value} {f : Int → List UInt8} {F : Nat → Prop} (h : Was w B T j vs f) (hf : Fr w w' F) (hF : ∀ k, F k → k < B ∨ T ≤ k) : Was w' B T j vs f := by
  have lt : B < w.heap.size := (Array.getElem?_eq_some_iff.1 h.hB).1
  refine ⟨(hf.block B lt (fun x => by have := hF B x; have := h.BT; omega)).trans h.hB, fun i hi => ?_, h.BT⟩
  obtain ⟨k, h1, h2, h3, h4⟩ := h.rows i hi
  exact ⟨k, h1, (hf.block k h2.lt (fun x => by have := hF k x; omega)).trans h2, h3, h4⟩
theorem Was.cell {w : World} {B T j : Nat} {vs : Nat → Value} {f : Int → List UInt8} (h : Was w B T j vs f) (i : Nat) (hi : i < 8) : w.cell? ⟨B, i, none⟩ = some (vs i) := by
  rw [cell_of_row w B i _ _ _ h.hB]
  match i, hi with
  | 0, _ => rfl
  | 1, _ => rfl
  | 2, _ => rfl
  | 3, _ => rfl
  | 4, _ => rfl
  | 5, _ => rfl
  | 6, _ => rfl
  | 7, _ => rfl
/-- One of eight turned. -/
def upd8 {α : Type} (vs : Nat → α) (i : Nat) (v : α) : Nat → α := fun j => if j = i then v else vs j
theorem set8 {t : TypeId} {w : World} {B i : Nat} (hi : i < 8) (vs : Nat → Value) (v : Value) (h : w.heap[B]? = some (.cells #[vs 0, vs 1, vs 2, vs 3, vs 4, vs 5, vs 6, vs 7] t (0, 0))) :
    (w.setCell ⟨B, i, none⟩ v).heap[B]? = some (.cells #[upd8 vs i v 0, upd8 vs i v 1, upd8 vs i v 2, upd8 vs i v 3, upd8 vs i v 4, upd8 vs i v 5, upd8 vs i v 6, upd8 vs i v 7] t (0, 0)) := by
  rw [setCell_eq_setRow w B i _ _ _ v h, setRow_heap w B _ _ _ _ h]
  match i, hi with
  | 0, _ => rfl
  | 1, _ => rfl
  | 2, _ => rfl
  | 3, _ => rfl
  | 4, _ => rfl
  | 5, _ => rfl
  | 6, _ => rfl
  | 7, _ => rfl
theorem Was.put {w : World} {B T j : Nat} {vs : Nat → Value} {f : Int → List UInt8} (h : Was w B T j vs f) (hj : j < 8) (k : Nat) (hk : RowB w k (f j)) (hBk : B < k) (T' : Nat) (hT : T ≤ T') (hkT : k < T') : Was (w.setCell ⟨B, j, none⟩ (sl k)) B T' (j + 1) (upd8 vs j (sl k)) f := by
  refine ⟨set8 hj vs (sl k) h.hB, fun i hi => ?_, Nat.lt_of_lt_of_le h.BT hT⟩
  unfold upd8
  by_cases e : i = j
  · subst e
    exact ⟨k, by simp, (Below.heap_setCell _ _ _ _ (fun e => by simp at e; omega)).trans hk, hBk, hkT⟩
  · obtain ⟨k', h1, h2, h3, h4⟩ := h.rows i (by omega)
    exact ⟨k', by simp [e, h1], (Below.heap_setCell _ _ _ _ (fun e => by simp at e; omega)).trans h2, h3, by omega⟩

/-- Eight rows of sectors. -/
structure May (w : World) (B base : Nat) (G : Nat → Prop) (vs : Nat → Value) (L : Nat → List (List UInt8)) : Prop where
  hB : w.heap[B]? = some (.cells #[vs 0, vs 1, vs 2, vs 3, vs 4, vs 5, vs 6, vs 7] 48 (0, 0))
  rows : ∀ i, i < 8 → ∃ ks : List Nat, w.ownsRow base 32 1 (vs i) (L i).length (ks.map sl) ∧ ks.length = (L i).length ∧ ∀ j (h : j < ks.length) (h' : j < (L i).length), RowB w ks[j] (L i)[j] ∧ G ks[j] ∧ ((L i)[j]).length = 128
  gB : G B
  gv : ∀ i, i < 8 → ∀ k, (vs i).ownBlock = some k → G k
  ne : ∀ i j, i < 8 → j < 8 → i ≠ j → ∀ k, (vs i).ownBlock = some k → (vs j).ownBlock ≠ some k
  lo : ∀ k, G k → base ≤ k ∧ k < w.heap.size
theorem May.keep {w w' : World} {B base : Nat} {G F : Nat → Prop} {vs : Nat → Value} {L : Nat → List (List UInt8)} (h : May w B base G vs L) (hf : Fr w w' F) (hd : ∀ k, G k → ¬ F k) : May w' B base G vs L := by
  have hb : ∀ k, G k → w'.heap[k]? = w.heap[k]? := fun k hk => hf.block k (h.lo k hk).2 (hd k hk)
  refine ⟨(hb B h.gB).trans h.hB, fun i hi => ?_, h.gB, h.gv, h.ne, fun k hk => ⟨(h.lo k hk).1, Nat.lt_of_lt_of_le (h.lo k hk).2 hf.size⟩⟩
  obtain ⟨ks, h1, h2, h3⟩ := h.rows i hi
  exact ⟨ks, own_of_block h1 (fun k hk => hb k (h.gv i hi k hk)), h2, fun j hj hj' => ⟨(hb _ (h3 j hj hj').2.1).trans (h3 j hj hj').1, (h3 j hj hj').2⟩⟩
theorem May.cell {w : World} {B base : Nat} {G : Nat → Prop} {vs : Nat → Value} {L : Nat → List (List UInt8)} (h : May w B base G vs L) (i : Nat) (hi : i < 8) : w.cell? ⟨B, i, none⟩ = some (vs i) := by
  rw [cell_of_row w B i _ _ _ h.hB]
  match i, hi with
  | 0, _ => rfl
  | 1, _ => rfl
  | 2, _ => rfl
  | 3, _ => rfl
  | 4, _ => rfl
  | 5, _ => rfl
  | 6, _ => rfl
  | 7, _ => rfl
/-- The block of a row that is owned, and of which type it is. -/
theorem own_block {base : Nat} {w : World} {e n k b : Nat} {v : Value} {xs : List Value} (h : w.ownsRow base e n v k xs) (hb : v.ownBlock = some b) : ∃ cur, w.heap[b]? = some (.cells cur e (0, 0)) := by
  rcases h.2 with ⟨hv, _⟩ | ⟨g, cap, cur, hv, _, hh, _⟩
  · rw [hv] at hb; cases hb
  · rw [hv] at hb
    have : g = b := by simpa [Value.ownBlock] using hb
    exact ⟨cur, this ▸ hh⟩
theorem May.nB {w : World} {B base : Nat} {G : Nat → Prop} {vs : Nat → Value} {L : Nat → List (List UInt8)} (h : May w B base G vs L) (i : Nat) (hi : i < 8) : (vs i).ownBlock ≠ some B := fun e => by
  obtain ⟨ks, h1, _⟩ := h.rows i hi
  obtain ⟨cur, hh⟩ := own_block h1 e
  rw [h.hB] at hh
  cases hh
/-- A sector more in row i. -/
theorem May.put {w wF wA w4 : World} {B base : Nat} {G : Nat → Prop} {vs : Nat → Value} {L : Nat → List (List UInt8)} (h : May w B base G vs L) {i : Nat} (hi : i < 8) {s : List UInt8} (hs : s.length = 128) {kF gk cap : Nat} {ks : List Nat}
    (hF : Below w.heap.size w wF) (hr : RowB wF kF s) (hkF : w.heap.size ≤ kF) (hA : Below wF.heap.size wF wA) (h4 : wA.grownBy w4 (vs i).ownBlock) (hks : ks.length = (L i).length) (hks3 : ∀ j (h : j < ks.length) (h' : j < (L i).length), RowB w ks[j] (L i)[j] ∧ G ks[j] ∧ ((L i)[j]).length = 128)
    (hown : w4.ownsRow base 32 1 (.slice (some ⟨gk, 0, none⟩) ((L i).length + 1) cap) ((L i).length + 1) (ks.map sl ++ [sl kF])) (hk : (vs i).ownBlock = some gk ∨ gk = wA.heap.size) (hbase : base ≤ w.heap.size) :
    May (w4.setCell ⟨B, i, none⟩ (.slice (some ⟨gk, 0, none⟩) ((L i).length + 1) cap)) B base (fun k => G k ∨ w.heap.size ≤ k ∧ k < w4.heap.size) (upd8 vs i (.slice (some ⟨gk, 0, none⟩) ((L i).length + 1) cap)) (upd8 L i (L i ++ [s])) ∧ Fr w (w4.setCell ⟨B, i, none⟩ (.slice (some ⟨gk, 0, none⟩) ((L i).length + 1) cap)) G := by
  have sF := hF.size
  have sA := hA.size
  have s4 := h4.size
  have hBl := (h.lo B h.gB).2
  have k4 : ∀ k, k < wA.heap.size → some k ≠ (vs i).ownBlock → w4.heap[k]? = wA.heap[k]? := fun k hk hne => h4.block k hk hne
  have kw : ∀ k, k < w.heap.size → some k ≠ (vs i).ownBlock → w4.heap[k]? = w.heap[k]? := fun k hk hne => ((k4 k (by omega) hne).trans (hA.block k (by omega))).trans (hF.block k hk)
  have k5 : ∀ k, k ≠ B → (w4.setCell ⟨B, i, none⟩ (.slice (some ⟨gk, 0, none⟩) ((L i).length + 1) cap)).heap[k]? = w4.heap[k]? := fun k hne => Below.heap_setCell _ _ _ _ (fun e => hne e)
  have e5 : (w4.setCell ⟨B, i, none⟩ (.slice (some ⟨gk, 0, none⟩) ((L i).length + 1) cap)).heap.size = w4.heap.size := by simp [World.setCell]
  have hB4 : w4.heap[B]? = w.heap[B]? := kw B hBl (fun e => h.nB i hi e.symm)
  have hkFl := hr.lt
  have ownlt : ∀ b, (vs i).ownBlock = some b → b < w.heap.size := fun b hb => (h.lo b (h.gv i hi b hb)).2
  have hkFo : some kF ≠ (vs i).ownBlock := fun e => by have := ownlt kF e.symm; omega
  have hgkB : gk ≠ B := by
    rcases hk with hk | hk
    · intro e; exact h.nB i hi (by rw [hk, e])
    · omega
  have rowk : ∀ b s', RowB w b s' → G b → RowB (w4.setCell ⟨B, i, none⟩ (.slice (some ⟨gk, 0, none⟩) ((L i).length + 1) cap)) b s' := fun b s' hb hG => by
    refine (k5 b fun e => ?_).trans ((kw b hb.lt fun e => ?_).trans hb)
    · have := h.hB
      rw [← e, hb] at this
      simp at this
    · obtain ⟨ks', h1, _⟩ := h.rows i hi
      obtain ⟨cur, hh⟩ := own_block h1 e.symm
      rw [hb] at hh
      cases hh
  refine ⟨⟨set8 hi vs _ (hB4.trans h.hB), fun i' hi' => ?_, Or.inl h.gB, fun i' hi' k hk' => ?_, fun a b ha hb hab k hka => ?_, fun k hk' => ?_⟩, ?_⟩
  · by_cases e : i' = i
    · subst e
      refine ⟨ks ++ [kF], ?_, by simp [upd8, hks], fun j hj hj' => ?_⟩
      · have : (upd8 L i' (L i' ++ [s]) i').length = (L i').length + 1 := by simp [upd8]
        rw [this]
        simp only [upd8, if_true, List.map_append, List.map_cons, List.map_nil]
        refine own_of_block hown (fun b hb => k5 b ?_)
        have : gk = b := by simpa [Value.ownBlock] using hb
        rw [← this]; exact hgkB
      · have hL : upd8 L i' (L i' ++ [s]) i' = L i' ++ [s] := by simp [upd8]
        simp only [hL]
        by_cases hj2 : j < ks.length
        · rw [List.getElem_append_left hj2, List.getElem_append_left (by omega)]
          obtain ⟨a1, a2, a3⟩ := hks3 j hj2 (by omega)
          exact ⟨rowk _ _ a1 a2, Or.inl a2, a3⟩
        · have hj3 : j = ks.length := by simp at hj; omega
          subst hj3
          rw [List.getElem_append_right (Nat.le_refl _), List.getElem_append_right (by omega)]
          simp only [Nat.sub_self, List.getElem_cons_zero, hks]
          refine ⟨(k5 kF (by omega)).trans ((k4 kF (by omega) hkFo).trans ((hA.block kF hkFl).trans hr)), Or.inr ⟨hkF, by omega⟩, hs⟩
    · obtain ⟨ks', h1, h2, h3⟩ := h.rows i' hi'
      have e1 : upd8 vs i (.slice (some ⟨gk, 0, none⟩) ((L i).length + 1) cap) i' = vs i' := by simp [upd8, e]
      have e2 : upd8 L i (L i ++ [s]) i' = L i' := by simp [upd8, e]
      rw [e1, e2]
      refine ⟨ks', own_of_block h1 (fun b hb => (k5 b fun e' => h.nB i' hi' (by rw [hb, e'])).trans (kw b (h.lo b (h.gv i' hi' b hb)).2 fun e' => h.ne i' i hi' hi e b hb e'.symm)), h2, fun j hj hj' => ?_⟩
      obtain ⟨a1, a2, a3⟩ := h3 j hj hj'
      exact ⟨rowk _ _ a1 a2, Or.inl a2, a3⟩
  · by_cases e : i' = i
    · subst e
      have : gk = k := by simpa [upd8, Value.ownBlock] using hk'
      subst this
      rcases hk with hk | hk
      · exact Or.inl (h.gv i' hi' _ hk)
      · refine Or.inr ⟨by omega, ?_⟩
        obtain ⟨cur, hh⟩ := own_block hown rfl
        exact (Array.getElem?_eq_some_iff.1 hh).1
    · exact Or.inl (h.gv i' hi' k (by simpa [upd8, e] using hk'))
  · have hgkw : ∀ a, a < 8 → a ≠ i → (vs a).ownBlock ≠ some gk := fun a ha hai e => by
      rcases hk with hk | hk
      · exact h.ne a i ha hi hai gk e hk
      · have := (h.lo gk (h.gv a ha gk e)).2; omega
    by_cases ea : a = i
    · subst ea
      have : gk = k := by simpa [upd8, Value.ownBlock] using hka
      subst this
      have : upd8 vs a (.slice (some ⟨gk, 0, none⟩) ((L a).length + 1) cap) b = vs b := by simp [upd8, Ne.symm hab]
      rw [this]
      exact hgkw b hb (Ne.symm hab)
    · have hka' : (vs a).ownBlock = some k := by simpa [upd8, ea] using hka
      by_cases eb : b = i
      · subst eb
        have : upd8 vs b (.slice (some ⟨gk, 0, none⟩) ((L b).length + 1) cap) b = .slice (some ⟨gk, 0, none⟩) ((L b).length + 1) cap := by simp [upd8]
        rw [this]
        intro e
        have : gk = k := by simpa [Value.ownBlock] using e
        subst this
        exact hgkw a ha ea hka'
      · have : upd8 vs i (.slice (some ⟨gk, 0, none⟩) ((L i).length + 1) cap) b = vs b := by simp [upd8, eb]
        rw [this]
        exact h.ne a b ha hb hab k hka'
  · rw [e5]
    rcases hk' with hk' | hk'
    · exact ⟨(h.lo k hk').1, by have := (h.lo k hk').2; omega⟩
    · exact ⟨by omega, hk'.2⟩
  · refine ⟨?_, ?_, ?_, by rw [e5]; omega, fun k hk' hG => ?_⟩
    · exact (h4.os.trans hA.os).trans hF.os
    · exact (h4.tape.trans hA.tape).trans hF.tape
    · exact (h4.output.trans hA.output).trans hF.output
    · exact (k5 k (fun e => hG (by rw [e]; exact h.gB))).trans (kw k hk' (fun e => hG (h.gv i hi k e.symm)))
theorem infoSl : (Try.prog.info? 32).map (fun i => (i.zero, i.size, i.bytes)) = some (some (.slice none 0 0), 1, 24) := by kernel_rfl
/-- append, in a region that draws its order, of one slice that was laid now. -/
theorem step_appS (w : World) {ops : Array Oper} {o : Oper} {a : Act} {K : Act → World → Prop} {Q : Exit → Act → World → Prop} {E : Prop} (hgd : o.guard = none) (s x : Operand)
    (ho : o.op = .call { callee := .builtin .append, args := #[s, x], argTypes := #[47, 47] })
    (base : Nat) (v : Value) (n : Nat) (xs : List Value) (hs : a.eval s = v) (hown : w.ownsRow base 32 1 v n xs) (u : Value) (hu : u.oneCell' = true) (B : Nat) (hx : a.eval x = .slice (some ⟨B, 0, none⟩) 1 1) (hB : w.cell? ⟨B, 0, none⟩ = some u)
    (hl : n ≤ 1000000) (hbase : base ≤ w.heap.size)
    (h : ∀ gk cap w', w'.ownsRow base 32 1 (.slice (some ⟨gk, 0, none⟩) (n + 1) cap) (n + 1) (xs ++ [u]) → w.grownBy w' v.ownBlock → (v.ownBlock = some gk ∨ gk = w.heap.size) → K (a.put o.dst (.slice (some ⟨gk, 0, none⟩) (n + 1) cap)) w') :
    if Region.wanted o (yielded ops a.tmps) = true then Oper.wp Try.prog o a w K Q else E := by
  obtain ⟨i0, hi, hz0, hz1, hz2⟩ := info_parts infoSl
  refine step_append_lies w hgd s x 47 ho base 32 i0 _ 1 24 Try.underlying47 hi hz0 hz1 hz2 rfl (by decide) v n xs hs hown ⟨B, 0, none⟩ 1 1 [u] hx rfl ?_ (by intro y hy; rw [List.mem_singleton.1 hy]; exact hu) (by decide) (by unfold maxLen; omega) (by omega) hbase w.heap.size rfl ?_
  · intro j y hy
    match j, hy with
    | 0, hy =>
      rw [Addr.add_mid]
      simp only [List.getElem?_cons_zero, Option.some.injEq] at hy
      rw [← hy]; exact hB
    | j + 1, hy => simp at hy
  · intro gk cap w' h1 h2 h3 _
    exact h gk cap w' h1 h2 h3
/-- What was written to sector i. -/
def secsOf (later : List W3) (i : Nat) : List (List UInt8) := (later.filter (fun x => decide (x.place = (i : Int)))).map (·.sec)
theorem secsOf_put (later : List W3) (i : Nat) (s : List UInt8) (sf : Int) : secsOf (later ++ [⟨(i : Int), s, sf⟩]) = upd8 (secsOf later) i (secsOf later i ++ [s]) := by
  funext j
  unfold secsOf upd8
  by_cases e : j = i
  · subst e; simp
  · have : ¬ ((i : Int) = (j : Int)) := by omega
    simp [e, this]
theorem fold_left (ks : List Bool) (safe : Nat) (i : Int) : ∀ (l : List W3) (k : Nat) (f : Int → List UInt8),
    (l.zipIdx k).foldl (fun f x => if leftB ks safe x.2 then upd f x.1.place x.1.sec else f) f i = f i ∨ ∃ x ∈ l, x.place = i ∧ (l.zipIdx k).foldl (fun f x => if leftB ks safe x.2 then upd f x.1.place x.1.sec else f) f i = x.sec
  | [], k, f => Or.inl rfl
  | a :: l, k, f => by
    rw [List.zipIdx_cons, List.foldl_cons]
    rcases fold_left ks safe i l (k + 1) (if leftB ks safe k then upd f a.place a.sec else f) with h | ⟨x, hx, h1, h2⟩
    · rw [h]
      cases leftB ks safe k
      · exact Or.inl rfl
      · simp only [if_true, upd]
        by_cases e : i = a.place
        · right; exact ⟨a, by simp, e.symm, by simp [e]⟩
        · left; simp [e]
    · exact Or.inr ⟨x, by simp [hx], h1, h2⟩
theorem cut_safe {D : DS} (h : Whole D) (ks : List Bool) (later : List W3) (i : Nat) : cutF ks D.ws.length D.first (D.ws ++ later) i = D.now i ∨ cutF ks D.ws.length D.first (D.ws ++ later) i ∈ secsOf later i := by
  have key : ∀ (l : List (W3 × Nat)) (f : Int → List UInt8), (∀ x ∈ l, leftB ks D.ws.length x.2 = true) → l.foldl (fun f x => if leftB ks D.ws.length x.2 then upd f x.1.place x.1.sec else f) f = l.foldl (fun f x => upd f x.1.place x.1.sec) f := by
    intro l
    induction l with
    | nil => intro f _; rfl
    | cons a l ih =>
      intro f hl
      rw [List.foldl_cons, List.foldl_cons, hl a (by simp), if_pos rfl]
      exact ih _ (fun x hx => hl x (by simp [hx]))
  unfold cutF
  rw [List.zipIdx_append, List.foldl_append, key (D.ws.zipIdx) D.first (fun x hx => by
    have := List.snd_lt_of_mem_zipIdx hx
    simp [leftB] at this ⊢
    omega), fold_idx (fun f (x : W3) => upd f x.place x.sec), ← h.now]
  rcases fold_left ks D.ws.length i later (0 + D.ws.length) D.now with h1 | ⟨x, hx, h1, h2⟩
  · exact Or.inl h1
  · right
    rw [h2]
    exact List.mem_map.2 ⟨x, List.mem_filter.2 ⟨hx, by simpa using h1⟩, rfl⟩
/-- Where the later writes stand. -/
structure Mid3 (w wr : World) (p : Value) (B T : Nat) (wv : Nat → Value) (D1 D2 : DS) (later : List W3) (k : Nat) : Prop where
  ex : ∃ F G vs, DiskAt w.heap.size wr F p 0 D2 ∧ May wr T w.heap.size G vs (secsOf later) ∧ (∀ k, F k → ¬ G k) ∧ (∀ k, F k → k < B ∨ T ≤ k) ∧ (∀ k, G k → T ≤ k)
  was : Was wr B T 8 wv D1.now
  ws : D2.ws = D1.ws ++ later
  first : D2.first = D1.first
  size : D2.size = 8
  safe : D2.safe = D1.ws.length
  below : Below w.heap.size w wr
  len : later.length ≤ k
theorem May.new {w : World} {B base : Nat} (h : w.heap[B]? = some (.cells #[.slice none 0 0, .slice none 0 0, .slice none 0 0, .slice none 0 0, .slice none 0 0, .slice none 0 0, .slice none 0 0, .slice none 0 0] 48 (0, 0))) (hb : base ≤ B) :
    May w B base (fun k => k = B) (fun _ => .slice none 0 0) (secsOf []) :=
  ⟨h, fun i _ => ⟨[], World.ownsRow_nil _ _ _ _, rfl, (fun j hj => by simp at hj)⟩, rfl, (fun i _ k hk => by cases hk), (fun i j _ _ _ k hk => by cases hk), (fun k hk => by subst hk; exact ⟨hb, (Array.getElem?_eq_some_iff.1 h).1⟩)⟩
theorem writeE_zero {size i : Int} {xs : List UInt8} (h : writeE size i xs = 0) : (0 ≤ i ∧ i < size) ∧ xs.length ≤ 128 := by
  unfold writeE at h
  split at h
  · rename_i h1
    split at h
    · rename_i h2; exact ⟨h1, h2⟩
    · cases h
  · cases h
theorem write_not {D : DS} {i : Int} {xs : List UInt8} (h : writeE D.size i xs ≠ 0) : D.write i xs = D := by
  unfold writeE at h
  unfold DS.write
  rw [if_neg]
  rintro ⟨h1, h2⟩
  rw [if_pos h1, if_pos h2] at h
  exact h rfl
/-- Behind a later Write that was refused. -/
theorem Mid3.refused {w wr wb : World} {p : Value} {B T : Nat} {wv : Nat → Value} {D1 D2 : DS} {later : List W3} {k : Nat} (h : Mid3 w wr p B T wv D1 D2 later k) {F G : Nat → Prop} {vs : Nat → Value} (hD : DiskAt w.heap.size wr F p 0 D2) (hM : May wr T w.heap.size G vs (secsOf later)) (hd : ∀ k, F k → ¬ G k) (hF : ∀ k, F k → k < B ∨ T ≤ k) (hG : ∀ k, G k → T ≤ k)
    (ht : Turned w.heap.size wr F p 0 D2 wb) (hT : T ≤ wr.heap.size) : Mid3 w wb p B T wv D1 D2 later (k + 1) := by
  obtain ⟨F', h1, h2, h3⟩ := ht
  have hlo := hM.lo
  refine ⟨⟨F', G, vs, h1, hM.keep h2 (fun k hk hF' => hd k hF' hk), fun k hk hg => ?_, fun k hk => ?_, hG⟩, h.was.keep h2 hF, h.ws, h.first, h.size, h.safe, h.below.trans (h2.below h.below.size (fun k hk => (hD.lo k hk).1)), by have := h.len; omega⟩
  · rcases h3 k hk with h4 | h4
    · exact hd k h4 hg
    · have := (hlo k hg).2; omega
  · rcases h3 k hk with h4 | h4
    · exact hF k h4
    · right; omega
/-- Behind one that was not, ahead of its being noted. -/
structure Mid3b (w wb : World) (p : Value) (B T : Nat) (wv : Nat → Value) (D1 D3 : DS) (later : List W3) (y : W3) (k : Nat) (F G : Nat → Prop) (vs : Nat → Value) : Prop where
  disk : DiskAt w.heap.size wb F p 0 D3
  may : May wb T w.heap.size G vs (secsOf later)
  dis : ∀ k, F k → ¬ G k
  hF : ∀ k, F k → k < B ∨ T ≤ k
  hG : ∀ k, G k → T ≤ k
  was : Was wb B T 8 wv D1.now
  ws : D3.ws = D1.ws ++ (later ++ [y])
  first : D3.first = D1.first
  size : D3.size = 8
  safe : D3.safe = D1.ws.length
  below : Below w.heap.size w wb
  len : later.length ≤ k
theorem Mid3.wrote {w wr wb : World} {p : Value} {B T : Nat} {wv : Nat → Value} {D1 D2 : DS} {later : List W3} {k : Nat} (h : Mid3 w wr p B T wv D1 D2 later k) {F G : Nat → Prop} {vs : Nat → Value} (hD : DiskAt w.heap.size wr F p 0 D2) (hM : May wr T w.heap.size G vs (secsOf later)) (hd : ∀ k, F k → ¬ G k) (hF : ∀ k, F k → k < B ∨ T ≤ k) (hG : ∀ k, G k → T ≤ k)
    {i : Int} {xs : List UInt8} (hi : (0 ≤ i ∧ i < D2.size) ∧ xs.length ≤ 128) (ht : Turned w.heap.size wr F p 0 (D2.write i xs) wb) (hT : T ≤ wr.heap.size) : ∃ F', Mid3b w wb p B T wv D1 (D2.write i xs) later ⟨i, full xs, D2.safe⟩ k F' G vs := by
  obtain ⟨F', h1, h2, h3⟩ := ht
  have hlo := hM.lo
  have e : D2.write i xs = { D2 with now := upd D2.now i (full xs), ws := D2.ws ++ [⟨i, full xs, D2.safe⟩] } := by rw [DS.write, if_pos hi]
  refine ⟨F', ⟨h1, hM.keep h2 (fun k hk hF' => hd k hF' hk), fun k hk hg => ?_, fun k hk => ?_, hG, h.was.keep h2 hF, by rw [e]; simp [h.ws], by rw [e]; exact h.first, by rw [e]; exact h.size, by rw [e]; exact h.safe, h.below.trans (h2.below h.below.size (fun k hk => (hD.lo k hk).1)), h.len⟩⟩
  · rcases h3 k hk with h4 | h4
    · exact hd k h4 hg
    · have := (hlo k hg).2; omega
  · rcases h3 k hk with h4 | h4
    · exact hF k h4
    · right; omega
theorem Mid3b.noted {w wb w5 : World} {p : Value} {B T : Nat} {wv : Nat → Value} {D1 D3 : DS} {later : List W3} {i : Nat} {s : List UInt8} {sf : Int} {k : Nat} {F G G' : Nat → Prop} {vs vs' : Nat → Value} (h : Mid3b w wb p B T wv D1 D3 later ⟨(i : Int), s, sf⟩ k F G vs)
    (hM : May w5 T w.heap.size G' vs' (upd8 (secsOf later) i (secsOf later i ++ [s]))) (hfr : Fr wb w5 G) (hG' : ∀ k, G' k → G k ∨ wb.heap.size ≤ k) (hT : T ≤ wb.heap.size) : Mid3 w w5 p B T wv D1 D3 (later ++ [⟨(i : Int), s, sf⟩]) (k + 1) := by
  refine ⟨⟨F, G', vs', h.disk.keep hfr h.dis, by rw [secsOf_put]; exact hM, fun k hk hg => ?_, h.hF, fun k hk => ?_⟩, h.was.keep hfr (fun k hk => Or.inr (h.hG k hk)), h.ws, h.first, h.size, h.safe, h.below.trans (hfr.below h.below.size (fun k hk => (h.may.lo k hk).1)), by have := h.len; simp; omega⟩
  · rcases hG' k hg with h4 | h4
    · exact h.dis k hk h4
    · have := (h.disk.lo k hk).2; omega
  · rcases hG' k hk with h4 | h4
    · exact h.hG k h4
    · omega
theorem May.row {w : World} {B base : Nat} {G : Nat → Prop} {vs : Nat → Value} {L : Nat → List (List UInt8)} (h : May w B base G vs L) (i : Nat) (hi : i < 8) :
    ∃ ao cap, vs i = .slice ao (L i).length cap ∧ (L i).length ≤ cap ∧ ∀ q (hq : q < (L i).length), ∃ gq kq, ao = some ⟨gq, 0, none⟩ ∧ w.cell? ⟨gq, q, none⟩ = some (sl kq) ∧ RowB w kq (L i)[q] ∧ ((L i)[q]).length = 128 := by
  obtain ⟨kr, h1, h2, h3⟩ := h.rows i hi
  rcases h1.2 with ⟨hv, hn⟩ | ⟨g, cap, cur, hv, hg, hh, hc, hm, hs, hx⟩
  · exact ⟨none, 0, by rw [hv, hn], by omega, fun q hq => by omega⟩
  · refine ⟨_, cap, hv, hc, fun q hq => ⟨g, kr[q]'(by omega), rfl, ?_, (h3 q (by omega) hq).1, (h3 q (by omega) hq).2.2⟩⟩
    rw [cell_of_row w g q cur _ _ hh]
    have : (cur.toList.take ((L i).length * 1))[q]? = some (sl (kr[q]'(by omega))) := by rw [hx]; simp [h2, hq]
    rw [List.getElem?_take, if_pos (by omega)] at this
    simpa using this
/-- Is one of the first q as this? -/
def anyQ (l : List (List UInt8)) (s : List UInt8) (q : Nat) : Bool := (l.take q).any (fun t => decide (s = t))
theorem anyQ_succ (l : List (List UInt8)) (s : List UInt8) (q : Nat) (h : q < l.length) : anyQ l s (q + 1) = (anyQ l s q || decide (s = l[q])) := by
  unfold anyQ
  rw [List.take_succ_eq_append_getElem h, List.any_append]
  simp
theorem anyQ_all {l : List (List UInt8)} {s : List UInt8} (h : s ∈ l) : anyQ l s l.length = true := by
  unfold anyQ
  rw [List.take_length, List.any_eq_true]
  exact ⟨s, h, by simp⟩
end Go.Proofs.Ytggkclnnneoohaa

/- The arrays of the law PoolFirst as they lie: what was put last, all that was put. -/
import Derived.Test.YtpmbpadckbkglaaP7X
namespace Go.Proofs.Ytpmbpadckbkglaa
open Go.RowKit Go.Maps
set_option linter.unusedVariables false
set_option linter.unusedSimpArgs false

/-- Steps that the call keeps in a row. -/
def OwnP (base : Nat) (w : World) (v : Value) (l : List OpP) : Prop := w.ownsRow base 45 4 v l.length (l.flatMap cellsP)
theorem infoP : (Try.prog.info? 45).map (fun i => (i.zero, i.size, i.bytes)) = some (some (.agg #[.int .i64 0, .int .i64 0, .int .u8 0, .int .u64 0]), 4, 32) := by kernel_rfl
theorem one_cellsP (x : OpP) : ∀ u ∈ cellsP x, u.oneCell' = true := by
  intro u hu
  simp only [cellsP, List.mem_cons, List.not_mem_nil, or_false] at hu
  rcases hu with rfl | rfl | rfl | rfl <;> rfl
theorem step_appP (w : World) {ops : Array Oper} {o : Oper} {a : Act} {K : Act → World → Prop} {Q : Exit → Act → World → Prop} {E : Prop} (hgd : o.guard = none) (s x : Operand)
    (ho : o.op = .call { callee := .builtin .append, args := #[s, x], argTypes := #[24, 24] })
    (base : Nat) (v : Value) (l : List OpP) (hs : a.eval s = v) (hown : OwnP base w v l) (y : OpP) (B : Nat) (hx : a.eval x = .slice (some ⟨B, 0, none⟩) 1 1) (hB : w.heap[B]? = some (.cells (cellsP y).toArray 45 (0, 0)))
    (hl : l.length ≤ 1000000) (hbase : base ≤ w.heap.size)
    (h : ∀ gk cap w', OwnP base w' (.slice (some ⟨gk, 0, none⟩) (l.length + 1) cap) (l ++ [y]) → w.grownBy w' v.ownBlock → (v.ownBlock = some gk ∨ gk = w.heap.size) → K (a.put o.dst (.slice (some ⟨gk, 0, none⟩) (l.length + 1) cap)) w') :
    if Region.wanted o (yielded ops a.tmps) = true then Oper.wp Try.prog o a w K Q else E := by
  obtain ⟨i0, hi, hz0, hz1, hz2⟩ := info_parts infoP
  refine step_append_lies w hgd s x 24 ho base 45 i0 _ 4 32 Try.underlying24 hi hz0 hz1 hz2 (by simp [Value.cells]) (by decide) v l.length (l.flatMap cellsP) hs hown ⟨B, 0, none⟩ 1 1 (cellsP y) hx rfl (new_cells hB) (one_cellsP y) (by decide) (by unfold maxLen; omega) (by omega) hbase w.heap.size rfl ?_
  intro gk cap w' h1 h2 h3 _
  refine h gk cap w' ?_ h2 h3
  unfold OwnP
  rw [List.length_append, List.flatMap_append]
  simpa using h1
structure LS7 (w wr : World) (L U : Nat) (lb : Nat → Nat) (lc : Nat → List UInt8) (pv : Nat → Value) (pl : Nat → List OpP) (Z : Nat → Prop) : Prop where
  rl : wr.rowIs L 54 6 (fun j => .slice (some ⟨lb j, 0, none⟩) 2048 2048)
  ru : wr.rowIs U 56 6 pv
  lbs : ∀ j, j < 6 → RowB wr (lb j) (lc j)
  len : ∀ j, j < 6 → (lc j).length = 2048
  pvs : ∀ j, j < 6 → OwnP w.heap.size wr (pv j) (pl j)
  dist : ∀ i j, i < 6 → j < 6 → i ≠ j → ∀ c, (pv i).ownBlock = some c → (pv j).ownBlock ≠ some c
  zl : Z L
  zu : Z U
  zb : ∀ j, j < 6 → Z (lb j)
  zp : ∀ j, j < 6 → ∀ c, (pv j).ownBlock = some c → Z c
  lo : ∀ i, Z i → w.heap.size ≤ i ∧ i < wr.heap.size
theorem LS7.keep {w wr w' : World} {L U : Nat} {lb : Nat → Nat} {lc : Nat → List UInt8} {pv : Nat → Value} {pl : Nat → List OpP} {Z H : Nat → Prop} (h : LS7 w wr L U lb lc pv pl Z) (hf : Fr wr w' H) (hd : ∀ i, Z i → ¬ H i) : LS7 w w' L U lb lc pv pl Z := by
  have hb : ∀ i, Z i → w'.heap[i]? = wr.heap[i]? := fun i hi => hf.block i (h.lo i hi).2 (hd i hi)
  exact { h with
    rl := h.rl.of_block (hb L h.zl)
    ru := h.ru.of_block (hb U h.zu)
    lbs := fun j hj => (hb _ (h.zb j hj)).trans (h.lbs j hj)
    pvs := fun j hj => own_of_block (h.pvs j hj) (fun c hc => hb c (h.zp j hj c hc))
    lo := fun i hi => ⟨(h.lo i hi).1, Nat.lt_of_lt_of_le (h.lo i hi).2 hf.size⟩ }
theorem LS7.keepB {w wr w' : World} {L U : Nat} {lb : Nat → Nat} {lc : Nat → List UInt8} {pv : Nat → Value} {pl : Nat → List OpP} {Z : Nat → Prop} (h : LS7 w wr L U lb lc pv pl Z) (hb : Below wr.heap.size wr w') : LS7 w w' L U lb lc pv pl Z :=
  h.keep (Fr.of_below (F := fun _ => False) hb) (fun _ _ => id)
theorem LS7.congr {w wr : World} {L U : Nat} {lb : Nat → Nat} {lc lc' : Nat → List UInt8} {pv : Nat → Value} {pl : Nat → List OpP} {Z : Nat → Prop} (h : LS7 w wr L U lb lc pv pl Z) (e : ∀ j, j < 6 → lc j = lc' j) : LS7 w wr L U lb lc' pv pl Z :=
  { h with lbs := fun j hj => by rw [← e j hj]; exact h.lbs j hj, len := fun j hj => by rw [← e j hj]; exact h.len j hj }
theorem rowIs_type {w : World} {b : Nat} {t t' : TypeId} {n : Nat} {f : Nat → Value} {c : Array Value} {fr : Nat × Nat} (h : w.rowIs b t n f) (h' : w.heap[b]? = some (.cells c t' fr)) : t = t' := by
  obtain ⟨c0, hb, _, _⟩ := h
  rw [hb] at h'
  simp at h'
  exact h'.2.1
/-- What was put last is other bytes. -/
theorem LS7.setLast {w wr : World} {L U : Nat} {lb : Nat → Nat} {lc : Nat → List UInt8} {pv : Nat → Value} {pl : Nat → List OpP} {Z : Nat → Prop} (h : LS7 w wr L U lb lc pv pl Z) {j : Nat} (hj : j < 6) {c : Nat} {xs : List UInt8} (hR : RowB wr c xs) (hx : xs.length = 2048) (hc : w.heap.size ≤ c) :
    LS7 w (wr.setCell ⟨L, j, none⟩ (.slice (some ⟨c, 0, none⟩) 2048 2048)) L U (updN lb j c) (updN lc j xs) pv pl (fun i => Z i ∨ i = c) := by
  have hf := fr_set wr L j (.slice (some ⟨c, 0, none⟩) 2048 2048)
  have hsz : (wr.setCell ⟨L, j, none⟩ (.slice (some ⟨c, 0, none⟩) 2048 2048)).heap.size = wr.heap.size := by simp [World.setCell]
  have hUL : U ≠ L := fun e => by
    obtain ⟨cu, hu, _, _⟩ := h.ru
    rw [e] at hu
    have := rowIs_type h.rl hu
    revert this; decide
  have hcL : c ≠ L := fun e => by
    rw [e] at hR
    have := rowIs_type h.rl hR
    revert this; decide
  have hbL : ∀ i, i < 6 → lb i ≠ L := fun i hi e => by
    have h1 := h.lbs i hi
    rw [e] at h1
    have := rowIs_type h.rl h1
    revert this; decide
  have hpL : ∀ i, i < 6 → ∀ x, (pv i).ownBlock = some x → x ≠ L := fun i hi x hx e => by
    rcases h.pvs i hi with ⟨_, ⟨hv, _⟩ | ⟨g, cap, cur, hv, _, hh, _⟩⟩
    · rw [hv] at hx; cases hx
    · rw [hv] at hx
      simp [Value.ownBlock] at hx
      rw [hx, e] at hh
      have := rowIs_type h.rl hh
      revert this; decide
  exact {
    rl := (h.rl.set j _).congr (fun i hi => by unfold updN; split <;> rfl)
    ru := h.ru.of_block (hf.block U h.ru.lt hUL)
    lbs := fun i hi => by
      unfold updN
      split
      · exact (hf.block c hR.lt hcL).trans hR
      · exact (hf.block _ (h.lbs i hi).lt (hbL i hi)).trans (h.lbs i hi)
    len := fun i hi => by
      unfold updN
      split
      · exact hx
      · exact h.len i hi
    pvs := fun i hi => own_of_block (h.pvs i hi) (fun x hx => hf.block x (h.lo x (h.zp i hi x hx)).2 (hpL i hi x hx))
    dist := h.dist
    zl := Or.inl h.zl
    zu := Or.inl h.zu
    zb := fun i hi => by
      unfold updN
      split
      · exact Or.inr rfl
      · exact Or.inl (h.zb i hi)
    zp := fun i hi x hx => Or.inl (h.zp i hi x hx)
    lo := fun i hi => by
      rcases hi with hi | rfl
      · rw [hsz]; exact h.lo i hi
      · rw [hsz]; exact ⟨hc, hR.lt⟩ }
/-- One more was put. -/
theorem LS7.app {w wr w0 w4 : World} {L U : Nat} {lb : Nat → Nat} {lc : Nat → List UInt8} {pv : Nat → Value} {pl : Nat → List OpP} {Z : Nat → Prop} (h : LS7 w wr L U lb lc pv pl Z) (hb0 : Below wr.heap.size wr w0) {j : Nat} (hj : j < 6) {gk cap : Nat} {y : OpP}
    (hown : OwnP w.heap.size w4 (.slice (some ⟨gk, 0, none⟩) ((pl j).length + 1) cap) (pl j ++ [y])) (hg : w0.grownBy w4 (pv j).ownBlock) (hk : (pv j).ownBlock = some gk ∨ gk = w0.heap.size) :
    LS7 w (w4.setCell ⟨U, j, none⟩ (.slice (some ⟨gk, 0, none⟩) ((pl j).length + 1) cap)) L U lb lc (updN pv j (.slice (some ⟨gk, 0, none⟩) ((pl j).length + 1) cap)) (updN pl j (pl j ++ [y])) (fun i => Z i ∨ i = gk) ∧ Fr wr (w4.setCell ⟨U, j, none⟩ (.slice (some ⟨gk, 0, none⟩) ((pl j).length + 1) cap)) Z := by
  have h0 := h.keepB hb0
  have hs0 := hb0.size
  have hs4 := hg.size
  have hf := fr_set w4 U j (.slice (some ⟨gk, 0, none⟩) ((pl j).length + 1) cap)
  have hsz : (w4.setCell ⟨U, j, none⟩ (.slice (some ⟨gk, 0, none⟩) ((pl j).length + 1) cap)).heap.size = w4.heap.size := by simp [World.setCell]
  -- the kinds of the blocks
  have tOf : ∀ i, i < 6 → ∀ x, (pv i).ownBlock = some x → ∃ c fr, w0.heap[x]? = some (.cells c 45 fr) := fun i hi x hx => by
    rcases h0.pvs i hi with ⟨_, ⟨hv, _⟩ | ⟨g, cap, cur, hv, _, hh, _⟩⟩
    · rw [hv] at hx; cases hx
    · rw [hv] at hx
      simp [Value.ownBlock] at hx
      rw [hx] at hh
      exact ⟨_, _, hh⟩
  have nL : ∀ i, i < 6 → ∀ x, (pv i).ownBlock = some x → x ≠ L := fun i hi x hx e => by
    obtain ⟨c, fr, hh⟩ := tOf i hi x hx
    rw [e] at hh
    have := rowIs_type h0.rl hh
    revert this; decide
  have nU : ∀ i, i < 6 → ∀ x, (pv i).ownBlock = some x → x ≠ U := fun i hi x hx e => by
    obtain ⟨c, fr, hh⟩ := tOf i hi x hx
    rw [e] at hh
    have := rowIs_type h0.ru hh
    revert this; decide
  have nB : ∀ i, i < 6 → ∀ x, (pv i).ownBlock = some x → ∀ m, m < 6 → x ≠ lb m := fun i hi x hx m hm e => by
    obtain ⟨c, fr, hh⟩ := tOf i hi x hx
    rw [e, h0.lbs m hm] at hh
    simp at hh
  have hLU : L ≠ U := fun e => by
    obtain ⟨cu, hu, _, _⟩ := h0.ru
    rw [← e] at hu
    have := rowIs_type h0.rl hu
    revert this; decide
  have nBU : ∀ m, m < 6 → lb m ≠ U := fun m hm e => by
    have h1 := h0.lbs m hm
    rw [e] at h1
    have := rowIs_type h0.ru h1
    revert this; decide
  have b4 : ∀ i, i < w0.heap.size → (pv j).ownBlock ≠ some i → w4.heap[i]? = w0.heap[i]? := fun i hi hne => hg.block i hi (fun e => hne e.symm)
  have gkU : gk ≠ U := fun e => by
    rcases hk with hk | hk
    · exact nU j hj gk hk e
    · have := h0.ru.lt; omega
  have oL : w4.heap[L]? = w0.heap[L]? := b4 L h0.rl.lt (fun e => nL j hj L e rfl)
  have oU : w4.heap[U]? = w0.heap[U]? := b4 U h0.ru.lt (fun e => nU j hj U e rfl)
  have gklt : gk < w4.heap.size := by
    have := World.ownsRow.lt hown gk rfl
    exact this.2
  refine ⟨{
    rl := (h0.rl.of_block oL).of_block (hf.block L (by have := h0.rl.lt; omega) hLU)
    ru := ((h0.ru.of_block oU).set j _).congr (fun i hi => by unfold updN; split <;> rfl)
    lbs := fun m hm => ((hf.block _ (by have := (h0.lbs m hm).lt; omega) (nBU m hm)).trans (b4 _ (h0.lbs m hm).lt (fun e => nB j hj _ e m hm rfl))).trans (h0.lbs m hm)
    len := h.len
    pvs := fun m hm => by
      by_cases e : m = j
      · subst e
        have e1 : updN pv m (.slice (some ⟨gk, 0, none⟩) ((pl m).length + 1) cap) m = .slice (some ⟨gk, 0, none⟩) ((pl m).length + 1) cap := by unfold updN; rw [if_pos rfl]
        have e2 : updN pl m (pl m ++ [y]) m = pl m ++ [y] := by unfold updN; rw [if_pos rfl]
        rw [e1, e2]
        exact own_of_block hown (fun c hc => hf.block c (World.ownsRow.lt hown c hc).2 (fun e => by
          simp [Value.ownBlock] at hc
          exact gkU (hc.trans e)))
      · have e1 : updN pv j (.slice (some ⟨gk, 0, none⟩) ((pl j).length + 1) cap) m = pv m := by unfold updN; rw [if_neg e]
        have e2 : updN pl j (pl j ++ [y]) m = pl m := by unfold updN; rw [if_neg e]
        rw [e1, e2]
        refine own_of_block (h0.pvs m hm) (fun c hc => (hf.block c (by have := (World.ownsRow.lt (h0.pvs m hm) c hc).2; omega) (nU m hm c hc)).trans (b4 c (World.ownsRow.lt (h0.pvs m hm) c hc).2 (fun e' => h.dist m j hm hj e c hc e')))
    dist := fun a b ha hb hab c hc => by
      by_cases ea : a = j
      · have e1 : updN pv j (.slice (some ⟨gk, 0, none⟩) ((pl j).length + 1) cap) a = .slice (some ⟨gk, 0, none⟩) ((pl j).length + 1) cap := by unfold updN; rw [if_pos ea]
        have e2 : updN pv j (.slice (some ⟨gk, 0, none⟩) ((pl j).length + 1) cap) b = pv b := by unfold updN; rw [if_neg (fun e => hab (ea.trans e.symm))]
        rw [e1] at hc; rw [e2]
        simp [Value.ownBlock] at hc
        intro hb'
        rcases hk with hk | hk
        · exact h.dist j b hj hb (by omega) gk hk (hc ▸ hb')
        · have := (World.ownsRow.lt (h0.pvs b hb) c hb').2; omega
      · have e1 : updN pv j (.slice (some ⟨gk, 0, none⟩) ((pl j).length + 1) cap) a = pv a := by unfold updN; rw [if_neg ea]
        rw [e1] at hc
        by_cases eb : b = j
        · have e2 : updN pv j (.slice (some ⟨gk, 0, none⟩) ((pl j).length + 1) cap) b = .slice (some ⟨gk, 0, none⟩) ((pl j).length + 1) cap := by unfold updN; rw [if_pos eb]
          rw [e2]
          intro hb'
          simp [Value.ownBlock] at hb'
          rcases hk with hk | hk
          · exact h.dist a j ha hj ea c hc (hb' ▸ hk)
          · have := (World.ownsRow.lt (h0.pvs a ha) c hc).2; omega
        · have e2 : updN pv j (.slice (some ⟨gk, 0, none⟩) ((pl j).length + 1) cap) b = pv b := by unfold updN; rw [if_neg eb]
          rw [e2]; exact h.dist a b ha hb hab c hc
    zl := Or.inl h.zl
    zu := Or.inl h.zu
    zb := fun m hm => Or.inl (h.zb m hm)
    zp := fun m hm c hc => by
      by_cases e : m = j
      · have e1 : updN pv j (.slice (some ⟨gk, 0, none⟩) ((pl j).length + 1) cap) m = .slice (some ⟨gk, 0, none⟩) ((pl j).length + 1) cap := by unfold updN; rw [if_pos e]
        rw [e1] at hc
        simp [Value.ownBlock] at hc
        exact Or.inr hc.symm
      · have e1 : updN pv j (.slice (some ⟨gk, 0, none⟩) ((pl j).length + 1) cap) m = pv m := by unfold updN; rw [if_neg e]
        rw [e1] at hc
        exact Or.inl (h.zp m hm c hc)
    lo := fun i hi => by
      rcases hi with hi | rfl
      · have := h.lo i hi; rw [hsz]; omega
      · rw [hsz]; exact ⟨(World.ownsRow.lt hown _ rfl).1, gklt⟩ }, ?_⟩
  refine ((Fr.of_below hb0).trans (Fr.of_grown (F := fun i => (pv j).ownBlock = some i) hg (fun k hk => hk)) (fun i hi => Or.inl (h.zp j hj i hi))).trans hf (fun i hi => Or.inl (hi ▸ h.zu))
end Go.Proofs.Ytpmbpadckbkglaa

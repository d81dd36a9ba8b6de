/- What Put leaves, noted by the law. -/
import Derived.Test.YtpmbpadckbkglaaP7ZA
namespace Go.Proofs.Ytpmbpadckbkglaa
open Go.RowKit Go.Maps
set_option linter.unusedVariables false
set_option linter.unusedSimpArgs false

theorem FPut.last {w w6 w7 : World} {A L U : Nat} {nF : Int} {p dp : Value} {F G : Nat → Prop} {lb : Nat → Nat} {lc : Nat → List UInt8} {pv : Nat → Value} {pl pl' : Nat → List OpP} {Z : Nat → Prop} {P : PS} {D : DS} {k : Nat} (h : FPut w w6 A L U nF p dp F G lb lc pv pl pl' Z P D k) (hb : Below w6.heap.size w6 w7) {j : Nat} (hj : j < 6) {c : Nat} {xs : List UInt8} (hR : RowB w7 c xs) (hx : xs.length = 2048) (hc : w6.heap.size ≤ c) :
    FPut w (w7.setCell ⟨L, j, none⟩ (.slice (some ⟨c, 0, none⟩) 2048 2048)) A L U nF p dp F G (updN lb j c) (updN lc j xs) pv pl pl' (fun i => Z i ∨ i = c) P D k := by
  have hw := h.hs.below.size
  have hLo := h.ls.lo L h.ls.zl
  refine ⟨(h.hs.keepB hb).keep (fr_set _ _ _ _) (fun i hx e => h.dz L h.ls.zl (e ▸ hx)) (fun e => h.az (e ▸ h.ls.zl)) (fun i e => by omega), (h.ls.keepB hb).setLast hj hR hx (by omega), fun i hz hx => ?_, fun hz => ?_, h.inv⟩
  · rcases hz with hz | rfl
    · exact h.dz i hz hx
    · have := (h.hs.pd.lo _ hx).2; omega
  · rcases hz with hz | hz
    · exact h.az hz
    · have := h.hs.row.lt; omega
theorem FPut.app {w wr w0 w4 : World} {A L U : Nat} {nF : Int} {p dp : Value} {F G : Nat → Prop} {lb : Nat → Nat} {lc : Nat → List UInt8} {pv : Nat → Value} {pl : Nat → List OpP} {Z : Nat → Prop} {P : PS} {D : DS} {k j : Nat} {y : OpP} (h : FPut w wr A L U nF p dp F G lb lc pv pl (updN pl j (pl j ++ [y])) Z P D k) (hb0 : Below wr.heap.size wr w0) (hj : j < 6) {gk cap : Nat}
    (hown : OwnP w.heap.size w4 (.slice (some ⟨gk, 0, none⟩) ((pl j).length + 1) cap) (pl j ++ [y])) (hg : w0.grownBy w4 (pv j).ownBlock) (hk : (pv j).ownBlock = some gk ∨ gk = w0.heap.size) (hc : ∀ i, lc i = cur P D i) (hpl : ∀ i, i < 6 → (pl i).length + 1 ≤ k) :
    FSt w (w4.setCell ⟨U, j, none⟩ (.slice (some ⟨gk, 0, none⟩) ((pl j).length + 1) cap)) A L U nF p dp F G lb (updN pv j (.slice (some ⟨gk, 0, none⟩) ((pl j).length + 1) cap)) (updN pl j (pl j ++ [y])) (fun i => Z i ∨ i = gk) P D k := by
  obtain ⟨h1, h2⟩ := h.ls.app hb0 hj hown hg hk
  have hs0 := hb0.size
  have gkn : ∀ i, i = gk → Z i ∨ wr.heap.size ≤ i := fun i hi => by
    rcases hk with hk | hk
    · exact Or.inl (hi ▸ h.ls.zp j hj gk hk)
    · exact Or.inr (by omega)
  refine ⟨h.hs.keep h2 (fun i hx hz => h.dz i hz hx) h.az (fun i hz => (h.ls.lo i hz).1), h1.congr (fun i _ => hc i), fun i hz hx => ?_, fun hz => ?_, h.inv, fun i hi => ?_⟩
  · rcases hz with hz | hz
    · exact h.dz i hz hx
    · rcases gkn i hz with h3 | h3
      · exact h.dz i h3 hx
      · have := (h.hs.pd.lo _ hx).2; omega
  · rcases hz with hz | hz
    · exact h.az hz
    · rcases gkn A hz with h3 | h3
      · exact h.az h3
      · have := h.hs.row.lt; omega
  · unfold updN
    split
    · rename_i e; rw [List.length_append, ← e]; exact hpl i hi
    · have := hpl i hi; omega
theorem run_buildP (w : World) (c0 c1 c2 c3 : Value) (h0 : c0.oneCell' = true) (h1 : c1.oneCell' = true) (h2 : c2.oneCell' = true) (h3 : c3.oneCell' = true) : (Instr.buildSlice 24 1 #[(0, .agg #[c0, c1, c2, c3])]).run Try.prog w = .ok (.slice (some ⟨w.heap.size, 0, none⟩) 1 1) (w.alloc (.cells #[c0, c1, c2, c3] 45)) := by
  obtain ⟨i0, hi, hz0, hz1, hz2⟩ := info_parts infoP
  refine run_buildSlice w _ 45 1 _ _ i0 _ Try.underlying24 hi hz0 (by rw [hz1]; decide) (by rw [hz1]; decide) ?_
  rw [hz1]
  first | kernel_rfl | (simp [Instr.fill, Value.cells]; done) | decide
theorem step_buildP {w : World} {ops : Array Oper} {o : Oper} {a : Act} {K : Act → World → Prop} {Q : Exit → Act → World → Prop} {E : Prop} (hgd : o.guard = none) (x : Operand) (ho : o.op = .buildSlice 24 1 #[(0, x)])
    (y : OpP) (hx : a.eval x = .agg (cellsP y).toArray) (h : K (a.put o.dst (.slice (some ⟨w.heap.size, 0, none⟩) 1 1)) (w.alloc (.cells (cellsP y).toArray 45))) :
    if Region.wanted o (yielded ops a.tmps) = true then Oper.wp Try.prog o a w K Q else E := by
  have hw : Region.wanted o (yielded ops a.tmps) = true := by simp [Region.wanted, hgd]
  rw [if_pos hw]
  unfold Oper.wp execOp
  have e2 : (#[(0, x)].map fun (i, y) => (i, a.eval y)) = #[(0, Value.agg (cellsP y).toArray)] := by simp [hx]
  simp only [ho]
  rw [e2]
  have hr := run_buildP w (.int .i64 y.kind) (.int .i64 y.page) (bv y.by_) (.int .u64 y.mark) rfl rfl rfl rfl
  have hr' : (Instr.buildSlice 24 1 #[(0, .agg (cellsP y).toArray)]).run Try.prog w = .ok (.slice (some ⟨w.heap.size, 0, none⟩) 1 1) (w.alloc (.cells (cellsP y).toArray 45)) := hr
  simp only [Sem.run_bind, hr', Sem.run_pure, Result.andThen_ok]
  exact h
theorem LS7.ownU {w wr : World} {L U : Nat} {lb : Nat → Nat} {lc : Nat → List UInt8} {pv : Nat → Value} {pl : Nat → List OpP} {Z : Nat → Prop} (h : LS7 w wr L U lb lc pv pl Z) {j : Nat} (hj : j < 6) : (pv j).ownBlock ≠ some U := fun e => by
  rcases h.pvs j hj with ⟨_, ⟨hv, _⟩ | ⟨g, cap, cur, hv, _, hh, _⟩⟩
  · rw [hv] at e; cases e
  · rw [hv] at e
    simp [Value.ownBlock] at e
    rw [e] at hh
    have := rowIs_type h.ru hh
    revert this; decide
/-- Whether one that was put stands there. -/
def okP (safe b0 b1 m : Int) (o : OpP) : Bool := decide (o.mark ≤ safe) && (decide (b0 = m) && decide (b1 = (o.by_.toNat : Int)))
theorem stands_ok {s : List UInt8} {m : Nat} {l : List OpP} {safe b0 b1 : Int} (h : Stands s m l safe) (hm : m < 6) (h0 : b0 = ((s.getD 0 0).toNat : Int)) (h1 : b1 = ((s.getD 1 0).toNat : Int)) : ((decide (b0 = 0) && decide (b1 = 0)) || l.any (okP safe b0 b1 m)) = true := by
  rcases h with ⟨e0, e1⟩ | ⟨o, ho, hmk, e0, e1⟩
  · rw [e0] at h0; rw [e1] at h1
    simp [h0, h1]
  · rw [Bool.or_eq_true]
    right
    refine List.any_eq_true.2 ⟨o, ho, ?_⟩
    rw [e0] at h0
    rw [e1] at h1
    unfold okP
    have : ((UInt8.ofNat ((m : Int) % 256).toNat).toNat : Int) = m := by
      rw [UInt8.toNat_ofNat']; omega
    simp [hmk, h0, h1]
    omega
theorem OwnP.form {base : Nat} {w : World} {v : Value} {l : List OpP} (h : OwnP base w v l) : ∃ ao cap, v = .slice ao l.length cap ∧ l.length ≤ cap ∧ (l = [] ∨ ∃ g, ao = some ⟨g, 0, none⟩ ∧ ∀ k (hk : k < l.length), w.cell? ⟨g, k * 4 + 2, none⟩ = some (.int .u8 (l[k].by_.toNat : Int)) ∧ w.cell? ⟨g, k * 4 + 3, none⟩ = some (.int .u64 l[k].mark)) := by
  rcases own_range (c := cellsP) (n := 4) (fun x _ => rfl) h with ⟨hv, hl⟩ | ⟨g, cap, hv, hc, _, _, hr⟩
  · exact ⟨none, 0, by rw [hv, hl]; rfl, by rw [hl]; exact Nat.le_refl _, Or.inl hl⟩
  · exact ⟨_, cap, hv, hc, Or.inr ⟨g, rfl, fun k hk => ⟨hr k hk 2 _ rfl, hr k hk 3 _ rfl⟩⟩⟩
end Go.Proofs.Ytpmbpadckbkglaa

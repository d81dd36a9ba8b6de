/- The document's pool: its row of frames is put anew; one frame more. -/
import Derived.Test.YtpmbpadckbkglaaP7RL
namespace Go.Proofs.Ytpmbpadckbkglaa
open Go.RowKit Go.Maps
set_option linter.unusedVariables false
set_option linter.unusedSimpArgs false

theorem RefAt.lo {base : Nat} {w : World} {G : Nat → Prop} {q : Value} {N : Int} {F L : List EV} (h : RefAt base w G q N F L) : ∀ k, G k → base ≤ k ∧ k < w.heap.size := by
  obtain ⟨g, vF, vL, hq, h⟩ := h; exact h.lo
theorem RPIn.setL {base : Nat} {w : World} {H K : Nat → Prop} {g : Nat} {dq vL : Value} {R : RPS} (h : RPIn base w H g dq vL R) {ao : Option Addr} {n c : Nat} {l : List RF} (ho : OwnF base w (.slice ao n c) l) (hb : ∀ f ∈ l, OwnB base w f.v f.b) (hK : ∀ i, H i → K i) (hlo : ∀ i, K i → base ≤ i ∧ i < w.heap.size) (hv : ∀ x, (Value.slice ao n c).ownBlock = some x → K x) (hgb : ∀ f ∈ l, ∀ x, f.v.ownBlock = some x → K x) :
    RPIn base (w.setCell ⟨g, 4, none⟩ (.slice ao n c)) K g dq (.slice ao n c) { R with l := l } ∧ Fr w (w.setCell ⟨g, 4, none⟩ (.slice ao n c)) (fun i => i = g) := by
  have hF := Fr.set (o := 4) (u := .slice ao n c) h.hg (fun i => i = g) rfl
  refine ⟨⟨?_, ?_, fun f hf => ?_, hK _ h.gg, hv, hgb, fun i hi => ⟨(hlo i hi).1, by have := (hlo i hi).2; have := hF.size; omega⟩⟩, hF⟩
  · rw [setCell_eq_setRow w g 4 _ _ _ _ h.hg]; exact setRow_heap w g _ _ _ _ h.hg
  · exact own_of_block ho (fun x hx => hF.block x (hlo x (hv x hx)).2 (fun e => by
      subst e
      obtain ⟨cur, hh⟩ := ownF_typed ho hx
      rw [h.hg] at hh; simp at hh))
  · exact own_of_block (hb f hf) (fun x hx => hF.block x (hlo x (hgb f hf x hx)).2 (fun e => by
      subst e
      obtain ⟨cur, hh⟩ := ownB_typed (hb f hf) hx
      rw [h.hg] at hh; simp at hh))
theorem step_appF (w : World) {ops : Array Oper} {o : Oper} {a : Act} {K : Act → World → Prop} {Q : Exit → Act → World → Prop} {E : Prop} (hgd : o.guard = none) (s x : Operand)
    (ho : o.op = .call { callee := .builtin .append, args := #[s, x], argTypes := #[39, 39] })
    (base : Nat) (v : Value) (l : List RF) (hs : a.eval s = v) (hown : OwnF base w v l) (f : RF) (hf : f.v.oneCell' = true) (B : Nat) (hx : a.eval x = .slice (some ⟨B, 0, none⟩) 1 1) (hB : w.heap[B]? = some (.cells (cellsR f).toArray 95 (0, 0)))
    (hl : l.length ≤ 1000) (hbase : base ≤ w.heap.size)
    (h : ∀ gk cap w', OwnF base w' (.slice (some ⟨gk, 0, none⟩) (l.length + 1) cap) (l ++ [f]) → w.grownBy w' v.ownBlock → (v.ownBlock = some gk ∨ gk = w.heap.size) → K (a.put o.dst (.slice (some ⟨gk, 0, none⟩) (l.length + 1) cap)) w') :
    if Region.wanted o (yielded ops a.tmps) = true then Oper.wp Try.prog o a w K Q else E := by
  obtain ⟨i0, hi, hz0, hz1, hz2⟩ := info_parts infoF
  refine step_append_lies w hgd s x 39 ho base 95 i0 _ 6 64 Try.underlying39 hi hz0 hz1 hz2 rfl (by decide) v l.length (l.flatMap cellsR) hs hown ⟨B, 0, none⟩ 1 1 (cellsR f) hx rfl (World.news_of_block hB) (by
    have := one_cellsR [f] (by simpa using hf)
    simpa using this) (by decide) (by unfold maxLen; omega) (by omega) hbase w.heap.size rfl ?_
  intro gk cap w' h1 h2 h3 _
  refine h gk cap w' ?_ h2 h3
  unfold OwnF
  rw [List.length_append, List.flatMap_append]
  simpa using h1
/-- Behind the coming of the frame. -/
structure RN (base : Nat) (w wx : World) (H G H2 G1 : Nat → Prop) (g : Nat) (dq vL2 : Value) (R1 : RPS) (N : Int) (F L1 : List EV) (f : RF) : Prop where
  p : RPIn base wx H2 g dq vL2 { R1 with l := R1.l ++ [f] }
  d : RefAt base wx G1 dq N F L1
  dis : ∀ i, H2 i → ¬ G1 i
  f : Fr w wx (fun i => H i ∨ G i)
  hH : ∀ i, H2 i → H i ∨ w.heap.size ≤ i
/-- The row grew, and was put back. -/
theorem rn_put {base : Nat} {w w1 wA w4 : World} {H G H1 G1 : Nat → Prop} {g : Nat} {dq vL1 : Value} {R1 : RPS} {N : Int} {F L1 : List EV} {f : RF} (hp : RPIn base w1 H1 g dq vL1 R1) (hd : RefAt base w1 G1 dq N F L1) (hdis : ∀ i, H1 i → ¬ G1 i) (hf : Fr w w1 (fun i => H i ∨ G i)) (hH : ∀ i, H1 i → H i ∨ w.heap.size ≤ i) (hA : Below w1.heap.size w1 wA) (hg4 : wA.grownBy w4 vL1.ownBlock) {gk n cap : Nat}
    (hown : OwnF base w4 (.slice (some ⟨gk, 0, none⟩) n cap) (R1.l ++ [f])) (hk : vL1.ownBlock = some gk ∨ gk = wA.heap.size) (hfb : OwnB base wA f.v f.b) (hfn : ∀ c, f.v.ownBlock = some c → w1.heap.size ≤ c) :
    RN base w (w4.setCell ⟨g, 4, none⟩ (.slice (some ⟨gk, 0, none⟩) n cap)) H G (fun i => H1 i ∨ w1.heap.size ≤ i ∧ i < w4.heap.size) G1 g dq (.slice (some ⟨gk, 0, none⟩) n cap) R1 N F L1 f := by
  have sA := hA.size
  have s4 := hg4.size
  have ngL := hp.ng.1
  have hfr4 : Fr w1 w4 (fun i => vL1.ownBlock = some i) := ⟨hg4.os.trans hA.os, hg4.tape.trans hA.tape, hg4.output.trans hA.output, by omega, fun k hk hn => (hg4.block k (by omega) (fun e => hn e.symm)).trans (hA.block k hk)⟩
  have hb4 : ∀ x : RF, OwnB base wA x.v x.b → OwnB base w4 x.v x.b := fun x hx => own_of_block hx (fun c hc => hg4.block c (World.ownsRow.lt hx c hc).2 (fun e => by
    obtain ⟨cur, hh⟩ := ownF_typed hp.row e.symm
    obtain ⟨cur2, hh2⟩ := ownB_typed hx hc
    rw [hA.block c (hp.lo c (hp.gv c e.symm)).2, hh] at hh2
    simp at hh2))
  have hbA : ∀ x ∈ R1.l, OwnB base wA x.v x.b := fun x hx => own_of_block (hp.hb x hx) (fun c hc => hA.block c (hp.lo c (hp.gb x hx c hc)).2)
  have hg0 : w4.heap[g]? = some (.cells #[dq, .int .i64 R1.first, .int .i64 R1.pages, .int .i64 R1.frames, vL1, .int .u64 R1.log, .int .i64 R1.now, .bool R1.early] 42 (0, 0)) := (hfr4.block g (hp.lo g hp.gg).2 ngL).trans hp.hg
  have hF := Fr.set (o := 4) (u := .slice (some ⟨gk, 0, none⟩) n cap) hg0 (fun i => i = g) rfl
  have hbg := (hp.lo g hp.gg).1
  have gkl : gk < w4.heap.size := by
    obtain ⟨cur, hh⟩ := ownF_typed hown (b := gk) rfl
    exact (Array.getElem?_eq_some_iff.1 hh).1
  have hfo := hb4 f hfb
  have hK : ∀ i, (H1 i ∨ w1.heap.size ≤ i ∧ i < w4.heap.size) → base ≤ i ∧ i < w4.heap.size := fun i hi => by
    rcases hi with hi | hi
    · have := hp.lo i hi; omega
    · have := (hp.lo g hp.gg); omega
  refine ⟨⟨?_, ?_, fun x hx => ?_, Or.inl hp.gg, fun c hc => ?_, fun x hx c hc => ?_, fun i hi => ⟨(hK i hi).1, by have := (hK i hi).2; have := hF.size; omega⟩⟩, ?_, fun i hi hg => ?_, ?_, fun i hi => ?_⟩
  · rw [setCell_eq_setRow w4 g 4 _ _ _ _ hg0]; exact setRow_heap w4 g _ _ _ _ hg0
  · exact own_of_block hown (fun x hx => hF.block x (by have : gk = x := by simpa [Value.ownBlock] using hx
                                                        omega) (fun e => by
      subst e
      obtain ⟨cur, hh⟩ := ownF_typed hown hx
      rw [hg0] at hh; simp at hh))
  · have hox : OwnB base w4 x.v x.b := by
      rcases List.mem_append.1 hx with h1 | h1
      · exact hb4 x (hbA x h1)
      · rw [List.mem_singleton.1 h1]; exact hfo
    exact own_of_block hox (fun c hc => hF.block c (World.ownsRow.lt hox c hc).2 (fun e => by
      subst e
      obtain ⟨cur, hh⟩ := ownB_typed hox hc
      rw [hg0] at hh; simp at hh))
  · have : gk = c := by simpa [Value.ownBlock] using hc
    subst this
    rcases hk with hk | hk
    · exact Or.inl (hp.gv _ hk)
    · exact Or.inr ⟨by omega, gkl⟩
  · rcases List.mem_append.1 hx with h1 | h1
    · exact Or.inl (hp.gb x h1 c hc)
    · rw [List.mem_singleton.1 h1] at hc
      exact Or.inr ⟨hfn c hc, (World.ownsRow.lt hfo c hc).2⟩
  · refine (hd.keep hfr4 (fun i hi e => hdis i (hp.gv i e) hi)).keep hF (fun i hi e => hdis g hp.gg (e ▸ hi))
  · rcases hi with hi | hi
    · exact hdis i hi hg
    · have := (hd.lo i hg).2; omega
  · refine (hf.trans (hfr4.mono (G := H1) (fun i hi => hp.gv i hi)) (fun i hi => ?_)).trans (hF.mono (G := H1) (fun i hi => hi ▸ hp.gg)) (fun i hi => ?_)
    · rcases hH i hi with h1 | h1
      · exact Or.inl (Or.inl h1)
      · exact Or.inr h1
    · rcases hH i hi with h1 | h1
      · exact Or.inl (Or.inl h1)
      · exact Or.inr h1
  · rcases hi with hi | hi
    · exact hH i hi
    · right; have := hf.size; omega
end Go.Proofs.Ytpmbpadckbkglaa

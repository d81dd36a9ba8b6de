/- The law's arrays at the start. -/
import Derived.Test.YtpmbpadckbkglaaP7Z
namespace Go.Proofs.Ytpmbpadckbkglaa
open Go.RowKit Go.Maps
set_option linter.unusedVariables false
set_option linter.unusedSimpArgs false

def z2048 : List UInt8 := List.replicate 2048 0
theorem z2048_len : z2048.length = 2048 := List.length_replicate
theorem cur_new (nF : Int) (j : Nat) : cur (PS.new 0 6 nF) ⟨96, fun _ => zsec, fun _ => zsec, [], 0⟩ j = z2048 := by
  unfold cur
  rw [if_neg (by simp [PS.new])]
  refine List.eq_replicate_iff.2 ⟨getN_len (fun _ => zsec_len) _ _, fun b hb => ?_⟩
  unfold getN at hb
  obtain ⟨i, _, hi⟩ := List.mem_flatMap.1 hb
  exact List.eq_of_mem_replicate hi
theorem made_zerosN (n : Nat) (w : World) : RowB (w.alloc (.cells (madeCells #[.int .u8 0] n) 5)) w.heap.size (List.replicate n 0) :=
  rowB_of_is (World.rowIs_made w (.int .u8 0) n 5) List.length_replicate (fun i hi => by rw [List.getElem_replicate]; rfl)
theorem made_zeros (w : World) : RowB (w.alloc (.cells (madeCells #[.int .u8 0] 2048) 5)) w.heap.size z2048 := made_zerosN 2048 w
structure Ini (w4 wr : World) (L m : Nat) (lb : Nat → Nat) : Prop where
  rl : wr.rowIs L 54 6 (fun j => if j < m then .slice (some ⟨lb j, 0, none⟩) 2048 2048 else .slice none 0 0)
  f : Fr w4 wr (fun i => i = L)
  lbs : ∀ j, j < m → RowB wr (lb j) z2048 ∧ w4.heap.size ≤ lb j
theorem Ini.step {w4 wr : World} {L m : Nat} {lb : Nat → Nat} (h : Ini w4 wr L m lb) (hm : m < 6) (hL : L < w4.heap.size) : Ini w4 ((wr.alloc (.cells (madeCells #[.int .u8 0] 2048) 5)).setCell ⟨L, m, none⟩ (.slice (some ⟨wr.heap.size, 0, none⟩) 2048 2048)) L (m + 1) (updN lb m wr.heap.size) := by
  have hs := h.f.size
  have hb : Below wr.heap.size wr (wr.alloc (.cells (madeCells #[.int .u8 0] 2048) 5)) := (Below.refl _ _).alloc (Nat.le_refl _) _
  have h1 := h.rl.of_block (hb.block L (by omega))
  have hf := fr_set (wr.alloc (.cells (madeCells #[.int .u8 0] 2048) 5)) L m (.slice (some ⟨wr.heap.size, 0, none⟩) 2048 2048)
  refine ⟨(h1.set m _).congr (fun j hj => ?_), (h.f.trans (Fr.of_below hb) (fun i hi => Or.inl hi)).trans hf (fun i hi => Or.inl hi), fun j hj => ?_⟩
  · unfold updN
    by_cases e : j = m
    · subst e; rw [if_pos rfl, if_pos (by omega)]; simp
    · rw [if_neg e]
      by_cases e2 : j < m
      · rw [if_pos e2, if_pos (by omega)]; simp [e]
      · rw [if_neg e2, if_neg (by omega)]
  · unfold updN
    by_cases e : j = m
    · subst e
      simp only [if_true]
      exact ⟨(hf.block _ (by simp) (by omega)).trans (made_zeros wr), hs⟩
    · rw [if_neg e]
      have hj' := h.lbs j (by omega)
      have hlt := hj'.1.lt
      exact ⟨((hf.block _ (by simp; omega) (by omega)).trans (hb.block _ hlt)).trans hj'.1, hj'.2⟩
/-- The playing begins. -/
theorem FSt.start {w w4 wr : World} {A L U : Nat} {nF : Int} {p dp : Value} {F G : Nat → Prop} {lb : Nat → Nat} (hs : HS w w4 A nF p dp F G (pinsOf (PS.new 0 6 nF)) (PS.new 0 6 nF) ⟨96, fun _ => zsec, fun _ => zsec, [], 0⟩ 0) (hi : Ini w4 wr L 6 lb) (hu : w4.rowIs U 56 6 (fun _ => .slice none 0 0)) (hL : L < w4.heap.size) (hLA : L ≠ A) (hLU : L ≠ U) (hUA : U ≠ A) (nL : ¬ (F L ∨ G L)) (nU : ¬ (F U ∨ G U)) (lL : w.heap.size ≤ L) (lU : w.heap.size ≤ U) (hA : A < w4.heap.size) :
    FSt w wr A L U nF p dp F G lb (fun _ => .slice none 0 0) (fun _ => []) (fun i => i = L ∨ i = U ∨ ∃ j, j < 6 ∧ i = lb j) (PS.new 0 6 nF) ⟨96, fun _ => zsec, fun _ => zsec, [], 0⟩ 0 := by
  have hsz := hi.f.size
  have hlo := hs.pd.lo
  have hw4 := hs.below.size
  refine ⟨hs.keep hi.f (fun i hx e => nL (e ▸ hx)) (fun e => hLA e.symm) (fun i e => by omega), ⟨hi.rl.congr (fun j hj => by rw [if_pos hj]), hu.of_block (hi.f.block U hu.lt (fun e => hLU e.symm)), fun j hj => by rw [cur_new]; exact (hi.lbs j hj).1, fun j hj => by rw [cur_new]; exact z2048_len, fun j hj => World.ownsRow_nil _ _ _ _, fun i j _ _ _ c hc => by (cases hc), Or.inl rfl, Or.inr (Or.inl rfl), fun j hj => Or.inr (Or.inr ⟨j, hj, rfl⟩), fun j hj c hc => by (cases hc), fun i hz => ?_⟩, fun i hz hx => ?_, fun hz => ?_, Inv.new nF, fun j hj => Nat.le_refl _⟩
  · rcases hz with rfl | rfl | ⟨j, hj, rfl⟩
    · exact ⟨lL, by omega⟩
    · exact ⟨lU, by have := hu.lt; omega⟩
    · have := hi.lbs j hj; exact ⟨by omega, this.1.lt⟩
  · rcases hz with rfl | rfl | ⟨j, hj, rfl⟩
    · exact nL hx
    · exact nU hx
    · have h1 := (hlo _ hx).2; have h2 := (hi.lbs j hj).2; omega
  · rcases hz with e | e | ⟨j, hj, e⟩
    · exact hLA e.symm
    · exact hUA e.symm
    · have h2 := (hi.lbs j hj).2; omega
end Go.Proofs.Ytpmbpadckbkglaa

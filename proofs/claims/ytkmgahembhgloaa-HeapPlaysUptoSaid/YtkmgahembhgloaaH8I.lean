/- What goes over a page's slots: recordsOf. -/
import Derived.Test.YtkmgahembhgloaaH8F
import Derived.Maps.OwnIn
namespace Go.Proofs.Ytkmgahembhgloaa
open Go.RowKit Go.Maps Go.Shelf
set_option linter.unusedVariables false
set_option linter.unusedSimpArgs false
attribute [local go_sem] Oper.semAt_some

/-- A slice in a box, one more appended: what lies below the row's base, and is not the box, lies as it lay. -/
structure App8 (W W2 : World) (n₀ B : Nat) (t e : TypeId) (v v' : Value) (m : Nat) (ys : List Value) : Prop where
  box : Boxed W2 B t v'
  row : W2.ownsRow n₀ e 1 v' m ys
  oth : KeepsOthers W W2
  grown : ∀ k, k < W.heap.size → k ≠ B → v.ownBlock ≠ some k → W2.heap[k]? = W.heap[k]?
  own : v'.ownBlock = v.ownBlock ∨ ∀ k, v'.ownBlock = some k → W.heap.size ≤ k
  below : ∀ b0, b0 ≤ B → b0 ≤ n₀ → b0 ≤ W.heap.size → Below b0 W W2
theorem ownGe {W : World} {n₀ : Nat} {e : TypeId} {v : Value} {k : Nat} {xs : List Value} (h : W.ownsRow n₀ e 1 v k xs) : ∀ j, v.ownBlock = some j → n₀ ≤ j ∧ j < W.heap.size := fun j hj => World.ownsRow.lt h j hj
theorem app8 {W w1 : World} {n₀ B : Nat} {t e : TypeId} {v v' : Value} {k m : Nat} {xs ys : List Value} {tmp : Obj}
    (hv : Boxed W B t v) (hB : v.ownBlock ≠ some B) (hrow : W.ownsRow n₀ e 1 v k xs) (hn₀ : n₀ ≤ W.heap.size)
    (hown' : w1.ownsRow n₀ e 1 v' m ys) (hgrow : (W.alloc tmp).grownBy w1 v.ownBlock) (hat : v'.ownBlock = v.ownBlock ∨ ∀ k, v'.ownBlock = some k → W.heap.size ≤ k) :
    Boxed w1 B t v ∧ App8 W (w1.setCell ⟨B, 0, none⟩ v') n₀ B t e v v' m ys := by
  have hv1 : Boxed w1 B t v := (hv.alloc tmp).kept hgrow (fun e => hB e.symm)
  have hlt := hv.lt
  have hB' : v'.ownBlock ≠ some B := fun e' => by
    rcases hat with h | h
    · exact hB (h ▸ e')
    · have := h B e'; omega
  refine ⟨hv1, hv1.set v', hown'.kept (grownBy_setCell' w1 B v') (.inr fun e' => hB' (by rw [e'])), ?_, ?_, hat, ?_⟩
  · refine ((KeepsOthers.alloc W tmp).trans (KeepsOthers.of_grownBy hgrow fun j o ej hj => ?_)).trans (KeepsOthers.setCell _ _ _)
    rcases (hrow.alloc tmp).2 with ⟨rfl, _⟩ | ⟨g, cap, cur, rfl, _, hgb, _⟩
    · simp [Value.ownBlock] at ej
    · obtain rfl : g = j := by simpa [Value.ownBlock] using ej
      rw [hgb] at hj; cases hj; rfl
  · intro j hj hjB hjo
    rw [Below.heap_setCell _ _ _ j (fun e => hjB e), hgrow.block j (by simp; omega) (fun e => hjo e.symm), Below.heap_alloc W tmp j hj]
  · intro b0 h1 h2 h3
    refine (((Below.refl b0 W).alloc h3 tmp).grown hgrow (by simp; omega) fun j ej => ?_).setCell (p := ⟨B, 0, none⟩) h1 v'
    have := (ownGe hrow j ej).1
    omega
theorem recV_one (a : Addr) (cap : Nat) (c : List UInt8) (s : Nat) : (recV a cap c s).oneCell' = true := by
  unfold recV pieceV; split <;> rfl
theorem recV_block (a : Addr) (cap : Nat) (c : List UInt8) (s : Nat) : ∀ a' n c', recV a cap c s = .slice (some a') n c' → a'.block = a.block := by
  intro a' n c' e
  unfold recV pieceV at e
  split at e
  · cases e
  · simp only [Value.slice.injEq, Option.some.injEq] at e
    rw [← e.1]
    split
    · rfl
    · exact add_block _ _
theorem ownsRow_at {W : World} {base : Nat} {e : TypeId} {v : Value} {k : Nat} {xs : List Value} (h : W.ownsRow base e 1 v k xs) : xs.length = k := by have := h.1; omega
/-- Where recordsOf stands. -/
def RecsSt (w : World) (a : Addr) (cap : Nat) (c : List UInt8) (pre : List (Fin 256)) (W : World) : Prop :=
  (∃ v, Boxed W w.heap.size 71 v ∧ W.ownsRow (w.heap.size + 1 + 1) 30 1 v pre.length (pre.map fun x => recV a cap c x.val) ∧ True) ∧ Below w.heap.size w W ∧ w.heap.size + 1 + 1 ≤ W.heap.size
theorem recsSt_own (w : World) (a : Addr) (cap : Nat) (c : List UInt8) (B : Nat) (hB : w.heap.size ≤ B) : OwnFrom B (RecsSt w a cap c) := by
  intro pre W W' row ⟨h1, h2, h3⟩ hg hr
  refine ⟨?_, ?_, Nat.le_trans h3 hg.size⟩
  · obtain ⟨v, hv, hrow, _⟩ := h1
    refine ⟨v, hv.kept hg (fun e' => ?_), hrow.kept hg ?_, trivial⟩
    · obtain ⟨_, o, ho, hc⟩ := hr _ e'.symm
      rw [show W.heap[w.heap.size]? = _ from hv] at ho; cases ho; cases hc
    · rcases hrow.2 with ⟨rfl, _⟩ | ⟨g, cap, cur, rfl, _, hgb, _⟩
      · exact .inl rfl
      · refine .inr fun e' => ?_
        obtain ⟨_, o, ho, hc⟩ := hr g (by simpa [Value.ownBlock] using e'.symm)
        rw [hgb] at ho; cases ho; cases hc
  · exact (ownFrom_below (β := List (Fin 256)) (Nat.le_refl _) hB) pre W W' row h2 hg hr
set_option maxRecDepth 100000 in
set_option maxHeartbeats 400000 in
theorem recordsOf_any {w : World} {a : Addr} {cap : Nat} {c : List UInt8} (hC : Cont w a cap c) :
    Calls Try.prog 35 #[.slice (some a) 2048 cap] w fun e w' => ∃ (ao : Option Addr) (vs : List Value) (cp : Nat), e = .returned (.slice ao vs.length cp) ∧ OwnV w.heap.size w' (.slice ao vs.length cp) vs ∧ ElB w vs (recsP c) ∧ (∀ u ∈ vs, ∀ a' n c', u = .slice (some a') n c' → a'.block = a.block) ∧ Below w.heap.size w w' := by
  obtain ⟨i0, hi, hz0, hz1, hz2⟩ := info_parts infoS
  refine (callsIn_wide (n := 9)).1 ?_
  refine callsIn_of_wp_marks Try.func35 rfl trivial ?_ rfl
  simp only [Try.ntmps35, List.size_toArray, List.length_cons, List.length_nil, Nat.reduceAdd, Nat.reduceSub, Array.replicate_succ, Array.replicate_zero, List.push_toArray, List.append_toArray, List.nil_append, List.cons_append]
  gi_wp2_with (refine ⟨trivial, ?_⟩; gi_at_call 31; refine (callsIn_wide.2 (slots_any (some a) 2048 cap _)).mono ?_; rintro e w' ⟨rfl, rfl⟩)
  have bO := Boxed.new w 71 (.slice none 0 0)
  have c2 := cell_new_l (w.alloc (.cells #[.slice none 0 0] 71)) (.slice (some a) 2048 cap) 30
  simp only [World.size_alloc] at c2
  have hB0 : Below w.heap.size w ((w.alloc (.cells #[.slice none 0 0] 71)).alloc (.cells #[.slice (some a) 2048 cap] 30)) := ((Below.refl _ w).alloc (Nat.le_refl _) _).alloc (by simp) _
  have hCl := hC.lt
  refine wpIn_rangeFunc_ownG (F := Fence.wide) (n := 9) rfl (by omega) (gf := 57) (lb := #[.pointer (some ⟨w.heap.size + 1, 0, none⟩)]) rfl trivial (enters_of Try.func57 (by kernel_rfl) rfl)
    (slots_stops 8 (by omega) (w.heap.size + 1) a cap c _ (by simp) c2.1 (hC.keep hB0)) Kc.trans (kc_b (by simp) (by simp; omega)) (Below.refl _ _) (fun _ => rfl)
    (RecsSt w a cap c)
    (fun _ _ _ => False)
    (recsSt_own w a cap c _ (by simp; omega))
    (fun _ _ _ _ _ hs _ _ => hs)
    ⟨⟨_, bO.alloc _, World.ownsRow_nil _ _ _ _, trivial⟩, hB0, by simp⟩
    (fun (x : Fin 256) => { tmps := #[.slice (some a) 2048 cap, undef, .slice none 0 0, .pointer (some ⟨w.heap.size, 0, none⟩), undef, recV a cap c x.val, .slice (some a) 2048 cap, .func (.func 57) #[] #[.pointer (some ⟨w.heap.size + 1, 0, none⟩)], .int .i64 (x.val : Int), recV a cap c x.val, undef, undef, undef, undef, undef], defers := [] }) ?assign ?body ?done ?stop
  case assign =>
    intro l x W K hK
    rw [slotV_eq]
    gi_wp2
    exact hK
  case body =>
    rintro l pre x W ⟨⟨v, hv, hrow, _⟩, hB, hsz⟩ hlt
    have hc := hv.cell
    have hvB : v.ownBlock ≠ some w.heap.size := fun e => by have := (ownGe hrow _ e).1; omega
    obtain ⟨ao, cp, hpv, _⟩ := (recV_bytes hC x.val).form
    have hone := recV_one a cap c x.val
    have hrw : (pre ++ [x]).map (fun x => recV a cap c x.val) = pre.map (fun x => recV a cap c x.val) ++ [recV a cap c x.val] := by simp
    obtain ⟨u, hu⟩ : ∃ u, recV a cap c x.val = u := ⟨_, rfl⟩
    rw [hu] at hpv hone hrw ⊢
    subst hpv
    clear hu
    generalize (recP c x.val).length = m at *
    gi_wp2_with (gi_at_builtin; refine wpListIn_append_own_at _ rfl _ _ 71 rfl (w.heap.size + 1 + 1) 30 i0 (.slice none 0 0) 1 24 Try.underlying71 hi hz0 hz1 hz2 rfl (by decide) _ _ _ rfl (hrow.alloc _) ⟨W.heap.size, 0, none⟩ 1 1 [.slice ao m cp] rfl rfl (cell_one_new _ _ _) (by simp [Value.oneCell']) (by unfold maxLen; omega) (by omega) (by simp; omega) ?_; intro v' w1 hown' hgrow _ hat; obtain ⟨g', cap', rfl⟩ := ownsRow_succ hown'; obtain ⟨hv1, hA⟩ := app8 hv hvB hrow hsz hown' hgrow (hat.imp id (fun e k hk => by rw [e] at hk; simp at hk; omega)); have hc1 := hv1.cell; have hf1 := hv1.frozen)
    exact ⟨hA.oth.from _, ⟨hA.grown _ (by omega) (by omega) (fun e => by have := (ownGe hrow _ e).1; omega), hA.grown _ (by omega) (by omega) (fun e => by have := (ownGe hrow _ e).1; omega)⟩, ⟨⟨_, hA.box, by rw [hrw]; simpa using hA.row, trivial⟩, hB.trans (hA.below _ (Nat.le_refl _) (by omega) (by omega)), Nat.le_trans hsz hA.oth.size⟩⟩
  case done =>
    rintro D ys W hD rfl ⟨⟨v, hv, hrow, _⟩, hB, hsz⟩ hK
    have hc := hv.cell
    have hcl := cntP_le c
    have hlen : (fins.take (cntP c)).length = cntP c := by rw [List.length_take, fins_len]; omega
    have hmap : (fins.take (cntP c)).map (fun x => recV a cap c x.val) = (List.range (cntP c)).map (recV a cap c) := fins_map (recV a cap c) (cntP c) hcl
    rw [hlen, hmap] at hrow
    obtain ⟨vs, hvs⟩ : ∃ vs, (List.range (cntP c)).map (recV a cap c) = vs := ⟨_, rfl⟩
    have hvl : vs.length = cntP c := by rw [← hvs]; simp
    rw [hvs, ← hvl] at hrow
    have hE : ElB w vs (recsP c) := ⟨by rw [hvl, recsP_len], fun k h1 h2 => by
      have e1 : vs[k] = recV a cap c k := by simp [← hvs]
      rw [e1, recsP_at]; exact recV_bytes hC k⟩
    have hAt : ∀ u ∈ vs, ∀ a' n c', u = .slice (some a') n c' → a'.block = a.block := fun u hu a' n c' e => by
      rw [← hvs] at hu
      obtain ⟨k, _, hk⟩ := List.mem_map.1 hu
      exact recV_block a cap c k a' n c' (hk.trans e)
    have hV : OwnV w.heap.size W v vs := own_base hrow (by omega)
    obtain ⟨ao, cp, rfl, _, _⟩ := hV.row
    gi_wp2
    refine ⟨by simp, .inl ⟨_, _, rfl, run_takeDeferred hK, ?_⟩⟩
    exact ⟨_, results_tmp rfl _ _ _, ao, vs, cp, by rw [hvl]; rfl, ownsRow_putObj hV _ hK rfl, hE, hAt, hB.trans (belowK_b (w := w) (Nat.le_refl _) W D _ _ (by simp at hD; omega) hK rfl rfl)⟩
  case stop =>
    rintro D k pre W _ _ h _
    exact h.elim
end Go.Proofs.Ytkmgahembhgloaa

/- Iterators that hold blocks of their own while a round goes: what a loop over one comes to. -/
import Derived.Test.YtmldpbgdjlblmaaDoorL11X
namespace Go.Proofs.YtmldpbgdjlblmaaDoor
open Go.RowKit Go.Maps Go.Shelf
set_option linter.unusedVariables false
set_option linter.unusedSimpArgs false

/-- An iterator that needs what Rd says, and that the blocks which it laid ahead of the mark m lie as they lay. -/
def SeqM {α : Type} (F : Fence) (n : Nat) (P : Program) (g : Nat) (lb : Array Value) (encs : α → Array Value) (Rd : List α → World → Prop) (S Sp : List α → Prop) (N : Nat) (w : World) : Prop :=
  ∀ (l : Nat) (J : Nat → List α → World → Prop) (Jx : List α → World → Prop) (W : World), Below w.heap.size w W → (∀ m, OwnFrom W.heap.size (J m)) → OwnFrom W.heap.size Jx → (∀ m pre W, J m pre W → Rd pre W) →
    (∀ m pre x W1, W.heap.size ≤ m → m ≤ W1.heap.size → J m pre W1 → pre.length < N → YieldAt F (n - 1) P l (encs x) W1 fun e W' =>
      (e = .returned (.bool true) ∧ J m (pre ++ [x]) W' ∧ KeepsFrom W.heap.size W1 W' ∧ ∀ b, W.heap.size ≤ b → b < m → W'.heap[b]? = W1.heap[b]?) ∨ (e = .returned (.bool false) ∧ Jx (pre ++ [x]) W' ∧ KeepsFrom W.heap.size W1 W')) →
    (∀ m W', Below W.heap.size W W' → W.heap.size ≤ m → m ≤ W'.heap.size → J m [] W') →
    CallsIn F n P g (#[.func (.yield l) #[] #[]] ++ lb) W fun e W' => (∃ v, e = .returned v) ∧ ((∃ m xs, S xs ∧ J m xs W') ∨ (∃ pre, Sp pre ∧ Jx pre W'))
variable {F : Fence} {n : Nat} {P : Program}
theorem BkAt.below {W W' : World} {D : Nat} {r : Loop} (h : BkAt W D r) (hb : Below W.heap.size W W') (hD : D + 1 < W.heap.size) : BkAt W' D r := ⟨(hb.block _ hD).trans h.l, (hb.block _ (by omega)).trans h.d⟩
theorem BkAt.grown {W W' : World} {D : Nat} {r : Loop} {row : Option Nat} (h : BkAt W D r) (hg : W.grownBy W' row) (hr : ∀ k, row = some k → D + 1 < k) : BkAt W' D r := by
  have h1 := (Array.getElem?_eq_some_iff.1 h.l).1
  exact ⟨(hg.block _ h1 (fun e => by have := hr _ e.symm; omega)).trans h.l, (hg.block _ (by omega) (fun e => by have := hr _ e.symm; omega)).trans h.d⟩
abbrev bodyM {α : Type} (B m : Nat) (I : List α → World → Prop) (Ix : Code → List α → World → Prop) (xs : List α) (W : World) : Exit → Act → World → Prop := ownPostG B (fun A C => ∀ b, B + 2 ≤ b → b < m → C.heap[b]? = A.heap[b]?) I Ix xs W
/-- A loop over such an iterator. -/
theorem wpIn_rangeM {α : Type} {g : Operand} {ps : Array Tmp} {assign body : Code} {Q : Exit → Act → World → Prop} {a : Act} {w : World}
    (hro : F.round = none) (h1 : 1 ≤ n) {gf : Nat} {lb : Array Value} (hg : a.eval g = .func (.func gf) #[] lb) (hFg : F.fn gf) (eg : ∀ args w, (callFunc gf args).run P w = .ok (.enter gf args) w)
    {encs : α → Array Value} {Rd : List α → World → Prop} {S Sp : List α → Prop} {N : Nat} {w0 : World} (hseq : SeqM F (n - 1) P gf lb encs Rd S Sp N w0)
    (hb0 : Below w0.heap.size w0 w) (hps : ∀ x, (encs x).size = ps.size)
    (I : Nat → List α → World → Prop) (Ix : Code → List α → World → Prop) (hI : ∀ m, OwnFrom w.heap.size (I m)) (hIx : ∀ c, OwnFrom w.heap.size (Ix c)) (hRd : ∀ m pre W, I m pre W → Rd pre W) (h0 : ∀ m W, Below w.heap.size w W → w.heap.size ≤ m → m ≤ W.heap.size → I m [] W) (a₁ : α → Act)
    (hassign : ∀ (l : Nat) (x : α) (W : World) (K : Act → World → Prop), K (a₁ x) W →
      assign.wpIn (F.inRound l) (n - 1 - 1) P (Exit.then K (fun _ _ _ => False)) { tmps := (ps.zip (encs x)).foldl (fun t (p, v) => t.setIfInBounds p v) a.tmps, defers := [] } W)
    (hbody : ∀ (l m : Nat) (pre : List α) (x : α) (W : World), w.heap.size + 2 ≤ m → m ≤ W.heap.size → I m pre W → pre.length < N → body.wpIn (F.inRound l) (n - 1 - 1) P (bodyM w.heap.size m (I m) Ix (pre ++ [x]) W) (a₁ x) W)
    (hdone : ∀ (D m : Nat) (xs : List α) (W : World), w.heap.size ≤ D → S xs → I m xs W → W.heap[D]? = some (.deferred (some [])) → Q .normal { a with defers := { target := .collected D, args := #[] } :: a.defers } W)
    (hstop : ∀ (D : Nat) (c : Code) (pre : List α) (W : World), w.heap.size ≤ D → Sp pre → Ix c pre W → W.heap[D]? = some (.deferred (some [])) → c.wpIn F n P Q { a with defers := { target := .collected D, args := #[] } :: a.defers } W) :
    (Code.rangeFunc g ps assign body).wpIn F n P Q a w := by
  refine wpIn_rangeFunc ?_
  intro fn hfn
  rw [hro]
  obtain ⟨rec, hrec⟩ : ∃ rec : LoopState → Option Code → Loop, rec = fun st pe => { state := st, pending := pe, fn, tmps := a.tmps, params := ps, assign, body, defers := w.heap.size } := ⟨_, rfl⟩
  have hfix : ∀ st pe st' pe', ({ rec st pe with state := st', pending := pe' } : Loop) = rec st' pe' := fun st pe st' pe' => by rw [hrec]
  have hst : ∀ st pe, (rec st pe).state = st := fun st pe => by rw [hrec]
  obtain ⟨W1, hW1⟩ : ∃ W1, (w.alloc (.deferred (some []))).alloc (.loop (rec .ready none)) = W1 := ⟨_, rfl⟩
  have hB1 : BkAt W1 w.heap.size (rec .ready none) := by
    rw [← hW1]
    refine ⟨?_, (Below.heap_alloc _ _ _ (by simp)).trans (World.alloc_heap_new w _)⟩
    have := World.alloc_heap_new (w.alloc (.deferred (some []))) (.loop (rec .ready none))
    rwa [World.size_alloc] at this
  have hs1 : W1.heap.size = w.heap.size + 2 := by rw [← hW1]; simp
  have hW1b : Below w.heap.size w W1 := by rw [← hW1]; exact ((Below.refl _ w).alloc (Nat.le_refl _) _).alloc (by simp) _
  have far : ∀ {A : World} {row : Option Nat}, (∀ r, row = some r → W1.heap.size ≤ r ∧ ∃ o : Obj, A.heap[r]? = some o ∧ o.isCells = false) → ∀ r, row = some r → w.heap.size ≤ r ∧ ∃ o : Obj, A.heap[r]? = some o ∧ o.isCells = false := by
    intro A row hr r e
    obtain ⟨hB, h⟩ := hr r e
    exact ⟨by omega, h⟩
  refine ⟨w.heap.size + 1, [{ target := .collected w.heap.size, args := #[] }], W1, { target := .fn (.func gf) lb, args := #[.func (.yield (w.heap.size + 1)) #[] #[]] }, W1, gf,
    #[.func (.yield (w.heap.size + 1)) #[] #[]] ++ lb, W1, ?_, ?_, ?_, ?_, fun _ => h1, ?_⟩
  · rw [← hW1, hrec]; exact run_enterLoop_outer _ _ _ _ _
  · simp only [resolve, hg]
    simp [go_sem]
  · intro f' hf'
    simp [Target.leads] at hf'
    subst hf'
    exact hFg
  · simp [invoke, go_sem, eg]
  · refine (hseq (w.heap.size + 1) (fun m pre W => I m pre W ∧ BkAt W w.heap.size (rec .ready none)) (fun pre W => ∃ c, Ix c pre W ∧ BkAt W w.heap.size (rec .done (some c))) W1 (hb0.trans (hW1b.mono hb0.size))
      (fun m s A B row hs hg' hr => ⟨hI m s A B row hs.1 hg' (far hr), hs.2.grown hg' (fun r e => by have := (hr r e).1; omega)⟩)
      (fun s A B row hs hg' hr => by
        obtain ⟨c, hc, hk⟩ := hs
        exact ⟨c, hIx c s A B row hc hg' (far hr), hk.grown hg' (fun r e => by have := (hr r e).1; omega)⟩)
      (fun m pre W h => hRd m pre W h.1) ?_ (fun m W' hW' h1 h2 => ⟨h0 m W' (hW1b.trans (hW'.mono (by omega))) (by omega) h2, hB1.below hW' (by omega)⟩)).mono ?_
    · rintro m pre x W hm hm2 ⟨hi, hb⟩ hlen
      have hy := run_yield (P := P) (args := encs x) hb.l (by rw [hrec]; exact hps x)
      rw [hrec] at hy
      refine ⟨fn, _, assign, body, hy, roundIn_of_wpIn hfn (hassign _ x W _ ⟨_, run_beginRound hb.l (hst _ _), ?_⟩)⟩
      have hb2 := hb.put { rec .ready none with state := .busy }
      refine wpIn_mono (hbody _ m pre x _ (by omega) (by simpa using hm2) ((hI m).putObj _ hi (by omega) hb.l rfl) hlen) ?_
      have hoth : ∀ (A : World) (o : Obj) (b : Nat), W1.heap.size ≤ b → (A.putObj (w.heap.size + 1) o).heap[b]? = A.heap[b]? := fun A o b hb' => World.putObj_heap_other (by omega)
      have kf : ∀ (o : Obj) (W3 : World), KeepsFrom w.heap.size (W.putObj (w.heap.size + 1) (.loop { rec .ready none with state := .busy })) W3 → KeepsFrom W1.heap.size W (W3.putObj (w.heap.size + 1) o) := fun o W3 hk3 => by
        refine ⟨?_, fun k ob hk h0 hc => ?_⟩
        · have := hk3.size
          simpa using this
        · rw [hoth _ _ _ hk]
          exact hk3.same k ob (by omega) ((hoth _ _ _ hk).trans h0) hc
      have fin : ∀ (jump : Option Code) (W3 : World), KeepsFrom w.heap.size (W.putObj (w.heap.size + 1) (.loop { rec .ready none with state := .busy })) W3 →
          (Instr.endRound (w.heap.size + 1) jump).run P W3 = .ok (.bool jump.isNone) (W3.putObj (w.heap.size + 1) (.loop (rec (if jump.isNone then .ready else .done) jump))) ∧
          W3.heap[w.heap.size + 1]? = some (.loop { rec .ready none with state := .busy }) ∧
          BkAt (W3.putObj (w.heap.size + 1) (.loop (rec (if jump.isNone then .ready else .done) jump))) w.heap.size (rec (if jump.isNone then .ready else .done) jump) := fun jump W3 hk3 => by
        have hb3 := hb2.keep hk3
        have := run_endRound (P := P) jump hb3.l
        refine ⟨?_, hb3.l, hb3.put _⟩
        rw [hrec] at this ⊢
        exact this
      rintro e a3 W3 hp
      cases e with
      | normal =>
        obtain ⟨hk3, hkp, hi3⟩ := hp
        obtain ⟨hr, hl3, hb4⟩ := fin none W3 hk3
        exact ⟨_, _, hr, .inl ⟨rfl, ⟨(hI m).putObj _ hi3 (by omega) hl3 rfl, hb4⟩, kf _ W3 hk3, fun b h1 h2 => by rw [hoth _ _ _ h1, hkp b (by omega) h2, hoth _ _ _ h1]⟩⟩
      | ret =>
        obtain ⟨hk3, hi3⟩ := hp
        obtain ⟨hr, hl3, hb4⟩ := fin (some .ret) W3 hk3
        exact ⟨_, _, hr, .inr ⟨rfl, ⟨.ret, (hIx _).putObj _ hi3 (by omega) hl3 rfl, hb4⟩, kf _ W3 hk3⟩⟩
      | exit id =>
        obtain ⟨hk3, hi3⟩ := hp
        obtain ⟨hr, hl3, hb4⟩ := fin (some (.exit id)) W3 hk3
        exact ⟨_, _, hr, .inr ⟨rfl, ⟨.exit id, (hIx _).putObj _ hi3 (by omega) hl3 rfl, hb4⟩, kf _ W3 hk3⟩⟩
      | goto t =>
        obtain ⟨hk3, hi3⟩ := hp
        obtain ⟨hr, hl3, hb4⟩ := fin (some (.goto t)) W3 hk3
        exact ⟨_, _, hr, .inr ⟨rfl, ⟨.goto t, (hIx _).putObj _ hi3 (by omega) hl3 rfl, hb4⟩, kf _ W3 hk3⟩⟩
      | panic ch => exact hp.elim
      | outgrown => exact hp.elim
    · rintro e W2 ⟨⟨v, rfl⟩, (⟨m, xs, hS, hi, hb⟩ | ⟨pre, hSp, c, hi, hb⟩)⟩
      · have h := run_endLoop (P := P) hb.l (by rw [hst]; simp)
        rw [hrec] at h
        exact ⟨none, _, h, hdone _ m xs _ (Nat.le_refl _) hS ((hI m).putObj _ hi (by omega) hb.l rfl) ((World.putObj_heap_other (by omega)).trans hb.d)⟩
      · have h := run_endLoop (P := P) hb.l (by rw [hst]; simp)
        rw [hrec] at h
        exact ⟨some c, _, h, hstop _ c pre _ (Nat.le_refl _) hSp ((hIx c).putObj _ hi (by omega) hb.l rfl) ((World.putObj_heap_other (by omega)).trans hb.d)⟩
end Go.Proofs.YtmldpbgdjlblmaaDoor

/- Requests end: what stands while they do. -/
import Derived.Test.YtmldpbgdjlblmaaDoorL11DF
import Derived.Maps.OwnIn
namespace Go.Proofs.YtmldpbgdjlblmaaDoor
open Go.RowKit Go.Joins Go.Maps Go.Shelf
set_option linter.unusedVariables false
set_option linter.unusedSimpArgs false

theorem LastI.of_at {A B : List Rq} (h : LastI A) (hl : A.length = B.length) (hB : ∀ j : Nat, B[j]? = A[j]? ∨ B[j]? = A[j]?.map gset) : LastI B := by
  have : ∀ {A B : List Rq}, A.length = B.length → (∀ j : Nat, B[j]? = A[j]? ∨ B[j]? = A[j]?.map gset) → GrowL A B := by
    intro A
    induction A with
    | nil =>
      intro B hl _
      cases B with
      | nil => exact .nil
      | cons b B => simp at hl
    | cons a A ih =>
      intro B hl hB
      cases B with
      | nil => simp at hl
      | cons b B =>
        refine .cons ?_ (ih (by simpa using hl) (fun j => ?_))
        · have := hB 0
          simp at this
          exact this
        · have := hB (j + 1)
          simpa using this
  exact h.grow (this hl hB)
/-- One step of the way through. -/
def stq (F : List Rq) (s : List Rq × List Int) (k : Nat) : List Rq × List Int := if isMay s.1 k then (grant s.1 k, s.2 ++ [txAt F k]) else s
def stp (F : List Rq) (pre : List Nat) : List Rq × List Int := pre.foldl (stq F) (F, [])
theorem stp_snoc (F : List Rq) (pre : List Nat) (k : Nat) : stp F (pre ++ [k]) = stq F (stp F pre) k := by simp [stp, List.foldl_append]
theorem stq_len (F : List Rq) (s : List Rq × List Int) (k : Nat) : (stq F s k).1.length = s.1.length := by
  unfold stq
  split
  · simp [grant]
  · rfl
theorem stq_at (F : List Rq) (s : List Rq × List Int) (k : Nat) (j : Nat) : (stq F s k).1[j]? = s.1[j]? ∨ (j = k ∧ (stq F s k).1[j]? = s.1[j]?.map gset) := by
  unfold stq
  split
  · by_cases e : j = k
    · right
      refine ⟨e, ?_⟩
      simp only [grant_at]
      rw [if_pos e]
    · left
      simp only [grant_at]
      rw [if_neg e]
  · exact Or.inl rfl
theorem stq_last (F : List Rq) {s : List Rq × List Int} (h : LastI s.1) (k : Nat) : LastI (stq F s k).1 := h.of_at (stq_len F s k).symm (fun j => (stq_at F s k j).imp id (fun e => e.2))
theorem stp_all (F : List Rq) (hF : LastI F) : ∀ pre : List Nat, LastI (stp F pre).1 ∧ (stp F pre).1.length = F.length ∧ (stp F pre).2.length ≤ pre.length ∧ ∀ j, j ∉ pre → (stp F pre).1[j]? = F[j]? := by
  have : ∀ (pre : List Nat) (s : List Rq × List Int), LastI s.1 → LastI (pre.foldl (stq F) s).1 ∧ (pre.foldl (stq F) s).1.length = s.1.length ∧ (pre.foldl (stq F) s).2.length ≤ s.2.length + pre.length ∧ ∀ j, j ∉ pre → (pre.foldl (stq F) s).1[j]? = s.1[j]? := by
    intro pre
    induction pre with
    | nil => intro s hs; exact ⟨hs, rfl, by simp, fun _ _ => rfl⟩
    | cons k l ih =>
      intro s hs
      obtain ⟨h1, h2, h3, h4⟩ := ih (stq F s k) (stq_last F hs k)
      refine ⟨h1, by rw [List.foldl_cons, h2, stq_len], ?_, fun j hj => ?_⟩
      · rw [List.foldl_cons]
        have : (stq F s k).2.length ≤ s.2.length + 1 := by unfold stq; split <;> simp
        simp only [List.length_cons]
        omega
      · rw [List.foldl_cons, h4 j (by simp at hj; simp [hj])]
        rcases stq_at F s k j with e | ⟨e, _⟩
        · exact e
        · simp [e] at hj
  intro pre
  have := this pre (F, []) hF
  simpa [stp] using this
theorem stp_pass (F : List Rq) (k : Nat) (hk : k ≤ F.length) : stp F (fil (fun r => !r.gr) F k) = passN F k := by
  induction k with
  | zero => rfl
  | succ k ih =>
    cases hg : (atR F k).gr with
    | true =>
      rw [fil_no (by simp [hg]), ih (by omega), passN_skip (fun r hr => ?_)]
      rw [atR_some (show k < F.length by omega)] at hr
      cases hr
      exact hg
    | false =>
      rw [fil_yes (by simp [hg]), stp_snoc, ih (by omega)]
      unfold stq
      cases hm : isMay (passN F k).1 k with
      | true => rw [passN_yes hm]; simp
      | false => rw [passN_no hm]; simp
theorem stp_wake (F : List Rq) : stp F (fil (fun r => !r.gr) F F.length) = wake F := by rw [stp_pass F _ (Nat.le_refl _), pass_wake]
/-- A slice in a box, one more appended: what lies below the row's base, and is not the box, lies as it lay. -/
structure App8 (W W2 : World) (n₀ B : Nat) (t e : TypeId) (v v' : Value) (m : Nat) (ys : List Value) : Prop where
  box : Boxed W2 B t v'
  row : W2.ownsRow n₀ e 1 v' m ys
  oth : KeepsOthers W W2
  grown : ∀ k, k < W.heap.size → k ≠ B → v.ownBlock ≠ some k → W2.heap[k]? = W.heap[k]?
  own : v'.ownBlock = v.ownBlock ∨ ∀ k, v'.ownBlock = some k → W.heap.size ≤ k
  below : ∀ b0, b0 ≤ B → b0 ≤ n₀ → b0 ≤ W.heap.size → Below b0 W W2
theorem ownGe {W : World} {n₀ : Nat} {e : TypeId} {v : Value} {k : Nat} {xs : List Value} (h : W.ownsRow n₀ e 1 v k xs) : ∀ j, v.ownBlock = some j → n₀ ≤ j ∧ j < W.heap.size := fun j hj => World.ownsRow.lt h j hj
theorem app8 {W w1 : World} {n₀ B : Nat} {t e : TypeId} {v v' : Value} {k m : Nat} {xs ys : List Value} {tmp : Obj}
    (hv : Boxed W B t v) (hB : v.ownBlock ≠ some B) (hrow : W.ownsRow n₀ e 1 v k xs) (hn₀ : n₀ ≤ W.heap.size)
    (hown' : w1.ownsRow n₀ e 1 v' m ys) (hgrow : (W.alloc tmp).grownBy w1 v.ownBlock) (hat : v'.ownBlock = v.ownBlock ∨ ∀ k, v'.ownBlock = some k → W.heap.size ≤ k) :
    Boxed w1 B t v ∧ App8 W (w1.setCell ⟨B, 0, none⟩ v') n₀ B t e v v' m ys := by
  have hv1 : Boxed w1 B t v := (hv.alloc tmp).kept hgrow (fun e => hB e.symm)
  have hlt := hv.lt
  have hB' : v'.ownBlock ≠ some B := fun e' => by
    rcases hat with h | h
    · exact hB (h ▸ e')
    · have := h B e'; omega
  refine ⟨hv1, hv1.set v', hown'.kept (grownBy_setCell' w1 B v') (.inr fun e' => hB' (by rw [e'])), ?_, ?_, hat, ?_⟩
  · refine ((KeepsOthers.alloc W tmp).trans (KeepsOthers.of_grownBy hgrow fun j o ej hj => ?_)).trans (KeepsOthers.setCell _ _ _)
    rcases (hrow.alloc tmp).2 with ⟨rfl, _⟩ | ⟨g, cap, cur, rfl, _, hgb, _⟩
    · simp [Value.ownBlock] at ej
    · obtain rfl : g = j := by simpa [Value.ownBlock] using ej
      rw [hgb] at hj; cases hj; rfl
  · intro j hj hjB hjo
    rw [Below.heap_setCell _ _ _ j (fun e => hjB e), hgrow.block j (by simp; omega) (fun e => hjo e.symm), Below.heap_alloc W tmp j hj]
  · intro b0 h1 h2 h3
    refine (((Below.refl b0 W).alloc h3 tmp).grown hgrow (by simp; omega) fun j ej => ?_).setCell (p := ⟨B, 0, none⟩) h1 v'
    have := (ownGe hrow j ej).1
    omega
/-- Where endThose's loop stands. -/
structure EnI (base : Nat) (w3 : World) (t : Nat) (most : Int) (lv : Value) (F : List Rq) (Bg : Nat) (pre : List Nat) (V : World) : Prop where
  tb : TOwn base V t most lv (stp F pre).1
  gr : ∃ gv, Boxed V Bg 40 gv ∧ V.ownsRow w3.heap.size 3 1 gv (stp F pre).2.length ((stp F pre).2.map (Value.int .i64))
  fr : Fr w3 V (fun b => b = Bg ∨ lv.ownBlock = some b)
theorem EnI.own {base : Nat} {w3 : World} {t : Nat} {most : Int} {lv : Value} {F : List Rq} {Bg : Nat} : OwnFrom w3.heap.size (EnI base w3 t most lv F Bg) := fun pre A C row hs hg hr => by
  refine ⟨hs.tb.kept hg (fun k e => (hr k e).2), ?_, hs.fr.trans (Fr.of_grown (F := fun k => row = some k) hg (fun k e => e)) (fun k e => Or.inr (hr k e).1)⟩
  obtain ⟨gv, hv, hrow⟩ := hs.gr
  refine ⟨gv, hv.kept hg (fun e' => ?_), hrow.kept hg ?_⟩
  · obtain ⟨_, o, ho, hc⟩ := hr _ e'.symm
    rw [show A.heap[Bg]? = _ from hv] at ho; cases ho; cases hc
  · rcases hrow.2 with ⟨rfl, _⟩ | ⟨g, cap, cur, rfl, _, hgb, _⟩
    · exact .inl rfl
    · refine .inr fun e' => ?_
      obtain ⟨_, o, ho, hc⟩ := hr g (by simpa [Value.ownBlock] using e'.symm)
      rw [hgb] at ho; cases ho; cases hc
end Go.Proofs.YtmldpbgdjlblmaaDoor

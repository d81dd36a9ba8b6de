/- Who keeps a request waiting, one by one: against; grant. -/
import Derived.Test.YtmldpbgdjlblmaaDoorL11Y
import Derived.Sort.CutIn
import Derived.Deep.RegionHeld3
namespace Go.Proofs.YtmldpbgdjlblmaaDoor
open Go.RowKit Go.Maps Go.Shelf
set_option linter.unusedVariables false
set_option linter.unusedSimpArgs false
attribute [local go_sem] Oper.semAt_some

theorem against_any (tp : Option Addr) (i : Nat) (w : World) : Calls Tryd.prog 47 #[.pointer tp, .int .i64 i] w fun e w' => e = .returned (.func (.func 63) #[] #[.pointer (some ⟨w.heap.size, 0, none⟩), .pointer (some ⟨w.heap.size + 1, 0, none⟩)]) ∧ w' = (w.alloc (.cells #[.pointer tp] 23)).alloc (.cells #[.int .i64 i] 3) := by
  have hmf : ∀ (fn : Fn) (first cap : Array Value) (w : World), (Instr.makeFunc fn first cap).run Tryd.prog w = .ok (.func fn first cap) w := fun _ _ _ _ => rfl
  go_enter Tryd.func47, Tryd.ntmps47
  go_wp2
  go_ret
  exact ⟨rfl, rfl⟩
/-- The places, up to one, of the requests that keep the one at i waiting. -/
def fbk (L : List Rq) (i k : Nat) : List Nat := (List.range k).filter fun j => bkP L i (atR L i) j (atR L j)
/-- What counts of a request that clashes. -/
def ctP (L : List Rq) (i : Nat) (x : Rq) (j : Nat) : Bool := (atR L j).gr || (decide (j < i) && !cvP L x)
theorem fbk_fil (L : List Rq) (i k : Nat) : (fil (fun r => clP r (atR L i)) L k).filter (ctP L i (atR L i)) = fbk L i k := by
  unfold fil fbk
  rw [List.filter_filter]
  congr 1
  funext j
  unfold bkP ctP
  exact Bool.and_comm _ _
theorem frz_keep {B : Nat} {W W' : World} (hb : Below B W W') {p : Addr} (h : p.block < B) : W'.frozen? p = W.frozen? p := by
  unfold World.frozen?
  rw [hb.block _ h]
theorem Hid.mk' {p : Prop} (h : p) : Hid p := h
theorem keepAl {Q : Prop} {W0 W : World} (h : Below W0.heap.size W0 W ∧ Q) (o : Obj) : Below W0.heap.size W0 (W.alloc o) := h.1.alloc h.1.size o
theorem keepAA {Q : Prop} {W0 W : World} (h : Below W0.heap.size W0 W ∧ Q) (o o' : Obj) : Below W0.heap.size W0 ((W.alloc o).alloc o') := (h.1.alloc h.1.size o).alloc (by have := h.1.size; simp; omega) o'
theorem keepA2 {W0 W : World} (h : Below W0.heap.size W0 W) (o o' : Obj) : Below W0.heap.size W0 ((W.alloc o).alloc o') := (h.alloc h.size o).alloc (by have := h.size; simp; omega) o'
theorem keepA1 {W0 W : World} (h : Below W0.heap.size W0 W) (o : Obj) : Below W0.heap.size W0 (W.alloc o) := h.alloc h.size o
/-- No request: all is zero. -/
abbrev zq : Rq := ⟨0, ⟨0, ⟨#[]⟩, ⟨#[]⟩, ⟨#[]⟩, false⟩, 0, false, false⟩
theorem z9_keep {cur w' : World} {b : Nat} (hb : Below cur.heap.size cur w') (h : cur.heap[b]? = some zq.box) : w'.cell? ⟨b, 0, none⟩ = some (.int .i64 0) ∧ w'.cell? ⟨b, 1, none⟩ = some (.int .i64 0) ∧ w'.cell? ⟨b, 2, none⟩ = some (.string ⟨#[]⟩) ∧ w'.cell? ⟨b, 3, none⟩ = some (.string ⟨#[]⟩) ∧ w'.cell? ⟨b, 4, none⟩ = some (.string ⟨#[]⟩) ∧ w'.cell? ⟨b, 5, none⟩ = some (.bool false) ∧ w'.cell? ⟨b, 6, none⟩ = some (.int .i64 0) ∧ w'.cell? ⟨b, 7, none⟩ = some (.bool false) ∧ w'.cell? ⟨b, 8, none⟩ = some (.bool false) ∧ ∀ o, w'.frozen? ⟨b, o, none⟩ = false := by
  have h2 : w'.heap[b]? = some zq.box := (hb.block b (Array.getElem?_eq_some_iff.1 h).1).trans h
  refine ⟨?_, ?_, ?_, ?_, ?_, ?_, ?_, ?_, ?_, fun o => ?_⟩
  all_goals first | (rw [cell_of_row w' b _ _ _ _ h2]; rfl) | exact frozen_row h2 o
theorem f1_keep {cur w' : World} {b : Nat} (hb : Below cur.heap.size cur w') (h : cur.heap[b]? = some (.cells #[.bool false] 4)) : w'.cell? ⟨b, 0, none⟩ = some (.bool false) ∧ ∀ o, w'.frozen? ⟨b, o, none⟩ = false := by
  have h2 : w'.heap[b]? = some (.cells #[.bool false] 4) := (hb.block b (Array.getElem?_eq_some_iff.1 h).1).trans h
  exact ⟨by rw [cell_of_row w' b _ _ _ _ h2]; rfl, fun o => frozen_row h2 o⟩
theorem z9_al {w' : World} {b : Nat} (h : w'.heap[b]? = some zq.box) (ob : Obj) : (w'.alloc ob).heap[b]? = some zq.box := (Below.heap_alloc _ _ _ (Array.getElem?_eq_some_iff.1 h).1).trans h
/-- .. and behind one more block. -/
theorem z9_keep2 {cur w' : World} {b : Nat} (hb : Below cur.heap.size cur w') (h : cur.heap[b]? = some zq.box) (ob : Obj) : (w'.alloc ob).cell? ⟨b, 0, none⟩ = some (.int .i64 0) ∧ (w'.alloc ob).cell? ⟨b, 1, none⟩ = some (.int .i64 0) ∧ (w'.alloc ob).cell? ⟨b, 2, none⟩ = some (.string ⟨#[]⟩) ∧ (w'.alloc ob).cell? ⟨b, 3, none⟩ = some (.string ⟨#[]⟩) ∧ (w'.alloc ob).cell? ⟨b, 4, none⟩ = some (.string ⟨#[]⟩) ∧ (w'.alloc ob).cell? ⟨b, 5, none⟩ = some (.bool false) ∧ (w'.alloc ob).cell? ⟨b, 6, none⟩ = some (.int .i64 0) ∧ (w'.alloc ob).cell? ⟨b, 7, none⟩ = some (.bool false) ∧ (w'.alloc ob).cell? ⟨b, 8, none⟩ = some (.bool false) ∧ ∀ o, (w'.alloc ob).frozen? ⟨b, o, none⟩ = false := by
  have h2 : (w'.alloc ob).heap[b]? = some zq.box := z9_al ((hb.block b (Array.getElem?_eq_some_iff.1 h).1).trans h) ob
  refine ⟨?_, ?_, ?_, ?_, ?_, ?_, ?_, ?_, ?_, fun o => ?_⟩
  all_goals first | (rw [cell_of_row _ b _ _ _ _ h2]; rfl) | exact frozen_row h2 o
theorem f1_keep2 {cur w' : World} {b : Nat} (hb : Below cur.heap.size cur w') (h : cur.heap[b]? = some (.cells #[.bool false] 4)) (ob : Obj) : (w'.alloc ob).cell? ⟨b, 0, none⟩ = some (.bool false) ∧ ∀ o, (w'.alloc ob).frozen? ⟨b, o, none⟩ = false := by
  have h2 : (w'.alloc ob).heap[b]? = some (.cells #[.bool false] 4) := (Below.heap_alloc _ _ _ (Array.getElem?_eq_some_iff.1 ((hb.block b (Array.getElem?_eq_some_iff.1 h).1).trans h)).1).trans ((hb.block b (Array.getElem?_eq_some_iff.1 h).1).trans h)
  exact ⟨by rw [cell_of_row _ b _ _ _ _ h2]; rfl, fun o => frozen_row h2 o⟩
theorem all9 {α : Type} {a b c d e f g h i j : α → Prop} (H : ∀ x, a x ∧ b x ∧ c x ∧ d x ∧ e x ∧ f x ∧ g x ∧ h x ∧ i x ∧ j x) : (∀ x, a x) ∧ (∀ x, b x) ∧ (∀ x, c x) ∧ (∀ x, d x) ∧ (∀ x, e x) ∧ (∀ x, f x) ∧ (∀ x, g x) ∧ (∀ x, h x) ∧ (∀ x, i x) ∧ ∀ x, j x :=
  ⟨fun x => (H x).1, fun x => (H x).2.1, fun x => (H x).2.2.1, fun x => (H x).2.2.2.1, fun x => (H x).2.2.2.2.1, fun x => (H x).2.2.2.2.2.1, fun x => (H x).2.2.2.2.2.2.1, fun x => (H x).2.2.2.2.2.2.2.1, fun x => (H x).2.2.2.2.2.2.2.2.1, fun x => (H x).2.2.2.2.2.2.2.2.2⟩
theorem all1 {α : Type} {a b : α → Prop} (H : ∀ x, a x ∧ b x) : (∀ x, a x) ∧ ∀ x, b x := ⟨fun x => (H x).1, fun x => (H x).2⟩
theorem new_at1 (W : World) (o o' : Obj) : ((W.alloc o).alloc o').heap[W.heap.size + 1]? = some o' := by
  have := World.alloc_heap_new (W.alloc o) o'
  rwa [World.size_alloc] at this
theorem keepW {Q : Prop} {W0 W : World} (h : Below W0.heap.size W0 W ∧ Q) : Below W0.heap.size W0 W := h.1
theorem ne_size {W w' : World} {o : Obj} (h : (W.alloc o).drew.heap.size ≤ w'.heap.size) : ¬ (w'.heap.size = W.heap.size) ∧ ¬ (W.heap.size = w'.heap.size) := by
  have h2 : (W.alloc o).heap.size ≤ w'.heap.size := h
  rw [World.size_alloc] at h2
  omega
/-- Nine cells of a block that was laid since. -/
theorem keep9 {B : Nat} {W0 W : World} {b : Nat} (h : Below B W0 W) (hb : B ≤ b) {v0 v1 v2 v3 v4 v5 v6 v7 v8 : Value} : Below B W0 (((((((((W.setCell ⟨b, 0, none⟩ v0).setCell ⟨b, 1, none⟩ v1).setCell ⟨b, 2, none⟩ v2).setCell ⟨b, 3, none⟩ v3).setCell ⟨b, 4, none⟩ v4).setCell ⟨b, 5, none⟩ v5).setCell ⟨b, 6, none⟩ v6).setCell ⟨b, 7, none⟩ v7).setCell ⟨b, 8, none⟩ v8) :=
  ((((((((h.setCell (p := ⟨b, 0, none⟩) hb v0).setCell (p := ⟨b, 1, none⟩) hb v1).setCell (p := ⟨b, 2, none⟩) hb v2).setCell (p := ⟨b, 3, none⟩) hb v3).setCell (p := ⟨b, 4, none⟩) hb v4).setCell (p := ⟨b, 5, none⟩) hb v5).setCell (p := ⟨b, 6, none⟩) hb v6).setCell (p := ⟨b, 7, none⟩) hb v7).setCell (p := ⟨b, 8, none⟩) hb v8
theorem keep1 {B : Nat} {W0 W : World} {b : Nat} (h : Below B W0 W) (hb : B ≤ b) {v : Value} : Below B W0 (W.setCell ⟨b, 0, none⟩ v) := h.setCell (p := ⟨b, 0, none⟩) hb v
end Go.Proofs.YtmldpbgdjlblmaaDoor

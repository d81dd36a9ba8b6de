/- The document's pool: a frame's cell is turned; Unpin. -/
import Derived.Test.YtpmbpadckbkglaaP7RD
namespace Go.Proofs.Ytpmbpadckbkglaa
open Go.RowKit Go.Maps
set_option linter.unusedVariables false
set_option linter.unusedSimpArgs false

theorem flat_set {α β : Type} (c : α → List β) (n : Nat) (l : List α) (hl : ∀ x ∈ l, (c x).length = n) (k : Nat) (hk : k < l.length) (j : Nat) (hj : j < n) (u : β) (y : α) (hy : c y = (c l[k]).set j u) : (l.flatMap c).set (k * n + j) u = (l.set k y).flatMap c := by
  induction l generalizing k with
  | nil => simp at hk
  | cons x l ih =>
    have hx : (c x).length = n := hl x (by simp)
    cases k with
    | zero =>
      rw [List.set_cons_zero, List.flatMap_cons, List.flatMap_cons, hy]
      simp only [List.getElem_cons_zero, Nat.zero_mul, Nat.zero_add]
      rw [List.set_append_left _ _ (by omega)]
    | succ k =>
      rw [List.set_cons_succ, List.flatMap_cons, List.flatMap_cons]
      have e : (k + 1) * n + j = n + (k * n + j) := by rw [Nat.succ_mul]; omega
      rw [e, List.set_append_right _ _ (by omega), hx, Nat.add_sub_cancel_left, ih (fun y hy => hl y (by simp [hy])) k (by simpa using hk) (by simpa using hy)]
/-- One cell of one frame is turned. -/
theorem OwnF.set {base : Nat} {w : World} {gl n cap : Nat} {l : List RF} (h : OwnF base w (.slice (some ⟨gl, 0, none⟩) n cap) l) {k : Nat} (hk : k < l.length) {j : Nat} (hj : j < 6) {u : Value} (hu : u.oneCell' = true) {f : RF} (hf : cellsR f = (cellsR l[k]).set j u) : OwnF base (w.setCell ⟨gl, k * 6 + j, none⟩ u) (.slice (some ⟨gl, 0, none⟩) n cap) (l.set k f) := by
  obtain ⟨h1, h2⟩ := h
  rcases h2 with ⟨hv, _⟩ | ⟨g, cap', cur, hv, hg, hh, hc, hm, hs, hx⟩
  · cases hv
  · cases hv
    have hset := setCell_eq_setRow w gl (k * 6 + j) _ _ _ u hh
    have hfs := flat_set cellsR 6 l (fun x _ => rfl) k hk j hj u f hf
    refine ⟨by rw [← hfs, List.length_set, h1, List.length_set], Or.inr ⟨gl, cap, cur.setIfInBounds (k * 6 + j) u, by rw [List.length_set], hg, ?_, by rw [List.length_set]; exact hc, hm, by simp [hs], ?_⟩⟩
    · rw [hset]; exact setRow_heap w gl _ _ _ _ hh
    · rw [← hfs, ← hx]
      simp only [List.length_set]
      rw [Array.toList_setIfInBounds, List.take_set]
theorem Fr.set {w : World} {g o : Nat} {u : Value} {cs : Array Value} {t : TypeId} (h : w.heap[g]? = some (.cells cs t (0, 0))) (F : Nat → Prop) (hF : F g) : Fr w (w.setCell ⟨g, o, none⟩ u) F := by
  rw [setCell_eq_setRow w g o _ _ _ u h]
  exact ⟨rfl, rfl, rfl, by simp, fun k _ hk => setRow_other w g k _ (fun e => hk (by rw [e]; exact hF))⟩
theorem ownF_typed {base : Nat} {w : World} {v : Value} {l : List RF} (h : OwnF base w v l) {b : Nat} (hb : v.ownBlock = some b) : ∃ cur, w.heap[b]? = some (.cells cur 95 (0, 0)) := own_block h hb
theorem ownB_typed {base : Nat} {w : World} {v : Value} {l : List UInt8} (h : OwnB base w v l) {b : Nat} (hb : v.ownBlock = some b) : ∃ cur, w.heap[b]? = some (.cells cur 5 (0, 0)) := own_block h hb
theorem RPIn.ng {base : Nat} {w : World} {H : Nat → Prop} {g : Nat} {dq vL : Value} {R : RPS} (h : RPIn base w H g dq vL R) : vL.ownBlock ≠ some g ∧ ∀ f ∈ R.l, f.v.ownBlock ≠ some g ∧ ∀ c, vL.ownBlock = some c → f.v.ownBlock ≠ some c := by
  refine ⟨fun e => ?_, fun f hf => ⟨fun e => ?_, fun c hc e => ?_⟩⟩
  · obtain ⟨cur, hh⟩ := ownF_typed h.row e
    rw [h.hg] at hh; simp at hh
  · obtain ⟨cur, hh⟩ := ownB_typed (h.hb f hf) e
    rw [h.hg] at hh; simp at hh
  · obtain ⟨cur, hh⟩ := ownB_typed (h.hb f hf) e
    obtain ⟨cur2, hh2⟩ := ownF_typed h.row hc
    rw [hh] at hh2; simp at hh2
/-- A cell of a frame is turned, its bytes are as they were. -/
theorem RPIn.setF {base : Nat} {w : World} {H : Nat → Prop} {g : Nat} {dq : Value} {gl n cap : Nat} {R : RPS} (h : RPIn base w H g dq (.slice (some ⟨gl, 0, none⟩) n cap) R) {k : Nat} (hk : k < R.l.length) {j : Nat} (hj : j < 6) {u : Value} (hu : u.oneCell' = true) {f : RF} (hf : cellsR f = (cellsR R.l[k]).set j u) (hfb : OwnB base w f.v f.b) (hfH : ∀ c, f.v.ownBlock = some c → H c) :
    RPIn base (w.setCell ⟨gl, k * 6 + j, none⟩ u) H g dq (.slice (some ⟨gl, 0, none⟩) n cap) { R with l := R.l.set k f } ∧ Fr w (w.setCell ⟨gl, k * 6 + j, none⟩ u) (fun i => i = gl) := by
  obtain ⟨cur, hh⟩ := ownF_typed h.row (b := gl) rfl
  have hF := Fr.set (o := k * 6 + j) (u := u) hh (fun i => i = gl) rfl
  have hne : g ≠ gl := fun e => h.ng.1 (by rw [e]; rfl)
  have hmem : ∀ x ∈ R.l.set k f, x = f ∨ x ∈ R.l := fun x hx => by
    obtain ⟨i, hi, rfl⟩ := List.getElem_of_mem hx
    rw [List.getElem_set]
    split
    · exact Or.inl rfl
    · exact Or.inr (List.getElem_mem _)
  have hbt : ∀ x : RF, OwnB base w x.v x.b → OwnB base (w.setCell ⟨gl, k * 6 + j, none⟩ u) x.v x.b := fun x hx => own_of_block hx (fun c hc => hF.block c (World.ownsRow.lt hx c hc).2 (fun e => by
    subst e
    obtain ⟨cur2, hh2⟩ := ownB_typed hx hc
    rw [hh] at hh2; simp at hh2))
  refine ⟨⟨(hF.block g (h.lo g h.gg).2 hne).trans h.hg, h.row.set hk hj hu hf, fun x hx => ?_, h.gg, h.gv, fun x hx => ?_, fun i hi => ⟨(h.lo i hi).1, by have := (h.lo i hi).2; have := hF.size; omega⟩⟩, hF⟩
  · rcases hmem x hx with rfl | hx
    · exact hbt _ hfb
    · exact hbt _ (h.hb x hx)
  · rcases hmem x hx with rfl | hx
    · exact hfH
    · exact h.gb x hx
/-- A cell of the pool's own block is turned. -/
theorem RPIn.setG {base : Nat} {w : World} {H : Nat → Prop} {g : Nat} {dq vL : Value} {R R' : RPS} (h : RPIn base w H g dq vL R) {j : Nat} {u : Value} (hl : R'.l = R.l)
    (hc : (#[dq, .int .i64 R.first, .int .i64 R.pages, .int .i64 R.frames, vL, .int .u64 R.log, .int .i64 R.now, .bool R.early] : Array Value).setIfInBounds j u = #[dq, .int .i64 R'.first, .int .i64 R'.pages, .int .i64 R'.frames, vL, .int .u64 R'.log, .int .i64 R'.now, .bool R'.early]) :
    RPIn base (w.setCell ⟨g, j, none⟩ u) H g dq vL R' ∧ Fr w (w.setCell ⟨g, j, none⟩ u) (fun i => i = g) := by
  have hF := Fr.set (o := j) (u := u) h.hg (fun i => i = g) rfl
  refine ⟨⟨?_, ?_, ?_, h.gg, h.gv, ?_, fun i hi => ⟨(h.lo i hi).1, by have := (h.lo i hi).2; have := hF.size; omega⟩⟩, hF⟩
  · rw [setCell_eq_setRow w g j _ _ _ u h.hg, ← hc]; exact setRow_heap w g _ _ _ _ h.hg
  · rw [hl]; exact own_of_block h.row (fun c hc => hF.block c (h.lo c (h.gv c hc)).2 (fun e => h.ng.1 (by rw [hc, e])))
  · rw [hl]; exact fun f hf => own_of_block (h.hb f hf) (fun c hc => hF.block c (h.lo c (h.gb f hf c hc)).2 (fun e => (h.ng.2 f hf).1 (by rw [hc, e])))
  · rw [hl]; exact h.gb
/-- A pool, one frame of it turned. -/
def RPS.at_ (R : RPS) (k : Nat) (f : RF) : RPS := { R with l := R.l.set k f }
theorem RPS.at_self (R : RPS) {k : Nat} (hk : k < R.l.length) : R.at_ k R.l[k] = R := by
  unfold RPS.at_; rw [List.set_getElem_self]
/-- A cell of the frame that is being turned. -/
theorem RPIn.setK {base : Nat} {w : World} {H : Nat → Prop} {g : Nat} {dq : Value} {gl n cap : Nat} {R : RPS} {k : Nat} {f0 : RF} (h : RPIn base w H g dq (.slice (some ⟨gl, 0, none⟩) n cap) (R.at_ k f0)) (hk : k < R.l.length) (j : Nat) (hj : j < 6) (u : Value) (hu : u.oneCell' = true) (f : RF) (hf : cellsR f = (cellsR f0).set j u) (hfb : f.v = f0.v ∧ f.b = f0.b ∨ OwnB base w f.v f.b ∧ ∀ c, f.v.ownBlock = some c → H c) :
    RPIn base (w.setCell ⟨gl, k * 6 + j, none⟩ u) H g dq (.slice (some ⟨gl, 0, none⟩) n cap) (R.at_ k f) ∧ Fr w (w.setCell ⟨gl, k * 6 + j, none⟩ u) (fun i => i = gl) := by
  have hk2 : k < (R.at_ k f0).l.length := by simpa [RPS.at_] using hk
  have e2 : (R.at_ k f0).l[k] = f0 := by simp [RPS.at_]
  have hm : f0 ∈ (R.at_ k f0).l := by have := List.getElem_mem hk2; rwa [e2] at this
  have h1 := h.setF hk2 hj hu (f := f) (by rw [e2]; exact hf) (by
    rcases hfb with ⟨e1, e3⟩ | ⟨h1, _⟩
    · rw [e1, e3]; exact h.hb f0 hm
    · exact h1) (by
    rcases hfb with ⟨e1, e3⟩ | ⟨_, h1⟩
    · rw [e1]; exact h.gb f0 hm
    · exact h1)
  have e : ({ R.at_ k f0 with l := (R.at_ k f0).l.set k f } : RPS) = R.at_ k f := by simp [RPS.at_]
  rw [e] at h1
  exact h1
/-- The cells of the pool's block. -/
structure Cells8 (w : World) (g : Nat) (dq vL : Value) (R : RPS) : Prop where
  c0 : w.cell? ⟨g, 0, none⟩ = some dq
  c1 : w.cell? ⟨g, 1, none⟩ = some (.int .i64 R.first)
  c2 : w.cell? ⟨g, 2, none⟩ = some (.int .i64 R.pages)
  c3 : w.cell? ⟨g, 3, none⟩ = some (.int .i64 R.frames)
  c4 : w.cell? ⟨g, 4, none⟩ = some vL
  c5 : w.cell? ⟨g, 5, none⟩ = some (.int .u64 R.log)
  c6 : w.cell? ⟨g, 6, none⟩ = some (.int .i64 R.now)
  c7 : w.cell? ⟨g, 7, none⟩ = some (.bool R.early)
  f : ∀ o, w.frozen? ⟨g, o, none⟩ = false
theorem RPIn.cells {base : Nat} {w : World} {H : Nat → Prop} {g : Nat} {dq vL : Value} {R : RPS} (h : RPIn base w H g dq vL R) : Cells8 w g dq vL R :=
  ⟨by rw [cell_of_row w g 0 _ _ _ h.hg]; rfl, by rw [cell_of_row w g 1 _ _ _ h.hg]; rfl, by rw [cell_of_row w g 2 _ _ _ h.hg]; rfl, by rw [cell_of_row w g 3 _ _ _ h.hg]; rfl, by rw [cell_of_row w g 4 _ _ _ h.hg]; rfl, by rw [cell_of_row w g 5 _ _ _ h.hg]; rfl, by rw [cell_of_row w g 6 _ _ _ h.hg]; rfl, by rw [cell_of_row w g 7 _ _ _ h.hg]; rfl, frozen_row h.hg⟩
/-- The cells of a frame. -/
structure Cells6R (w : World) (gl k : Nat) (f : RF) : Prop where
  c0 : w.cell? ⟨gl, k * 6, none⟩ = some (.int .i64 f.page)
  c1 : w.cell? ⟨gl, k * 6 + 1, none⟩ = some (.int .i64 f.pins)
  c2 : w.cell? ⟨gl, k * 6 + 2, none⟩ = some (.bool f.dirty)
  c3 : w.cell? ⟨gl, k * 6 + 3, none⟩ = some (.int .u64 f.mark)
  c4 : w.cell? ⟨gl, k * 6 + 4, none⟩ = some f.v
  c5 : w.cell? ⟨gl, k * 6 + 5, none⟩ = some (.int .i64 f.used)
  f : ∀ o, w.frozen? ⟨gl, o, none⟩ = false
theorem RPIn.frame {base : Nat} {w : World} {H : Nat → Prop} {g : Nat} {dq vL : Value} {R : RPS} (h : RPIn base w H g dq vL R) {k : Nat} (hk : k < R.l.length) : ∃ gl cap, vL = .slice (some ⟨gl, 0, none⟩) R.l.length cap ∧ R.l.length ≤ cap ∧ gl ≠ g ∧ H gl ∧ ∀ j (hj : j < R.l.length), Cells6R w gl j R.l[j] := by
  obtain ⟨ao, cap, hv, hc, hr⟩ := h.row.form
  rcases hr with h0 | ⟨gl, rfl, _, _, hr⟩
  · rw [h0] at hk; simp at hk
  · subst hv
    obtain ⟨cur, hh⟩ := ownF_typed h.row (b := gl) rfl
    refine ⟨gl, cap, rfl, hc, fun e => h.ng.1 (by rw [e]; rfl), h.gv gl rfl, fun j hj => ⟨hr j hj 0 _ rfl, hr j hj 1 _ rfl, hr j hj 2 _ rfl, hr j hj 3 _ rfl, hr j hj 4 _ rfl, hr j hj 5 _ rfl, frozen_row hh⟩⟩
end Go.Proofs.Ytpmbpadckbkglaa

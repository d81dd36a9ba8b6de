/- The pool as it lies; use, isBehind, the closures of makeRoom, sector, Safe. -/
import Derived.Test.YtkmgahembhgloaaP7A
namespace Go.Proofs.Ytkmgahembhgloaa
open Go.RowKit Go.Maps
set_option linter.unusedVariables false
set_option linter.unusedSimpArgs false

/-- A frame. -/
structure FS where
  bytes : List UInt8
  pins : Int
  dirty : Bool
  mark : Int
  used : Int
/-- A pool, as the program has it. -/
structure PS where
  first : Int
  pages : Int
  size : Int
  keys : List Int
  fr : Int → FS
  safe : Int
  uses : Int
def cellsF (v : Value) (f : FS) : Array Value := #[v, .int .i64 f.pins, .bool f.dirty, .int .u64 f.mark, .int .i64 f.used]
/-- A frame that is right, of a pool with so many uses. -/
structure FOk (u : Int) (f : FS) : Prop where
  len : f.bytes.length = 2048
  pins : 0 ≤ f.pins ∧ f.pins ≤ u
  mark : 0 ≤ f.mark ∧ f.mark ≤ 18446744073709551615
  used : 0 ≤ f.used ∧ f.used ≤ u
/-- A pool that is right. -/
structure POk (P : PS) : Prop where
  rise : Rise P.keys
  rng : ∀ k ∈ P.keys, 0 ≤ k ∧ k < P.pages
  first : 0 ≤ P.first ∧ P.first ≤ 4096
  pages : 1 ≤ P.pages ∧ P.pages ≤ 256
  size : 1 ≤ P.size ∧ P.size ≤ 64
  len : (P.keys.length : Int) ≤ P.size
  safe : 0 ≤ P.safe ∧ P.safe ≤ 18446744073709551615
  uses : 0 ≤ P.uses ∧ P.uses ≤ 1000000
  fr : ∀ k ∈ P.keys, FOk P.uses (P.fr k)
  apart : ∀ j ∈ P.keys, ∀ k ∈ P.keys, (P.fr j).used = (P.fr k).used → j = k
/-- A pool as it lies: its own block, its map, its frames, their bytes. -/
structure PoolIn (base : Nat) (w : World) (F : Nat → Prop) (g : Nat) (dp : Value) (b : Nat) (blk : Int → Nat) (cv : Int → Value) (P : PS) : Prop where
  hg : w.heap[g]? = some (.cells #[dp, .int .i64 P.first, .int .i64 P.pages, .int .i64 P.size, .map (some b), .int .u64 P.safe, .int .i64 P.uses] 96 (0, 0))
  hm : FMap w b P.keys blk
  hf : ∀ k ∈ P.keys, w.heap[blk k]? = some (.cells (cellsF (cv k) (P.fr k)) 109 (0, 0))
  hc : ∀ k ∈ P.keys, OwnB base w (cv k) (P.fr k).bytes
  fg : F g
  fb : F b
  ff : ∀ k ∈ P.keys, F (blk k)
  fc : ∀ k ∈ P.keys, ∀ c, (cv k).ownBlock = some c → F c
  inj : ∀ j ∈ P.keys, ∀ k ∈ P.keys, blk j = blk k → j = k
  lo : ∀ k, F k → base ≤ k ∧ k < w.heap.size
theorem PoolIn.keep {base : Nat} {w w' : World} {F G : Nat → Prop} {g b : Nat} {dp : Value} {blk : Int → Nat} {cv : Int → Value} {P : PS} (h : PoolIn base w F g dp b blk cv P) (hf : Fr w w' G) (hd : ∀ k, F k → ¬ G k) : PoolIn base w' F g dp b blk cv P := by
  have hb : ∀ k, F k → w'.heap[k]? = w.heap[k]? := fun k hk => hf.block k (h.lo k hk).2 (hd k hk)
  exact { h with
    hg := (hb g h.fg).trans h.hg
    hm := h.hm.of_block (hb b h.fb)
    hf := fun k hk => (hb _ (h.ff k hk)).trans (h.hf k hk)
    hc := fun k hk => own_of_block (h.hc k hk) (fun c hc => hb c (h.fc k hk c hc))
    lo := fun k hk => ⟨(h.lo k hk).1, Nat.lt_of_lt_of_le (h.lo k hk).2 hf.size⟩ }
theorem PoolIn.keepB {base : Nat} {w w' : World} {F : Nat → Prop} {g b : Nat} {dp : Value} {blk : Int → Nat} {cv : Int → Value} {P : PS} (h : PoolIn base w F g dp b blk cv P) (hf : Below w.heap.size w w') : PoolIn base w' F g dp b blk cv P :=
  h.keep (Fr.of_below (F := fun _ => False) hf) (fun _ _ => id)
theorem PoolIn.wide {base : Nat} {w : World} {F G : Nat → Prop} {g b : Nat} {dp : Value} {blk : Int → Nat} {cv : Int → Value} {P : PS} (h : PoolIn base w F g dp b blk cv P) (h1 : ∀ k, F k → G k) (h2 : ∀ k, G k → base ≤ k ∧ k < w.heap.size) : PoolIn base w G g dp b blk cv P :=
  { h with fg := h1 _ h.fg, fb := h1 _ h.fb, ff := fun k hk => h1 _ (h.ff k hk), fc := fun k hk c hc => h1 _ (h.fc k hk c hc), lo := h2 }
theorem PoolIn.ne {base : Nat} {w : World} {F : Nat → Prop} {g b : Nat} {dp : Value} {blk : Int → Nat} {cv : Int → Value} {P : PS} (h : PoolIn base w F g dp b blk cv P) {k : Int} (hk : k ∈ P.keys) : blk k ≠ g ∧ blk k ≠ b ∧ ∀ j ∈ P.keys, (cv j).ownBlock ≠ some (blk k) := by
  refine ⟨fun e => ?_, fun e => ?_, fun j hj e => ?_⟩
  · have := h.hf k hk; rw [e, h.hg] at this; simp at this
  · obtain ⟨es, clock, hx⟩ := h.hm.isMap
    have := h.hf k hk; rw [e, hx] at this; simp at this
  · have h1 := h.hf k hk
    rcases h.hc j hj with ⟨_, ⟨hv, _⟩ | ⟨c, cap, cur, hv, _, hh, _⟩⟩
    · rw [hv] at e; cases e
    · rw [hv] at e
      simp [Value.ownBlock] at e
      rw [← e, hh] at h1
      simp at h1
theorem PoolIn.neg {base : Nat} {w : World} {F : Nat → Prop} {g b : Nat} {dp : Value} {blk : Int → Nat} {cv : Int → Value} {P : PS} (h : PoolIn base w F g dp b blk cv P) : b ≠ g ∧ ∀ j ∈ P.keys, (cv j).ownBlock ≠ some g ∧ (cv j).ownBlock ≠ some b := by
  have hbg : b ≠ g := fun e => by
    obtain ⟨es, clock, hx⟩ := h.hm.isMap
    rw [e, h.hg] at hx; cases hx
  refine ⟨hbg, fun j hj => ⟨fun e => ?_, fun e => ?_⟩⟩
  · rcases h.hc j hj with ⟨_, ⟨hv, _⟩ | ⟨c, cap, cur, hv, _, hh, _⟩⟩
    · rw [hv] at e; cases e
    · rw [hv] at e
      simp [Value.ownBlock] at e
      have h1 := h.hg
      rw [← e, hh] at h1
      simp at h1
  · rcases h.hc j hj with ⟨_, ⟨hv, _⟩ | ⟨c, cap, cur, hv, _, hh, _⟩⟩
    · rw [hv] at e; cases e
    · rw [hv] at e
      simp [Value.ownBlock] at e
      obtain ⟨es, clock, hx⟩ := h.hm.isMap
      rw [← e, hh] at hx
      simp at hx
/-- A frame is turned. -/
theorem PoolIn.turnF {base : Nat} {w w' : World} {F : Nat → Prop} {g b : Nat} {dp : Value} {blk : Int → Nat} {cv : Int → Value} {P : PS} (h : PoolIn base w F g dp b blk cv P) {k : Int} (hk : k ∈ P.keys) {v' : Value} {f' : FS}
    (hw : w'.heap[blk k]? = some (.cells (cellsF v' f') 109 (0, 0))) (hfr : Fr w w' (fun i => i = blk k)) (hv : OwnB base w' v' f'.bytes) (hvF : ∀ c, v'.ownBlock = some c → F c) : PoolIn base w' F g dp b blk (updA cv k v') { P with fr := updA P.fr k f' } := by
  have hn := h.ne hk
  have hb : ∀ i, F i → i ≠ blk k → w'.heap[i]? = w.heap[i]? := fun i hi hne => hfr.block i (h.lo i hi).2 hne
  exact { h with
    hg := (hb g h.fg (Ne.symm hn.1)).trans h.hg
    hm := h.hm.of_block (hb b h.fb (Ne.symm hn.2.1))
    hf := fun j hj => by
      by_cases e : j = k
      · subst e; rw [updA_same]; show _ = some (Obj.cells (cellsF v' (updA P.fr j f' j)) _ _); rw [updA_same]; exact hw
      · rw [updA_other _ _ e]; show _ = some (Obj.cells (cellsF (cv j) (updA P.fr k f' j)) _ _); rw [updA_other _ _ e]
        exact (hb _ (h.ff j hj) (fun e' => e (h.inj j hj k hk e'))).trans (h.hf j hj)
    hc := fun j hj => by
      by_cases e : j = k
      · subst e; rw [updA_same]; show OwnB _ _ _ (updA P.fr j f' j).bytes; rw [updA_same]; exact hv
      · rw [updA_other _ _ e]; show OwnB _ _ _ (updA P.fr k f' j).bytes; rw [updA_other _ _ e]
        exact own_of_block (h.hc j hj) (fun c hc => hb c (h.fc j hj c hc) (fun e' => hn.2.2 j hj (by rw [hc, e'])))
    fc := fun j hj c hc => by
      by_cases e : j = k
      · subst e; rw [updA_same] at hc; exact hvF c hc
      · rw [updA_other _ _ e] at hc; exact h.fc j hj c hc
    lo := fun i hi => ⟨(h.lo i hi).1, Nat.lt_of_lt_of_le (h.lo i hi).2 hfr.size⟩ }
/-- The pool's own block is turned. -/
theorem PoolIn.turnP {base : Nat} {w w' : World} {F : Nat → Prop} {g b : Nat} {dp : Value} {blk : Int → Nat} {cv : Int → Value} {P P' : PS} (h : PoolIn base w F g dp b blk cv P) (hk : P'.keys = P.keys) (hfr' : P'.fr = P.fr)
    (hw : w'.heap[g]? = some (.cells #[dp, .int .i64 P'.first, .int .i64 P'.pages, .int .i64 P'.size, .map (some b), .int .u64 P'.safe, .int .i64 P'.uses] 96 (0, 0))) (hfr : Fr w w' (fun i => i = g)) : PoolIn base w' F g dp b blk cv P' := by
  have hn := h.neg
  have hb : ∀ i, F i → i ≠ g → w'.heap[i]? = w.heap[i]? := fun i hi hne => hfr.block i (h.lo i hi).2 hne
  exact {
    hg := hw
    hm := by rw [hk]; exact h.hm.of_block (hb b h.fb hn.1)
    hf := fun j hj => by rw [hk] at hj; rw [hfr']; exact (hb _ (h.ff j hj) (h.ne hj).1).trans (h.hf j hj)
    hc := fun j hj => by rw [hk] at hj; rw [hfr']; exact own_of_block (h.hc j hj) (fun c hc => hb c (h.fc j hj c hc) (fun e' => (hn.2 j hj).1 (by rw [hc, e'])))
    fg := h.fg
    fb := h.fb
    ff := by rw [hk]; exact h.ff
    fc := by rw [hk]; exact h.fc
    inj := by rw [hk]; exact h.inj
    lo := fun i hi => ⟨(h.lo i hi).1, Nat.lt_of_lt_of_le (h.lo i hi).2 hfr.size⟩ }
/-- The pool's cells. -/
structure Cells7 (w : World) (g : Nat) (c0 c1 c2 c3 c4 c5 c6 : Value) : Prop where
  c0 : w.cell? ⟨g, 0, none⟩ = some c0
  c1 : w.cell? ⟨g, 1, none⟩ = some c1
  c2 : w.cell? ⟨g, 2, none⟩ = some c2
  c3 : w.cell? ⟨g, 3, none⟩ = some c3
  c4 : w.cell? ⟨g, 4, none⟩ = some c4
  c5 : w.cell? ⟨g, 5, none⟩ = some c5
  c6 : w.cell? ⟨g, 6, none⟩ = some c6
  f : ∀ o, w.frozen? ⟨g, o, none⟩ = false
theorem cells7 {w : World} {g : Nat} {c0 c1 c2 c3 c4 c5 c6 : Value} {t : TypeId} (h : w.heap[g]? = some (.cells #[c0, c1, c2, c3, c4, c5, c6] t (0, 0))) : Cells7 w g c0 c1 c2 c3 c4 c5 c6 :=
  ⟨by rw [cell_of_row w g 0 _ _ _ h]; rfl, by rw [cell_of_row w g 1 _ _ _ h]; rfl, by rw [cell_of_row w g 2 _ _ _ h]; rfl, by rw [cell_of_row w g 3 _ _ _ h]; rfl, by rw [cell_of_row w g 4 _ _ _ h]; rfl, by rw [cell_of_row w g 5 _ _ _ h]; rfl, by rw [cell_of_row w g 6 _ _ _ h]; rfl, frozen_row h⟩
theorem PoolIn.cells {base : Nat} {w : World} {F : Nat → Prop} {g b : Nat} {dp : Value} {blk : Int → Nat} {cv : Int → Value} {P : PS} (h : PoolIn base w F g dp b blk cv P) : Cells7 w g dp (.int .i64 P.first) (.int .i64 P.pages) (.int .i64 P.size) (.map (some b)) (.int .u64 P.safe) (.int .i64 P.uses) := cells7 h.hg
theorem PoolIn.cellsF {base : Nat} {w : World} {F : Nat → Prop} {g b : Nat} {dp : Value} {blk : Int → Nat} {cv : Int → Value} {P : PS} (h : PoolIn base w F g dp b blk cv P) {k : Int} (hk : k ∈ P.keys) : Cells5 w (blk k) (cv k) (.int .i64 (P.fr k).pins) (.bool (P.fr k).dirty) (.int .u64 (P.fr k).mark) (.int .i64 (P.fr k).used) := cells5 (h.hf k hk)
/-- A store into a block of cells. -/
theorem store_row {w : World} {g o : Nat} {cs : Array Value} {t : TypeId} {u : Value} (h : w.heap[g]? = some (.cells cs t (0, 0))) : (w.setCell ⟨g, o, none⟩ u).heap[g]? = some (.cells (cs.setIfInBounds o u) t (0, 0)) := by
  rw [setCell_eq_setRow w g o _ _ _ u h, setRow_heap w g _ _ _ _ h]
theorem use_any {base : Nat} {w : World} {F : Nat → Prop} {g b : Nat} {dp : Value} {blk : Int → Nat} {cv : Int → Value} {P : PS} (h : PoolIn base w F g dp b blk cv P) (hu : 0 ≤ P.uses ∧ P.uses ≤ 1000000) {k : Int} (hk : k ∈ P.keys) :
    Calls Try.prog 67 #[.pointer (some ⟨g, 0, none⟩), .pointer (some ⟨blk k, 0, none⟩)] w fun e w' => e = .returned (.tuple #[]) ∧ PoolIn base w' F g dp b blk cv { P with uses := P.uses + 1, fr := updA P.fr k { P.fr k with used := P.uses + 1 } } ∧ Fr w w' F := by
  have hcell := h.cells.c6
  have hfz := h.cells.f
  have hff := (h.cellsF hk).f
  have hc4 := (h.cellsF hk).c4
  have hn := (h.ne hk).1
  have hn' := Ne.symm hn
  have HP : Hid (PoolIn base w F g dp b blk cv P) := h
  clear h
  go_enter Try.func67, Try.ntmps67
  go_wp2
  refine bodyPost_end (v := .tuple #[]) (by simp [results, Try.results67, go_sem]) rfl ⟨rfl, ?_, ?_⟩
  · have h1 := HP.out.turnP (P' := { P with uses := P.uses + 1 }) rfl rfl (store_row (o := 6) (u := .int .i64 (P.uses + 1)) HP.out.hg) (fr_set _ _ _ _)
    have h2 := h1.turnF hk (v' := cv k) (f' := { P.fr k with used := P.uses + 1 }) (store_row (o := 4) (u := .int .i64 (P.uses + 1)) (h1.hf k hk)) (fr_set _ _ _ _) (own_of_block (h1.hc k hk) (fun c hc => (fr_set _ _ _ _).block c (h1.lo c (h1.fc k hk c hc)).2 (fun e => (h1.ne hk).2.2 k hk (by rw [hc, e])))) (h1.fc k hk)
    have e : updA cv k (cv k) = cv := by funext j; unfold updA; split <;> simp_all
    rw [e] at h2
    exact h2
  · exact ((fr_set _ _ _ _).mono (fun i hi => hi ▸ HP.out.fg)).trans (fr_set _ _ _ _) (fun i hi => Or.inl (hi ▸ HP.out.ff k hk))
end Go.Proofs.Ytkmgahembhgloaa

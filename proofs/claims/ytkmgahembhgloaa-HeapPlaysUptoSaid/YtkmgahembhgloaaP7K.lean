/- The pool: New; a page comes; Pin. -/
import Derived.Test.YtkmgahembhgloaaP7J
namespace Go.Proofs.Ytkmgahembhgloaa
open Go.RowKit Go.Maps
set_option linter.unusedVariables false
set_option linter.unusedSimpArgs false

/-- A new pool. -/
def PS.new (first pages frames : Int) : PS := ⟨first, pages, frames, [], fun _ => ⟨[], 0, false, 0, 0⟩, 0, 0⟩
theorem POk.new {first pages frames : Int} (h1 : 0 ≤ first ∧ first ≤ 4096) (h2 : 1 ≤ pages ∧ pages ≤ 256) (h3 : 1 ≤ frames ∧ frames ≤ 64) : POk (PS.new first pages frames) :=
  ⟨List.Pairwise.nil, fun k hk => by (cases hk), h1, h2, h3, by show ((0 : Nat) : Int) ≤ frames; omega, by show (0 : Int) ≤ 0 ∧ (0 : Int) ≤ _; omega, by show (0 : Int) ≤ 0 ∧ (0 : Int) ≤ _; omega, fun k hk => by (cases hk), fun k hk => by (cases hk)⟩
theorem makeMapF (w : World) : (Instr.makeMap 93 none).run Try.prog w = .ok (.map (some w.heap.size)) (w.alloc (.map #[] 0)) := run_makeMap _ _
set_option maxRecDepth 20000 in
set_option maxHeartbeats 1000000 in
theorem pnew_ok {base : Nat} {w : World} {G : Nat → Prop} {n : Nat} {dp : Value} {D : DS} (hD : DiskAt base w G dp n D) (first pages frames : Int) (h1 : 0 ≤ first ∧ first ≤ 4096) (h2 : 1 ≤ pages ∧ pages ≤ 256) (h3 : 1 ≤ frames ∧ frames ≤ 64) (hfit : first ≤ D.size - pages * 16) (hb : base ≤ w.heap.size) :
    Calls Try.prog 25 #[dp, .int .i64 first, .int .i64 pages, .int .i64 frames] w fun e w' => e = .returned (.tuple #[.pointer (some ⟨w.heap.size + 1, 0, none⟩), .int .i64 0]) ∧ PoolIn base w' (fun i => w.heap.size ≤ i ∧ i < w'.heap.size) (w.heap.size + 1) dp w.heap.size (fun _ => 0) (fun _ => .pointer none) (PS.new first pages frames) ∧ Below w.heap.size w w' := by
  obtain ⟨dg, _, _, _, rfl, hin⟩ := id hD
  have hsz := hin.sz
  have hs := size_any hD
  have hmk := makeMapF w
  have a1 : decide (first < 0) = false := by simp; omega
  have a2 : decide (frames < 1) = false := by simp; omega
  have a3 : decide (frames > 64) = false := by simp; omega
  have a4 : decide (pages < 1) = false := by simp; omega
  have a5 : decide (pages > 256) = false := by simp; omega
  have a6 : decide (first > D.size - pages * 16) = false := by simp; omega
  clear hD hin
  generalize D.size = Z at *
  go_enter Try.func25, Try.ntmps25
  go_wp2_with (go_at_call 51; refine hs.mono ?_; rintro e wx ⟨rfl, hwx⟩; rw [hwx]; clear hwx wx)
  have h0 : Below w.heap.size w (w.alloc (.map #[] 0)) := (Below.refl _ _).alloc (Nat.le_refl _) _
  refine bodyPost_ret (v := .tuple #[.pointer (some ⟨w.heap.size + 1, 0, none⟩), .int .i64 0]) (by simp [results, Try.results25, go_sem]) rfl ⟨rfl, ?_, h0.alloc (by simp) _⟩
  have hB : Below (w.heap.size + 1) (w.alloc (.map #[] 0)) ((w.alloc (.map #[] 0)).alloc (.cells #[.pointer (some ⟨dg, 0, none⟩), .int .i64 first, .int .i64 pages, .int .i64 frames, .map (some w.heap.size), .int .u64 0, .int .i64 0] 96)) := (Below.refl _ _).alloc (by simp) _
  exact {
    hg := new_at _ _ (by simp)
    hm := (FMap.made w (fun _ => 0)).of_block (hB.block _ (by omega))
    hf := fun k hk => by (cases hk)
    hc := fun k hk => by (cases hk)
    fg := by simp
    fb := ⟨Nat.le_refl _, by simp; omega⟩
    ff := fun k hk => by (cases hk)
    fc := fun k hk => by (cases hk)
    inj := fun k hk => by (cases hk)
    lo := fun i hi => ⟨by omega, hi.2⟩ }
theorem pnew_nil (first pages frames : Int) (w : World) :
    Calls Try.prog 25 #[.pointer none, .int .i64 first, .int .i64 pages, .int .i64 frames] w fun e w' => e = .returned (.tuple #[.pointer none, .int .i64 1]) ∧ w' = w := by
  go_enter Try.func25, Try.ntmps25
  go_wp2
  exact bodyPost_ret (v := .tuple #[.pointer none, .int .i64 1]) (by simp [results, Try.results25, go_sem]) rfl ⟨rfl, rfl⟩

/-- A page comes. -/
def PS.add (P : PS) (k : Int) (f : FS) : PS := { P with keys := insS k P.keys, fr := updA P.fr k f }
theorem PoolIn.add {base : Nat} {w w' : World} {F F' : Nat → Prop} {g b : Nat} {dp : Value} {blk : Int → Nat} {cv : Int → Value} {P : PS} (h : PoolIn base w F g dp b blk cv P) {k : Int} (hk : k ∉ P.keys) {B : Nat} {v : Value} {f : FS} (hB : w.heap[B]? = some (.cells (Go.Proofs.Ytkmgahembhgloaa.cellsF v f) 109 (0, 0))) (hBF : ¬ F B) (hv : OwnB base w v f.bytes)
    (hm : FMap w' b (insS k P.keys) (updA blk k B)) (hg : w.grownBy w' (some b)) (h1 : ∀ i, F i → F' i) (h2 : F' B) (h3 : ∀ c, v.ownBlock = some c → F' c) (h4 : ∀ i, F' i → base ≤ i ∧ i < w'.heap.size) : PoolIn base w' F' g dp b (updA blk k B) (updA cv k v) (P.add k f) := by
  have hn := h.neg
  obtain ⟨es, clock, hmb⟩ := h.hm.isMap
  have hBl : B < w.heap.size := (Array.getElem?_eq_some_iff.1 hB).1
  have hBb : B ≠ b := fun e => by rw [e, hmb] at hB; cases hB
  have hb : ∀ i, i < w.heap.size → i ≠ b → w'.heap[i]? = w.heap[i]? := fun i hi hne => hg.block i hi (by simpa using hne)
  have hvb : ∀ c, v.ownBlock = some c → c ≠ b := fun c hc e => by
    rcases hv with ⟨_, ⟨hv', _⟩ | ⟨c', cap, cur, hv', _, hh, _⟩⟩
    · rw [hv'] at hc; cases hc
    · rw [hv'] at hc
      simp [Value.ownBlock] at hc
      rw [hc, e, hmb] at hh
      cases hh
  exact {
    hg := (hb g (h.lo g h.fg).2 (Ne.symm hn.1)).trans h.hg
    hm := hm
    hf := fun j hj => by
      show _ = some (Obj.cells (Go.Proofs.Ytkmgahembhgloaa.cellsF _ (updA P.fr k f j)) _ _)
      by_cases e : j = k
      · subst e; rw [updA_same, updA_same, updA_same]; exact (hb B hBl hBb).trans hB
      · have hj' : j ∈ P.keys := by rcases (mem_insS _ _ _).1 hj with h | h; exact absurd h e; exact h
        rw [updA_other _ _ e, updA_other _ _ e, updA_other _ _ e]
        exact (hb _ (h.lo _ (h.ff j hj')).2 (h.ne hj').2.1).trans (h.hf j hj')
    hc := fun j hj => by
      show OwnB _ _ _ (updA P.fr k f j).bytes
      by_cases e : j = k
      · subst e; rw [updA_same, updA_same]; exact own_of_block hv (fun c hc => hb c (own_lt hv c hc) (hvb c hc))
      · have hj' : j ∈ P.keys := by rcases (mem_insS _ _ _).1 hj with h | h; exact absurd h e; exact h
        rw [updA_other _ _ e, updA_other _ _ e]
        exact own_of_block (h.hc j hj') (fun c hc => hb c (h.lo c (h.fc j hj' c hc)).2 (fun e' => (hn.2 j hj').2 (by rw [hc, e'])))
    fg := h1 _ h.fg
    fb := h1 _ h.fb
    ff := fun j hj => by
      by_cases e : j = k
      · subst e; rw [updA_same]; exact h2
      · have hj' : j ∈ P.keys := by rcases (mem_insS _ _ _).1 hj with h | h; exact absurd h e; exact h
        rw [updA_other _ _ e]; exact h1 _ (h.ff j hj')
    fc := fun j hj c hc => by
      by_cases e : j = k
      · subst e; rw [updA_same] at hc; exact h3 c hc
      · have hj' : j ∈ P.keys := by rcases (mem_insS _ _ _).1 hj with h | h; exact absurd h e; exact h
        rw [updA_other _ _ e] at hc; exact h1 _ (h.fc j hj' c hc)
    inj := fun i hi j hj e => by
      by_cases e1 : i = k
      · by_cases e2 : j = k
        · rw [e1, e2]
        · have hj' : j ∈ P.keys := by rcases (mem_insS _ _ _).1 hj with h | h; exact absurd h e2; exact h
          rw [e1, updA_same, updA_other _ _ e2] at e
          exact absurd (e ▸ h.ff j hj') hBF
      · have hi' : i ∈ P.keys := by rcases (mem_insS _ _ _).1 hi with h | h; exact absurd h e1; exact h
        by_cases e2 : j = k
        · rw [e2, updA_same, updA_other _ _ e1] at e
          exact absurd (e ▸ h.ff i hi') hBF
        · have hj' : j ∈ P.keys := by rcases (mem_insS _ _ _).1 hj with h | h; exact absurd h e2; exact h
          rw [updA_other _ _ e1, updA_other _ _ e2] at e
          exact h.inj i hi' j hj' e
    lo := h4 }
theorem wp_putF (w : World) {ops : Array Oper} {rest : List Oper} {o : Oper} {a : Act} {Q : Exit → Act → World → Prop} (hgd : o.guard = none) (m x v : Operand)
    (hop : o.op = Op.mapUpdate 93 m x v)
    (b : Nat) (keys : List Int) (blk : Int → Nat) (i : Int) (B : Nat) (hm : a.eval m = .map (some b)) (hx : a.eval x = .int .i64 i) (hv : a.eval v = .pointer (some ⟨B, 0, none⟩)) (hown : FMap w b keys blk) (hn : keys.length < 1000000) (hr : Rise keys) (hi : -9223372036854775808 ≤ i ∧ i ≤ 9223372036854775807) (hk : i ∉ keys)
    (h : ∀ w', FMap w' b (insS i keys) (updA blk i B) → w.grownBy w' (some b) → wpList Try.prog ops Q rest (a.put o.dst undef) w') : wpList Try.prog ops Q (o :: rest) a w := by
  refine wpList_plain hgd fun K' hK' => ?_
  obtain ⟨w', hrun, h1, h2⟩ := hown.put hn hr hi hk B
  unfold Oper.wp
  simp [execOp, hop, hm, hx, hv, hrun, Result.andThen]
  exact hK' _ _ (h w' h1 h2)
end Go.Proofs.Ytkmgahembhgloaa

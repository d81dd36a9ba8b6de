/- The pool: makeRoom. -/
import Derived.Test.YtkmgahembhgloaaP7E
namespace Go.Proofs.Ytkmgahembhgloaa
open Go.RowKit Go.Maps
set_option linter.unusedVariables false
set_option linter.unusedSimpArgs false

theorem wp_delF (w : World) {ops : Array Oper} {rest : List Oper} {o : Oper} {a : Act} {Q : Exit → Act → World → Prop} (hgd : o.guard = none) (m x : Operand)
    (hop : o.op = Op.call { callee := Callee.builtin Builtin.delete, args := #[m, x], argTypes := #[93, 3] })
    (b : Nat) (keys : List Int) (blk : Int → Nat) (i : Int) (hm : a.eval m = .map (some b)) (hx : a.eval x = .int .i64 i) (hown : FMap w b keys blk) (hr : Rise keys) (hi : -9223372036854775808 ≤ i ∧ i ≤ 9223372036854775807)
    (h : ∀ w', FMap w' b (delS i keys) blk → w.grownBy w' (some b) → wpList Try.prog ops Q rest (a.put o.dst (.tuple #[])) w') : wpList Try.prog ops Q (o :: rest) a w := by
  refine wpList_plain hgd fun K' hK' => ?_
  obtain ⟨w', hrun, h1, h2⟩ := hown.del hr hi o.type
  unfold Oper.wp
  simp [execOp, hop, resolve, invoke, builtin, hm, hx, hrun, Result.andThen]
  exact hK' _ _ (h w' h1 h2)
/-- A pool, a page gone. -/
def PS.gone (P : PS) (k : Int) : PS := { P with keys := delS k P.keys }
theorem PoolIn.drop {base : Nat} {w w' : World} {F : Nat → Prop} {g b : Nat} {dp : Value} {blk : Int → Nat} {cv : Int → Value} {P : PS} {k : Int} {f' : FS} (h : PoolIn base w F g dp b blk cv { P with fr := updA P.fr k f' }) (hm : FMap w' b (delS k P.keys) blk) (hg : w.grownBy w' (some b)) : PoolIn base w' F g dp b blk cv (P.gone k) := by
  have hn := h.neg
  have hb : ∀ i, F i → i ≠ b → w'.heap[i]? = w.heap[i]? := fun i hi hne => hg.block i (h.lo i hi).2 (by simpa using hne)
  exact {
    hg := (hb g h.fg (Ne.symm hn.1)).trans h.hg
    hm := hm
    hf := fun j hj => by
      have hj' := (mem_delS _ _ _).1 hj
      have h1 := h.hf j hj'.2
      rw [show (({ P with fr := updA P.fr k f' } : PS).fr j) = P.fr j from updA_other _ _ hj'.1] at h1
      exact (hb _ (h.ff j hj'.2) (h.ne hj'.2).2.1).trans h1
    hc := fun j hj => by
      have hj' := (mem_delS _ _ _).1 hj
      have h1 := h.hc j hj'.2
      rw [show (({ P with fr := updA P.fr k f' } : PS).fr j) = P.fr j from updA_other _ _ hj'.1] at h1
      exact own_of_block h1 (fun c hc => hb c (h.fc j hj'.2 c hc) (fun e => (hn.2 j hj'.2).2 (by rw [hc, e])))
    fg := h.fg
    fb := h.fb
    ff := fun j hj => h.ff j ((mem_delS _ _ _).1 hj).2
    fc := fun j hj => h.fc j ((mem_delS _ _ _).1 hj).2
    inj := fun j hj l hl => h.inj j ((mem_delS _ _ _).1 hj).2 l ((mem_delS _ _ _).1 hl).2
    lo := fun i hi => ⟨(h.lo i hi).1, Nat.lt_of_lt_of_le (h.lo i hi).2 hg.size⟩ }
theorem PoolIn.same {base : Nat} {w : World} {F : Nat → Prop} {g b : Nat} {dp : Value} {blk : Int → Nat} {cv : Int → Value} {P : PS} (h : PoolIn base w F g dp b blk cv P) (k : Int) : PoolIn base w F g dp b blk cv { P with fr := updA P.fr k (P.fr k) } := by
  have e : updA P.fr k (P.fr k) = P.fr := by funext j; unfold updA; split <;> simp_all
  rw [e]; exact h
/-- A disk behind clean. -/
def DS.cleaned (D : DS) (P : PS) (k : Int) : DS := if (P.fr k).dirty then D.page (P.first + 16 * k) (P.fr k).bytes 16 else D
/-- clean, whatever the frame. -/
theorem clean_any {base : Nat} {w : World} {F G : Nat → Prop} {g b n : Nat} {dp : Value} {blk : Int → Nat} {cv : Int → Value} {P : PS} {D : DS} (h : PoolIn base w F g dp b blk cv P) (hD : DiskAt base w G dp n D) (hdis : ∀ i, F i → ¬ G i) (hok : POk P) (hfit : P.first + 16 * P.pages ≤ D.size) {k : Int} (hk : k ∈ P.keys) (hcnt : n + D.ws.length + 16 < 900000) :
    Calls Try.prog 75 #[.pointer (some ⟨g, 0, none⟩), .int .i64 k] w fun e w' => e = .returned (.tuple #[]) ∧ PoolIn base w' F g dp b blk cv { P with fr := updA P.fr k { P.fr k with dirty := false } } ∧ ∃ G', DiskAt base w' G' dp n (D.cleaned P k) ∧ Fr w w' (fun i => F i ∨ G i) ∧ ∀ i, G' i → G i ∨ w.heap.size ≤ i := by
  unfold DS.cleaned
  cases hd : (P.fr k).dirty
  · refine (clean_not h hk (by have := hok.rng k hk; have := hok.pages; omega) hd).mono ?_
    rintro e w' ⟨he, rfl⟩
    refine ⟨he, ?_, G, hD, Fr.refl _ _, fun i hi => Or.inl hi⟩
    have e1 : ({ P.fr k with dirty := false } : FS) = P.fr k := by rw [← hd]
    rw [e1]; exact h.same k
  · refine (clean_dirty h hD hdis hok hfit hk hd hcnt).mono ?_
    rintro e w' h'
    exact h'
/-- Which frame goes. -/
structure Goner (P : PS) (k : Int) : Prop where
  mem : k ∈ P.keys
  may : mayGo P.safe (P.fr k) = true
  le : ∀ j ∈ P.keys, mayGo P.safe (P.fr j) = true → (P.fr k).used ≤ (P.fr j).used
theorem Best.goner {P : PS} {pg ls : Int} (h : Best P (mayGo P.safe) (fun _ => false) pg ls true) : Goner P pg :=
  ⟨(h.mem rfl).1, (h.mem rfl).2.1, fun j hj hm => by rw [← (h.mem rfl).2.2]; exact h.le rfl j hj rfl hm⟩
/-- What makeRoom of a pool without a free frame comes to. -/
inductive RoomOut (base : Nat) (w : World) (F G : Nat → Prop) (g : Nat) (dp : Value) (b : Nat) (blk : Int → Nat) (cv : Int → Value) (n : Nat) (P : PS) (D : DS) (e : Ending) (w' : World) : Prop
  | went (k : Int) (he : e = .returned (.int .i64 0)) (hk : Goner P k) (hP : PoolIn base w' F g dp b blk cv (P.gone k)) (G' : Nat → Prop) (hD : DiskAt base w' G' dp n (D.cleaned P k)) (hf : Fr w w' (fun i => F i ∨ G i)) (ho : ∀ i, G' i → G i ∨ w.heap.size ≤ i)
  | behind (he : e = .returned (.int .i64 74)) (h1 : ∀ k ∈ P.keys, mayGo P.safe (P.fr k) = false) (h2 : ∃ k ∈ P.keys, unp (P.fr k) = true) (hb : Below w.heap.size w w')
  | full (he : e = .returned (.int .i64 71)) (h1 : ∀ k ∈ P.keys, unp (P.fr k) = false) (hb : Below w.heap.size w w')
theorem len_at {w : World} {b : Nat} {keys : List Int} {blk : Int → Nat} (h : FMap w b keys blk) (hr : Rise keys) (k : Nat) (ty : TypeId) :
    (Builtin.len_ #[93] ty #[.map (some b)]).run Try.prog (w.drewN k) = .ok (.int .i64 keys.length) (w.drewN k) := (h.of_block (w' := w.drewN k) rfl).len hr ty
set_option maxRecDepth 20000 in
set_option maxHeartbeats 400000 in
theorem room_free {base : Nat} {w : World} {F : Nat → Prop} {g b : Nat} {dp : Value} {blk : Int → Nat} {cv : Int → Value} {P : PS} (h : PoolIn base w F g dp b blk cv P) (hok : POk P) (hlt : (P.keys.length : Int) < P.size) :
    Calls Try.prog 65 #[.pointer (some ⟨g, 0, none⟩)] w fun e w' => e = .returned (.int .i64 0) ∧ Below w.heap.size w w' := by
  have h0 : Below w.heap.size w (w.alloc (.cells #[.pointer (some ⟨g, 0, none⟩)] 58)) := (Below.refl _ _).alloc (Nat.le_refl _) _
  have h1 := h.keepB h0
  have p3 := h1.cells.c3
  have p4 := h1.cells.c4
  have hlen := len_at h1.hm hok.rise
  have t1 : decide ((P.keys.length : Int) < P.size) = true := by simpa using hlt
  clear h h1
  generalize (P.keys.length : Int) = L at *
  generalize P.size = Z at *
  go_enter Try.func65, Try.ntmps65
  go_wp2
  go_quiet (fail)
  go_wp2
  go_ret
  exact ⟨rfl, below_drewN h0 _⟩
end Go.Proofs.Ytkmgahembhgloaa

/- The pool: pinned; what is done to a frame; Put, Unpin, Safe. -/
import Derived.Test.YtkmgahembhgloaaP7G
namespace Go.Proofs.Ytkmgahembhgloaa
open Go.RowKit Go.Maps
set_option linter.unusedVariables false
set_option linter.unusedSimpArgs false

/-- A frame is used: it holds f now. -/
def PS.touch (P : PS) (k : Int) (f : FS) : PS := { P with uses := P.uses + 1, fr := updA P.fr k { f with used := P.uses + 1 } }
theorem POk.touch {P : PS} (h : POk P) {k : Int} (hk : k ∈ P.keys) {f : FS} (h1 : f.bytes.length = 2048) (h2 : 0 ≤ f.pins ∧ f.pins ≤ P.uses + 1) (h3 : 0 ≤ f.mark ∧ f.mark ≤ 18446744073709551615) (hu : P.uses < 1000000) : POk (P.touch k f) := by
  have hus := h.uses
  refine ⟨h.rise, h.rng, h.first, h.pages, h.size, h.len, h.safe, by show 0 ≤ P.uses + 1 ∧ P.uses + 1 ≤ _; omega, fun j hj => ?_, fun i hi j hj e => ?_⟩
  · show FOk (P.uses + 1) (updA P.fr k { f with used := P.uses + 1 } j)
    by_cases e : j = k
    · subst e; rw [updA_same]; exact ⟨h1, h2, h3, by show 0 ≤ P.uses + 1 ∧ P.uses + 1 ≤ P.uses + 1; omega⟩
    · rw [updA_other _ _ e]
      obtain ⟨a, b, c, d⟩ := h.fr j hj
      exact ⟨a, by omega, c, by omega⟩
  · replace e : (updA P.fr k { f with used := P.uses + 1 } i).used = (updA P.fr k { f with used := P.uses + 1 } j).used := e
    have ui := (h.fr i hi).used
    have uj := (h.fr j hj).used
    by_cases e1 : i = k
    · by_cases e2 : j = k
      · rw [e1, e2]
      · rw [e1, updA_same, updA_other _ _ e2] at e
        replace e : P.uses + 1 = (P.fr j).used := e
        omega
    · by_cases e2 : j = k
      · rw [e2, updA_same, updA_other _ _ e1] at e
        replace e : (P.fr i).used = P.uses + 1 := e
        omega
      · rw [updA_other _ _ e1, updA_other _ _ e2] at e
        exact h.apart i hi j hj e
theorem updA_twice {α : Type} (f : Int → α) (k : Int) (x y : α) : updA (updA f k x) k y = updA f k y := by
  funext j; unfold updA; split <;> rfl
theorem updA_id {α : Type} (f : Int → α) (k : Int) : updA f k (f k) = f := by funext j; unfold updA; split <;> simp_all
/-- A cell of a frame is stored: not its bytes. -/
theorem PoolIn.storeF {base : Nat} {w : World} {F : Nat → Prop} {g b : Nat} {dp : Value} {blk : Int → Nat} {cv : Int → Value} {P : PS} (h : PoolIn base w F g dp b blk cv P) {k : Int} (hk : k ∈ P.keys) (o : Nat) (u : Value) (f' : FS) (hb : f'.bytes = (P.fr k).bytes) (hc : (Go.Proofs.Ytkmgahembhgloaa.cellsF (cv k) (P.fr k)).setIfInBounds o u = Go.Proofs.Ytkmgahembhgloaa.cellsF (cv k) f') :
    PoolIn base (w.setCell ⟨blk k, o, none⟩ u) F g dp b blk cv { P with fr := updA P.fr k f' } := by
  have h2 := h.turnF hk (v' := cv k) (f' := f') (by rw [← hc]; exact store_row (o := o) (u := u) (h.hf k hk)) (fr_set _ _ _ _) (by rw [hb]; exact own_of_block (h.hc k hk) (fun c hc => (fr_set _ _ _ _).block c (h.lo c (h.fc k hk c hc)).2 (fun e => (h.ne hk).2.2 k hk (by rw [hc, e])))) (h.fc k hk)
  rw [updA_id] at h2
  exact h2
theorem pinned_bad {base : Nat} {w : World} {F : Nat → Prop} {g b : Nat} {dp : Value} {blk : Int → Nat} {cv : Int → Value} {P : PS} (h : PoolIn base w F g dp b blk cv P) {k : Int} (hi : -9223372036854775808 ≤ k ∧ k ≤ 9223372036854775807) (hno : k ∉ P.keys ∨ (P.fr k).pins = 0) :
    Calls Try.prog 69 #[.pointer (some ⟨g, 0, none⟩), .int .i64 k] w fun e w' => e = .returned (.tuple #[.pointer none, .int .i64 72]) ∧ w' = w := by
  have p4 := h.cells.c4
  have hl := h.hm.look_ok hi
  by_cases hk : k ∈ P.keys
  · have c1 := (h.cellsF hk).c1
    have hz : (P.fr k).pins = 0 := by rcases hno with h | h; exact absurd hk h; exact h
    rw [hz] at c1
    simp only [hk, if_true, decide_true, ptr] at hl
    clear h hno
    go_enter Try.func69, Try.ntmps69
    go_wp2
    exact bodyPost_ret (v := .tuple #[.pointer none, .int .i64 72]) (by simp [results, Try.results69, go_sem]) rfl ⟨rfl, rfl⟩
  · simp only [hk, if_false, decide_false] at hl
    clear h hno
    go_enter Try.func69, Try.ntmps69
    go_wp2
    exact bodyPost_ret (v := .tuple #[.pointer none, .int .i64 72]) (by simp [results, Try.results69, go_sem]) rfl ⟨rfl, rfl⟩
theorem pinned_ok {base : Nat} {w : World} {F : Nat → Prop} {g b : Nat} {dp : Value} {blk : Int → Nat} {cv : Int → Value} {P : PS} (h : PoolIn base w F g dp b blk cv P) {k : Int} (hi : -9223372036854775808 ≤ k ∧ k ≤ 9223372036854775807) (hk : k ∈ P.keys) (hp : (P.fr k).pins ≠ 0) :
    Calls Try.prog 69 #[.pointer (some ⟨g, 0, none⟩), .int .i64 k] w fun e w' => e = .returned (.tuple #[.pointer (some ⟨blk k, 0, none⟩), .int .i64 0]) ∧ w' = w := by
  have p4 := h.cells.c4
  have hl := h.hm.look_ok hi
  have c1 := (h.cellsF hk).c1
  simp only [hk, if_true, decide_true, ptr] at hl
  have t1 : ((P.fr k).pins == 0) = false := by simpa using hp
  clear h
  generalize (P.fr k).pins = X at *
  go_enter Try.func69, Try.ntmps69
  go_wp2
  exact bodyPost_ret (v := .tuple #[.pointer (some ⟨blk k, 0, none⟩), .int .i64 0]) (by simp [results, Try.results69, go_sem]) rfl ⟨rfl, rfl⟩
theorem pinned_nil (k : Int) (w : World) :
    Calls Try.prog 69 #[.pointer none, .int .i64 k] w fun e w' => e = .returned (.tuple #[.pointer none, .int .i64 1]) ∧ w' = w := by
  go_enter Try.func69, Try.ntmps69
  go_wp2
  exact bodyPost_ret (v := .tuple #[.pointer none, .int .i64 1]) (by simp [results, Try.results69, go_sem]) rfl ⟨rfl, rfl⟩
theorem unpin_nil (k : Int) (w : World) :
    Calls Try.prog 55 #[.pointer none, .int .i64 k] w fun e w' => e = .returned (.int .i64 1) ∧ w' = w := by
  go_enter Try.func55, Try.ntmps55
  go_wp2_with (go_at_call 69; refine (pinned_nil k w).mono ?_; rintro e wx ⟨rfl, hwx⟩; rw [hwx]; clear hwx wx)
  go_ret
  exact ⟨rfl, rfl⟩
theorem put_nil (k m : Int) (v : Value) (w : World) :
    Calls Try.prog 56 #[.pointer none, .int .i64 k, v, .int .u64 m] w fun e w' => e = .returned (.int .i64 1) ∧ w' = w := by
  go_enter Try.func56, Try.ntmps56
  go_wp2_with (go_at_call 69; refine (pinned_nil k w).mono ?_; rintro e wx ⟨rfl, hwx⟩; rw [hwx]; clear hwx wx)
  go_ret
  exact ⟨rfl, rfl⟩
theorem unpin_bad {base : Nat} {w : World} {F : Nat → Prop} {g b : Nat} {dp : Value} {blk : Int → Nat} {cv : Int → Value} {P : PS} (h : PoolIn base w F g dp b blk cv P) {k : Int} (hi : -9223372036854775808 ≤ k ∧ k ≤ 9223372036854775807) (hno : k ∉ P.keys ∨ (P.fr k).pins = 0) :
    Calls Try.prog 55 #[.pointer (some ⟨g, 0, none⟩), .int .i64 k] w fun e w' => e = .returned (.int .i64 72) ∧ w' = w := by
  have hp := pinned_bad h hi hno
  clear h hno
  go_enter Try.func55, Try.ntmps55
  go_wp2_with (go_at_call 69; refine hp.mono ?_; rintro e wx ⟨rfl, hwx⟩; rw [hwx]; clear hwx wx)
  go_ret
  exact ⟨rfl, rfl⟩
theorem put_bad {base : Nat} {w : World} {F : Nat → Prop} {g b : Nat} {dp : Value} {blk : Int → Nat} {cv : Int → Value} {P : PS} (h : PoolIn base w F g dp b blk cv P) {k : Int} (hi : -9223372036854775808 ≤ k ∧ k ≤ 9223372036854775807) (hno : k ∉ P.keys ∨ (P.fr k).pins = 0) (v : Value) (m : Int) :
    Calls Try.prog 56 #[.pointer (some ⟨g, 0, none⟩), .int .i64 k, v, .int .u64 m] w fun e w' => e = .returned (.int .i64 72) ∧ w' = w := by
  have hp := pinned_bad h hi hno
  clear h hno
  go_enter Try.func56, Try.ntmps56
  go_wp2_with (go_at_call 69; refine hp.mono ?_; rintro e wx ⟨rfl, hwx⟩; rw [hwx]; clear hwx wx)
  go_ret
  exact ⟨rfl, rfl⟩
theorem put_long {base : Nat} {w : World} {F : Nat → Prop} {g b : Nat} {dp : Value} {blk : Int → Nat} {cv : Int → Value} {P : PS} (h : PoolIn base w F g dp b blk cv P) {k : Int} (hi : -9223372036854775808 ≤ k ∧ k ≤ 9223372036854775807) (hk : k ∈ P.keys) (hp0 : (P.fr k).pins ≠ 0) (v : Value) (xs : List UInt8) (hB : Bytes w v xs) (hx : xs.length ≠ 2048) (m : Int) :
    Calls Try.prog 56 #[.pointer (some ⟨g, 0, none⟩), .int .i64 k, v, .int .u64 m] w fun e w' => e = .returned (.int .i64 1) ∧ w' = w := by
  have hp := pinned_ok h hi hk hp0
  obtain ⟨ao, cap, rfl, hc, _⟩ := hB.form
  have t1 : ((xs.length : Int) != 2048) = true := by simp; omega
  clear h hB
  generalize xs.length = X at *
  go_enter Try.func56, Try.ntmps56
  go_wp2_with (go_at_call 69; refine hp.mono ?_; rintro e wx ⟨rfl, hwx⟩; rw [hwx]; clear hwx wx)
  go_ret
  exact ⟨rfl, rfl⟩
set_option maxHeartbeats 400000 in
theorem unpin_ok {base : Nat} {w : World} {F : Nat → Prop} {g b : Nat} {dp : Value} {blk : Int → Nat} {cv : Int → Value} {P : PS} (h : PoolIn base w F g dp b blk cv P) (hok : POk P) {k : Int} (hi : -9223372036854775808 ≤ k ∧ k ≤ 9223372036854775807) (hk : k ∈ P.keys) (hp0 : (P.fr k).pins ≠ 0) :
    Calls Try.prog 55 #[.pointer (some ⟨g, 0, none⟩), .int .i64 k] w fun e w' => e = .returned (.int .i64 0) ∧ PoolIn base w' F g dp b blk cv (P.touch k { P.fr k with pins := (P.fr k).pins - 1 }) ∧ Fr w w' F := by
  have hp := pinned_ok h hi hk hp0
  have c1 := (h.cellsF hk).c1
  have fz := (h.cellsF hk).f
  have hfk := (hok.fr k hk).pins
  have hu := hok.uses
  have HP : Hid (PoolIn base w F g dp b blk cv P) := h
  have hBF := h.ff k hk
  clear h hok
  generalize hX : (P.fr k).pins = X at *
  go_enter Try.func55, Try.ntmps55
  go_wp2_with (first
    | (go_at_call 69; refine hp.mono ?_; rintro e wx ⟨rfl, hwx⟩; rw [hwx]; clear hwx wx)
    | (go_at_call 67; refine (use_any (HP.out.storeF hk 1 (.int .i64 (X - 1)) { P.fr k with pins := X - 1 } rfl rfl) hu hk).mono ?_; rintro e w1 ⟨rfl, hP1, hf1⟩))
  go_ret
  refine ⟨rfl, ?_, ((fr_set _ _ _ _).mono (fun i hi => hi ▸ hBF)).trans hf1 (fun i hi => Or.inl hi)⟩
  have e : ({ ({ P with fr := updA P.fr k { P.fr k with pins := X - 1 } } : PS) with uses := P.uses + 1, fr := updA (updA P.fr k { P.fr k with pins := X - 1 }) k { (updA P.fr k { P.fr k with pins := X - 1 }) k with used := P.uses + 1 } } : PS) = P.touch k { P.fr k with pins := X - 1 } := by
    rw [updA_twice, updA_same]; rfl
  rw [← e]
  exact hP1
end Go.Proofs.Ytkmgahembhgloaa

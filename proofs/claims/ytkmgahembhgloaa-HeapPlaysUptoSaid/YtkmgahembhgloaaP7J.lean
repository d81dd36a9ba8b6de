/- The pool: Put, Safe, New. -/
import Derived.Test.YtkmgahembhgloaaP7I
namespace Go.Proofs.Ytkmgahembhgloaa
open Go.RowKit Go.Maps
set_option linter.unusedVariables false
set_option linter.unusedSimpArgs false

/-- The greater one. -/
def mx (x y : Int) : Int := if y > x then y else x
theorem PoolIn.base_le {base : Nat} {w : World} {F : Nat → Prop} {g b : Nat} {dp : Value} {blk : Int → Nat} {cv : Int → Value} {P : PS} (h : PoolIn base w F g dp b blk cv P) : base ≤ w.heap.size := by
  have := h.lo g h.fg; omega
/-- Bytes of its own come to a frame. -/
theorem PoolIn.storeB {base : Nat} {w : World} {F : Nat → Prop} {g b : Nat} {dp : Value} {blk : Int → Nat} {cv : Int → Value} {P : PS} (h : PoolIn base w F g dp b blk cv P) {k : Int} (hk : k ∈ P.keys) (v' : Value) (xs : List UInt8) (hv : OwnB base w v' xs) (hn : v'.ownBlock ≠ some (blk k)) (hF : ∀ c, v'.ownBlock = some c → F c) :
    PoolIn base (w.setCell ⟨blk k, 0, none⟩ v') F g dp b blk (updA cv k v') { P with fr := updA P.fr k { P.fr k with bytes := xs } } :=
  h.turnF hk (v' := v') (f' := { P.fr k with bytes := xs }) (store_row (o := 0) (u := v') (h.hf k hk)) (fr_set _ _ _ _) (own_of_block hv (fun c hc => (fr_set _ _ _ _).block c (own_lt hv c hc) (fun e => hn (by rw [hc, e])))) hF
/-- The pool is turned, its disk is not. -/
inductive PoolTo (base : Nat) (w : World) (F : Nat → Prop) (g : Nat) (dp : Value) (b : Nat) (P' : PS) (w' : World) : Prop
  | mk (F' : Nat → Prop) (blk' : Int → Nat) (cv' : Int → Value) (hP : PoolIn base w' F' g dp b blk' cv' P') (hf : Fr w w' F) (hF : ∀ i, F' i → F i ∨ w.heap.size ≤ i)
theorem put_key {base : Nat} {w : World} {F : Nat → Prop} {g b : Nat} {dp : Value} {blk : Int → Nat} {cv : Int → Value} {P : PS} (h : PoolIn base w F g dp b blk cv P) {k : Int} (hk : k ∈ P.keys) (xs : List UInt8) (M : Int) (w1 : World) (v' : Value) (ho : OwnB base w1 v' xs) (hn : ∀ c, v'.ownBlock = some c → w.heap.size ≤ c) (hb : Below w.heap.size w w1) :
    ∃ F' cv', (∀ i, F' i → F i ∨ w.heap.size ≤ i) ∧ PoolIn base (((w1.setCell ⟨blk k, 0, none⟩ v').setCell ⟨blk k, 2, none⟩ (.bool true)).setCell ⟨blk k, 3, none⟩ (.int .u64 M)) F' g dp b blk cv' { P with fr := updA P.fr k { P.fr k with bytes := xs, dirty := true, mark := M } } := by
  have hBl := (h.lo _ (h.ff k hk)).2
  have h1 := h.keepB hb
  have h2 := h1.wide (G := fun i => F i ∨ (w.heap.size ≤ i ∧ i < w1.heap.size)) (fun i hi => Or.inl hi) (fun i hi => by
    rcases hi with hi | hi
    · exact h1.lo i hi
    · exact ⟨by have := h.base_le; omega, hi.2⟩)
  have h3 := h2.storeB hk v' xs ho (fun e => by have := hn _ e; omega) (fun c hc => Or.inr ⟨hn c hc, own_lt ho c hc⟩)
  have h4 := h3.storeF hk 2 (.bool true) { P.fr k with bytes := xs, dirty := true } (by show xs = (updA P.fr k _ k).bytes; rw [updA_same]) (by simp only [updA_same]; rfl)
  have h5 := h4.storeF hk 3 (.int .u64 M) { P.fr k with bytes := xs, dirty := true, mark := M } (by show xs = (updA (updA P.fr k _) k _ k).bytes; rw [updA_same]) (by simp only [updA_same]; rfl)
  refine ⟨fun i => F i ∨ (w.heap.size ≤ i ∧ i < w1.heap.size), updA cv k v', fun i hi => ?_, ?_⟩
  · rcases hi with hi | hi
    · exact Or.inl hi
    · exact Or.inr hi.1
  · simp only [updA_twice] at h5
    exact h5
set_option maxHeartbeats 1000000 in
theorem put_ok {base : Nat} {w : World} {F : Nat → Prop} {g b : Nat} {dp : Value} {blk : Int → Nat} {cv : Int → Value} {P : PS} (h : PoolIn base w F g dp b blk cv P) (hok : POk P) {k : Int} (hi : -9223372036854775808 ≤ k ∧ k ≤ 9223372036854775807) (hk : k ∈ P.keys) (hp0 : (P.fr k).pins ≠ 0) (v : Value) (xs : List UInt8) (hB : Bytes w v xs) (hx : xs.length = 2048) (m : Int) :
    Calls Try.prog 56 #[.pointer (some ⟨g, 0, none⟩), .int .i64 k, v, .int .u64 m] w fun e w' => e = .returned (.int .i64 0) ∧ PoolTo base w F g dp b (P.touch k { P.fr k with bytes := xs, dirty := true, mark := mx (P.fr k).mark m }) w' := by
  have hp := pinned_ok h hi hk hp0
  have hcl := clone_bytes base v xs w hB (by omega) (by omega) h.base_le
  obtain ⟨ao, cap, rfl, hc, _⟩ := hB.form
  have hu := hok.uses
  have HP : Hid (PoolIn base w F g dp b blk cv P) := h
  have hBF := h.ff k hk
  rw [hx] at hcl hc ⊢
  obtain ⟨MK, hMK⟩ : ∃ MK, (P.fr k).mark = MK := ⟨_, rfl⟩
  obtain ⟨M, hM⟩ : ∃ M, mx MK m = M := ⟨_, rfl⟩
  rw [hMK, hM]
  have hcase : (m > MK ∧ M = m) ∨ (¬ m > MK ∧ M = MK) := by
    unfold mx at hM
    split at hM
    · exact Or.inl ⟨by assumption, hM.symm⟩
    · exact Or.inr ⟨by assumption, hM.symm⟩
  clear hM h hok hB
  rcases hcase with ⟨hmx, rfl⟩ | ⟨hmx, rfl⟩
  all_goals
    go_enter Try.func56, Try.ntmps56
    go_wp2_with fail
    refine hp.mono ?_
    rintro e wx ⟨rfl, hwx⟩
    rw [hwx]
    clear hwx wx
    go_wp2_with fail
    refine hcl.mono ?_
    rintro e w1 ⟨v', rfl, ho, hn, hb1⟩
    obtain ⟨F', cv', hF', HQ⟩ := put_key HP.out hk xs M w1 v' ho hn hb1
    have hP1 := HP.out.keepB hb1
    have c3 := (hP1.cellsF hk).c3
    have c0 := (hP1.cellsF hk).c0
    have c2 := (hP1.cellsF hk).c2
    have fz := (hP1.cellsF hk).f
    rw [hMK] at c3
    obtain ⟨ao2, cap2, rfl, _⟩ := ho.toBytes.form
    rw [hx] at HQ ⊢
    have HQ' : Hid (PoolIn base (((w1.setCell ⟨blk k, 0, none⟩ (.slice ao2 2048 cap2)).setCell ⟨blk k, 2, none⟩ (.bool true)).setCell ⟨blk k, 3, none⟩ (.int .u64 M)) F' g dp b blk cv' { P with fr := updA P.fr k { P.fr k with bytes := xs, dirty := true, mark := M } }) := HQ
    clear hcl HQ hP1 ho hn
    go_wp2_with fail
    refine (use_any HQ'.out hu hk).mono ?_
    rintro e w2 ⟨rfl, hP2, hf2⟩
    have hf3 : Fr w w2 F := ((((Fr.of_below hb1).trans (fr_set _ _ _ _) (fun i hi => Or.inl (hi ▸ hBF))).trans (fr_set _ _ _ _) (fun i hi => Or.inl (hi ▸ hBF))).trans (fr_set _ _ _ _) (fun i hi => Or.inl (hi ▸ hBF))).trans hf2 hF'
    have hT : PoolTo base w F g dp b (P.touch k { P.fr k with bytes := xs, dirty := true, mark := M }) w2 := by
      refine ⟨F', blk, cv', ?_, hf3, hF'⟩
      unfold PS.touch
      simp only [updA_twice, updA_same] at hP2
      exact hP2
    clear HQ' hf2 hP2
    go_wp2
    go_ret
    exact ⟨rfl, hT⟩
end Go.Proofs.Ytkmgahembhgloaa

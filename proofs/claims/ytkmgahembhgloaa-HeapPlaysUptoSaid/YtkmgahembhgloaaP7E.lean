/- The pool: load. -/
import Derived.Test.YtkmgahembhgloaaP7D
namespace Go.Proofs.Ytkmgahembhgloaa
open Go.RowKit Go.Maps
set_option linter.unusedVariables false
set_option linter.unusedSimpArgs false

theorem OwnB.keepB {base : Nat} {w w' : World} {v : Value} {xs : List UInt8} (h : OwnB base w v xs) (hb : Below w.heap.size w w') : OwnB base w' v xs := own_of_block h (fun b hx => hb.block b (own_lt h b hx))
theorem DiskAt.nowLen {base : Nat} {w : World} {F : Nat → Prop} {p : Value} {n : Nat} {D : DS} (h : DiskAt base w F p n D) : ∀ i, (D.now i).length = 128 := by
  obtain ⟨g, b1, b2, v, hp, h⟩ := h; exact h.m2.len
set_option maxRecDepth 20000 in
set_option maxHeartbeats 400000 in
theorem load_any {base : Nat} {w : World} {F G : Nat → Prop} {g b n : Nat} {dp : Value} {blk : Int → Nat} {cv : Int → Value} {P : PS} {D : DS} (h : PoolIn base w F g dp b blk cv P) (hD : DiskAt base w G dp n D) (hfi : 0 ≤ P.first ∧ P.first ≤ 4096) (hpg : 1 ≤ P.pages ∧ P.pages ≤ 256) (hfit : P.first + 16 * P.pages ≤ D.size) (p : Int) (hp : 0 ≤ p ∧ p < P.pages) :
    Calls Try.prog 66 #[.pointer (some ⟨g, 0, none⟩), .int .i64 p] w fun e w' => ∃ v, e = .returned v ∧ OwnB w.heap.size w' v (getN D.now (P.first + 16 * p) 16) ∧ Below w.heap.size w w' := by
  obtain ⟨dg, _, _, _, rfl, _⟩ := id hD
  have HP : Hid (PoolIn base w F g (.pointer (some ⟨dg, 0, none⟩)) b blk cv P) := h
  have HD : Hid (DiskAt base w G (.pointer (some ⟨dg, 0, none⟩)) n D) := hD
  have HN : Hid (∀ i, (D.now i).length = 128) := hD.nowLen
  clear h hD
  generalize hS : P.first + 16 * p = S at *
  go_enter Try.func66, Try.ntmps66
  go_wp2
  go_loopw [5, 9] (fun v i wr => ∃ m : Nat, m ≤ 16 ∧ i = .int .i64 m ∧ OwnB w.heap.size wr v (getN D.now S m) ∧ Below w.heap.size w wr) (fun _ i _ => 16 - (intOf i).toNat)
  case atStart => exact ⟨0, by omega, rfl, World.ownsRow_nil _ _ _ _, Below.refl _ _⟩
  case round =>
    obtain ⟨m, hm, rfl, hown, hb⟩ := hrel
    by_cases hlt : m < 16
    · have hPr := HP.out.keepB hb
      have hDr := HD.out.keepB hb
      have c0 := hPr.cells.c0
      have HSec : Hid (∀ wx, (wx = wr ∨ wx = wr.drew) → Calls Try.prog 77 #[.pointer (some ⟨g, 0, none⟩), .int .i64 p, .int .i64 m] wx fun e w' => e = .returned (.int .i64 (P.first + p * 16 + m)) ∧ w' = wx) := fun wx hwx => by
        have hb : Below wr.heap.size wr wx := by
          rcases hwx with rfl | rfl
          · exact Below.refl _ _
          · exact (Below.refl _ _).drew
        exact sector_any (hPr.keepB hb) hfi p m (by omega) (by omega)
      have HRd : Hid (∀ x, x = S + m → ∀ wx, (wx = wr ∨ wx = wr.drew) → Calls Try.prog 76 #[.pointer (some ⟨dg, 0, none⟩), .int .i64 x] wx fun e w' => ∃ k, wr.heap.size ≤ k ∧ e = .returned (.tuple #[.slice (some ⟨k, 0, none⟩) 128 128, .int .i64 0]) ∧ RowB w' k (D.now (S + m)) ∧ Below wr.heap.size wr w') := fun x hx wx hwx => by
        have hb : Below wr.heap.size wr wx := by
          rcases hwx with rfl | rfl
          · exact Below.refl _ _
          · exact (Below.refl _ _).drew
        have hsz : wx.heap.size = wr.heap.size := by rcases hwx with rfl | rfl <;> rfl
        subst hx
        refine (read_any (hDr.keepB hb) (S + m) (by omega)).mono ?_
        rintro e w' ⟨k, h1, h2, h3, h4⟩
        exact ⟨k, by omega, h2, h3, hb.trans (h4.mono (by omega))⟩
      have HO : Hid (OwnB w.heap.size wr _ (getN D.now S m)) := hown
      have hlen : (getN D.now S m).length ≤ 2048 := by rw [getN_len HN.out]; omega
      clear hPr hDr hown
      go_wp2
      go_region_held_law (fun w' => w'.cell? ⟨g, 0, none⟩ = some (.pointer (some ⟨dg, 0, none⟩))) (first | exact c0 | exact (hb1.cell (World.block_lt_of_cell? wr _ c0)).trans c0)
        (first
          | (go_at_call 77; refine (HSec.out _ (by first | exact Or.inl rfl | exact Or.inr rfl)).mono ?_; rintro e wy ⟨rfl, hwy⟩; rw [hwy]; clear hwy wy)
          | (go_at_call 76; refine (HRd.out _ (by omega) _ (by first | exact Or.inl rfl | exact Or.inr rfl)).mono ?_; rintro e w1 ⟨K, hK, rfl, hR, hb1⟩))
      have HR : Hid (RowB w1 K (D.now (S + m))) := hR
      have HO1 : Hid (OwnB w.heap.size w1 _ (getN D.now S m)) := HO.out.keepB hb1
      have hb2 := hb.trans (hb1.mono hb.size)
      clear hR c0 HSec HRd HO hb1
      go_wp2_with (first | (at_builtin; refine wp_appB _ rfl _ _ rfl w.heap.size _ (getN D.now S m) rfl HO1.out K 128 _ (D.now (S + m)) rfl HR.out (by simp) (HN.out _) (by decide) (by omega) hb2.size ?_))
      intro v' w2 ho hg
      have hb3 := hb2.trans (hg.below HO1.out hb2.size)
      rw [← getN_succ] at ho
      clear hg HO1 HR
      go_wp2
      go_roundw
      case rel => exact ⟨m + 1, by omega, by first | go_num | (congr 1; omega), ho, hb3⟩
      case measure => simp [intOf]; omega
    · obtain rfl : m = 16 := by omega
      go_wp2
      go_ret
      exact ⟨_, rfl, hown, hb⟩
end Go.Proofs.Ytkmgahembhgloaa

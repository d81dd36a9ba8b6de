/- A region's bytes, as the laws read them. -/
import Derived.Test.YtcjoolmlobjpbaaW6R
namespace Go.Proofs.Ytcjoolmlobjpbaa
open Go.RowKit Go.Maps
set_option linter.unusedVariables false
set_option linter.unusedSimpArgs false

theorem OwnB.keepB {base : Nat} {w w' : World} {v : Value} {xs : List UInt8} (h : OwnB base w v xs) (hb : Below w.heap.size w w') : OwnB base w' v xs := own_of_block h (fun b hx => hb.block b (own_lt h b hx))
theorem DiskAt.nowLen {base : Nat} {w : World} {F : Nat → Prop} {p : Value} {n : Nat} {D : DS} (h : DiskAt base w F p n D) : ∀ i, (D.now i).length = 128 := by
  obtain ⟨g, b1, b2, v, hp, h⟩ := h; exact h.m2.len
set_option maxRecDepth 20000 in
set_option maxHeartbeats 400000 in
theorem region_any {base : Nat} {w : World} {G : Nat → Prop} {n : Nat} {dp : Value} {D : DS} (hD : DiskAt base w G dp n D) (sz first : Int) (m : Nat) (hf : 0 ≤ first) (hm : m ≤ 1024) (hfit : first + m ≤ D.size) :
    Calls Try.prog 19 #[dp, .agg #[.int .i64 sz, .int .i64 first, .int .i64 m]] w fun e w' => ∃ v, e = .returned v ∧ OwnB w.heap.size w' v (reg D.now first m) ∧ Below w.heap.size w w' := by
  obtain ⟨dg, _, _, _, rfl, hin⟩ := id hD
  have hsz := hin.sz
  have HD : Hid (DiskAt base w G (.pointer (some ⟨dg, 0, none⟩)) n D) := hD
  have HN : Hid (∀ i, (D.now i).length = 128) := hD.nowLen
  have h0 : Below w.heap.size w (w.alloc (.cells #[.int .i64 sz, .int .i64 first, .int .i64 m] 23)) := (Below.refl _ _).alloc (Nat.le_refl _) _
  have HQ : Hid ((w.alloc (.cells #[.int .i64 sz, .int .i64 first, .int .i64 m] 23)).heap[w.heap.size]? = some (.cells #[.int .i64 sz, .int .i64 first, .int .i64 m] 23 (0, 0))) := heap_alloc_new w _
  clear hD hin
  go_enter Try.func19, Try.ntmps19
  go_wp2
  obtain ⟨w0, hw0⟩ : ∃ w0, w0 = w.alloc (.cells #[.int .i64 sz, .int .i64 first, .int .i64 m] 23) := ⟨_, rfl⟩
  have hs0 : w0.heap.size = w.heap.size + 1 := by rw [hw0]; simp
  rw [← hw0] at h0 HQ ⊢
  clear hw0
  go_loopw [5, 6] (fun v i wr => ∃ k : Nat, k ≤ m ∧ i = .int .i64 k ∧ OwnB w0.heap.size wr v (reg D.now first k) ∧ Below w0.heap.size w0 wr) (fun _ i _ => m - (intOf i).toNat)
  case atStart => exact ⟨0, Nat.zero_le _, rfl, World.ownsRow_nil _ _ _ _, Below.refl _ _⟩
  case round =>
    obtain ⟨k, hk, rfl, hown, hb⟩ := hrel
    have hbl : wr.heap[w.heap.size]? = some (.cells #[.int .i64 sz, .int .i64 first, .int .i64 m] 23 (0, 0)) := (hb.block _ (by omega)).trans HQ.out
    have b1 : wr.cell? ⟨w.heap.size, 1, none⟩ = some (.int .i64 first) := by rw [cell_of_row wr _ 1 _ _ _ hbl]; rfl
    have b2 : wr.cell? ⟨w.heap.size, 2, none⟩ = some (.int .i64 m) := by rw [cell_of_row wr _ 2 _ _ _ hbl]; rfl
    clear hbl
    by_cases hlt : k < m
    · have hDr := HD.out.keepB (h0.trans (hb.mono (by omega)))
      have hrd := read_any hDr (first + k) (by omega)
      have HO : Hid (OwnB w0.heap.size wr _ (reg D.now first k)) := hown
      have hlen : (reg D.now first k).length ≤ 131072 := by rw [reg_len HN.out]; omega
      have hw : IntKind.i64.wrap (first + (k : Int)) = first + k := by rw [IntKind.wrap_i64]; omega
      clear hown hDr
      go_wp2_with fail
      refine hrd.mono ?_
      rintro e w1 ⟨K, hK, rfl, hR, hb1⟩
      have HR : Hid (RowB w1 K (D.now (first + k))) := hR
      have HO1 : Hid (OwnB w0.heap.size w1 _ (reg D.now first k)) := HO.out.keepB hb1
      have hb2 := hb.trans (hb1.mono hb.size)
      clear hR HO hb1 hrd
      go_wp2_with (first | (at_builtin; refine wp_appB _ rfl _ _ rfl w0.heap.size _ (reg D.now first k) rfl HO1.out K 128 _ (D.now (first + k)) rfl HR.out (by simp) (HN.out _) (by decide) (by omega) hb2.size ?_))
      intro v' w2 ho hg
      have hb3 := hb2.trans (hg.below HO1.out hb2.size)
      rw [← reg_succ] at ho
      clear hg HO1 HR
      go_wp2
      go_roundw
      case rel => exact ⟨k + 1, by omega, by first | go_num | (congr 1; omega), (by first | exact ho | (rw [hs0]; exact ho)), (by first | exact hb3 | (rw [hs0]; exact hb3))⟩
      case measure => simp [intOf]; omega
    · obtain rfl : k = m := by omega
      go_wp2
      go_ret
      exact ⟨_, rfl, own_base hown (by omega), h0.trans (hb.mono (by omega))⟩
end Go.Proofs.Ytcjoolmlobjpbaa

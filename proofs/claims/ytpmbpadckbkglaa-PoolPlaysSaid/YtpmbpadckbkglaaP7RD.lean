/- The document's pool: page. -/
import Derived.Test.YtpmbpadckbkglaaP7RC
namespace Go.Proofs.Ytpmbpadckbkglaa
open Go.RowKit Go.Maps
set_option linter.unusedVariables false
set_option linter.unusedSimpArgs false

/-- What the document's disk holds. -/
def rd (F L : List EV) (i : Int) : List UInt8 := rdL L i (rdF F i zsec)
theorem rdF_len : ∀ (l : List EV) (i : Int) (s : List UInt8), s.length = 128 → (rdF l i s).length = 128
  | [], i, s, h => h
  | e :: l, i, s, h => by
    show (rdF l i (if e.i = i then full e.s else s)).length = 128
    exact rdF_len l i _ (by split; exact full_len _; exact h)
theorem rdL_len : ∀ (l : List EV) (i : Int) (s : List UInt8), s.length = 128 → (rdL l i s).length = 128
  | [], i, s, h => h
  | e :: l, i, s, h => by
    show (rdL l i (if e.i = i ∧ e.sync = false then full e.s else s)).length = 128
    exact rdL_len l i _ (by split; exact full_len _; exact h)
theorem rd_len (F L : List EV) (i : Int) : (rd F L i).length = 128 := rdL_len _ _ _ (rdF_len _ _ _ zsec_len)
set_option maxRecDepth 20000 in
set_option maxHeartbeats 400000 in
theorem refPage_any {base b2 : Nat} {w : World} {H G : Nat → Prop} {g : Nat} {dq vL : Value} {R : RPS} {N : Int} {F L : List EV} (h : RPIn base w H g dq vL R) (hq : RefAt b2 w G dq N F L) (hf : 0 ≤ R.first ∧ R.first ≤ 4096) (p : Int) (hp : 0 ≤ p ∧ p ≤ 256) (hfit : R.first + 16 * p + 16 ≤ N) :
    Calls Try.prog 43 #[.pointer (some ⟨g, 0, none⟩), .int .i64 p] w fun e w' => ∃ v, e = .returned v ∧ OwnB w.heap.size w' v (getN (rd F L) (R.first + 16 * p) 16) ∧ Below w.heap.size w w' := by
  obtain ⟨dg, _, _, rfl, _⟩ := id hq
  have HP : Hid (RPIn base w H g (.pointer (some ⟨dg, 0, none⟩)) vL R) := h
  have HQ : Hid (RefAt b2 w G (.pointer (some ⟨dg, 0, none⟩)) N F L) := hq
  clear h hq
  generalize hS : R.first + 16 * p = S at *
  go_enter Try.func43, Try.ntmps43
  go_wp2
  go_loopw [5, 6] (fun v i wr => ∃ m : Nat, m ≤ 16 ∧ i = .int .i64 m ∧ OwnB w.heap.size wr v (getN (rd F L) S m) ∧ Below w.heap.size w wr) (fun _ i _ => 16 - (intOf i).toNat)
  case atStart => exact ⟨0, by omega, rfl, World.ownsRow_nil _ _ _ _, Below.refl _ _⟩
  case round =>
    obtain ⟨m, hm, rfl, hown, hb⟩ := hrel
    by_cases hlt : m < 16
    · have hPr := HP.out.keepB hb
      have hQr := HQ.out.keepB hb
      have c0 : wr.cell? ⟨g, 0, none⟩ = some (.pointer (some ⟨dg, 0, none⟩)) := by rw [cell_of_row wr g 0 _ _ _ hPr.hg]; rfl
      have c1 : wr.cell? ⟨g, 1, none⟩ = some (.int .i64 R.first) := by rw [cell_of_row wr g 1 _ _ _ hPr.hg]; rfl
      have HRd : Hid (∀ x, x = S + m → ∀ wx, (wx = wr ∨ wx = wr.drew) → Calls Try.prog 16 #[.pointer (some ⟨dg, 0, none⟩), .int .i64 x] wx fun e w' => ∃ k, e = .returned (.tuple #[.slice (some ⟨k, 0, none⟩) 128 128, .int .i64 0]) ∧ RowB w' k (rd F L (S + m)) ∧ Below wr.heap.size wr w') := fun x hx wx hwx => by
        have hb : Below wr.heap.size wr wx := by
          rcases hwx with rfl | rfl
          · exact Below.refl _ _
          · exact (Below.refl _ _).drew
        have hsz : wx.heap.size = wr.heap.size := by rcases hwx with rfl | rfl <;> rfl
        subst hx
        refine (refRead_any (hQr.keepB hb) (S + m) (by omega)).mono ?_
        rintro e w' ⟨k, h2, h3, h4⟩
        exact ⟨k, h2, h3, hb.trans (h4.mono (by omega))⟩
      have HO : Hid (OwnB w.heap.size wr _ (getN (rd F L) S m)) := hown
      have hlen : (getN (rd F L) S m).length ≤ 2048 := by rw [getN_len (rd_len F L)]; omega
      have hw1 : IntKind.i64.wrap (16 * p) = 16 * p := by rw [IntKind.wrap_i64]; omega
      have hw2 : IntKind.i64.wrap (R.first + 16 * p) = S := by rw [IntKind.wrap_i64]; omega
      have hw3 : IntKind.i64.wrap (S + (m : Int)) = S + m := by rw [IntKind.wrap_i64]; omega
      have hw4 : IntKind.i64.wrap S = S := by rw [IntKind.wrap_i64]; omega
      clear hPr hQr hown
      go_wp2
      go_region_held_law (fun w' => w'.cell? ⟨g, 0, none⟩ = some (.pointer (some ⟨dg, 0, none⟩)) ∧ w'.cell? ⟨g, 1, none⟩ = some (.int .i64 R.first)) (first | exact ⟨c0, c1⟩ | exact ⟨(hb1.cell (World.block_lt_of_cell? wr _ c0)).trans c0, (hb1.cell (World.block_lt_of_cell? wr _ c1)).trans c1⟩)
        (first
          | (go_at_call 16; refine (HRd.out _ (by omega) _ (by first | exact Or.inl rfl | exact Or.inr rfl)).mono ?_; rintro e w1 ⟨K, rfl, hR, hb1⟩))
      have HR : Hid (RowB w1 K (rd F L (S + m))) := hR
      have HO1 : Hid (OwnB w.heap.size w1 _ (getN (rd F L) S m)) := HO.out.keepB hb1
      have hb2 := hb.trans (hb1.mono hb.size)
      clear hR c0 c1 HRd HO hb1
      go_wp2_with (first | (at_builtin; refine wp_appB _ rfl _ _ rfl w.heap.size _ (getN (rd F L) S m) rfl HO1.out K 128 _ (rd F L (S + m)) rfl HR.out (by simp) (rd_len _ _ _) (by decide) (by omega) hb2.size ?_))
      intro v' w2 ho hg
      have hb3 := hb2.trans (hg.below HO1.out hb2.size)
      rw [← getN_succ] at ho
      clear hg HO1 HR
      go_wp2
      go_roundw
      case rel => exact ⟨m + 1, by omega, by first | go_num | (congr 1; omega), ho, hb3⟩
      case measure => simp [intOf]; omega
    · obtain rfl : m = 16 := by omega
      go_wp2
      go_ret
      exact ⟨_, rfl, hown, hb⟩
end Go.Proofs.Ytpmbpadckbkglaa

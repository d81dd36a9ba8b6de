/- The document's disk: Pending, Read. -/
import Derived.Test.YtpmbpadckbkglaaD5R
namespace Go.Proofs.Ytpmbpadckbkglaa
open Go.RowKit Go.Maps
set_option linter.unusedVariables false
set_option linter.unusedSimpArgs false

/-- What the first entries say of sector i. -/
def rdF (l : List EV) (i : Int) (s : List UInt8) : List UInt8 := l.foldl (fun s e => if e.i = i then full e.s else s) s
def rdL (l : List EV) (i : Int) (s : List UInt8) : List UInt8 := l.foldl (fun s e => if e.i = i ∧ e.sync = false then full e.s else s) s
theorem rdF_succ (l : List EV) (i : Int) (s : List UInt8) (k : Nat) (h : k < l.length) : rdF (l.take (k + 1)) i s = if l[k].i = i then full l[k].s else rdF (l.take k) i s := by
  unfold rdF; rw [List.take_succ_eq_append_getElem h, List.foldl_append]; rfl
theorem rdL_succ (l : List EV) (i : Int) (s : List UInt8) (k : Nat) (h : k < l.length) : rdL (l.take (k + 1)) i s = if l[k].i = i ∧ l[k].sync = false then full l[k].s else rdL (l.take k) i s := by
  unfold rdL; rw [List.take_succ_eq_append_getElem h, List.foldl_append]; rfl
/-- Where Read's loops stand. -/
structure RdMid (w wr : World) (ov : Value) (s : List UInt8) : Prop where
  ex : ∃ k, ov = sl k ∧ RowB wr k s
  below : Below w.heap.size w wr
theorem RdMid.step {w wr w' : World} {ov : Value} {s s' : List UInt8} (h : RdMid w wr ov s) {k : Nat} (hr : RowB w' k s') (hb : Below wr.heap.size wr w') : RdMid w w' (sl k) s' := ⟨⟨k, rfl, hr⟩, h.below.trans (hb.mono h.below.size)⟩
theorem refRead_bad {base : Nat} {w : World} {G : Nat → Prop} {q : Value} {N : Int} {F L : List EV} (h : RefAt base w G q N F L) (i : Int) (hi : i < 0 ∨ N ≤ i) :
    Calls Try.prog 16 #[q, .int .i64 i] w fun e w' => e = .returned (.tuple #[.slice none 0 0, .int .i64 51]) ∧ w' = w := by
  obtain ⟨g, vF, vL, rfl, h⟩ := h
  obtain ⟨c0, c1, c2, fz⟩ := cells3 h.hg
  clear h
  by_cases h1 : i < 0
  · have t1 : decide (i < 0) = true := by simpa using h1
    go_enter Try.func16, Try.ntmps16
    go_wp2
    exact bodyPost_ret (v := .tuple #[.slice none 0 0, .int .i64 51]) (by simp [results, Try.results16, go_sem]) rfl ⟨rfl, rfl⟩
  · have t1 : decide (i < 0) = false := by simpa using h1
    have t2 : decide (i ≥ N) = true := by simp; omega
    go_enter Try.func16, Try.ntmps16
    go_wp2
    exact bodyPost_ret (v := .tuple #[.slice none 0 0, .int .i64 51]) (by simp [results, Try.results16, go_sem]) rfl ⟨rfl, rfl⟩
set_option maxHeartbeats 2000000 in
theorem refRead_any {base : Nat} {w : World} {G : Nat → Prop} {q : Value} {N : Int} {F L : List EV} (h : RefAt base w G q N F L) (i : Int) (hi : 0 ≤ i ∧ i < N) :
    Calls Try.prog 16 #[q, .int .i64 i] w fun e w' => ∃ k, e = .returned (.tuple #[sl k, .int .i64 0]) ∧ RowB w' k (rdL L i (rdF F i zsec)) ∧ Below w.heap.size w w' := by
  obtain ⟨g, vF, vL, rfl, h⟩ := h
  have t1 : decide (i < 0) = false := by simp; omega
  have t2 : decide (i ≥ N) = false := by simp; omega
  obtain ⟨c0, c1, c2, fz⟩ := cells3 h.hg
  obtain ⟨aF, cF, hvF, hcF, hrF⟩ := h.rF.row
  obtain ⟨aL, cL, hvL, hcL, hrL⟩ := h.rL.row
  subst hvF hvL
  have HRF : Hid (F = [] ∨ ∃ g o, aF = some ⟨g, o, none⟩ ∧ ∀ k (h : k < F.length), w.rangeAt g (o + k * 3) (cellsE F[k])) := hrF
  have HRL : Hid (L = [] ∨ ∃ g o, aL = some ⟨g, o, none⟩ ∧ ∀ k (h : k < L.length), w.rangeAt g (o + k * 3) (cellsE L[k])) := hrL
  have HOF : Hid (∀ e ∈ F, Bytes w e.v e.s) := fun e he => (h.oF e he).bytes
  have HOL : Hid (∀ e ∈ L, Bytes w e.v e.s) := fun e he => (h.oL e he).bytes
  have hln := h.len
  have hgl := (h.lo g h.gg).2
  have hf0 := full_any (.slice none 0 0) [] w (Or.inl ⟨rfl, rfl⟩)
  have hfz : full [] = zsec := by simp [full, zsec]
  rw [hfz] at hf0
  have HC : Hid (∀ wb, Below w.heap.size w wb → wb.cell? ⟨g, 0, none⟩ = some (.int .i64 N) ∧ wb.cell? ⟨g, 1, none⟩ = some (.slice aF F.length cF) ∧ wb.cell? ⟨g, 2, none⟩ = some (.slice aL L.length cL)) := fun wb hb => ⟨cell_keep hb c0, cell_keep hb c1, cell_keep hb c2⟩
  clear h hrF hrL fz
  go_enter Try.func16, Try.ntmps16
  go_wp2_with (go_at_call 33; refine hf0.mono ?_; rintro e w1 ⟨rfl, hr1, hb1⟩; clear hf0)
  have hM1 : RdMid w w1 (sl w.heap.size) zsec := ⟨⟨_, rfl, hr1⟩, hb1⟩
  clear hr1 hb1
  go_loopw [6, 7] (fun ov iv wr => ∃ k : Nat, k ≤ F.length ∧ iv = .int .i64 k ∧ RdMid w wr ov (rdF (F.take k) i zsec)) (fun _ iv _ => F.length - (intOf iv).toNat)
  case atStart => exact ⟨0, Nat.zero_le _, rfl, hM1⟩
  case round =>
    obtain ⟨k, hk, rfl, hM⟩ := hrel
    obtain ⟨d0, d1, d2⟩ := HC.out _ hM.below
    clear c0 c1 c2
    by_cases h1 : k < F.length
    · rcases HRF.out with h0 | ⟨g', o, rfl, hcl⟩
      · rw [h0] at h1; simp at h1
      obtain ⟨q0, q1, q2⟩ := cells_e (rangeAt_keep hM.below (hcl k h1))
      have hs := rdF_succ F i zsec k h1
      have hfu := full_any F[k].v F[k].s wr ((HOF.out _ (List.getElem_mem h1)).keep hM.below)
      generalize F[k] = x at *
      clear hcl
      by_cases h2 : x.i = i
      · have t3 : (x.i == i) = true := by simpa using h2
        rw [if_pos h2] at hs
        go_wp2_with (go_at_call 33; refine hfu.mono ?_; rintro e w2 ⟨rfl, hr2, hb2⟩; clear hfu)
        go_roundw
        case rel => exact ⟨k + 1, by omega, by go_num, by rw [hs]; exact hM.step hr2 hb2⟩
        case measure => simp [intOf]; omega
      · have t3 : (x.i == i) = false := by simpa using h2
        rw [if_neg h2] at hs
        go_wp2
        go_roundw
        case rel => exact ⟨k + 1, by omega, by go_num, by rw [hs]; exact hM⟩
        case measure => simp [intOf]; omega
    · obtain rfl : k = F.length := by omega
      rw [List.take_length] at hM
      generalize hs0 : rdF F i zsec = s0 at *
      go_wp2
      go_loopw [6, 8] (fun ov iv wr => ∃ k : Nat, k ≤ L.length ∧ iv = .int .i64 k ∧ RdMid w wr ov (rdL (L.take k) i s0)) (fun _ iv _ => L.length - (intOf iv).toNat)
      case atStart => exact ⟨0, Nat.zero_le _, rfl, hM⟩
      case round =>
        obtain ⟨k, hk, rfl, hM⟩ := hrel
        obtain ⟨d0, d1, d2⟩ := HC.out _ hM.below
        by_cases h1 : k < L.length
        · rcases HRL.out with h0 | ⟨g', o, rfl, hcl⟩
          · rw [h0] at h1; simp at h1
          obtain ⟨q0, q1, q2⟩ := cells_e (rangeAt_keep hM.below (hcl k h1))
          have hs := rdL_succ L i s0 k h1
          have hfu := full_any L[k].v L[k].s wr ((HOL.out _ (List.getElem_mem h1)).keep hM.below)
          generalize L[k] = x at *
          clear hcl
          by_cases h2 : x.i = i
          · have t3 : (x.i == i) = true := by simpa using h2
            cases h3 : x.sync
            · rw [if_pos ⟨h2, h3⟩] at hs
              rw [h3] at q2
              go_wp2_with (go_at_call 33; refine hfu.mono ?_; rintro e w2 ⟨rfl, hr2, hb2⟩; clear hfu)
              go_roundw
              case rel => exact ⟨k + 1, by omega, by go_num, by rw [hs]; exact hM.step hr2 hb2⟩
              case measure => simp [intOf]; omega
            · rw [if_neg (fun hh => by rw [h3] at hh; cases hh.2)] at hs
              rw [h3] at q2
              go_wp2
              go_roundw
              case rel => exact ⟨k + 1, by omega, by go_num, by rw [hs]; exact hM⟩
              case measure => simp [intOf]; omega
          · have t3 : (x.i == i) = false := by simpa using h2
            rw [if_neg (fun hh => h2 hh.1)] at hs
            go_wp2
            go_roundw
            case rel => exact ⟨k + 1, by omega, by go_num, by rw [hs]; exact hM⟩
            case measure => simp [intOf]; omega
        · obtain rfl : k = L.length := by omega
          rw [List.take_length] at hM
          obtain ⟨⟨ko, rfl, hro⟩, hbo⟩ := hM
          go_wp2
          exact bodyPost_ret (v := .tuple #[sl ko, .int .i64 0]) (by simp [results, Try.results16, go_sem]) rfl ⟨ko, rfl, by rw [hs0]; exact hro, hbo⟩
end Go.Proofs.Ytpmbpadckbkglaa

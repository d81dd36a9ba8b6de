/- A page's bytes as the law makes them: body. -/
import Derived.Test.YtpmbpadckbkglaaP7R
import Derived.Deep.OwnRows
namespace Go.Proofs.Ytpmbpadckbkglaa
open Go.RowKit Go.Maps
set_option linter.unusedVariables false
set_option linter.unusedSimpArgs false

theorem wrap8 (x : Int) : IntKind.u8.wrap x = x % 256 := by simp [IntKind.wrap, IntKind.bits, IntKind.signed]
theorem bv_page (pg : Int) : bv (UInt8.ofNat (pg % 256).toNat) = .int .u8 (pg % 256) := by
  unfold bv
  rw [UInt8.toNat_ofNat']
  congr 1
  omega
theorem makeRowB (n : Nat) (hn : n ≤ 100000) (w : World) : (Instr.makeSlice 49 (.int .i64 (n : Int)) (.int .i64 (n : Int))).run Try.prog w = .ok (.slice (some ⟨w.heap.size, 0, none⟩) n n) (w.alloc (.cells (madeCells #[.int .u8 0] n) 5)) :=
  run_make_row' 49 5 (.int .u8 0) 1 Try.underlying49 infoB rfl .i64 .i64 n (by omega) (by omega) w
theorem rowB_of_is {w : World} {b n : Nat} {xs : List UInt8} {f : Nat → Value} (h : w.rowIs b 5 n f) (hl : xs.length = n) (hf : ∀ i (hi : i < xs.length), f i = bv xs[i]) : RowB w b xs := by
  obtain ⟨c, hb, hn, hc⟩ := h
  have e : c = (xs.map bv).toArray := by
    apply Array.ext
    · simp [hn, hl]
    · intro i h1 h2
      have := hc i (by omega)
      rw [Array.getElem?_eq_getElem h1] at this
      simp at this
      rw [this, hf i (by omega)]
      simp
  unfold RowB
  rw [hb, e]
set_option maxRecDepth 20000 in
set_option maxHeartbeats 1000000 in
theorem body_any (k pg : Int) (c : UInt8) (mk : Int) (n : Nat) (hn : n ≤ 100000) (w : World) :
    Calls Try.prog 20 #[.agg #[.int .i64 k, .int .i64 pg, bv c, .int .u64 mk], .int .i64 n] w fun e w' => e = .returned (.slice (some ⟨w.heap.size + 1, 0, none⟩) n n) ∧ RowB w' (w.heap.size + 1) (bodyL pg c n) ∧ Below w.heap.size w w' := by
  have h0 : Below w.heap.size w (w.alloc (.cells #[.int .i64 k, .int .i64 pg, bv c, .int .u64 mk] 45)) := (Below.refl _ _).alloc (Nat.le_refl _) _
  have hmk := makeRowB n hn (w.alloc (.cells #[.int .i64 k, .int .i64 pg, bv c, .int .u64 mk] 45))
  have hsz0 : (w.alloc (.cells #[.int .i64 k, .int .i64 pg, bv c, .int .u64 mk] 45)).heap.size = w.heap.size + 1 := by simp
  have hR0 := World.rowIs_made (w.alloc (.cells #[.int .i64 k, .int .i64 pg, bv c, .int .u64 mk] 45)) (.int .u8 0) n 5
  have h1 : Below w.heap.size w ((w.alloc (.cells #[.int .i64 k, .int .i64 pg, bv c, .int .u64 mk] 45)).alloc (.cells (madeCells #[.int .u8 0] n) 5)) := h0.alloc (by simp) _
  have q1 : ((w.alloc (.cells #[.int .i64 k, .int .i64 pg, bv c, .int .u64 mk] 45)).alloc (.cells (madeCells #[.int .u8 0] n) 5)).heap[w.heap.size]? = some (.cells #[.int .i64 k, .int .i64 pg, bv c, .int .u64 mk] 45 (0, 0)) := by
    rw [Below.heap_alloc _ _ _ (by simp)]
    exact heap_alloc_new w _
  rw [hsz0] at hmk hR0
  have HR0 : Hid (((w.alloc (.cells #[.int .i64 k, .int .i64 pg, bv c, .int .u64 mk] 45)).alloc (.cells (madeCells #[.int .u8 0] n) 5)).rowIs (w.heap.size + 1) 5 n (fun _ => .int .u8 0)) := hR0
  have HQ : Hid (((w.alloc (.cells #[.int .i64 k, .int .i64 pg, bv c, .int .u64 mk] 45)).alloc (.cells (madeCells #[.int .u8 0] n) 5)).heap[w.heap.size]? = some (.cells #[.int .i64 k, .int .i64 pg, bv c, .int .u64 mk] 45 (0, 0))) := q1
  clear hR0 q1 h0
  generalize hC : bv c = C at *
  have hCC : ∃ x : Int, C = .int .u8 x := ⟨_, hC.symm⟩
  obtain ⟨X, rfl⟩ := hCC
  go_enter Try.func20, Try.ntmps20
  go_wp2
  go_loopw [6] (fun i wr => ∃ m : Nat, m ≤ n ∧ i = .int .i64 m ∧ Hid (wr.rowIs (w.heap.size + 1) 5 n (fun j => if j < m then .int .u8 X else .int .u8 0)) ∧ Hid (wr.heap[w.heap.size]? = some (.cells #[.int .i64 k, .int .i64 pg, .int .u8 X, .int .u64 mk] 45 (0, 0))) ∧ Below w.heap.size w wr) (fun i _ => n - (intOf i).toNat)
  case atStart => exact ⟨0, Nat.zero_le _, rfl, HR0, HQ, h1⟩
  case round =>
    obtain ⟨m, hm, rfl, HR, HB, hb⟩ := hrel
    have d2 : wr.cell? ⟨w.heap.size, 2, none⟩ = some (.int .u8 X) := by rw [cell_of_row wr _ 2 _ _ _ HB.out]; rfl
    have d1 : wr.cell? ⟨w.heap.size, 1, none⟩ = some (.int .i64 pg) := by rw [cell_of_row wr _ 1 _ _ _ HB.out]; rfl
    by_cases hlt : m < n
    · have c1 := HR.out.cell hlt
      have f1 := HR.out.frozen m
      rw [if_neg (by omega)] at c1
      have HR2 : Hid ((wr.setCell ⟨w.heap.size + 1, m, none⟩ (.int .u8 X)).rowIs (w.heap.size + 1) 5 n (fun j => if j < m + 1 then .int .u8 X else .int .u8 0)) := (HR.out.set m (.int .u8 X)).congr (fun j hj => by
        by_cases e : j = m
        · subst e; simp
        · rw [if_neg e]
          by_cases e2 : j < m
          · rw [if_pos e2, if_pos (by omega)]
          · rw [if_neg e2, if_neg (by omega)])
      have HB2 : Hid ((wr.setCell ⟨w.heap.size + 1, m, none⟩ (.int .u8 X)).heap[w.heap.size]? = some (.cells #[.int .i64 k, .int .i64 pg, .int .u8 X, .int .u64 mk] 45 (0, 0))) := ((fr_set _ _ _ _).block _ (by have := HR.out.lt; omega) (by omega)).trans HB.out
      have hb2 : Below w.heap.size w (wr.setCell ⟨w.heap.size + 1, m, none⟩ (.int .u8 X)) := hb.setCell (by simp) _
      clear HR HB
      go_wp2
      go_roundw
      case rel => exact ⟨m + 1, by omega, by first | go_num | (congr 1; omega), HR2, HB2, hb2⟩
      case measure => simp [intOf]; omega
    · obtain rfl : m = n := by omega
      by_cases h0 : m = 0
      · subst h0
        go_wp2
        go_ret
        refine ⟨rfl, rowB_of_is HR.out (by simp [bodyL]) (fun i hi => by simp [bodyL] at hi), hb⟩
      · have t1 : decide ((m : Int) > 0) = true := by simp; omega
        have c1 := HR.out.cell (i := 0) (by omega)
        have f1 := HR.out.frozen 0
        rw [if_pos (by omega)] at c1
        have hw8 := wrap8 pg
        have HR2 : Hid (RowB (wr.setCell ⟨w.heap.size + 1, 0, none⟩ (.int .u8 (pg % 256))) (w.heap.size + 1) (bodyL pg c m)) := rowB_of_is (HR.out.set 0 (.int .u8 (pg % 256))) (bodyL_len _ _ _) (fun i hi => by
          rw [bodyL_len] at hi
          unfold bodyL
          simp only [if_neg h0]
          cases i with
          | zero => simp only [if_true]; rw [List.getElem_cons_zero, bv_page]
          | succ i => simp only [if_neg (Nat.succ_ne_zero i), if_pos hi, List.getElem_cons_succ, List.getElem_replicate]; exact hC.symm)
        have hb2 : Below w.heap.size w (wr.setCell ⟨w.heap.size + 1, 0, none⟩ (.int .u8 (pg % 256))) := hb.setCell (by simp) _
        clear HR HB d2
        go_wp2
        go_ret
        exact ⟨rfl, HR2.out, hb2⟩
end Go.Proofs.Ytpmbpadckbkglaa

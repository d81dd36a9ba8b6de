/- A page is laid out. -/
import Derived.Test.YtkmgahembhgloaaH8C
namespace Go.Proofs.Ytkmgahembhgloaa
open Go.RowKit Go.Maps
set_option linter.unusedVariables false
set_option linter.unusedSimpArgs false

theorem make2048 (w : World) : (Instr.makeSlice 30 (.int .i64 2048) (.int .i64 2048)).run Try.prog w = .ok (.slice (some ⟨w.heap.size, 0, none⟩) 2048 2048) (w.alloc (.cells (madeCells #[.int .u8 0] 2048) 5)) := by
  obtain ⟨i0, hi, hz0, hz1, hz2⟩ := info_parts infoB
  have hr := run_make (P := Try.prog) w 30 5 i0 (.int .u8 0) Try.underlying30 hi hz0 .i64 .i64 2048 2048 (by omega) (Int.le_refl _) (by rw [hz2]; omega) (by omega)
  rw [hz1] at hr
  exact hr
theorem made_own (base : Nat) (w : World) (hb : base ≤ w.heap.size) : OwnB base (w.alloc (.cells (madeCells #[.int .u8 0] 2048) 5)) (.slice (some ⟨w.heap.size, 0, none⟩) 2048 2048) (List.replicate 2048 0) := by
  unfold OwnB
  rw [List.length_replicate, List.map_replicate]
  refine ⟨by rw [List.length_replicate], Or.inr ⟨w.heap.size, 2048, madeCells #[.int .u8 0] 2048, rfl, hb, heap_alloc_new w _, Nat.le_refl _, by unfold maxLen; omega, by rw [size_madeCells], ?_⟩⟩
  rw [toList_madeCells_one, List.take_of_length_le (by rw [List.length_replicate]; exact Nat.le_refl _)]
  rfl
/-- A record is copied into a page. -/
theorem run_copyR {base : Nat} {w : World} {g n : Nat} {c r : List UInt8} (off : Nat) (hown : OwnB base w (.slice (some ⟨g, 0, none⟩) n n) c) (h : off + r.length ≤ n) (hr : 0 < r.length) (v : Value) (hB : Bytes w v r) :
    ∃ w', (∀ ty, (Builtin.copy_ #[30, 30] ty #[.slice (some ⟨g, off, none⟩) (n - off) (n - off), v]).run Try.prog w = .ok (.int .i64 r.length) w') ∧ OwnB base w' (.slice (some ⟨g, 0, none⟩) n n) (overP c off r) ∧ w.grownBy w' (some g) := by
  have hl := own_len hown
  subst hl
  rcases id hown.2 with ⟨h', _⟩ | ⟨g', cap', cur, h', hb, hg, hnc, hcm, hcs, htake⟩
  · cases h'
  · simp only [Value.slice.injEq, Option.some.injEq, Addr.mk.injEq, and_true, true_and] at h'
    obtain ⟨rfl, rfl⟩ := h'
    have hcl : cur.toList = c.map bv := by rw [← htake, List.take_of_length_le (by simp; omega)]
    obtain ⟨ao, cap', rfl, hc, hx⟩ := hB.form
    obtain ⟨a0, rfl, hx2⟩ := hx hr
    refine ⟨w.setRow g (cur.toList.take off ++ r.map bv ++ cur.toList.drop (off + (r.map bv).length)).toArray, fun ty => ?_, ?_, ?_⟩
    · have hr := run_copy_row (P := Try.prog) w 30 30 ty 5 g off (c.length - off) (c.length - off) a0 r.length cap' cur 5 (r.map bv) Try.underlying30 infoB1 hg (by rw [List.length_map]; exact (Nat.min_eq_left (by omega)).symm) hx2 (by simp; omega) (one_bv _)
      rw [hr, List.length_map]
      rfl
    · unfold OwnB
      have e : cur.toList.take off ++ r.map bv ++ cur.toList.drop (off + (r.map bv).length) = (overP c off r).map bv := by
        rw [hcl]; unfold overP; simp
      rw [e, overP_len c off r h]
      refine ⟨by simp [overP_len c off r h], Or.inr ⟨g, c.length, _, rfl, hb, setRow_heap w g cur _ 5 _ hg, Nat.le_refl _, hcm, by simp [overP_len c off r h], ?_⟩⟩
      simp [overP_len c off r h]
      exact List.take_of_length_le (by simp [overP_len c off r h])
    · exact ⟨rfl, rfl, rfl, by simp, fun k hk hne => setRow_other w g k _ (fun e => hne (by rw [e]))⟩
set_option maxHeartbeats 1000000 in
theorem layOut_any {w : World} {ao : Option Addr} {cap : Nat} {vs : List Value} {rs : List (List UInt8)} (hr : RowV w ao vs) (he : ElB w vs rs) (hc : vs.length ≤ cap) (hn : rs.length ≤ 256) (hrm : 0 ≤ roomP rs) :
    Calls Try.prog 41 #[.slice ao vs.length cap] w fun e w' => ∃ c, e = .returned (.slice (some ⟨w.heap.size, 0, none⟩) 2048 2048) ∧ OwnB w.heap.size w' (.slice (some ⟨w.heap.size, 0, none⟩) 2048 2048) c ∧ PageOk c rs ∧ Below w.heap.size w w' := by
  have hl := he.len
  rw [hl] at hc ⊢
  have ha := fun w => slotAt_any rs.length (by omega) w
  have HT : Hid (∀ k (hk : k < rs.length), ∃ g o u c, ao = some ⟨g, o, none⟩ ∧ w.cell? ⟨g, o + k, none⟩ = some (.slice u rs[k].length c) ∧ Bytes w (.slice u rs[k].length c) rs[k]) := by
    intro k hk
    cases hr with
    | mt h => rw [h] at hl; simp at hl; omega
    | at_ g o h1 h2 =>
      have hb := he.el k hk (by omega)
      obtain ⟨u, c, hu, _⟩ := hb.form
      exact ⟨g, o, u, c, h1, by rw [h2 k (by omega), hu], by rw [hu] at hb; exact hb⟩
  have hmk := make2048 w
  have h0 : Below w.heap.size w (w.alloc (.cells (madeCells #[.int .u8 0] 2048) 5)) := (Below.refl _ _).alloc (Nat.le_refl _) _
  have HO : Hid (OwnB w.heap.size (w.alloc (.cells (madeCells #[.int .u8 0] 2048) 5)) (.slice (some ⟨w.heap.size, 0, none⟩) 2048 2048) (List.replicate 2048 0)) := made_own w.heap.size w (Nat.le_refl _)
  have HL : Hid (Laid (setNumP (List.replicate 2048 0) 0 rs.length) rs 0 (2 + 4 * rs.length)) := Laid.start rs hn hrm
  clear hr he hl hrm
  generalize (w.alloc (.cells (madeCells #[.int .u8 0] 2048) 5)) = w0 at *
  go_enter Try.func41, Try.ntmps41
  go_wp2_with (first
    | (go_at_call 63; refine (setNumber_any HO.out 0 rs.length (by omega) (by omega)).mono ?_; rintro e w1 ⟨rfl, ho1, hg1⟩; have HO1 : Hid (OwnB w.heap.size w1 (.slice (some ⟨w.heap.size, 0, none⟩) 2048 2048) (setNumP (List.replicate 2048 0) 0 rs.length)) := ho1; have hb1 : Below w.heap.size w w1 := h0.grown hg1 h0.size (by intro k hk; cases hk; exact Nat.le_refl _); clear ho1 hg1 HO hmk)
    | (go_at_call 59; refine (ha _).mono ?_; rintro e wx ⟨rfl, hwx⟩; rw [hwx]; clear hwx wx))
  go_loopw [17, 4] (fun i pl wr => ∃ (k place : Nat) (c : List UInt8), k ≤ rs.length ∧ i = .int .i64 k ∧ pl = .int .i64 place ∧ Hid (OwnB w.heap.size wr (.slice (some ⟨w.heap.size, 0, none⟩) 2048 2048) c) ∧ Hid (Laid c rs k place) ∧ Below w.heap.size w wr) (fun i _ _ => rs.length - (intOf i).toNat)
  case atStart => exact ⟨0, 2 + 4 * rs.length, _, Nat.zero_le _, rfl, by first | rfl | (congr 1; omega), HO1.out, HL.out, hb1⟩
  case round =>
    obtain ⟨k, place, c, hk, rfl, rfl, HOr, HLr, hbr⟩ := hrel
    clear HO1 HL hb1 ha h0
    by_cases hlt : k < rs.length
    · obtain ⟨g, o, u, cu, rfl, hcell, hbyt⟩ := HT.out k hlt
      have hcell' := (hbr.cell (p := ⟨g, o + k, none⟩) (World.block_lt_of_cell? w _ hcell)).trans hcell
      have HB : Hid (Bytes w (.slice u rs[k].length cu) rs[k]) := hbyt
      have hbd := HLr.out.bound hlt
      by_cases h0 : rs[k].length = 0
      · have HL2 : Hid (Laid c rs (k + 1) place) := HLr.out.skip hlt h0
        rw [h0] at hcell'
        clear HT HLr hbyt HB hcell
        go_wp2
        go_roundw
        case rel => exact ⟨k + 1, place, c, by omega, by first | go_num | (congr 1; omega), rfl, HOr.out, HL2.out, hbr⟩
        case measure => simp [intOf]; omega
      · have HL2 : Hid (Laid (overP (setNumP (setNumP c (2 + 4 * k) place) (2 + 4 * k + 2) rs[k].length) place rs[k]) rs (k + 1) (place + rs[k].length)) := HLr.out.put hlt
        obtain ⟨r, hrr⟩ : ∃ r, rs[k] = r := ⟨_, rfl⟩
        rw [hrr] at hcell' HB hbd h0 HL2
        have hpos : 0 < r.length := by omega
        obtain ⟨m, hm⟩ : ∃ m, r.length = m := ⟨_, rfl⟩
        have HRM : Hid (r.length = m) := hm
        rw [hm] at hcell' HB hbd h0 HL2 hpos
        have t1 : (m : Int) > 0 := by omega
        clear HT HLr hbyt hcell hrr hm h0
        go_wp2_with (first
          | (go_at_call 45; refine (setSlot_any HOr.out k place m (by omega) (by omega) (by omega)).mono ?_; rintro e w2 ⟨rfl, ho2, hg2⟩
             have hb2 : Below w.heap.size w w2 := hbr.grown hg2 hbr.size (by intro k hk; cases hk; exact Nat.le_refl _)
             obtain ⟨w3, hcpy, ho3, hg3⟩ := run_copyR place ho2 (by rw [HRM.out]; omega) (by rw [HRM.out]; omega) _ (HB.out.keep hb2)
             have hb3 : Below w.heap.size w w3 := hb2.grown hg3 hb2.size (by intro k hk; cases hk; exact Nat.le_refl _)
             have HO3 : Hid (OwnB w.heap.size w3 (.slice (some ⟨w.heap.size, 0, none⟩) 2048 2048) (overP (setNumP (setNumP c (2 + 4 * k) place) (2 + 4 * k + 2) m) place r)) := ho3
             have hcpy3 : (Builtin.copy_ #[30, 30] 3 #[.slice (some ⟨w.heap.size, place, none⟩) (2048 - place) (2048 - place), .slice u m cu]).run Try.prog w2 = .ok (.int .i64 m) w3 := by have := hcpy 3; rw [HRM.out] at this; exact this
             clear ho2 hg2 hcpy hg3 ho3 HOr))
        go_roundw
        case rel => exact ⟨k + 1, place + m, _, by omega, by first | go_num | (congr 1; omega), by first | go_num | (congr 1; omega), HO3.out, HL2.out, hb3⟩
        case measure => simp [intOf]; omega
    · obtain rfl : k = rs.length := by omega
      have HP : Hid (PageOk c rs) := HLr.out.done
      clear HT HLr hlt
      go_wp2
      go_ret
      exact ⟨c, rfl, HOr.out, HP.out, hbr⟩
end Go.Proofs.Ytkmgahembhgloaa

/- The walk of the document's own answer for Like: rows of truths, from the pattern's end on. -/
import Derived.Test.YticlmegcpneckaaDoorLike
import Derived.Test.YticlmegcpneckaaDoorBoxes
import Derived.Deep.OwnRows
import Derived.Deep.LoopGhost
import Derived.BigRegion
namespace Go.Proofs.YticlmegcpneckaaDoor
open Go.RowKit
set_option linter.unusedVariables false

theorem infoBool : (Tryd.prog.info? 4).map (fun i => (i.zero, i.size, i.bytes)) = some (some (.bool false), 1, 1) := by kernel_rfl
/-- Does the text from k on follow the pattern from i on? -/
def fromTo (p t : ByteArray) (i k : Nat) : Bool := likeL (p.data.toList.drop i) (t.data.toList.drop k)
theorem at_end (p t : ByteArray) (k : Nat) (hk : k ≤ t.size) : fromTo p t p.size k = decide (k = t.size) := by
  unfold fromTo
  rw [List.drop_eq_nil_of_le (by simp)]
  by_cases h : k = t.size
  · subst h
    rw [List.drop_eq_nil_of_le (by simp)]
    simp [likeL]
  · simp only [likeL]
    rw [decide_eq_false h]
    simp
    omega
theorem from_pct (p t : ByteArray) (i k : Nat) (hi : i < p.size) (hc : p[i] = 37) : fromTo p t i k = (fromTo p t (i + 1) k || (decide (k < t.size) && fromTo p t i (k + 1))) := by
  unfold fromTo
  have hp := drop_cons p.data.toList i (by rw [len_list]; exact hi)
  rw [at_list p i hi, hc] at hp
  by_cases h : k < t.size
  · have ht := drop_cons t.data.toList k (by rw [len_list]; exact h)
    rw [hp, ht]
    simp [likeL, someTail, h]
  · rw [hp, show t.data.toList.drop k = [] from List.drop_eq_nil_of_le (by simp; omega)]
    simp [likeL, someTail, h]
theorem from_one (p t : ByteArray) (i k : Nat) (hi : i < p.size) (hc : p[i] ≠ 37) (h : k < t.size) : fromTo p t i k = ((p[i] == 95 || p[i] == t[k]) && fromTo p t (i + 1) (k + 1)) := by
  unfold fromTo
  have hp := drop_cons p.data.toList i (by rw [len_list]; exact hi)
  rw [at_list p i hi] at hp
  have ht := drop_cons t.data.toList k (by rw [len_list]; exact h)
  rw [at_list t k h] at ht
  rw [hp, ht]
  simp [likeL, hc]
theorem from_none (p t : ByteArray) (i k : Nat) (hi : i < p.size) (hc : p[i] ≠ 37) (h : ¬ k < t.size) : fromTo p t i k = false := by
  unfold fromTo
  have hp := drop_cons p.data.toList i (by rw [len_list]; exact hi)
  rw [at_list p i hi] at hp
  rw [hp, show t.data.toList.drop k = [] from List.drop_eq_nil_of_le (by simp; omega)]
  simp [likeL, hc]

theorem first_row (w : World) (t p : ByteArray) : (w.alloc (.cells ((madeCells #[.bool false] (t.size + 1)).setIfInBounds t.size (.bool true)) 4)).rowIs w.heap.size 4 (t.size + 1) (fun k => .bool (fromTo p t p.size k)) := by
  have h := ((World.rowIs_made w (.bool false) (t.size + 1) 4).set t.size (.bool true)).congr (g := fun k => .bool (fromTo p t p.size k)) (fun i hi => by
    rw [at_end p t i (by omega)]
    by_cases e : i = t.size
    · simp [e]
    · simp [e])
  rw [World.setCell_alloc_at _ _ _ _ _ rfl] at h
  exact h
theorem row_step {wr : World} {g H N k T : Nat} {f : Nat → Value} {F : Nat → Bool} {v : Bool} (hg : g ≠ H) (HG : wr.rowIs g T N f) (HN : wr.rowIs H T N (fun q => if k + 1 ≤ q then .bool (F q) else .bool false)) (hv : F k = v) :
    (wr.setCell ⟨H, k, none⟩ (.bool v)).rowIs g T N f ∧ (wr.setCell ⟨H, k, none⟩ (.bool v)).rowIs H T N (fun q => if k ≤ q then .bool (F q) else .bool false) := by
  refine ⟨HG.setOther hg _, (HN.set k _).congr (fun q hq => ?_)⟩
  by_cases e : q = k
  · subst e; simp [hv]
  · rw [if_neg e]
    by_cases l : k + 1 ≤ q
    · rw [if_pos l, if_pos (by omega)]
    · rw [if_neg l, if_neg (by omega)]
theorem one_no {c d : UInt8} (h : ((c.toNat : Int) == 95) = false) (h2 : ((d.toNat : Int) == (c.toNat : Int)) = false) : (c == 95 || c == d) = false := by
  have h3 := ne95 h
  have h4 := necc h2
  simp [h3, Ne.symm h4]
theorem one_yes {c d : UInt8} (h2 : ((d.toNat : Int) == (c.toNat : Int)) = true) : (c == 95 || c == d) = true := by
  have h4 := eqcc h2
  simp [h4]
set_option maxRecDepth 100000 in
set_option maxHeartbeats 4000000 in
theorem refLike_any (t p : ByteArray) (w : World) (ht : t.size ≤ 400) (hp : p.size ≤ 400) :
    Calls Tryd.prog 40 #[.string t, .string p] w fun e w' => e = .returned (.bool (likeL p.data.toList t.data.toList)) ∧ Below w.heap.size w w' := by
  have hmk := run_make_row' (P := Tryd.prog) 69 4 (.bool false) 1 Tryd.underlying69 infoBool rfl .i64 .i64 (t.size + 1) (by omega) (by omega)
  rw [show ((t.size + 1 : Nat) : Int) = (t.size : Int) + 1 by omega] at hmk
  have r0 := fun W => World.rowIs_made W (.bool false) (t.size + 1) 4
  have c0 : ∀ W : World, (W.alloc (.cells (madeCells #[.bool false] (t.size + 1)) 4)).cell? ⟨W.heap.size, t.size, none⟩ = some (.bool false) := fun W => (r0 W).cell (by omega)
  have f0 : ∀ W : World, (W.alloc (.cells (madeCells #[.bool false] (t.size + 1)) 4)).frozen? ⟨W.heap.size, t.size, none⟩ = false := fun W => (r0 W).frozen _
  have R0 : Hid _ := r0
  clear r0
  go_enter Tryd.func40, Tryd.ntmps40
  go_wp2
  clear c0 f0
  have hs0 := first_row w t p
  go_loopw [6, 7] (fun ok i wr => ∃ (g j : Nat) (z : Int), w.heap.size ≤ g ∧ j ≤ p.size ∧ ok = .slice (some ⟨g, 0, none⟩) (t.size + 1) (t.size + 1) ∧ i = .int .i64 z ∧ Hid (z = (j : Int) - 1) ∧ -1 ≤ z ∧ z < p.size ∧ Hid (wr.rowIs g 4 (t.size + 1) (fun k => .bool (fromTo p t j k))) ∧ Below w.heap.size w wr) (fun _ i _ => (intOf i + 1).toNat)
  case atStart => exact ⟨w.heap.size, p.size, _, Nat.le_refl _, Nat.le_refl _, rfl, rfl, rfl, by omega, by omega, hs0, (Below.refl _ _).alloc (Nat.le_refl _) _⟩
  case round =>
    obtain ⟨g, j, z, hg, hj, rfl, rfl, HZ, z1, z2, HR, hB⟩ := hrel
    clear hs0
    by_cases hj0 : j = 0
    · subst hj0
      obtain rfl : z = -1 := by have := HZ.out; omega
      have hc : wr.cell? ⟨g, 0, none⟩ = some (.bool (fromTo p t 0 0)) := HR.out.cell (by omega)
      go_wp2
      go_ret
      exact ⟨rfl, hB⟩
    · obtain ⟨i, rfl⟩ : ∃ i, j = i + 1 := ⟨j - 1, by omega⟩
      obtain rfl : z = (i : Int) := by have := HZ.out; omega
      have hgl := HR.out.lt
      go_wp2
      have n0 := World.rowIs_made wr (.bool false) (t.size + 1) 4
      have hBa := below_alloc hB (.cells (madeCells #[.bool false] (t.size + 1)) 4)
      have HRa := HR.out.alloc (.cells (madeCells #[.bool false] (t.size + 1)) 4)
      have hwl : w.heap.size ≤ wr.heap.size := hB.size
      have hi : i < p.size := by omega
      clear hmk HR hB R0
      generalize hH : wr.heap.size = H at *
      go_loopw [9] (fun kk wi => ∃ (c : Nat) (y : Int), c ≤ t.size + 1 ∧ kk = .int .i64 y ∧ Hid (y = (c : Int) - 1) ∧ -1 ≤ y ∧ y ≤ t.size ∧ Hid (wi.rowIs g 4 (t.size + 1) (fun k => .bool (fromTo p t (i + 1) k))) ∧ Hid (wi.rowIs H 4 (t.size + 1) (fun k => if c ≤ k then .bool (fromTo p t i k) else .bool false)) ∧ Below w.heap.size w wi) (fun kk _ => (intOf kk + 1).toNat)
      case atStart => exact ⟨t.size + 1, _, Nat.le_refl _, rfl, by show _ = _; omega, by omega, by omega, HRa, n0.congr (fun k hk => by rw [if_neg (by omega)]), hBa⟩
      case round =>
        obtain ⟨c, y, hc, rfl, HY, y1, y2, HG, HN, hb⟩ := hrel
        clear n0 hBa HRa
        by_cases hc0 : c = 0
        · subst hc0
          obtain rfl : y = -1 := by have := HY.out; omega
          go_wp2
          refine ⟨⟨H, i, (i : Int) - 1, hwl, by omega, rfl, by go_num, rfl, by omega, by omega, HN.out.congr (fun k hk => by simp), hb⟩, by simp [intOf]⟩
        · obtain ⟨k, rfl⟩ : ∃ k, c = k + 1 := ⟨c - 1, by omega⟩
          obtain rfl : y = (k : Int) := by have := HY.out; omega
          have ck : k ≤ t.size := by omega
          have gk : wr.cell? ⟨g, k, none⟩ = some (.bool (fromTo p t (i + 1) k)) := HG.out.cell (by omega)
          have nk : wr.cell? ⟨H, k, none⟩ = some (.bool false) := by rw [HN.out.cell (by omega), if_neg (by omega)]
          have fk : wr.frozen? ⟨H, k, none⟩ = false := HN.out.frozen _
          cases c37 : ((p[i].toNat : Int) == 37)
          · have e37 : p[i] ≠ 37 := ne37 c37
            cases c95 : ((p[i].toNat : Int) == 95)
            · by_cases hkt : k < t.size
              · have hF : Hid _ := from_one p t i k hi e37 hkt
                have gk1 : wr.cell? ⟨g, k + 1, none⟩ = some (.bool (fromTo p t (i + 1) (k + 1))) := HG.out.cell (by omega)
                have kz : (k : Int) < (t.size : Int) := by omega
                have iz : (i : Int) < (p.size : Int) := by omega
                clear e37
                cases ceq : ((t[k].toNat : Int) == (p[i].toNat : Int))
                · go_wp2
                  go_region
                  go_wp2
                  have rs := row_step (F := fromTo p t i) (by omega) HG.out HN.out (v := false) (by rw [hF.out, one_no c95 ceq]; simp)
                  refine ⟨⟨k, (k : Int) - 1, by omega, by go_num, rfl, by omega, by omega, rs.1, rs.2, (hb.setCell hwl _).drew⟩, by simp [intOf]⟩
                · go_wp2
                  go_region
                  go_wp2
                  have rs := row_step (F := fromTo p t i) (by omega) HG.out HN.out (v := fromTo p t (i + 1) (k + 1)) (by rw [hF.out, one_yes ceq]; simp)
                  refine ⟨⟨k, (k : Int) - 1, by omega, by go_num, rfl, by omega, by omega, rs.1, rs.2, (hb.setCell hwl _).drew⟩, by simp [intOf]⟩
              · have hF : Hid _ := from_none p t i k hi e37 hkt
                have hd : decide ((k : Int) < (t.size : Int)) = false := by simp; omega
                clear e37
                go_wp2
                go_region
                go_wp2
                have rs := row_step (F := fromTo p t i) (by omega) HG.out HN.out (v := false) (hF.out)
                refine ⟨⟨k, (k : Int) - 1, by omega, by go_num, rfl, by omega, by omega, rs.1, rs.2, (hb.setCell hwl _).drew⟩, by simp [intOf]⟩
            · by_cases hkt : k < t.size
              · have hF : Hid _ := from_one p t i k hi e37 hkt
                have gk1 : wr.cell? ⟨g, k + 1, none⟩ = some (.bool (fromTo p t (i + 1) (k + 1))) := HG.out.cell (by omega)
                clear e37
                go_wp2
                have rs := row_step (F := fromTo p t i) (by omega) HG.out HN.out (v := fromTo p t (i + 1) (k + 1)) (by rw [hF.out, eq95 c95]; simp)
                refine ⟨⟨k, (k : Int) - 1, by omega, by go_num, rfl, by omega, by omega, rs.1, rs.2, hb.setCell hwl _⟩, by simp [intOf]⟩
              · have hF : Hid _ := from_none p t i k hi e37 hkt
                clear e37
                go_wp2
                have rs := row_step (F := fromTo p t i) (by omega) HG.out HN.out (v := false) (hF.out)
                refine ⟨⟨k, (k : Int) - 1, by omega, by go_num, rfl, by omega, by omega, rs.1, rs.2, hb.setCell hwl _⟩, by simp [intOf]⟩
          · have e37 : p[i] = 37 := eq37 c37
            have hF : Hid _ := from_pct p t i k hi e37
            clear e37
            by_cases hkt : k < t.size
            · have nk1 : wr.cell? ⟨H, k + 1, none⟩ = some (.bool (fromTo p t i (k + 1))) := by rw [HN.out.cell (by omega), if_pos (by omega)]
              cases b1 : fromTo p t (i + 1) k
              · go_wp2
                have rs := row_step (F := fromTo p t i) (by omega) HG.out HN.out (v := fromTo p t i (k + 1)) (by rw [hF.out, b1, decide_eq_true hkt]; simp)
                refine ⟨⟨k, (k : Int) - 1, by omega, by go_num, rfl, by omega, by omega, rs.1, rs.2, hb.setCell hwl _⟩, by simp [intOf]⟩
              · go_wp2
                have rs := row_step (F := fromTo p t i) (by omega) HG.out HN.out (v := true) (by rw [hF.out, b1]; simp)
                refine ⟨⟨k, (k : Int) - 1, by omega, by go_num, rfl, by omega, by omega, rs.1, rs.2, hb.setCell hwl _⟩, by simp [intOf]⟩
            · cases b1 : fromTo p t (i + 1) k
              · go_wp2
                have rs := row_step (F := fromTo p t i) (by omega) HG.out HN.out (v := false) (by rw [hF.out, b1, decide_eq_false hkt]; simp)
                refine ⟨⟨k, (k : Int) - 1, by omega, by go_num, rfl, by omega, by omega, rs.1, rs.2, hb.setCell hwl _⟩, by simp [intOf]⟩
              · go_wp2
                have rs := row_step (F := fromTo p t i) (by omega) HG.out HN.out (v := true) (by rw [hF.out, b1]; simp)
                refine ⟨⟨k, (k : Int) - 1, by omega, by go_num, rfl, by omega, by omega, rs.1, rs.2, hb.setCell hwl _⟩, by simp [intOf]⟩
end Go.Proofs.YticlmegcpneckaaDoor

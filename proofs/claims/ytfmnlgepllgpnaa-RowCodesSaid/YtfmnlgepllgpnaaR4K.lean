/- The walks of the document's questions whether two lists of bytes, or two rows, are one; of the law's live question. -/
import Derived.Test.YtfmnlgepllgpnaaR4J
namespace Go.Proofs.Ytfmnlgepllgpnaa
open Go.RowKit
set_option linter.unusedVariables false

theorem ret_true {b : Bool} (h : b = true) : Ending.returned (.bool b) = .returned (.bool true) := by rw [h]
theorem size_arr (l : List UInt8) : (⟨l.toArray⟩ : ByteArray).size = l.length := by
  show l.toArray.size = _
  simp
theorem list_arr (l : List UInt8) : (⟨l.toArray⟩ : ByteArray).toList = l := by rw [Lib.toList_data]
set_option maxHeartbeats 400000 in
theorem same_any (u v : Value) (xs ys : List UInt8) (w : World) (hu : Bytes w u xs) (hv : Bytes w v ys) :
    Calls Try.prog 13 #[u, v] w fun e w' => e = .returned (.bool (xs == ys)) ∧ w' = w := by
  have h1 := conv_bytes hu
  have h2 := conv_bytes hv
  clear hu hv
  go_enter Try.func13, Try.ntmps13
  go_wp2
  go_ret
  exact ⟨ret_bool rfl, rfl⟩

theorem held_rows {wr w' : World} {g1 o1 g2 o2 : Nat} {x y : V4} (r1 : wr.rangeAt g1 o1 (cellsV x)) (r2 : wr.rangeAt g2 o2 (cellsV y)) (h : Below wr.heap.size wr w') :
    Below wr.heap.size wr w' ∧ w'.cell? ⟨g1, o1, none⟩ = some (.int .i64 x.1) ∧ w'.cell? ⟨g1, o1 + 1, none⟩ = some (.int .i64 x.2.1) ∧ w'.cell? ⟨g1, o1 + 2, none⟩ = some (.string ⟨x.2.2.1.toArray⟩) ∧ w'.cell? ⟨g1, o1 + 3, none⟩ = some (.bool x.2.2.2) ∧ w'.cell? ⟨g2, o2, none⟩ = some (.int .i64 y.1) ∧ w'.cell? ⟨g2, o2 + 1, none⟩ = some (.int .i64 y.2.1) ∧ w'.cell? ⟨g2, o2 + 2, none⟩ = some (.string ⟨y.2.2.1.toArray⟩) ∧ w'.cell? ⟨g2, o2 + 3, none⟩ = some (.bool y.2.2.2) := by
  have k1 := rangeAt_keep h r1
  have k2 := rangeAt_keep h r2
  exact ⟨h, k1 0 _ rfl, k1 1 _ rfl, k1 2 _ rfl, k1 3 _ rfl, k2 0 _ rfl, k2 1 _ rfl, k2 2 _ rfl, k2 3 _ rfl⟩
set_option maxHeartbeats 1000000 in
theorem sameRow_any (u v : Value) (l m : List V4) (w : World) (hu : RowAt w u l) (hv : RowAt w v m) (hl : l.length ≤ 1099511627776) (hm : m.length ≤ 1099511627776) :
    Calls Try.prog 14 #[u, v] w fun e w' => e = .returned (.bool (decide (l = m))) ∧ Below w.heap.size w w' := by
  obtain ⟨ao, cap, rfl, hcap, hcl⟩ := hu
  obtain ⟨bo, cap2, rfl, hcap2, hcm⟩ := hv
  by_cases hlm : l.length = m.length
  · go_enter Try.func14, Try.ntmps14
    go_wp2
    go_loopw [5] (fun i wr => ∃ k : Nat, k ≤ l.length ∧ i = .int .i64 k ∧ Hid (l.take k = m.take k) ∧ Below w.heap.size w wr) (fun i _ => l.length - (intOf i).toNat)
    case atStart => exact ⟨0, Nat.zero_le _, rfl, rfl, Below.refl _ _⟩
    case round =>
      obtain ⟨k, hk, rfl, HS, hnx⟩ := hrel
      by_cases h1 : k < l.length
      · have h2 : k < m.length := by omega
        rcases hcl with h0 | ⟨g, o, rfl, hcl⟩
        · rw [h0] at h1; simp at h1
        rcases hcm with h0 | ⟨g2, o2, rfl, hcm⟩
        · rw [h0] at h2; simp at h2
        have r1 := rangeAt_keep hnx (hcl k h1)
        have r2 := rangeAt_keep hnx (hcm k h2)
        have HT : Hid (l[k] = m[k] → l.take (k + 1) = m.take (k + 1)) := fun e => by
          rw [List.take_succ_eq_append_getElem h1, List.take_succ_eq_append_getElem h2, HS.out, e]
        have HF : Hid (l[k] ≠ m[k] → l ≠ m) := fun hne e => hne (by subst e; rfl)
        generalize l[k] = x at *
        generalize m[k] = y at *
        clear hcl hcm
        have L1 := list_arr x.2.2.1
        have L2 := list_arr y.2.2.1
        cases z0 : (x.1 == y.1)
        · have HX : Hid (l ≠ m) := HF.out (fun e => by rw [e] at z0; simp at z0)
          clear HT HF
          go_wp2_with fail
          go_region_held3 (fun w' => Below wr.heap.size wr w' ∧ w'.cell? ⟨g, o + k * 4, none⟩ = some (.int .i64 x.1) ∧ w'.cell? ⟨g, o + k * 4 + 1, none⟩ = some (.int .i64 x.2.1) ∧ w'.cell? ⟨g, o + k * 4 + 2, none⟩ = some (.string ⟨x.2.2.1.toArray⟩) ∧ w'.cell? ⟨g, o + k * 4 + 3, none⟩ = some (.bool x.2.2.2) ∧ w'.cell? ⟨g2, o2 + k * 4, none⟩ = some (.int .i64 y.1) ∧ w'.cell? ⟨g2, o2 + k * 4 + 1, none⟩ = some (.int .i64 y.2.1) ∧ w'.cell? ⟨g2, o2 + k * 4 + 2, none⟩ = some (.string ⟨y.2.2.1.toArray⟩) ∧ w'.cell? ⟨g2, o2 + k * 4 + 3, none⟩ = some (.bool y.2.2.2)) (first | exact held_rows r1 r2 (by assumption) | exact held_rows r1 r2 (Below.refl _ _).drew | exact held_rows r1 r2 (Below.refl _ _)) (fail)
          clear r1 r2
          go_wp2
          go_ret
          exact ⟨ret_bool (by simp [HX.out]), hnx.drew⟩
        · cases z1 : (x.2.1 == y.2.1)
          · have HX : Hid (l ≠ m) := HF.out (fun e => by rw [e] at z1; simp at z1)
            clear HT HF
            go_wp2_with fail
            go_region_held3 (fun w' => Below wr.heap.size wr w' ∧ w'.cell? ⟨g, o + k * 4, none⟩ = some (.int .i64 x.1) ∧ w'.cell? ⟨g, o + k * 4 + 1, none⟩ = some (.int .i64 x.2.1) ∧ w'.cell? ⟨g, o + k * 4 + 2, none⟩ = some (.string ⟨x.2.2.1.toArray⟩) ∧ w'.cell? ⟨g, o + k * 4 + 3, none⟩ = some (.bool x.2.2.2) ∧ w'.cell? ⟨g2, o2 + k * 4, none⟩ = some (.int .i64 y.1) ∧ w'.cell? ⟨g2, o2 + k * 4 + 1, none⟩ = some (.int .i64 y.2.1) ∧ w'.cell? ⟨g2, o2 + k * 4 + 2, none⟩ = some (.string ⟨y.2.2.1.toArray⟩) ∧ w'.cell? ⟨g2, o2 + k * 4 + 3, none⟩ = some (.bool y.2.2.2)) (first | exact held_rows r1 r2 (by assumption) | exact held_rows r1 r2 (Below.refl _ _).drew | exact held_rows r1 r2 (Below.refl _ _)) (fail)
            clear r1 r2
            go_wp2
            go_ret
            exact ⟨ret_bool (by simp [HX.out]), hnx.drew⟩
          · cases z2 : (x.2.2.1 == y.2.2.1)
            · have HX : Hid (l ≠ m) := HF.out (fun e => by rw [e] at z2; simp at z2)
              clear HT HF
              go_wp2_with fail
              go_region_held3 (fun w' => Below wr.heap.size wr w' ∧ w'.cell? ⟨g, o + k * 4, none⟩ = some (.int .i64 x.1) ∧ w'.cell? ⟨g, o + k * 4 + 1, none⟩ = some (.int .i64 x.2.1) ∧ w'.cell? ⟨g, o + k * 4 + 2, none⟩ = some (.string ⟨x.2.2.1.toArray⟩) ∧ w'.cell? ⟨g, o + k * 4 + 3, none⟩ = some (.bool x.2.2.2) ∧ w'.cell? ⟨g2, o2 + k * 4, none⟩ = some (.int .i64 y.1) ∧ w'.cell? ⟨g2, o2 + k * 4 + 1, none⟩ = some (.int .i64 y.2.1) ∧ w'.cell? ⟨g2, o2 + k * 4 + 2, none⟩ = some (.string ⟨y.2.2.1.toArray⟩) ∧ w'.cell? ⟨g2, o2 + k * 4 + 3, none⟩ = some (.bool y.2.2.2)) (first | exact held_rows r1 r2 (by assumption) | exact held_rows r1 r2 (Below.refl _ _).drew | exact held_rows r1 r2 (Below.refl _ _)) (fail)
              clear r1 r2
              go_wp2
              go_ret
              exact ⟨ret_bool (by simp [HX.out]), hnx.drew⟩
            · cases z3 : (x.2.2.2 == y.2.2.2)
              · have HX : Hid (l ≠ m) := HF.out (fun e => by rw [e] at z3; simp at z3)
                clear HT HF
                go_wp2_with fail
                go_region_held3 (fun w' => Below wr.heap.size wr w' ∧ w'.cell? ⟨g, o + k * 4, none⟩ = some (.int .i64 x.1) ∧ w'.cell? ⟨g, o + k * 4 + 1, none⟩ = some (.int .i64 x.2.1) ∧ w'.cell? ⟨g, o + k * 4 + 2, none⟩ = some (.string ⟨x.2.2.1.toArray⟩) ∧ w'.cell? ⟨g, o + k * 4 + 3, none⟩ = some (.bool x.2.2.2) ∧ w'.cell? ⟨g2, o2 + k * 4, none⟩ = some (.int .i64 y.1) ∧ w'.cell? ⟨g2, o2 + k * 4 + 1, none⟩ = some (.int .i64 y.2.1) ∧ w'.cell? ⟨g2, o2 + k * 4 + 2, none⟩ = some (.string ⟨y.2.2.1.toArray⟩) ∧ w'.cell? ⟨g2, o2 + k * 4 + 3, none⟩ = some (.bool y.2.2.2)) (first | exact held_rows r1 r2 (by assumption) | exact held_rows r1 r2 (Below.refl _ _).drew | exact held_rows r1 r2 (Below.refl _ _)) (fail)
                clear r1 r2
                go_wp2
                go_ret
                exact ⟨ret_bool (by simp [HX.out]), hnx.drew⟩
              · have HX : Hid (l.take (k + 1) = m.take (k + 1)) := HT.out (by
                  have e0 := eq_of_beq z0
                  have e1 := eq_of_beq z1
                  have e2 := eq_of_beq z2
                  have e3 := eq_of_beq z3
                  obtain ⟨a, b, c, d⟩ := x
                  obtain ⟨a', b', c', d'⟩ := y
                  simp only at e0 e1 e2 e3
                  rw [e0, e1, e2, e3])
                clear HT HF
                go_wp2_with fail
                go_region_held3 (fun w' => Below wr.heap.size wr w' ∧ w'.cell? ⟨g, o + k * 4, none⟩ = some (.int .i64 x.1) ∧ w'.cell? ⟨g, o + k * 4 + 1, none⟩ = some (.int .i64 x.2.1) ∧ w'.cell? ⟨g, o + k * 4 + 2, none⟩ = some (.string ⟨x.2.2.1.toArray⟩) ∧ w'.cell? ⟨g, o + k * 4 + 3, none⟩ = some (.bool x.2.2.2) ∧ w'.cell? ⟨g2, o2 + k * 4, none⟩ = some (.int .i64 y.1) ∧ w'.cell? ⟨g2, o2 + k * 4 + 1, none⟩ = some (.int .i64 y.2.1) ∧ w'.cell? ⟨g2, o2 + k * 4 + 2, none⟩ = some (.string ⟨y.2.2.1.toArray⟩) ∧ w'.cell? ⟨g2, o2 + k * 4 + 3, none⟩ = some (.bool y.2.2.2)) (first | exact held_rows r1 r2 (by assumption) | exact held_rows r1 r2 (Below.refl _ _).drew | exact held_rows r1 r2 (Below.refl _ _)) (fail)
                clear r1 r2
                go_wp2
                go_roundw
                case rel => exact ⟨k + 1, by omega, by go_num, HX, hnx.drew⟩
                case measure => simp [intOf]; omega
      · obtain rfl : k = l.length := by omega
        have HX : Hid (l = m) := by
          have := HS.out
          rw [List.take_length] at this
          rw [hlm, List.take_length] at this
          exact this
        go_wp2
        go_ret
        exact ⟨ret_bool (by simp [HX.out]), hnx⟩
  · go_enter Try.func14, Try.ntmps14
    go_wp2
    go_ret
    exact ⟨ret_bool (by simp; intro e; exact hlm (by rw [e])), Below.refl _ _⟩
end Go.Proofs.Ytfmnlgepllgpnaa

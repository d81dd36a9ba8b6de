/- The walks of rowcode's question whether a row is right, and of rowcode.Encode at every row. -/
import Derived.Test.YtfmnlgepllgpnaaR4C
namespace Go.Proofs.Ytfmnlgepllgpnaa
open Go.RowKit
set_option linter.unusedVariables false

theorem right_is (K N : Int) (S : ByteArray) (B : Bool) (w : World) {r : Bool} (h : Hid (rightV (K, N, S.data.toList, B) = r)) :
    Calls Try.prog 27 #[val K N S B] w fun e w' => e = .returned (.bool r) ∧ Below w.heap.size w w' := by
  have h1 := right_any K N S B w
  rw [toList_is] at h1
  have h2 : rightB K N S.data.toList B = r := h.out
  rw [h2] at h1
  exact h1
theorem refRight_is (K N : Int) (S : ByteArray) (B : Bool) (w : World) {r : Bool} (h : Hid (rightV (K, N, S.data.toList, B) = r)) :
    Calls Try.prog 20 #[val K N S B] w fun e w' => e = .returned (.bool r) ∧ Below w.heap.size w w' := by
  have h1 := refRight_any K N S B w
  rw [toList_is] at h1
  have h2 : rightB K N S.data.toList B = r := h.out
  rw [h2] at h1
  exact h1

set_option maxHeartbeats 1000000 in
theorem isRight_any (v : Value) (l : List V4) (w : World) (hrow : RowAt w v l) (hl : l.length ≤ 140737488355328) :
    Calls Try.prog 18 #[v] w fun e w' => e = .returned (.bool (rightR l)) ∧ Below w.heap.size w w' := by
  obtain ⟨ao, cap, rfl, hcap, hcells⟩ := hrow
  go_enter Try.func18, Try.ntmps18
  go_wp2
  go_loopw [7] (fun i wr => ∃ k : Nat, k ≤ l.length ∧ i = .int .i64 k ∧ Hid ((l.take k).all rightV = true) ∧ Below w.heap.size w wr) (fun i _ => l.length - (intOf i).toNat)
  case atStart => exact ⟨0, Nat.zero_le _, rfl, rfl, Below.refl _ _⟩
  case round =>
    obtain ⟨k, hk, rfl, HN, hnx⟩ := hrel
    by_cases hlt : k < l.length
    · obtain ⟨g, o, K, N, S, B, rfl, hx, hr0⟩ := row_cell hlt hcells
      have hr : wr.rangeAt g (o + k * 4) [.int .i64 K, .int .i64 N, .string S, .bool B] := rangeAt_keep hnx hr0
      have HF := all_found rightV l k hlt
      have HT := all_take_succ rightV l k hlt
      rw [hx] at HF HT
      have hbs := hnx.size
      clear hx hcells hr0
      cases hc : rightV (K, N, S.data.toList, B)
      · have HX : Hid (rightR l = false) := HF hc
        have HC : Hid (rightV (K, N, S.data.toList, B) = false) := hc
        clear HF HT HN hc
        go_wp2_with (first
          | (refine wpList_load_mid rfl _ _ rfl g (o + k * 4) (by rfl) [.int .i64 K, .int .i64 N, .string S, .bool B] _ hr Try.underlying40 rfl infoV ?_)
          | (go_at_call 27; refine (right_is K N S B _ HC).mono ?_; rintro e w2 ⟨rfl, hb2⟩; have h2 := (hnx.alloc hbs _).trans (hb2.mono (by simp; omega)); clear hb2))
        go_ret
        exact ⟨ret_bool HX.out.symm, h2⟩
      · have HX : Hid ((l.take (k + 1)).all rightV = true) := by
          show _ = _
          rw [HT, HN.out, hc]; rfl
        have HC : Hid (rightV (K, N, S.data.toList, B) = true) := hc
        clear HF HT HN hc
        go_wp2_with (first
          | (refine wpList_load_mid rfl _ _ rfl g (o + k * 4) (by rfl) [.int .i64 K, .int .i64 N, .string S, .bool B] _ hr Try.underlying40 rfl infoV ?_)
          | (go_at_call 27; refine (right_is K N S B _ HC).mono ?_; rintro e w2 ⟨rfl, hb2⟩; have h2 := (hnx.alloc hbs _).trans (hb2.mono (by simp; omega)); clear hb2))
        go_roundw
        case rel => exact ⟨k + 1, by omega, by go_num, HX, h2⟩
        case measure => simp [intOf]; omega
    · obtain rfl : k = l.length := by omega
      have HX : Hid (rightR l = true) := by
        have h := HN.out
        rw [List.take_length] at h
        exact h
      clear HN
      go_wp2
      go_ret
      exact ⟨ret_bool HX.out.symm, hnx⟩

theorem rcL_take_succ (l : List V4) (k : Nat) (h : k < l.length) : rcL (l.take (k + 1)) = rcL (l.take k) ++ rc l[k] := by
  rw [List.take_succ_eq_append_getElem h, rcL_app, rcL_one]
theorem rvs_take {l : List V4} (h : RVs l) (k : Nat) : RVs (l.take k) := fun v hv => h v (List.mem_of_mem_take hv)
theorem ownB_new (base : Nat) (w : World) (c : UInt8) (h : base ≤ w.heap.size) : OwnB base (w.alloc (.cells #[.int .u8 c.toNat] 5)) (.slice (some ⟨w.heap.size, 0, none⟩) 1 1) [c] := by
  unfold OwnB
  refine ⟨rfl, Or.inr ⟨w.heap.size, 1, #[.int .u8 c.toNat], rfl, h, heap_alloc_new _ _, Nat.le_refl 1, ?_, ?_, ?_⟩⟩
  all_goals first | rfl | (simp [bv]; done) | decide
theorem count_byte (n : Nat) (h : n ≤ 12) : ((UInt8.ofNat n).toNat : Int) = (n : Int) := by
  rw [UInt8.toNat_ofNat']
  omega
end Go.Proofs.Ytfmnlgepllgpnaa

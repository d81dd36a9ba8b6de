/- The walk of rowcode.Encode at every row. -/
import Derived.Test.YtfmnlgepllgpnaaR4D
namespace Go.Proofs.Ytfmnlgepllgpnaa
open Go.RowKit
set_option linter.unusedVariables false

/-- What Encode tells. -/
structure Enc (base : Nat) (l : List V4) (e : Ending) (w' : World) : Prop where
  told : (longR l = true ∧ e = .returned (.tuple #[.slice none 0 0, .int .i64 42])) ∨ (longR l = false ∧ rightR l = false ∧ e = .returned (.tuple #[.slice none 0 0, .int .i64 41])) ∨ (longR l = false ∧ rightR l = true ∧ ∃ v', e = .returned (.tuple #[v', .int .i64 0]) ∧ OwnB base w' v' (form l))

theorem encode_long (v : Value) (l : List V4) (w : World) (hrow : RowAt w v l) (hs : ∀ x ∈ l, x.2.2.1.length ≤ 140737488355328) (hl : l.length ≤ 140737488355328) (h : longR l = true) :
    Calls Try.prog 9 #[v] w fun e w' => e = .returned (.tuple #[.slice none 0 0, .int .i64 42]) ∧ Below w.heap.size w w' := by
  have H := isLong_any v l w hrow hs hl
  rw [h] at H
  obtain ⟨ao, cap, rfl, hcap⟩ := hrow.cap
  clear hrow hs h
  go_enter Try.func9, Try.ntmps9
  go_wp2_with fail
  refine H.mono ?_
  rintro e w1 ⟨rfl, h1⟩
  go_wp2
  exact bodyPost_ret (v := .tuple #[.slice none 0 0, .int .i64 42]) (by simp [results, Try.results9, go_sem]) rfl ⟨rfl, h1⟩
theorem encode_wrong (v : Value) (l : List V4) (w : World) (hrow : RowAt w v l) (hs : ∀ x ∈ l, x.2.2.1.length ≤ 140737488355328) (hl : l.length ≤ 140737488355328) (h : longR l = false) (h2 : rightR l = false) :
    Calls Try.prog 9 #[v] w fun e w' => e = .returned (.tuple #[.slice none 0 0, .int .i64 41]) ∧ Below w.heap.size w w' := by
  have H := isLong_any v l w hrow hs hl
  have H2 := fun w' (hr : RowAt w' v l) => isRight_any v l w' hr hl
  rw [h] at H
  rw [h2] at H2
  have hrow0 := hrow
  obtain ⟨ao, cap, rfl, hcap⟩ := hrow.cap
  clear hrow hs h h2
  go_enter Try.func9, Try.ntmps9
  go_wp2_with fail
  refine H.mono ?_
  rintro e w1 ⟨rfl, h1⟩
  go_wp2_with fail
  refine (H2 _ (hrow0.keep h1)).mono ?_
  rintro e w2 ⟨rfl, hb⟩
  have h2 := keepA h1 hb
  go_wp2
  exact bodyPost_ret (v := .tuple #[.slice none 0 0, .int .i64 41]) (by simp [results, Try.results9, go_sem]) rfl ⟨rfl, h2⟩
set_option maxHeartbeats 1000000 in
theorem encode_ok (v : Value) (l : List V4) (w : World) (hrow : RowAt w v l) (hok : OkR l) :
    Calls Try.prog 9 #[v] w fun e w' => (∃ v', e = .returned (.tuple #[v', .int .i64 0]) ∧ OwnB w.heap.size w' v' (form l)) ∧ Below w.heap.size w w' := by
  have hl := hok.1
  have H := isLong_any v l w hrow (fun x hx => by have := (hok.2 x hx).2; omega) (by omega)
  have H2 := fun w' (hr : RowAt w' v l) => isRight_any v l w' hr (by omega)
  rw [ok_not_long hok] at H
  rw [ok_right hok] at H2
  have hrow0 := hrow
  obtain ⟨ao, cap, rfl, hcap⟩ := hrow.cap
  have HOK : Hid (OkR l) := hok
  have hw := count_byte l.length hl
  clear hrow hok
  go_enter Try.func9, Try.ntmps9
  go_wp2_with fail
  refine H.mono ?_
  rintro e w1 ⟨rfl, h1⟩
  go_wp2_with fail
  refine (H2 _ (hrow0.keep h1)).mono ?_
  rintro e w2 ⟨rfl, hb⟩
  have h2 := keepA h1 hb
  have O2 := ownB_new w.heap.size w2 (UInt8.ofNat l.length) h2.size
  have h3 := h2.alloc h2.size (.cells #[.int .u8 (UInt8.ofNat l.length).toNat] 5)
  clear hb h1 h2 H H2
  go_wp2
  rw [hw] at O2 h3
  generalize (w2.alloc (.cells #[.int .u8 (l.length : Int)] 5)) = w3 at *
  clear hw
  go_loopw [4, 20] (fun u i wr => ∃ k : Nat, k ≤ l.length ∧ i = .int .i64 k ∧ OwnB w.heap.size wr u (UInt8.ofNat l.length :: rcL (l.take k)) ∧ Below w.heap.size w wr) (fun _ i _ => l.length - (intOf i).toNat)
  case atStart => exact ⟨0, Nat.zero_le _, rfl, O2, h3⟩
  case round =>
    obtain ⟨k, hk, rfl, hown, hnx⟩ := hrel
    obtain ⟨ao', cap', hv', _, hcells⟩ := hrow0.keep hnx
    cases hv'
    by_cases hlt : k < l.length
    · obtain ⟨g, o, K, N, S, B, rfl, hx, hr⟩ := row_cell hlt hcells
      have hlen : (UInt8.ofNat l.length :: rcL (l.take k)).length ≤ 4900 := by
        have := rcL_len (rvs_take HOK.out.2 k)
        rw [List.length_take] at this
        simp only [List.length_cons]; omega
      have hv := HOK.out.2 _ (List.getElem_mem hlt)
      have HT : Hid (rcL (l.take (k + 1)) = rcL (l.take k) ++ rc l[k]) := rcL_take_succ l k hlt
      rw [hx] at hv HT
      have HQ : Hid (RightQ (K, N, S.data.toList, B)) := hv.1
      have hsz := hv.2
      simp only [len_str] at hsz
      have hbs := hnx.size
      clear hcells hx hv
      go_wp2_with (first
        | (refine wpList_load_mid rfl _ _ rfl g (o + k * 4) (by rfl) [.int .i64 K, .int .i64 N, .string S, .bool B] _ hr Try.underlying40 rfl infoV ?_)
        | (go_at_call 19; refine (appendValue_any w.heap.size _ (UInt8.ofNat l.length :: rcL (l.take k)) K N S B _ (hown.alloc _) (by simp; omega) (by omega) HQ.out (by omega)).mono ?_; rintro e w4 ⟨v4, rfl, hown4, hb4⟩; have h4 := (hnx.alloc hbs _).trans hb4))
      go_roundw
      case rel => exact ⟨k + 1, by omega, by go_num, by rw [HT.out]; exact hown4, h4⟩
      case measure => simp [intOf]; omega
    · obtain rfl : k = l.length := by omega
      rw [List.take_length] at hown
      go_wp2
      exact bodyPost_ret (v := .tuple #[u4, .int .i64 0]) (by simp [results, Try.results9, go_sem]) rfl ⟨⟨_, rfl, hown⟩, hnx⟩
end Go.Proofs.Ytfmnlgepllgpnaa

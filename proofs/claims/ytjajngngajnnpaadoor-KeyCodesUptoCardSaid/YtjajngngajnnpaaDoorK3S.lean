/- The walks of the document's own code of values. -/
import Derived.Test.YtjajngngajnnpaaDoorKAWalk
namespace Go.Proofs.YtjajngngajnnpaaDoor
open Go.RowKit
set_option linter.unusedVariables false

theorem sign_add (n : Int) (h : -9223372036854775808 ≤ n ∧ n ≤ 9223372036854775807) : IntKind.u64.wrap (IntKind.u64.wrap n + 9223372036854775808) = ((n + 9223372036854775808).toNat : Int) := by
  rw [IntKind.wrap_u64, IntKind.wrap_u64]; omega
theorem conv_one (w : World) (x : Int) (c : UInt8) (h : x = c.toNat) : (convert 51 9 (.slice (some ⟨w.heap.size, 0, none⟩) 1 1)).run Tryd.prog (w.alloc (.cells #[.int .u8 x] 5)) = .ok (.string ⟨#[c]⟩) (w.alloc (.cells #[.int .u8 x] 5)) := by
  refine run_convert_bytes_back (w.alloc (.cells #[.int .u8 x] 5)) 51 9 5 ⟨w.heap.size, 0, none⟩ 1 [c] Tryd.underlying51 Tryd.underlying5 Tryd.underlying9 ?_
  intro j hj
  simp only [List.length_singleton] at hj
  obtain rfl : j = 0 := by omega
  rw [Addr.add_mid, cell_of_row _ _ _ _ _ _ (heap_alloc_new w _)]
  simp [h]

set_option maxHeartbeats 1000000 in
theorem one_num (U : Nat) (N : Int) (S : ByteArray) (B : Bool) (w : World) (hU : IntKind.u64.wrap (IntKind.u64.wrap N + 9223372036854775808) = (U : Int)) :
    Calls Tryd.prog 24 #[val 1 N S B] w fun e w' => (∃ T : ByteArray, e = .returned (.string T) ∧ T.data.toList = 2 :: beN 8 U) ∧ Below w.heap.size w w' := by
  go_enter Tryd.func24, Tryd.ntmps24
  go_wp2
  clear hU
  go_loopw [4, 5] (fun t i wr => ∃ (k : Nat) (T : ByteArray), k ≤ 8 ∧ i = .int .i64 (7 - (k : Int)) ∧ t = .string T ∧ Hid (T.data.toList = 2 :: (beN 8 U).take k) ∧ T.size ≤ 9 ∧ Below w.heap.size w wr) (fun _ i _ => (intOf i + 1).toNat)
  case atStart => exact ⟨0, ⟨#[2]⟩, Nat.zero_le _, rfl, rfl, rfl, by decide, (by repeat (first | exact Below.refl _ _ | refine Below.alloc ?_ (by first | (simp; done) | (simp; omega)) _))⟩
  case round =>
    obtain ⟨k, T, hk, rfl, rfl, HT, hT, hnx⟩ := hrel
    by_cases h8 : k < 8
    · have hcv := conv_one wr _ _ (byte_at U k h8)
      go_wp2
      have HT2 : (T ++ (⟨#[UInt8.ofNat (U / 256 ^ (7 - k))]⟩ : ByteArray)).data.toList = 2 :: (beN 8 U).take (k + 1) := by
        rw [app_list, HT.out, beN_take 8 U k h8]; simp
      have hsz : (T ++ (⟨#[UInt8.ofNat (U / 256 ^ (7 - k))]⟩ : ByteArray)).size ≤ 9 := by
        rw [← len_str, HT2, List.length_cons, List.length_take, beN_len]; omega
      exact ⟨⟨k + 1, _, by omega, by congr 1; omega, rfl, HT2, hsz, hnx.alloc hnx.size _⟩, by simp [intOf]; omega⟩
    · obtain rfl : k = 8 := by omega
      go_wp2
      go_ret
      refine ⟨⟨T, rfl, ?_⟩, hnx⟩
      rw [HT.out, List.take_of_length_le (by rw [beN_len]; omega)]
theorem ext_one (W : ByteArray) (k : Nat) (h : k < W.size) : (W.extract k (k + 1)).data.toList = [W[k]] := by
  rw [Lib.extract_data]
  have h' : k < W.data.toList.length := by simpa using h
  simp
  rw [List.drop_eq_getElem_cons h']
  rfl
set_option maxHeartbeats 1000000 in
theorem one_text (N : Int) (S : ByteArray) (B : Bool) (w : World) (hs : S.size ≤ 1099511627776) :
    Calls Tryd.prog 24 #[val 2 N S B] w fun e w' => (∃ T : ByteArray, e = .returned (.string T) ∧ T.data.toList = 3 :: (esc (trimL S.data.toList) ++ [0, 0])) ∧ Below w.heap.size w w' := by
  have hw : ∀ w : World, Calls Tryd.prog 35 #[.string S] w fun e w' => (∃ W : ByteArray, e = .returned (.string W) ∧ Hid (W.data.toList = trimL S.data.toList) ∧ W.size ≤ S.size) ∧ w' = w := fun w => by
    refine (refWords_any S w (by unfold maxLen; omega)).mono fun e w' ⟨he, hw⟩ => ⟨⟨_, he, rfl, ?_⟩, hw⟩
    have := trimL_len S.data.toList
    show (trimL S.data.toList).toArray.size ≤ S.size
    simpa using this
  go_enter Tryd.func24, Tryd.ntmps24
  go_wp2_with fail
  refine (hw _).mono ?_
  rintro e w1 ⟨⟨W, rfl, HW, hWs⟩, rfl⟩
  go_wp2
  go_loopw [7, 8] (fun t i wr => ∃ (k : Nat) (T : ByteArray), k ≤ W.size ∧ i = .int .i64 k ∧ t = .string T ∧ Hid (T.data.toList = 3 :: esc (W.data.toList.take k)) ∧ T.size ≤ 2 * W.size + 1 ∧ Below w.heap.size w wr) (fun _ i _ => W.size - (intOf i).toNat)
  case atStart => exact ⟨0, ⟨#[3]⟩, Nat.zero_le _, rfl, rfl, rfl, by show 1 ≤ _; omega, (by repeat (first | exact Below.refl _ _ | refine Below.alloc ?_ (by first | (simp; done) | (simp; omega)) _))⟩
  case round =>
    obtain ⟨k, T, hk, rfl, rfl, HT, hT, hnx⟩ := hrel
    have tl : ∀ (j : Nat) (T' : ByteArray), T'.data.toList = 3 :: esc (W.data.toList.take j) → T'.size ≤ 2 * W.size + 1 := fun j T' h => by
      rw [← len_str, h, List.length_cons]
      have := esc_len (W.data.toList.take j)
      rw [List.length_take, len_str] at this
      omega
    by_cases hlt : k < W.size
    · have he := ext_one W k hlt
      cases hc : ((W[k].toNat : Int) == 0)
      · have HT2 : Hid ((T ++ W.extract k (k + 1)).data.toList = 3 :: esc (W.data.toList.take (k + 1))) := by
          show _ = _
          rw [app_list, HT.out, he, esc_at_other W hlt (byten0 hc)]; simp
        have hsz := tl _ _ HT2.out
        have hes : (W.extract k (k + 1)).size = 1 := by rw [← len_str, he]; rfl
        clear tl he
        go_wp2
        exact ⟨⟨k + 1, _, by omega, by go_num, rfl, HT2, hsz, hnx⟩, by simp [intOf]; omega⟩
      · have HT2 : Hid ((T ++ W.extract k (k + 1) ++ (⟨#[255]⟩ : ByteArray)).data.toList = 3 :: esc (W.data.toList.take (k + 1))) := by
          show _ = _
          rw [app_list, app_list, HT.out, he, esc_at_zero W hlt (byte0 hc), byte0 hc]; simp
        have hsz := tl _ _ HT2.out
        have hes : (W.extract k (k + 1)).size = 1 := by rw [← len_str, he]; rfl
        clear tl he
        go_wp2
        exact ⟨⟨k + 1, _, by omega, by go_num, rfl, HT2, hsz, hnx⟩, by simp [intOf]; omega⟩
    · obtain rfl : k = W.size := by omega
      clear tl
      go_wp2
      go_ret
      refine ⟨⟨_, rfl, ?_⟩, hnx⟩
      rw [app_list, HT.out, List.take_of_length_le (by simp), HW.out]
      simp

set_option maxHeartbeats 400000 in
theorem one_bool (N : Int) (S : ByteArray) (B : Bool) (w : World) :
    Calls Tryd.prog 24 #[val 3 N S B] w fun e w' => (∃ T : ByteArray, e = .returned (.string T) ∧ T.data.toList = [4, if B then 1 else 0]) ∧ Below w.heap.size w w' := by
  cases B
  · go_enter Tryd.func24, Tryd.ntmps24
    go_wp2
    go_ret
    exact ⟨⟨_, rfl, rfl⟩, (by repeat (first | exact Below.refl _ _ | assumption | refine Below.alloc ?_ (by first | (simp; done) | (simp; omega)) _ | refine Below.setCell ?_ (by first | (simp; done) | (simp; omega)) _ | refine Below.drew ?_ | refine below_drewN ?_ _))⟩
  · go_enter Tryd.func24, Tryd.ntmps24
    go_wp2
    go_ret
    exact ⟨⟨_, rfl, rfl⟩, (by repeat (first | exact Below.refl _ _ | assumption | refine Below.alloc ?_ (by first | (simp; done) | (simp; omega)) _ | refine Below.setCell ?_ (by first | (simp; done) | (simp; omega)) _ | refine Below.drew ?_ | refine below_drewN ?_ _))⟩
set_option maxHeartbeats 400000 in
theorem one_null (N : Int) (S : ByteArray) (B : Bool) (w : World) :
    Calls Tryd.prog 24 #[val 0 N S B] w fun e w' => (∃ T : ByteArray, e = .returned (.string T) ∧ T.data.toList = [1]) ∧ Below w.heap.size w w' := by
  go_enter Tryd.func24, Tryd.ntmps24
  go_wp2
  go_ret
  exact ⟨⟨_, rfl, rfl⟩, (by repeat (first | exact Below.refl _ _ | assumption | refine Below.alloc ?_ (by first | (simp; done) | (simp; omega)) _ | refine Below.setCell ?_ (by first | (simp; done) | (simp; omega)) _ | refine Below.drew ?_ | refine below_drewN ?_ _))⟩
theorem one_any (K N : Int) (S : ByteArray) (B : Bool) (w : World) (hr : RightQ (K, N, S.data.toList, B)) (hs : S.size ≤ 1099511627776) :
    Calls Tryd.prog 24 #[val K N S B] w fun e w' => (∃ T : ByteArray, e = .returned (.string T) ∧ T.data.toList = code1 (K, N, S.data.toList, B)) ∧ Below w.heap.size w w' := by
  have hn := fun e => right_num hr e
  rcases right_kind hr with e | e | e | e
  all_goals
    simp only at e
    subst e
  · rw [code_null (v := (0, N, S.data.toList, B)) rfl]
    exact one_null N S B w
  · rw [code_num (v := (1, N, S.data.toList, B)) rfl]
    exact one_num _ N S B w (sign_add N (hn rfl))
  · rw [code_text (v := (2, N, S.data.toList, B)) rfl]
    exact one_text N S B w hs
  · rw [code_bool (v := (3, N, S.data.toList, B)) rfl]
    exact one_bool N S B w

set_option maxHeartbeats 1000000 in
theorem refEncode_any (v : Value) (l : List V4) (w : World) (hrow : RowIs w v l) (hR : Rights l) (hlen : (codeL l).length ≤ 1099511626000) (hs : ∀ x ∈ l, x.2.2.1.length ≤ 1099511627776) (hl : l.length ≤ 1099511627776) :
    Calls Tryd.prog 14 #[v] w fun e w' => (∃ T : ByteArray, e = .returned (.string T) ∧ T.data.toList = codeL l) ∧ Below w.heap.size w w' := by
  obtain ⟨ao, cap, rfl, hcap, hcells⟩ := hrow
  go_enter Tryd.func14, Tryd.ntmps14
  go_wp2
  go_loopw [3, 4] (fun t i wr => ∃ (k : Nat) (T : ByteArray), k ≤ l.length ∧ i = .int .i64 k ∧ t = .string T ∧ Hid (T.data.toList = codeL (l.take k)) ∧ T.size ≤ 1099511626000 ∧ Below w.heap.size w wr) (fun _ i _ => l.length - (intOf i).toNat)
  case atStart => exact ⟨0, ⟨#[]⟩, Nat.zero_le _, rfl, rfl, rfl, Nat.zero_le _, Below.refl _ _⟩
  case round =>
    obtain ⟨k, T, hk, rfl, rfl, HT, hT, hnx⟩ := hrel
    by_cases hlt : k < l.length
    · rcases hcells with h0 | ⟨g, rfl, hcells⟩
      · rw [h0] at hlt; simp at hlt
      have hc := rangeAt_keep hnx (hcells k hlt)
      have hmem : l[k] ∈ l := List.getElem_mem hlt
      have hQ := hR _ hmem
      have hsz := hs _ hmem
      have hlen2 := codeL_take_len l (k + 1)
      have HC : Hid (codeL (l.take (k + 1)) = codeL (l.take k) ++ code1 l[k]) := codeL_take_succ l k hlt
      generalize l[k] = x at *
      clear hmem hcells
      obtain ⟨K, N, S0, B⟩ := x
      obtain ⟨S, hS⟩ : ∃ S : ByteArray, S.data.toList = S0 := ⟨⟨S0.toArray⟩, rfl⟩
      subst hS
      have hc2 : wr.rangeAt g (k * 4) [.int .i64 K, .int .i64 N, .string S, .bool B] := hc
      simp only at hsz
      rw [len_str] at hsz
      have HQ : Hid (RightQ (K, N, S.data.toList, B)) := hQ
      clear hc hQ
      go_wp2_with (first
        | (refine wpList_load_mid rfl _ _ rfl g (k * 4) (by rfl) [.int .i64 K, .int .i64 N, .string S, .bool B] _ hc2 Tryd.underlying39 rfl infoV ?_))
      refine (one_any K N S B _ HQ.out hsz).mono ?_
      rintro e w1 ⟨⟨U, rfl, hU⟩, hb⟩
      have hn1 := keepA hnx hb
      have HT2 : Hid ((T ++ U).data.toList = codeL (l.take (k + 1))) := by
        show _ = _
        rw [app_list, HT.out, hU, HC.out]
      have hsz2 : (T ++ U).size ≤ 1099511626000 := by rw [← len_str, HT2.out]; omega
      have hUs : U.size ≤ 1099511627000 := by
        rw [← len_str, hU]
        have := congrArg List.length HC.out
        rw [List.length_append] at this
        omega
      clear hb hU hnx HC hlen2
      go_wp2
      exact ⟨⟨k + 1, _, by omega, by go_num, rfl, HT2, hsz2, hn1⟩, by simp [intOf]; omega⟩
    · obtain rfl : k = l.length := by omega
      go_wp2
      go_ret
      refine ⟨⟨T, rfl, ?_⟩, hnx⟩
      rw [HT.out, List.take_length]
end Go.Proofs.YtjajngngajnnpaaDoor

/- The walk of the document's own reading of a truth, the function. -/
import Derived.Test.YtfmnlgepllgpnaaGreatDoorT2RefTruth
namespace Go.Proofs.YtfmnlgepllgpnaaGreatDoor
open Go.RowKit
set_option linter.unusedVariables false

def lowL (l : List UInt8) : List UInt8 := l.flatMap (fun c => (encR (lowC c)).data.toList)
theorem lowL_take (s : ByteArray) (k : Nat) (h : k < s.size) : lowL (s.data.toList.take (k + 1)) = lowL (s.data.toList.take k) ++ (encR (lowC s[k])).data.toList := by
  unfold lowL
  rw [List.take_succ_eq_append_getElem (by simpa using h), List.flatMap_append]
  simp only [List.flatMap_cons, List.flatMap_nil, List.append_nil]
  rfl
theorem wrap32_in (n : Int) (h : 0 ≤ n ∧ n ≤ 255) : wrap32 n = n := by unfold wrap32; omega
theorem low_up {c : UInt8} (h1 : 65 ≤ c.toNat) (h2 : c.toNat ≤ 90) : ((lowC c).toNat : Int) = (c.toNat : Int) + 32 := by
  unfold lowC
  rw [if_pos ⟨h1, h2⟩, UInt8.toNat_add]
  have : (32 : UInt8).toNat = 32 := rfl
  omega
theorem low_stay {c : UInt8} (h : ¬ (65 ≤ c.toNat ∧ c.toNat ≤ 90)) : lowC c = c := by
  unfold lowC
  rw [if_neg h]
theorem app_list (a b : ByteArray) : (a ++ b).data.toList = a.data.toList ++ b.data.toList := by simp
theorem truth_true {l : List UInt8} (h : foldL l = [116, 114, 117, 101]) : truthA l = ansBool true := by
  unfold truthA; rw [if_neg (by rw [h]; decide), if_pos h]
theorem truth_false {l : List UInt8} (h : foldL l = [102, 97, 108, 115, 101]) : truthA l = ansBool false := by
  unfold truthA; rw [if_pos h]
theorem truth_bad {l : List UInt8} (h1 : foldL l ≠ [116, 114, 117, 101]) (h2 : foldL l ≠ [102, 97, 108, 115, 101]) : truthA l = ansNo sBad := by
  unfold truthA; rw [if_neg h2, if_neg h1]
theorem low_true (l : List UInt8) : lowL l = [116, 114, 117, 101] ↔ foldL l = [116, 114, 117, 101] := enc_word enc_f l _ (by decide)
theorem low_false (l : List UInt8) : lowL l = [102, 97, 108, 115, 101] ↔ foldL l = [102, 97, 108, 115, 101] := enc_word enc_f l _ (by decide)

set_option maxHeartbeats 1000000 in
set_option maxRecDepth 10000 in
theorem rtruth_any (s : ByteArray) (w : World) (hs : s.size ≤ 140737488355328) :
    Calls Tryz.prog 28 #[.string s] w fun e w' => e = .returned ((truthA s.data.toList).ret) ∧ Below w.heap.size w w' := by
  obtain ⟨A, hA⟩ : ∃ A, truthA s.data.toList = A := ⟨_, rfl⟩
  rw [hA]
  have HA : Hid (truthA s.data.toList = A) := hA
  clear hA
  have LT : ({ data := #[116, 114, 117, 101] } : ByteArray).toList = [116, 114, 117, 101] := by rw [Lib.toList_data]
  have LF : ({ data := #[102, 97, 108, 115, 101] } : ByteArray).toList = [102, 97, 108, 115, 101] := by rw [Lib.toList_data]
  go_enter Tryz.func28, Tryz.ntmps28
  go_wp2
  go_loop [4, 5] (fun t i => ∃ (k : Nat) (T : ByteArray), k ≤ s.size ∧ i = .int .i64 k ∧ t = .string T ∧ Hid (T.data.toList = lowL (s.data.toList.take k)) ∧ T.size ≤ 4 * k) (fun _ i => s.size - (intOf i).toNat)
  case atStart => exact ⟨0, ⟨#[]⟩, Nat.zero_le _, rfl, rfl, rfl, Nat.le_refl 0⟩
  case round =>
    obtain ⟨k, T, hk, rfl, rfl, HT, hTs⟩ := hrel
    by_cases hlt : k < s.size
    · have HN : Hid (lowL (s.data.toList.take (k + 1)) = lowL (s.data.toList.take k) ++ (encR (lowC s[k])).data.toList) := lowL_take s k hlt
      have hsz := encOk_size (enc_one (lowC s[k]))
      obtain ⟨E, hE⟩ : ∃ E, encR (lowC s[k]) = E := ⟨_, rfl⟩
      rw [hE] at HN hsz
      have HN2 : Hid ((T ++ E).data.toList = lowL (s.data.toList.take (k + 1))) := by
        show _ = _
        rw [app_list, HT.out, HN.out]
      have hTE : (T ++ E).size ≤ 4 * (k + 1) := by
        rw [ByteArray.size_append]; omega
      clear HN HT
      by_cases hup : 65 ≤ s[k].toNat ∧ s[k].toNat ≤ 90
      · have hE2 : Utf8.encode ((s[k].toNat : Int) + 32) = E := by
          rw [← hE]
          unfold encR
          rw [low_up hup.1 hup.2, wrap32_in _ (by omega)]
        have hu1 : (65 : Int) ≤ (s[k].toNat : Int) := by omega
        have hu2 : (s[k].toNat : Int) ≤ 90 := by omega
        clear hE hup
        go_wp2
        refine ⟨⟨k + 1, T ++ E, by omega, by go_num, rfl, HN2, hTE⟩, by simp [intOf]; omega⟩
      · have hE2 : Utf8.encode (wrap32 (s[k].toNat : Int)) = E := by
          rw [← hE, low_stay hup]; rfl
        clear hE
        by_cases h65 : 65 ≤ s[k].toNat
        · have h90 : ¬ s[k].toNat ≤ 90 := fun h => hup ⟨h65, h⟩
          clear hup
          go_wp2
          refine ⟨⟨k + 1, T ++ E, by omega, by go_num, rfl, HN2, hTE⟩, by simp [intOf]; omega⟩
        · have hu2 : s[k].toNat < 65 := by omega
          have hu3 : decide ((65 : Int) ≤ (s[k].toNat : Int)) = false := by rw [decide_eq_false_iff_not]; omega
          have hE3 : Utf8.encode (s[k].toNat : Int) = E := by
            rw [← hE2, wrap32_in _ (by omega)]
          clear hup h65 hu2
          go_wp2
          refine ⟨⟨k + 1, T ++ E, by omega, by go_num, rfl, HN2, hTE⟩, by simp [intOf]; omega⟩
    · obtain rfl : k = s.size := by omega
      have hall : T.data.toList = lowL s.data.toList := by
        have := HT.out
        rwa [List.take_of_length_le (by simp)] at this
      have hTl : T.toList = lowL s.data.toList := by rw [Lib.toList_data]; exact hall
      have b0 : Box (w.alloc (.cells #[.int .i64 0, .int .i64 0, .string ⟨#[]⟩, .bool false] 29)) w.heap.size 0 0 ⟨#[]⟩ false := Box.newAt _ _ _ _ _ rfl
      cases ht : (T.toList == [116, 114, 117, 101])
      · cases hf : (T.toList == [102, 97, 108, 115, 101])
        · have HR : Hid (A = ansNo sBad) := by
            show _ = _
            rw [← HA.out]
            refine truth_bad (fun e => ?_) (fun e => ?_)
            · rw [hTl, (low_true _).2 e] at ht; exact absurd ht (by decide)
            · rw [hTl, (low_false _).2 e] at hf; exact absurd hf (by decide)
          clear hall hTl HT HA
          go_wp2
          exact bodyPost_ret (v := .tuple #[nullV, .string sBad]) (by simp [results, Tryz.results28, go_sem]) rfl ⟨by rw [HR.out]; rfl, (by repeat (first | exact Below.refl _ _ | assumption | refine Below.alloc ?_ (by first | (simp; done) | (simp; omega)) _ | refine Below.setCell ?_ (by first | (simp; done) | (simp; omega)) _ | refine Below.drew ?_ | refine below_drewN ?_ _))⟩
        · have HR : Hid (A = ansBool false) := by
            show _ = _
            rw [← HA.out]
            exact truth_false ((low_false _).1 (by rw [← hTl]; exact eq_of_beq hf))
          clear hall hTl HT HA
          go_wp2
          exact bodyPost_ret (v := .tuple #[val 3 0 ⟨#[]⟩ false, .string sDone]) (by simp [results, Tryz.results28, go_sem]) rfl ⟨by rw [HR.out]; rfl, (by repeat (first | exact Below.refl _ _ | assumption | refine Below.alloc ?_ (by first | (simp; done) | (simp; omega)) _ | refine Below.setCell ?_ (by first | (simp; done) | (simp; omega)) _ | refine Below.drew ?_ | refine below_drewN ?_ _))⟩
      · have HR : Hid (A = ansBool true) := by
          show _ = _
          rw [← HA.out]
          exact truth_true ((low_true _).1 (by rw [← hTl]; exact eq_of_beq ht))
        clear hall hTl HT HA
        go_wp2
        exact bodyPost_ret (v := .tuple #[val 3 0 ⟨#[]⟩ true, .string sDone]) (by simp [results, Tryz.results28, go_sem]) rfl ⟨by rw [HR.out]; rfl, (by repeat (first | exact Below.refl _ _ | assumption | refine Below.alloc ?_ (by first | (simp; done) | (simp; omega)) _ | refine Below.setCell ?_ (by first | (simp; done) | (simp; omega)) _ | refine Below.drew ?_ | refine below_drewN ?_ _))⟩
end Go.Proofs.YtfmnlgepllgpnaaGreatDoor

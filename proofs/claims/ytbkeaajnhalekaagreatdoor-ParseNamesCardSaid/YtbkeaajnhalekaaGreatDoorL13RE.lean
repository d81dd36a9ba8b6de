/- Which words are reserved: the document's Reserved. -/
import Derived.Test.YtbkeaajnhalekaaGreatDoorL13RD
namespace Go.Proofs.YtbkeaajnhalekaaGreatDoor
open Go.RowKit
set_option linter.unusedVariables false
set_option linter.unusedSimpArgs false

theorem docB_size : docB.size = 643 := by
  have : docB.data.toList.length = 643 := by rw [docB_list, docL_len]
  simpa using this
theorem ext_doc (i n : Nat) : (docB.extract i (i + n)).data.toList = (docL.drop i).take n := by
  rw [ByteArray.data_extract, Array.toList_extract, docB_list]
  simp [List.extract]
theorem mid_list (word : ByteArray) : (⟨#[32]⟩ ++ word ++ ⟨#[32]⟩ : ByteArray).data.toList = 32 :: word.data.toList ++ [32] := by simp
theorem mid_size (word : ByteArray) : (⟨#[32]⟩ ++ word ++ ⟨#[32]⟩ : ByteArray).size = word.size + 2 := by
  have h := congrArg List.length (mid_list word)
  simp only [List.length_append, List.length_cons, List.length_nil, Array.length_toList] at h
  show _ = word.data.size + 2
  rw [← ByteArray.size_data]
  omega
set_option maxHeartbeats 4000000 in
set_option maxRecDepth 100000 in
theorem reserved_ref (word : ByteArray) (hs : word.size ≤ 140737488355328) (w : World) : Calls Tryz.prog 18 #[.string word] w fun e w' => e = .returned (.bool (resL.contains word.data.toList)) ∧ w' = w := by
  obtain ⟨R, hR⟩ : ∃ R, R = resL.contains word.data.toList := ⟨_, rfl⟩
  rw [← hR]
  have HR := Go.Proofs.YtbkeaajnhalekaaGreatDoor.Hid.mk' hR
  clear hR
  go_enter Tryz.func18, Tryz.ntmps18
  go_wp2_with fail
  generalize hl : ByteArray.mk (List.toArray (List.append _ _)) = D
  have hD : D = docB := by rw [← hl]; rfl
  clear hl
  have hDs : D.size = 643 := by rw [hD]; exact docB_size
  have HD := Go.Proofs.YtbkeaajnhalekaaGreatDoor.Hid.mk' hD
  clear hD
  go_loopw [4] (fun x wr => ∃ i : Nat, x = .int .i64 i ∧ i ≤ word.size ∧ Hid (∀ j, j < i → ∀ h : j < word.size, ¬ (word[j].toNat : Int) = 32) ∧ wr = w) (fun x _ => word.size - (intOf x).toNat)
  case atStart => exact ⟨0, rfl, Nat.zero_le _, fun j hj => by omega, rfl⟩
  case round =>
    obtain ⟨i, rfl, hi, HA, rfl⟩ := hrel
    by_cases hlt : i < word.size
    · have tl : (i : Int) < (word.size : Int) := by omega
      by_cases h32 : (word[i].toNat : Int) = 32
      · have hRf : R = false := by
          rw [HR.out]
          refine res_blank (c := word[i]) ?_ ((u8_eq (n := 32) (by omega)).1 h32)
          exact Array.getElem_mem_toList (by simpa using hlt)
        subst hRf
        clear HR HA HD
        go_wp2_with fail
        go_ret
        exact ⟨rfl, rfl⟩
      · have h32' : ((word[i].toNat : Int) == 32) = false := by simpa using h32
        have HN : Hid (∀ j, j < i + 1 → ∀ h : j < word.size, ¬ (word[j].toNat : Int) = 32) := fun j hj h => by
          by_cases e : j = i
          · subst e; exact h32
          · exact HA.out j (by omega) h
        clear HA HR HD
        go_wp2_with fail
        go_roundw
        case rel => exact ⟨i + 1, by go_num, by omega, HN, by first | rfl | trivial⟩
        case measure => simp [intOf]; omega
    · have tl : ¬ (i : Int) < (word.size : Int) := by omega
      obtain rfl : i = word.size := by omega
      have HNB : Hid (∀ c ∈ word.data.toList, (c != 32) = true) := fun c hc => by
        obtain ⟨j, hj, rfl⟩ := List.mem_iff_getElem.1 hc
        have hj2 : j < word.size := by simpa using hj
        have := HA.out j hj2 hj2
        rw [bne_iff_ne]
        intro e
        refine this ?_
        have e2 : word[j] = 32 := e
        rw [e2]; rfl
      have c1 : ¬ 9223372036854775807 < 1 + word.size := by omega
      have c2 : ¬ 9223372036854775807 < 1 + word.size + 1 := by omega
      clear HA
      go_wp2_with fail
      have hml := mid_list word
      have hms := mid_size word
      generalize (⟨#[32]⟩ ++ word ++ ⟨#[32]⟩ : ByteArray) = wB at *
      rename World => w0
      by_cases he : word.data.toList = []
      · have q1 : (word.toList == (⟨#[]⟩ : ByteArray).toList) = true ∧ (word.toList == []) = true := by
          rw [Lib.toList_data, Lib.toList_data, he]; decide
        obtain ⟨q1, q2⟩ := q1
        have hRf : R = false := by rw [HR.out, he]; exact res_nil
        subst hRf
        have hw0 : word.size = 0 := by simpa using congrArg List.length he
        have hw2 : (wB.size : Int) = 2 := by omega
        have tle : (0 : Int) + (wB.size : Int) ≤ (D.size : Int) := by omega
        clear HR HD HNB hml
        go_loopw [6] (fun x wr => x = .int .i64 0 ∧ wr = w0) (fun x _ => 0)
        case atStart => exact ⟨rfl, rfl⟩
        case round =>
          obtain ⟨rfl, rfl⟩ := hrel
          go_wp2_with fail
          go_ret
          exact ⟨rfl, rfl⟩
      · have q1 : (word.toList == (⟨#[]⟩ : ByteArray).toList) = false ∧ (word.toList == []) = false := by
          rw [Lib.toList_data, Lib.toList_data]
          constructor <;> simpa using he
        obtain ⟨q1, q2⟩ := q1
        have HY : Hid (∀ i, i + wB.size ≤ 643 → ((D.extract i (i + wB.size)).toList == wB.toList) = true → R = true) := fun i hi h => by
          rw [HR.out]
          rw [Lib.toList_data, Lib.toList_data, HD.out, ext_doc, hml, hms] at h
          have h' := eq_of_beq h
          refine doc_found (i := i) ?_ HNB.out he
          rw [show word.data.toList.length = word.size by simp]
          exact h'
        have HZ : Hid ((∀ i, i + wB.size ≤ 643 → ((D.extract i (i + wB.size)).toList == wB.toList) = false) → R = false) := fun h => by
          rw [HR.out]
          refine doc_none fun i hi => ?_
          rw [docL_len, show word.data.toList.length = word.size by simp] at hi
          have := h i (by omega)
          rw [Lib.toList_data, Lib.toList_data, HD.out, ext_doc, hml, hms] at this
          rw [show word.data.toList.length = word.size by simp]
          simpa using this
        have hwb : wB.size ≤ 140737488355330 ∧ 2 ≤ wB.size := by omega
        obtain ⟨hwb, hwb2⟩ := hwb
        clear HD HNB hml HR hms
        go_loopw [6] (fun x wr => ∃ i : Nat, x = .int .i64 i ∧ i ≤ 644 ∧ Hid (∀ j, j < i → j + wB.size ≤ 643 → ((D.extract j (j + wB.size)).toList == wB.toList) = false) ∧ wr = w0) (fun x _ => 700 - (intOf x).toNat)
        case atStart => exact ⟨0, rfl, by omega, fun j hj => by omega, rfl⟩
        case round =>
          obtain ⟨i, rfl, hi, HA, rfl⟩ := hrel
          by_cases hle : i + wB.size ≤ 643
          · have tle : (i : Int) + (wB.size : Int) ≤ (D.size : Int) := by omega
            have tle2 : (i : Int) ≤ (i : Int) + (wB.size : Int) := by omega
            cases hq : (D.extract i (i + wB.size)).toList == wB.toList with
            | true =>
              have hRt := HY.out i hle hq
              subst hRt
              clear HY HZ HA
              go_wp2_with fail
              go_ret
              exact ⟨rfl, rfl⟩
            | false =>
              have HN : Hid (∀ j, j < i + 1 → j + wB.size ≤ 643 → ((D.extract j (j + wB.size)).toList == wB.toList) = false) := fun j hj h => by
                by_cases e : j = i
                · subst e; exact hq
                · exact HA.out j (by omega) h
              clear HA HY HZ
              go_wp2_with fail
              exact ⟨⟨i + 1, by go_num, by omega, HN, by first | rfl | trivial⟩, by simp [intOf]; omega⟩
          · have tle : ¬ (i : Int) + (wB.size : Int) ≤ (D.size : Int) := by omega
            have hRf := HZ.out (fun j hj => HA.out j (by omega) hj)
            subst hRf
            clear HA HY HZ
            go_wp2_with fail
            go_ret
            exact ⟨rfl, rfl⟩
end Go.Proofs.YtbkeaajnhalekaaGreatDoor

/- The document's own Cast at every right value and every type; the law TypesCasts. -/
import Derived.Test.YtfmnlgepllgpnaaGreatDoorT2RefNum3
import Derived.Test.YtfmnlgepllgpnaaGreatDoorT2RefNum4
import Derived.Test.YtfmnlgepllgpnaaGreatDoorT2RefNum5
import Derived.Test.YtfmnlgepllgpnaaGreatDoorT2RefCast2
import Derived.Test.YtfmnlgepllgpnaaGreatDoorT2RefCast3
import Derived.Test.YtfmnlgepllgpnaaGreatDoorCastsWalk
namespace Go.Proofs.YtfmnlgepllgpnaaGreatDoor
open Go.RowKit Go.Joins
set_option linter.unusedVariables false

theorem ext_tail1 (s : ByteArray) (h : 0 < s.size) : s.data.toList = s[0] :: (s.extract 1 s.size).data.toList := by
  have h' : 0 < s.data.toList.length := by simpa using h
  have e : s.data.toList = s.data.toList[0] :: s.data.toList.drop 1 := by
    have := List.drop_eq_getElem_cons h'
    simpa using this
  rw [Lib.extract_data]
  conv => lhs; rw [e]
  congr 1
  simp
  exact (List.take_of_length_le (by simp)).symm
theorem number_any (s : ByteArray) (b l : Int) (w : World) (hs : s.size ≤ 140737488355328) :
    Calls Tryz.prog 26 #[.string s, typ b l] w fun e w' => e = .returned ((readA s.data.toList b).ret) ∧ Below w.heap.size w w' := by
  rw [read_num]
  by_cases h0 : 0 < s.size
  · have ht := ext_tail1 s h0
    by_cases h45 : s[0].toNat = 45
    · have e1 : unsign s.data.toList = (s.extract 1 s.size).data.toList := by
        rw [ht]
        unfold unsign
        exact if_pos (Or.inr h45)
      have e2 : isMinus s.data.toList = true := by
        rw [ht]
        unfold isMinus
        simp [h45]
      rw [e1, e2]
      exact number_minus s _ b l w hs h0 (by rw [h45]; rfl) rfl
    · by_cases h43 : s[0].toNat = 43
      · have e1 : unsign s.data.toList = (s.extract 1 s.size).data.toList := by
          rw [ht]
          unfold unsign
          exact if_pos (Or.inl h43)
        have e2 : isMinus s.data.toList = false := by
          rw [ht]
          unfold isMinus
          simp [h43]
        rw [e1, e2]
        exact number_plus s _ b l w hs h0 (by rw [beq_eq_false_iff_ne]; omega) (by rw [h43]; rfl) rfl
      · have e1 : unsign s.data.toList = s.data.toList := by
          rw [ht]
          unfold unsign
          exact if_neg (fun h => h.elim h43 h45)
        have e2 : isMinus s.data.toList = false := by
          rw [ht]
          unfold isMinus
          simp [h45]
        rw [e1, e2]
        exact number_none s b l w hs (fun _ => ⟨by rw [beq_eq_false_iff_ne]; omega, by rw [beq_eq_false_iff_ne]; omega⟩)
  · have hz : s.data.toList = [] := List.eq_nil_of_length_eq_zero (by have : s.data.toList.length = s.size := by simp
                                                                      omega)
    have e1 : unsign s.data.toList = s.data.toList := by rw [hz]; rfl
    have e2 : isMinus s.data.toList = false := by rw [hz]; rfl
    rw [e1, e2]
    exact number_none s b l w hs (fun h => absurd h h0)
theorem trimS_size (S : ByteArray) : (⟨(leftL (trimL S.data.toList)).toArray⟩ : ByteArray).size ≤ S.size := by
  show (leftL (trimL S.data.toList)).toArray.size ≤ S.size
  have h1 : (leftL (trimL S.data.toList)).length ≤ (trimL S.data.toList).length := by
    unfold leftL
    exact (List.dropWhile_sublist (l := trimL S.data.toList) _).length_le
  have h2 : (trimL S.data.toList).length ≤ S.data.toList.length := by
    unfold trimL
    rw [List.length_reverse]
    have := (List.dropWhile_sublist (l := S.data.toList.reverse) (· == 32)).length_le
    simpa using this
  simp at h2 ⊢
  omega
theorem rcast_any (K N : Int) (S : ByteArray) (B : Bool) (b l : Int) (w : World) (hv : RightV K N S B) (hn : -9223372036854775808 ≤ N ∧ N ≤ 9223372036854775807) (hs : S.size ≤ 140737488355328) :
    Calls Tryz.prog 6 #[val K N S B, typ b l] w fun e w' => e = .returned ((castA K N S.data.toList B b l).ret) ∧ Below w.heap.size w w' := by
  have RA := fun w => rassign_any K N S B b l w hv (by omega)
  cases hr : rightT b l
  · rw [show castA K N S.data.toList B b l = ansNo sMis by simp [castA, kind_right, hr]]
    exact rcast_wrong K N S B b l w (kind_zero hr)
  · rcases kind_of_right hr with ⟨hk, _⟩ | ⟨hk, _, hl⟩ | ⟨hk, _⟩
    · rcases hv with ⟨rfl, rfl, rfl, rfl⟩ | ⟨rfl, rfl, rfl⟩ | ⟨rfl, rfl, rfl⟩ | ⟨rfl, rfl, rfl⟩
      · rw [show castA 0 0 (⟨#[]⟩ : ByteArray).data.toList false b l = assignA 0 0 (⟨#[]⟩ : ByteArray).data.toList false b l by simp [castA, assignA, hk]]
        exact rcast_01 0 false _ b l w hk RA
      · rw [show castA 1 N (⟨#[]⟩ : ByteArray).data.toList false b l = assignA 1 N (⟨#[]⟩ : ByteArray).data.toList false b l by simp [castA, assignA, hk]]
        exact rcast_11 N false _ b l w hk RA
      · rw [show castA 2 0 S.data.toList false b l = readA (Lib.trimB S.data.toList 32) b by simp [castA, hk]]
        refine rcast_21 S _ b l w hk hs fun w => ?_
        have h := number_any ⟨(leftL (trimL S.data.toList)).toArray⟩ b l w (Nat.le_trans (trimS_size S) hs)
        rw [trim_both] at h ⊢
        exact h
      · rw [show castA 3 0 (⟨#[]⟩ : ByteArray).data.toList B b l = ansNo sMis by simp [castA, hk]]
        exact rcast_31 0 B b l w hk
    · rcases hv with ⟨rfl, rfl, rfl, rfl⟩ | ⟨rfl, rfl, rfl⟩ | ⟨rfl, rfl, rfl⟩ | ⟨rfl, rfl, rfl⟩
      · rw [show castA 0 0 (⟨#[]⟩ : ByteArray).data.toList false b l = assignA 0 0 (⟨#[]⟩ : ByteArray).data.toList false b l by simp [castA, assignA, hk]]
        exact rcast_02 0 false _ b l w hk RA
      · rw [show castA 1 N (⟨#[]⟩ : ByteArray).data.toList false b l = toldA (Lib.itoa N) b l by simp [castA, hk]]
        have hz : (itoaB N).size = (Lib.itoa N).length := by show (Lib.itoa N).toArray.size = _; simp
        unfold toldA
        by_cases hD : ((Lib.itoa N).length : Int) ≤ l
        · rw [if_pos hD]
          have h := rcast_12y N (itoaB N) b l w hk ⟨by omega, by omega⟩ hn rfl (by rw [hz]; exact hD)
          exact h
        · rw [if_neg hD]
          exact rcast_12n N (itoaB N) b l w hk ⟨by omega, by omega⟩ hn rfl (by rw [hz]; exact hD)
      · obtain ⟨m, rfl⟩ := Int.eq_ofNat_of_zero_le (a := l) (by omega)
        rw [show castA 2 0 S.data.toList false b m = ansText (padL (S.data.toList.take (min (S.size : Int) (m : Int)).toNat) b m) by rw [take_min]; simp [castA, hk]]
        exact rcast_22 S b m w (by omega) hs hk
      · rw [show castA 3 0 (⟨#[]⟩ : ByteArray).data.toList B b l = toldA (wordB B) b l by simp [castA, hk]]
        unfold toldA
        cases B
        · by_cases hD : (5 : Int) ≤ l
          · rw [if_pos (show (((wordB false).length : Nat) : Int) ≤ l from hD)]
            exact rcast_32fy b l w hk ⟨by omega, by omega⟩ _ (fun w => rpad_any ⟨#[70, 65, 76, 83, 69]⟩ b l w ⟨by omega, by omega⟩ (by decide)) hD
          · rw [if_neg (show ¬ (((wordB false).length : Nat) : Int) ≤ l from hD)]
            exact rcast_32fn b l w hk ⟨by omega, by omega⟩ hD
        · by_cases hD : (4 : Int) ≤ l
          · rw [if_pos (show (((wordB true).length : Nat) : Int) ≤ l from hD)]
            exact rcast_32ty b l w hk ⟨by omega, by omega⟩ _ (fun w => rpad_any ⟨#[84, 82, 85, 69]⟩ b l w ⟨by omega, by omega⟩ (by decide)) hD
          · rw [if_neg (show ¬ (((wordB true).length : Nat) : Int) ≤ l from hD)]
            exact rcast_32tn b l w hk ⟨by omega, by omega⟩ hD
    · rcases hv with ⟨rfl, rfl, rfl, rfl⟩ | ⟨rfl, rfl, rfl⟩ | ⟨rfl, rfl, rfl⟩ | ⟨rfl, rfl, rfl⟩
      · rw [show castA 0 0 (⟨#[]⟩ : ByteArray).data.toList false b l = assignA 0 0 (⟨#[]⟩ : ByteArray).data.toList false b l by simp [castA, assignA, hk]]
        exact rcast_03 0 false _ b l w hk RA
      · rw [show castA 1 N (⟨#[]⟩ : ByteArray).data.toList false b l = ansNo sMis by simp [castA, hk]]
        exact rcast_13 N false b l w hk
      · rw [show castA 2 0 S.data.toList false b l = truthA (Lib.trimB S.data.toList 32) by simp [castA, hk]]
        refine rcast_23 S _ b l w hk hs fun w => ?_
        have h := rtruth_any ⟨(leftL (trimL S.data.toList)).toArray⟩ w (Nat.le_trans (trimS_size S) hs)
        rw [trim_both] at h ⊢
        exact h
      · rw [show castA 3 0 (⟨#[]⟩ : ByteArray).data.toList B b l = assignA 3 0 (⟨#[]⟩ : ByteArray).data.toList B b l by simp [castA, assignA, hk]]
        exact rcast_33 0 B _ b l w hk RA
theorem casts_law (k n : Int) (s : ByteArray) (b : Bool) (base size : Int) (a : Addr) (w : World) (hk : -9223372036854775808 ≤ k ∧ k ≤ 9223372036854775807) (hn : -9223372036854775808 ≤ n ∧ n ≤ 9223372036854775807) (hs : s.size ≤ 140737488355328) (hL : LibW a w) :
    Calls Tryz.prog 3 #[val k n s b, .int .i64 base, .int .i64 size] w fun e w' => e = .returned (.bool true) ∧ Below w.heap.size w w' :=
  casts_given k n s b base size a w hk hn hs hL (fun K N S B w hv hn hs => rcast_any K N S B base size w hv hn hs)
end Go.Proofs.YtfmnlgepllgpnaaGreatDoor

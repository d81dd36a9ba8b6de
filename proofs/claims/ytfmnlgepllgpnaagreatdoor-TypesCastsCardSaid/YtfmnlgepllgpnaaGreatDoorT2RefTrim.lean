/- The walks of the document's own trimming of a text, and of its reading of a truth. -/
import Derived.Test.YtfmnlgepllgpnaaGreatDoorT2RefAssign
import Derived.Test.YtfmnlgepllgpnaaGreatDoorT2CastG
import Derived.Test.YtfmnlgepllgpnaaGreatDoorT2Set2
namespace Go.Proofs.YtfmnlgepllgpnaaGreatDoor
open Go.RowKit
set_option linter.unusedVariables false

theorem byte_eq32 {u : ByteArray} {n : Nat} (h : 0 < n) (hn : n ≤ u.size) (hc : ((u[n - 1].toNat : Int) == 32) = true) : trimL (u.data.toList.take n) = trimL (u.data.toList.take (n - 1)) := by
  have h1 : n - 1 < u.data.toList.length := by simp; omega
  have h2 := List.take_succ_eq_append_getElem h1
  rw [show n - 1 + 1 = n by omega] at h2
  have h3 : u.data.toList[n - 1] = 32 := by
    have : u[n - 1].toNat = 32 := by simp at hc; omega
    apply UInt8.toNat_inj.1; exact this
  rw [h2, h3, trimL_blank]
theorem byte_ne32 {u : ByteArray} {n : Nat} (h : 0 < n) (hn : n ≤ u.size) (hc : ((u[n - 1].toNat : Int) == 32) = false) : trimL (u.data.toList.take n) = u.data.toList.take n := by
  have h1 : n - 1 < u.data.toList.length := by simp; omega
  have h2 := List.take_succ_eq_append_getElem h1
  rw [show n - 1 + 1 = n by omega] at h2
  have h3 : (u.data.toList[n - 1] == 32) = false := by
    rw [beq_eq_false_iff_ne]
    intro e
    have : u[n - 1] = 32 := e
    rw [this] at hc; simp at hc
  rw [h2, trimL_other _ _ h3]
set_option maxHeartbeats 400000 in
theorem refWords_any (s : ByteArray) (w : World) (hs : s.size ≤ maxLen) :
    Calls Tryz.prog 59 #[.string s] w fun e w' => e = .returned (.string ⟨(trimL s.data.toList).toArray⟩) ∧ w' = w := by
  unfold maxLen at hs
  go_enter Tryz.func59, Tryz.ntmps59
  go_wp2
  go_loop [3] (fun t => ∃ n : Nat, n ≤ s.size ∧ t = .int .i64 n ∧ Hid (trimL (s.data.toList.take n) = trimL s.data.toList)) (fun t => (intOf t).toNat)
  case atStart => exact ⟨s.size, Nat.le_refl _, rfl, by rw [Hid, List.take_of_length_le (by simp)]⟩
  case round =>
    obtain ⟨n, hn, rfl, HT⟩ := hrel
    by_cases h0 : 0 < n
    · cases hc : ((s[n - 1].toNat : Int) == 32)
      · go_wp2
        go_ret
        exact ⟨ret_str (by rw [ext_list, ← byte_ne32 h0 hn hc]; exact HT.out), rfl⟩
      · go_wp2
        refine ⟨⟨n - 1, by omega, by go_num, (byte_eq32 h0 hn hc).symm.trans HT.out⟩, by simp [intOf]; omega⟩
    · go_wp2
      go_ret
      obtain rfl : n = 0 := by omega
      exact ⟨ret_str (by rw [ext_list, ← HT.out]; rfl), rfl⟩

theorem lenS (S : ByteArray) : S.data.toList.length = S.size := by simp
/-- Without the blanks at its beginning. -/
def leftL (l : List UInt8) : List UInt8 := l.dropWhile (· == 32)
theorem rest1 (U : ByteArray) (h : 0 < U.size) : U.data.toList = U[0] :: (U.extract 1 U.size).data.toList := by
  have h' : 0 < U.data.toList.length := by simpa using h
  have e : U.data.toList = U.data.toList[0] :: U.data.toList.drop 1 := by
    have := List.drop_eq_getElem_cons h'
    rw [List.drop_zero] at this
    exact this
  have h2 : (U.extract 1 U.size).data.toList = U.data.toList.drop 1 := by
    rw [Lib.extract_data]
    simp
    exact List.take_of_length_le (by simp)
  rw [h2]
  exact e
set_option maxHeartbeats 400000 in
theorem trimmed_any (s : ByteArray) (w : World) (hs : s.size ≤ maxLen) :
    Calls Tryz.prog 27 #[.string s] w fun e w' => e = .returned (.string ⟨(leftL (trimL s.data.toList)).toArray⟩) ∧ w' = w := by
  have hw : ∀ w : World, Calls Tryz.prog 59 #[.string s] w fun e w' => (∃ W : ByteArray, e = .returned (.string W) ∧ Hid (W.data.toList = trimL s.data.toList)) ∧ w' = w := fun w => by
    exact (refWords_any s w hs).mono fun e w' ⟨he, hw⟩ => ⟨⟨_, he, rfl⟩, hw⟩
  go_enter Tryz.func27, Tryz.ntmps27
  go_wp2_with fail
  refine (hw _).mono ?_
  rintro e w1 ⟨⟨W, rfl, HW⟩, rfl⟩
  go_wp2
  go_loop [0] (fun t => ∃ U : ByteArray, t = .string U ∧ Hid (leftL U.data.toList = leftL W.data.toList)) sizeV
  case atStart => exact ⟨W, rfl, rfl⟩
  case round =>
    obtain ⟨U, rfl, HU⟩ := hrel
    by_cases h0 : 0 < U.size
    · cases hc : ((U[0].toNat : Int) == 32)
      · go_wp2
        go_ret
        refine ⟨ret_str ?_, rfl⟩
        rw [← HW.out, ← HU.out]
        conv => rhs; rw [rest1 U h0]
        have : (U[0] == 32) = false := by
          rw [beq_eq_false_iff_ne]; intro e; rw [e] at hc; simp at hc
        unfold leftL
        rw [List.dropWhile_cons, this]
        exact rest1 U h0
      · have HU2 : Hid (leftL (U.extract 1 U.size).data.toList = leftL W.data.toList) := by
          show _ = _
          rw [← HU.out]
          conv => rhs; rw [rest1 U h0]
          have : (U[0] == 32) = true := by
            rw [beq_iff_eq]; apply UInt8.toNat_inj.1; simp at hc; show _ = 32; omega
          unfold leftL
          rw [List.dropWhile_cons, this]; rfl
        have hes : (U.extract 1 U.size).size = U.size - 1 := by
          have h1 := congrArg List.length (rest1 U h0)
          rw [List.length_cons, lenS, lenS] at h1
          omega
        clear HU
        go_wp2
        exact ⟨⟨_, rfl, HU2⟩, by rw [sizeV_str, sizeV_str, hes]; omega⟩
    · go_wp2
      go_ret
      refine ⟨ret_str ?_, rfl⟩
      have h1 : U.data.toList = [] := List.eq_nil_of_length_eq_zero (by rw [lenS]; omega)
      rw [← HW.out, ← HU.out, h1]; rfl
theorem trim_both (l : List UInt8) : leftL (trimL l) = Lib.trimB l 32 := by
  unfold leftL trimL Lib.trimB
  rfl
end Go.Proofs.YtfmnlgepllgpnaaGreatDoor

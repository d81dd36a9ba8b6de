/- The walks of the document's own answers for V1 (Words, three, Order, Test, Right) and of value.Right. -/
import Derived.Test.YticlmegcpneckaaDoorSigns
namespace Go.Proofs.YticlmegcpneckaaDoor
open Go.RowKit
set_option linter.unusedVariables false

theorem byte_eq32 {u : ByteArray} {n : Nat} (h : 0 < n) (hn : n ≤ u.size) (hc : ((u[n - 1].toNat : Int) == 32) = true) : trimL (u.data.toList.take n) = trimL (u.data.toList.take (n - 1)) := by
  have h1 : n - 1 < u.data.toList.length := by simp; omega
  have h2 := List.take_succ_eq_append_getElem h1
  rw [show n - 1 + 1 = n by omega] at h2
  have h3 : u.data.toList[n - 1] = 32 := by
    have : u[n - 1].toNat = 32 := by simp at hc; omega
    apply UInt8.toNat_inj.1; exact this
  rw [h2, h3, trimL_blank]
theorem byte_ne32 {u : ByteArray} {n : Nat} (h : 0 < n) (hn : n ≤ u.size) (hc : ((u[n - 1].toNat : Int) == 32) = false) : trimL (u.data.toList.take n) = u.data.toList.take n := by
  have h1 : n - 1 < u.data.toList.length := by simp; omega
  have h2 := List.take_succ_eq_append_getElem h1
  rw [show n - 1 + 1 = n by omega] at h2
  have h3 : (u.data.toList[n - 1] == 32) = false := by
    rw [beq_eq_false_iff_ne]
    intro e
    have : u[n - 1] = 32 := e
    rw [this] at hc; simp at hc
  rw [h2, trimL_other _ _ h3]

set_option maxHeartbeats 400000 in
theorem refWords_any (s : ByteArray) (w : World) (hs : s.size ≤ maxLen) :
    Calls Tryd.prog 51 #[.string s] w fun e w' => e = .returned (.string ⟨(trimL s.data.toList).toArray⟩) ∧ w' = w := by
  unfold maxLen at hs
  go_enter Tryd.func51, Tryd.ntmps51
  go_wp2
  go_loop [3] (fun t => ∃ n : Nat, n ≤ s.size ∧ t = .int .i64 n ∧ Hid (trimL (s.data.toList.take n) = trimL s.data.toList)) (fun t => (intOf t).toNat)
  case atStart => exact ⟨s.size, Nat.le_refl _, rfl, by rw [Hid, List.take_of_length_le (by simp)]⟩
  case round =>
    obtain ⟨n, hn, rfl, HT⟩ := hrel
    by_cases h0 : 0 < n
    · cases hc : ((s[n - 1].toNat : Int) == 32)
      · go_wp2
        go_ret
        exact ⟨ret_str (by rw [ext_list, ← byte_ne32 h0 hn hc]; exact HT.out), rfl⟩
      · go_wp2
        refine ⟨⟨n - 1, by omega, by go_num, (byte_eq32 h0 hn hc).symm.trans HT.out⟩, by simp [intOf]; omega⟩
    · go_wp2
      go_ret
      obtain rfl : n = 0 := by omega
      exact ⟨ret_str (by rw [ext_list, ← HT.out]; rfl), rfl⟩

def threeI (a b : Bool) : Int := if a then -1 else if b then 0 else 1
set_option maxHeartbeats 400000 in
theorem three_any (a b : Bool) (w : World) :
    Calls Tryd.prog 50 #[.bool a, .bool b] w fun e w' => e = .returned (.int .i64 (threeI a b)) ∧ w' = w := by
  cases a <;> cases b
  all_goals
    go_enter Tryd.func50, Tryd.ntmps50
    go_wp2
    go_ret
    exact ⟨rfl, rfl⟩

theorem three_ne {a b : Int} (h : (a != b) = true) : threeI (decide (a < b)) false = cmpI a b := by
  have h2 : a ≠ b := by simpa using h
  unfold threeI cmpI
  by_cases h3 : a < b
  · simp [h3]
  · simp [h3, show b < a by omega]
theorem three_int (a b : Int) : threeI (decide (a < b)) (a == b) = cmpI a b := by
  unfold threeI cmpI
  by_cases h3 : a < b
  · simp [h3]
  · by_cases h4 : a = b
    · simp [h4]
    · simp [h3, h4, show b < a by omega]
set_option maxHeartbeats 400000 in
theorem refOrder_kind (k1 n1 k2 n2 : Int) (s1 s2 : ByteArray) (b1 b2 : Bool) (w : World) (h : (k1 != k2) = true) :
    Calls Tryd.prog 16 #[val k1 n1 s1 b1, val k2 n2 s2 b2] w fun e w' => e = .returned (.int .i64 (cmpI k1 k2)) ∧ Below w.heap.size w w' := by
  go_enter Tryd.func16, Tryd.ntmps16
  go_wp2_with (go_at_call 50; refine (three_any _ _ _).mono ?_; rintro e w' ⟨rfl, rfl⟩)
  go_ret
  exact ⟨ret_int (three_ne h), (by repeat (first | exact Below.refl _ _ | assumption | refine Below.alloc ?_ (by first | (simp; done) | (simp; omega)) _ | refine Below.setCell ?_ (by first | (simp; done) | (simp; omega)) _ | refine Below.drew ?_ | refine below_drewN ?_ _))⟩

set_option maxHeartbeats 400000 in
theorem refOrder_num (n1 n2 : Int) (s1 s2 : ByteArray) (b1 b2 : Bool) (w : World) :
    Calls Tryd.prog 16 #[val 1 n1 s1 b1, val 1 n2 s2 b2] w fun e w' => e = .returned (.int .i64 (cmpI n1 n2)) ∧ Below w.heap.size w w' := by
  go_enter Tryd.func16, Tryd.ntmps16
  go_wp2_with (go_at_call 50; refine (three_any _ _ _).mono ?_; rintro e w' ⟨rfl, rfl⟩)
  go_ret
  exact ⟨ret_int (three_int n1 n2), (by repeat (first | exact Below.refl _ _ | assumption | refine Below.alloc ?_ (by first | (simp; done) | (simp; omega)) _ | refine Below.setCell ?_ (by first | (simp; done) | (simp; omega)) _ | refine Below.drew ?_ | refine below_drewN ?_ _))⟩

set_option maxHeartbeats 400000 in
theorem refOrder_null (n1 n2 : Int) (s1 s2 : ByteArray) (b1 b2 : Bool) (w : World) :
    Calls Tryd.prog 16 #[val 0 n1 s1 b1, val 0 n2 s2 b2] w fun e w' => e = .returned (.int .i64 0) ∧ Below w.heap.size w w' := by
  go_enter Tryd.func16, Tryd.ntmps16
  go_wp2
  go_ret
  exact ⟨rfl, (by repeat (first | exact Below.refl _ _ | assumption | refine Below.alloc ?_ (by first | (simp; done) | (simp; omega)) _ | refine Below.setCell ?_ (by first | (simp; done) | (simp; omega)) _ | refine Below.drew ?_ | refine below_drewN ?_ _))⟩

set_option maxHeartbeats 400000 in
theorem refOrder_bool (n1 n2 : Int) (s1 s2 : ByteArray) (b1 b2 : Bool) (w : World) :
    Calls Tryd.prog 16 #[val 3 n1 s1 b1, val 3 n2 s2 b2] w fun e w' => e = .returned (.int .i64 (ordB b1 b2)) ∧ Below w.heap.size w w' := by
  cases b1 <;> cases b2
  all_goals
    go_enter Tryd.func16, Tryd.ntmps16
    go_wp2_with (go_at_call 50; refine (three_any _ _ _).mono ?_; rintro e w' ⟨rfl, rfl⟩)
    go_ret
    exact ⟨rfl, (by repeat (first | exact Below.refl _ _ | assumption | refine Below.alloc ?_ (by first | (simp; done) | (simp; omega)) _ | refine Below.setCell ?_ (by first | (simp; done) | (simp; omega)) _ | refine Below.drew ?_ | refine below_drewN ?_ _))⟩

theorem cmpB_three (a b : List UInt8) : threeI (Op.bytesLess a b) (a == b) = cmpB a b := by
  unfold cmpB threeI
  cases h1 : Op.bytesLess a b <;> cases h2 : (a == b) <;> simp
set_option maxHeartbeats 400000 in
theorem refOrder_text (n1 n2 : Int) (s1 s2 : ByteArray) (b1 b2 : Bool) (w : World) (h1 : s1.size ≤ maxLen) (h2 : s2.size ≤ maxLen) :
    Calls Tryd.prog 16 #[val 2 n1 s1 b1, val 2 n2 s2 b2] w fun e w' => e = .returned (.int .i64 (cmpB (trimL s1.data.toList) (trimL s2.data.toList))) ∧ Below w.heap.size w w' := by
  go_enter Tryd.func16, Tryd.ntmps16
  go_wp2_with (first
    | (go_at_call 50; refine (three_any _ _ _).mono ?_; rintro e w' ⟨rfl, rfl⟩)
    | (go_at_call_of 51 (Value.string s1); refine (refWords_any _ _ h1).mono ?_; rintro e w' ⟨rfl, rfl⟩)
    | (go_at_call 51; refine (refWords_any _ _ h2).mono ?_; rintro e w' ⟨rfl, rfl⟩))
  go_ret
  exact ⟨ret_int (cmpB_three _ _), (by repeat (first | exact Below.refl _ _ | assumption | refine Below.alloc ?_ (by first | (simp; done) | (simp; omega)) _ | refine Below.setCell ?_ (by first | (simp; done) | (simp; omega)) _ | refine Below.drew ?_ | refine below_drewN ?_ _))⟩

theorem refOrder_any (K1 N1 : Int) (S1 : ByteArray) (B1 : Bool) (K2 N2 : Int) (S2 : ByteArray) (B2 : Bool) (w : World) (hk : K1 = 0 ∨ K1 = 1 ∨ K1 = 2 ∨ K1 = 3) (h1 : S1.size ≤ maxLen) (h2 : S2.size ≤ maxLen) :
    Calls Tryd.prog 16 #[val K1 N1 S1 B1, val K2 N2 S2 B2] w fun e w' => e = .returned (.int .i64 (ordV (K1, N1, S1.data.toList, B1) (K2, N2, S2.data.toList, B2))) ∧ Below w.heap.size w w' := by
  by_cases hK : K1 = K2
  · subst hK
    rcases hk with rfl | rfl | rfl | rfl
    · exact refOrder_null N1 N2 S1 S2 B1 B2 w
    · exact refOrder_num N1 N2 S1 S2 B1 B2 w
    · exact refOrder_text N1 N2 S1 S2 B1 B2 w h1 h2
    · exact refOrder_bool N1 N2 S1 S2 B1 B2 w
  · have h := refOrder_kind K1 N1 K2 N2 S1 S2 B1 B2 w (by simpa using hK)
    refine h.mono fun e w' ⟨he, hb⟩ => ⟨?_, hb⟩
    rw [he]
    exact ret_int (by simp [ordV, hK])
end Go.Proofs.YticlmegcpneckaaDoor

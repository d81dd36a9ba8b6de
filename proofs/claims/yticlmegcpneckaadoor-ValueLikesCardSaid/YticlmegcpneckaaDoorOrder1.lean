/- The walks of strings.TrimRight at the one blank, of value.words, cmp.Compare and value.Order. -/
import Derived.Test.YticlmegcpneckaaDoorBoth
import Derived.WalkKit
import Derived.WalkSpells
import Derived.WalkLawsBesides
import Derived.Lib.Strings
namespace Go.Proofs.YticlmegcpneckaaDoor
open Go.RowKit
set_option linter.unusedVariables false

/-- A list of bytes without the blanks at its end. -/
def trimL (l : List UInt8) : List UInt8 := (l.reverse.dropWhile (· == 32)).reverse
theorem trimL_blank (l : List UInt8) : trimL (l ++ [32]) = trimL l := by simp [trimL]
theorem trimL_other (l : List UInt8) (c : UInt8) (h : (c == 32) = false) : trimL (l ++ [c]) = l ++ [c] := by simp [trimL, h]

theorem ext_list (u : ByteArray) (n : Nat) : (u.extract 0 n).data.toList = u.data.toList.take n := by
  rw [Lib.extract_data]; simp
theorem split_last (u : ByteArray) (h : 0 < u.size) : u.data.toList = u.data.toList.take (u.size - 1) ++ [u[u.size - 1]] := by
  have h1 : u.size - 1 < u.data.toList.length := by simp; omega
  have h2 := List.take_succ_eq_append_getElem h1
  have h3 : u.size - 1 + 1 = u.data.toList.length := by simp; omega
  rw [h3, List.take_length] at h2
  exact h2
theorem trim_cut (u : ByteArray) (h : 0 < u.size) (hc : (u[u.size - 1].toNat : Int) = 32) : trimL (u.extract 0 (u.size - 1)).data.toList = trimL u.data.toList := by
  have h1 := split_last u h
  have h2 : u[u.size - 1] = 32 := by
    apply UInt8.toNat_inj.1; show _ = 32; omega
  rw [ext_list]
  conv => rhs; rw [h1, h2]
  rw [trimL_blank]
theorem trim_stay (u : ByteArray) (h : 0 < u.size) (hc : ¬ (u[u.size - 1].toNat : Int) = 32) : trimL u.data.toList = u.data.toList := by
  have h1 := split_last u h
  have h2 : (u[u.size - 1] == 32) = false := by
    rw [beq_eq_false_iff_ne]
    intro e; apply hc; rw [e]; rfl
  conv => lhs; rw [h1]
  rw [trimL_other _ _ h2, ← h1]
theorem trim_none (u : ByteArray) (h : ¬ 0 < u.size) : trimL u.data.toList = u.data.toList := by
  have h1 : u.data.toList = [] := List.eq_nil_of_length_eq_zero (by have : u.data.toList.length = u.size := by simp
                                                                    omega)
  rw [h1]; rfl
theorem ret_str {u : ByteArray} {l : List UInt8} (h : u.data.toList = l) : Ending.returned (.string u) = .returned (.string ⟨l.toArray⟩) := by
  subst h; rfl
def sizeV (t : Value) : Nat := match t with | .string u => u.size | _ => 0
theorem sizeV_str (u : ByteArray) : sizeV (.string u) = u.size := rfl

set_option maxHeartbeats 400000 in
theorem trimByte_any (s : ByteArray) (w : World) (hs : s.size ≤ maxLen) :
    Calls Tryd.prog 70 #[.string s, .int .u8 32] w fun e w' => e = .returned (.string ⟨(trimL s.data.toList).toArray⟩) ∧ w' = w := by
  unfold maxLen at hs
  go_enter Tryd.func70, Tryd.ntmps70
  go_wp2
  go_loop [0] (fun t => ∃ u : ByteArray, u.size ≤ s.size ∧ t = .string u ∧ trimL u.data.toList = trimL s.data.toList) sizeV
  case atStart => exact ⟨s, Nat.le_refl _, rfl, rfl⟩
  case round =>
    obtain ⟨u, hk, rfl, hT⟩ := hrel
    have HT : Hid (trimL u.data.toList = trimL s.data.toList) := hT
    clear hT
    by_cases h0 : 0 < u.size
    · go_wp2
      · rename_i hc
        refine ⟨⟨u.extract 0 (u.size - 1), by simp; omega, rfl, (trim_cut u h0 (by simpa using hc)).trans HT.out⟩, by rw [sizeV_str, sizeV_str]; simp; omega⟩
      · rename_i hc
        go_ret
        exact ⟨ret_str ((trim_stay u h0 (by simpa using hc)).symm.trans HT.out), rfl⟩
    · go_wp2
      go_ret
      exact ⟨ret_str ((trim_none u h0).symm.trans HT.out), rfl⟩

set_option maxRecDepth 100000 in
set_option maxHeartbeats 400000 in
theorem trimRight_any (s : ByteArray) (w : World) (hs : s.size ≤ maxLen) :
    Calls Tryd.prog 68 #[.string s, .string ⟨#[32]⟩] w fun e w' => e = .returned (.string ⟨(trimL s.data.toList).toArray⟩) ∧ w' = w := by
  have e32 : (({ data := #[32] } : ByteArray)[0].toNat : Int) = 32 := rfl
  cases h : s.toList.isEmpty
  · go_enter Tryd.func68, Tryd.ntmps68
    go_wp2_with (go_at_call 70; refine (trimByte_any _ _ hs).mono ?_; rintro e w' ⟨rfl, rfl⟩)
    go_ret
    exact ⟨rfl, rfl⟩
  · have h2 : s.data.toList = [] := by have := List.isEmpty_iff.1 h; rwa [Lib.toList_data] at this
    go_enter Tryd.func68, Tryd.ntmps68
    go_wp2_with fail
    go_ret
    exact ⟨ret_str (by rw [h2]; rfl), rfl⟩

set_option maxHeartbeats 400000 in
theorem words_any (s : ByteArray) (w : World) (hs : s.size ≤ maxLen) :
    Calls Tryd.prog 48 #[.string s] w fun e w' => e = .returned (.string ⟨(trimL s.data.toList).toArray⟩) ∧ w' = w := by
  go_enter Tryd.func48, Tryd.ntmps48
  go_wp2_with (go_at_call 68; refine (trimRight_any _ _ hs).mono ?_; rintro e w' ⟨rfl, rfl⟩)
  go_ret
  exact ⟨rfl, rfl⟩

def cmpI (a b : Int) : Int := if a < b then -1 else if a > b then 1 else 0
set_option maxHeartbeats 400000 in
theorem cmpK_any (a b : Int) (w : World) :
    Calls Tryd.prog 45 #[.int .i64 a, .int .i64 b] w fun e w' => e = .returned (.int .i64 (cmpI a b)) ∧ w' = w := by
  go_enter Tryd.func45, Tryd.ntmps45
  go_wp2
  all_goals
    go_ret
    exact ⟨ret_int (by unfold cmpI; (repeat' split) <;> omega), rfl⟩
set_option maxHeartbeats 400000 in
theorem cmpN_any (a b : Int) (w : World) :
    Calls Tryd.prog 46 #[.int .i64 a, .int .i64 b] w fun e w' => e = .returned (.int .i64 (cmpI a b)) ∧ w' = w := by
  go_enter Tryd.func46, Tryd.ntmps46
  go_wp2
  all_goals
    go_ret
    exact ⟨ret_int (by unfold cmpI; (repeat' split) <;> omega), rfl⟩
def cmpB (a b : List UInt8) : Int := if Op.bytesLess a b then -1 else if (!Op.bytesLess a b && !(a == b)) then 1 else 0
set_option maxHeartbeats 400000 in
theorem cmpS_any (a b : ByteArray) (w : World) :
    Calls Tryd.prog 47 #[.string a, .string b] w fun e w' => e = .returned (.int .i64 (cmpB a.toList b.toList)) ∧ w' = w := by
  cases h1 : Op.bytesLess a.toList b.toList
  · cases h2 : (a.toList == b.toList)
    · have h3 : (!a.toList == b.toList) = true := by rw [h2]; rfl
      go_enter Tryd.func47, Tryd.ntmps47
      go_wp2
      go_ret
      exact ⟨ret_int (by simp [cmpB, h1, h2]), rfl⟩
    · have h3 : (!a.toList == b.toList) = false := by rw [h2]; rfl
      go_enter Tryd.func47, Tryd.ntmps47
      go_wp2
      go_ret
      exact ⟨ret_int (by simp [cmpB, h1, h2]), rfl⟩
  · go_enter Tryd.func47, Tryd.ntmps47
    go_wp2
    go_ret
    exact ⟨ret_int (by simp [cmpB, h1]), rfl⟩
end Go.Proofs.YticlmegcpneckaaDoor

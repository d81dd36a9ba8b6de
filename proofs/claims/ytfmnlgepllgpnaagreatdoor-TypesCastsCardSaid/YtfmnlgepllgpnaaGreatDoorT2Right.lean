/- The walks of Right, KindOf, bits and fits, each for every type. -/
import Derived.Test.YtfmnlgepllgpnaaGreatDoorT2Math
import Derived.Test.YtfmnlgepllgpnaaGreatDoorShelf
namespace Go.Proofs.YtfmnlgepllgpnaaGreatDoor
open Go.RowKit
set_option linter.unusedVariables false

theorem ret_bool {a b : Bool} (h : a = b) : Ending.returned (.bool a) = .returned (.bool b) := by rw [h]
theorem base_cases (b : Int) : b = 1 ∨ b = 2 ∨ b = 3 ∨ b = 4 ∨ b = 5 ∨ b = 6 ∨ ((b == 1) = false ∧ (b == 2) = false ∧ (b == 3) = false ∧ (b == 4) = false ∧ (b == 5) = false ∧ (b == 6) = false) := by
  simp only [beq_eq_false_iff_ne, ne_eq]
  omega
theorem rightT_other {b l : Int} (h : (b == 1) = false ∧ (b == 2) = false ∧ (b == 3) = false ∧ (b == 4) = false ∧ (b == 5) = false ∧ (b == 6) = false) : rightT b l = false := by
  simp [rightT, h]

set_option maxHeartbeats 1000000 in
theorem tright_any (b l : Int) (w : World) :
    Calls Tryz.prog 8 #[typ b l] w fun e w' => e = .returned (.bool (rightT b l)) ∧ Below w.heap.size w w' := by
  rcases base_cases b with rfl | rfl | rfl | rfl | rfl | rfl | h
  case inr.inr.inr.inr.inr.inr =>
    obtain ⟨h1, h2, h3, h4, h5, h6⟩ := h
    go_enter Tryz.func8, Tryz.ntmps8
    go_wp2
    go_ret
    exact ⟨ret_bool (rightT_other ⟨h1, h2, h3, h4, h5, h6⟩).symm, (by repeat (first | exact Below.refl _ _ | assumption | refine Below.alloc ?_ (by first | (simp; done) | (simp; omega)) _ | refine Below.setCell ?_ (by first | (simp; done) | (simp; omega)) _ | refine Below.drew ?_ | refine below_drewN ?_ _))⟩
  all_goals
    by_cases g1 : 1 ≤ l
    · by_cases g2 : l ≤ 100
      · go_enter Tryz.func8, Tryz.ntmps8
        go_wp2
        go_ret
        exact ⟨ret_bool (by simp [rightT, g1, g2]), (by repeat (first | exact Below.refl _ _ | assumption | refine Below.alloc ?_ (by first | (simp; done) | (simp; omega)) _ | refine Below.setCell ?_ (by first | (simp; done) | (simp; omega)) _ | refine Below.drew ?_ | refine below_drewN ?_ _))⟩
      · go_enter Tryz.func8, Tryz.ntmps8
        go_wp2
        go_ret
        exact ⟨ret_bool (by simp [rightT, g1, g2]), (by repeat (first | exact Below.refl _ _ | assumption | refine Below.alloc ?_ (by first | (simp; done) | (simp; omega)) _ | refine Below.setCell ?_ (by first | (simp; done) | (simp; omega)) _ | refine Below.drew ?_ | refine below_drewN ?_ _))⟩
    · go_enter Tryz.func8, Tryz.ntmps8
      go_wp2
      go_ret
      exact ⟨ret_bool (by simp [rightT] <;> omega), (by repeat (first | exact Below.refl _ _ | assumption | refine Below.alloc ?_ (by first | (simp; done) | (simp; omega)) _ | refine Below.setCell ?_ (by first | (simp; done) | (simp; omega)) _ | refine Below.drew ?_ | refine below_drewN ?_ _))⟩

set_option maxHeartbeats 1000000 in
theorem tkind_any (b l : Int) (w : World) :
    Calls Tryz.prog 9 #[typ b l] w fun e w' => e = .returned (.int .i64 (kindT b l)) ∧ Below w.heap.size w w' := by
  cases hr : rightT b l
  · go_enter Tryz.func9, Tryz.ntmps9
    go_wp2_with (go_at_call 8; refine (tright_any b l _).mono ?_; rw [hr]; rintro e w1 ⟨rfl, hb⟩; obtain ⟨hcl, hfr⟩ := bcell hb)
    go_ret
    exact ⟨ret_int (by simp [kindT, hr]), (by repeat (first | exact Below.refl _ _ | assumption | refine Below.alloc ?_ (by first | (simp; done) | (simp; omega)) _ | refine Below.setCell ?_ (by first | (simp; done) | (simp; omega)) _ | refine Below.drew ?_ | refine below_drewN ?_ _ | refine Below.trans ?_ (hb.mono (by first | (simp; done) | (simp; omega)))))⟩
  · rcases base_cases b with rfl | rfl | rfl | rfl | rfl | rfl | h
    case inr.inr.inr.inr.inr.inr => rw [rightT_other h] at hr; cases hr
    all_goals
      have Hr : Hid _ := hr
      clear hr
      go_enter Tryz.func9, Tryz.ntmps9
      go_wp2_with (go_at_call 8; refine (tright_any _ l _).mono ?_; rw [Hr.out]; rintro e w1 ⟨rfl, hb⟩; obtain ⟨hcl, hfr⟩ := bcell hb)
      go_ret
      exact ⟨ret_int (by simp [kindT, Hr.out]), (by repeat (first | exact Below.refl _ _ | assumption | refine Below.alloc ?_ (by first | (simp; done) | (simp; omega)) _ | refine Below.setCell ?_ (by first | (simp; done) | (simp; omega)) _ | refine Below.drew ?_ | refine below_drewN ?_ _ | refine Below.trans ?_ (hb.mono (by first | (simp; done) | (simp; omega)))))⟩
set_option maxHeartbeats 1000000 in
theorem rright_any (b l : Int) (w : World) :
    Calls Tryz.prog 53 #[typ b l] w fun e w' => e = .returned (.bool (rightT b l)) ∧ Below w.heap.size w w' := by
  rcases base_cases b with rfl | rfl | rfl | rfl | rfl | rfl | h
  case inr.inr.inr.inr.inr.inr =>
    obtain ⟨h1, h2, h3, h4, h5, h6⟩ := h
    go_enter Tryz.func53, Tryz.ntmps53
    go_wp2
    go_ret
    exact ⟨ret_bool (rightT_other ⟨h1, h2, h3, h4, h5, h6⟩).symm, (by repeat (first | exact Below.refl _ _ | assumption | refine Below.alloc ?_ (by first | (simp; done) | (simp; omega)) _ | refine Below.setCell ?_ (by first | (simp; done) | (simp; omega)) _ | refine Below.drew ?_ | refine below_drewN ?_ _))⟩
  all_goals
    by_cases g1 : 1 ≤ l
    · by_cases g2 : l ≤ 100
      · go_enter Tryz.func53, Tryz.ntmps53
        go_wp2
        go_ret
        exact ⟨ret_bool (by simp [rightT, g1, g2]), (by repeat (first | exact Below.refl _ _ | assumption | refine Below.alloc ?_ (by first | (simp; done) | (simp; omega)) _ | refine Below.setCell ?_ (by first | (simp; done) | (simp; omega)) _ | refine Below.drew ?_ | refine below_drewN ?_ _))⟩
      · go_enter Tryz.func53, Tryz.ntmps53
        go_wp2
        go_ret
        exact ⟨ret_bool (by simp [rightT, g1, g2]), (by repeat (first | exact Below.refl _ _ | assumption | refine Below.alloc ?_ (by first | (simp; done) | (simp; omega)) _ | refine Below.setCell ?_ (by first | (simp; done) | (simp; omega)) _ | refine Below.drew ?_ | refine below_drewN ?_ _))⟩
    · go_enter Tryz.func53, Tryz.ntmps53
      go_wp2
      go_ret
      exact ⟨ret_bool (by simp [rightT] <;> omega), (by repeat (first | exact Below.refl _ _ | assumption | refine Below.alloc ?_ (by first | (simp; done) | (simp; omega)) _ | refine Below.setCell ?_ (by first | (simp; done) | (simp; omega)) _ | refine Below.drew ?_ | refine below_drewN ?_ _))⟩

set_option maxHeartbeats 1000000 in
theorem rkind_any (b l : Int) (w : World) :
    Calls Tryz.prog 22 #[typ b l] w fun e w' => e = .returned (.int .i64 (kindT b l)) ∧ Below w.heap.size w w' := by
  cases hr : rightT b l
  · go_enter Tryz.func22, Tryz.ntmps22
    go_wp2_with (go_at_call 53; refine (rright_any b l _).mono ?_; rw [hr]; rintro e w1 ⟨rfl, hb⟩; obtain ⟨hcl, hfr⟩ := bcell hb)
    go_ret
    exact ⟨ret_int (by simp [kindT, hr]), (by repeat (first | exact Below.refl _ _ | assumption | refine Below.alloc ?_ (by first | (simp; done) | (simp; omega)) _ | refine Below.setCell ?_ (by first | (simp; done) | (simp; omega)) _ | refine Below.drew ?_ | refine below_drewN ?_ _ | refine Below.trans ?_ (hb.mono (by first | (simp; done) | (simp; omega)))))⟩
  · rcases base_cases b with rfl | rfl | rfl | rfl | rfl | rfl | h
    case inr.inr.inr.inr.inr.inr => rw [rightT_other h] at hr; cases hr
    all_goals
      have Hr : Hid _ := hr
      clear hr
      go_enter Tryz.func22, Tryz.ntmps22
      go_wp2_with (go_at_call 53; refine (rright_any _ l _).mono ?_; rw [Hr.out]; rintro e w1 ⟨rfl, hb⟩; obtain ⟨hcl, hfr⟩ := bcell hb)
      go_ret
      exact ⟨ret_int (by simp [kindT, Hr.out]), (by repeat (first | exact Below.refl _ _ | assumption | refine Below.alloc ?_ (by first | (simp; done) | (simp; omega)) _ | refine Below.setCell ?_ (by first | (simp; done) | (simp; omega)) _ | refine Below.drew ?_ | refine below_drewN ?_ _ | refine Below.trans ?_ (hb.mono (by first | (simp; done) | (simp; omega)))))⟩

set_option maxHeartbeats 1000000 in
theorem rfits_any (n b l : Int) (w : World) :
    Calls Tryz.prog 54 #[.int .i64 n, typ b l] w fun e w' => e = .returned (.bool (fitsT n b)) ∧ Below w.heap.size w w' := by
  by_cases h1 : b = 1
  · subst h1
    by_cases g1 : -32768 ≤ n
    · by_cases g2 : n < 32768
      all_goals
        go_enter Tryz.func54, Tryz.ntmps54
        go_wp2
        go_ret
        exact ⟨ret_bool (by simp [fitsT] <;> omega), (by repeat (first | exact Below.refl _ _ | assumption | refine Below.alloc ?_ (by first | (simp; done) | (simp; omega)) _ | refine Below.setCell ?_ (by first | (simp; done) | (simp; omega)) _ | refine Below.drew ?_ | refine below_drewN ?_ _))⟩
    · go_enter Tryz.func54, Tryz.ntmps54
      go_wp2
      go_ret
      exact ⟨ret_bool (by simp [fitsT] <;> omega), (by repeat (first | exact Below.refl _ _ | assumption | refine Below.alloc ?_ (by first | (simp; done) | (simp; omega)) _ | refine Below.setCell ?_ (by first | (simp; done) | (simp; omega)) _ | refine Below.drew ?_ | refine below_drewN ?_ _))⟩
  · by_cases h2 : b = 2
    · subst h2
      by_cases g1 : -2147483648 ≤ n
      · by_cases g2 : n < 2147483648
        all_goals
          go_enter Tryz.func54, Tryz.ntmps54
          go_wp2
          go_ret
          exact ⟨ret_bool (by simp [fitsT] <;> omega), (by repeat (first | exact Below.refl _ _ | assumption | refine Below.alloc ?_ (by first | (simp; done) | (simp; omega)) _ | refine Below.setCell ?_ (by first | (simp; done) | (simp; omega)) _ | refine Below.drew ?_ | refine below_drewN ?_ _))⟩
      · go_enter Tryz.func54, Tryz.ntmps54
        go_wp2
        go_ret
        exact ⟨ret_bool (by simp [fitsT] <;> omega), (by repeat (first | exact Below.refl _ _ | assumption | refine Below.alloc ?_ (by first | (simp; done) | (simp; omega)) _ | refine Below.setCell ?_ (by first | (simp; done) | (simp; omega)) _ | refine Below.drew ?_ | refine below_drewN ?_ _))⟩
    · have e1 : (b == 1) = false := by simp [h1]
      have e2 : (b == 2) = false := by simp [h2]
      go_enter Tryz.func54, Tryz.ntmps54
      go_wp2
      go_ret
      exact ⟨ret_bool (by simp [fitsT, h1, h2]), (by repeat (first | exact Below.refl _ _ | assumption | refine Below.alloc ?_ (by first | (simp; done) | (simp; omega)) _ | refine Below.setCell ?_ (by first | (simp; done) | (simp; omega)) _ | refine Below.drew ?_ | refine below_drewN ?_ _))⟩

def bitsT (b : Int) : Int := if b == 1 then 16 else if b == 2 then 32 else 64
set_option maxHeartbeats 1000000 in
theorem tbits_any (b l : Int) (w : World) :
    Calls Tryz.prog 41 #[typ b l] w fun e w' => e = .returned (.int .i64 (bitsT b)) ∧ Below w.heap.size w w' := by
  cases h1 : (b == 1)
  · cases h2 : (b == 2)
    · go_enter Tryz.func41, Tryz.ntmps41
      go_wp2
      go_ret
      exact ⟨ret_int (by simp [bitsT, h1, h2]), (by repeat (first | exact Below.refl _ _ | assumption | refine Below.alloc ?_ (by first | (simp; done) | (simp; omega)) _ | refine Below.setCell ?_ (by first | (simp; done) | (simp; omega)) _ | refine Below.drew ?_ | refine below_drewN ?_ _))⟩
    · go_enter Tryz.func41, Tryz.ntmps41
      go_wp2
      go_ret
      exact ⟨ret_int (by simp [bitsT, h1, h2]), (by repeat (first | exact Below.refl _ _ | assumption | refine Below.alloc ?_ (by first | (simp; done) | (simp; omega)) _ | refine Below.setCell ?_ (by first | (simp; done) | (simp; omega)) _ | refine Below.drew ?_ | refine below_drewN ?_ _))⟩
  · go_enter Tryz.func41, Tryz.ntmps41
    go_wp2
    go_ret
    exact ⟨ret_int (by simp [bitsT, h1]), (by repeat (first | exact Below.refl _ _ | assumption | refine Below.alloc ?_ (by first | (simp; done) | (simp; omega)) _ | refine Below.setCell ?_ (by first | (simp; done) | (simp; omega)) _ | refine Below.drew ?_ | refine below_drewN ?_ _))⟩
set_option maxHeartbeats 1000000 in
theorem tnum16_p (n l : Int) (w : World) (hn : -9223372036854775808 ≤ n ∧ n ≤ 9223372036854775807) (hc : 0 ≤ n ∧ n < 32768) :
    Calls Tryz.prog 51 #[.int .i64 n, typ 1 l] w fun e w' => e = .returned (.tuple #[val 1 n ⟨#[]⟩ false, .string sDone]) ∧ Below w.heap.size w w' := by
  have hq : n / 32768 = 0 := by omega
  clear hc hn
  go_enter Tryz.func51, Tryz.ntmps51
  go_wp2_with (go_at_call 41; refine (tbits_any 1 l _).mono ?_; rw [show bitsT 1 = 16 from rfl]; rintro e w1 ⟨rfl, hb⟩; obtain ⟨hcl, hfr⟩ := bcell hb)
  exact bodyPost_ret (v := .tuple #[val 1 n ⟨#[]⟩ false, .string sDone]) (by simp [results, Tryz.results51, go_sem, hcl]) rfl ⟨rfl, (by repeat (first | exact Below.refl _ _ | assumption | refine Below.alloc ?_ (by first | (simp; done) | (simp; omega)) _ | refine Below.setCell ?_ (by first | (simp; done) | (simp; omega)) _ | refine Below.drew ?_ | refine below_drewN ?_ _ | refine Below.trans ?_ (hb.mono (by first | (simp; done) | (simp; omega)))))⟩
set_option maxHeartbeats 1000000 in
theorem tnum16_m (n l : Int) (w : World) (hn : -9223372036854775808 ≤ n ∧ n ≤ 9223372036854775807) (hc : -32768 ≤ n ∧ n < 0) :
    Calls Tryz.prog 51 #[.int .i64 n, typ 1 l] w fun e w' => e = .returned (.tuple #[val 1 n ⟨#[]⟩ false, .string sDone]) ∧ Below w.heap.size w w' := by
  have hq : n / 32768 = -1 := by omega
  clear hc hn
  go_enter Tryz.func51, Tryz.ntmps51
  go_wp2_with (go_at_call 41; refine (tbits_any 1 l _).mono ?_; rw [show bitsT 1 = 16 from rfl]; rintro e w1 ⟨rfl, hb⟩; obtain ⟨hcl, hfr⟩ := bcell hb)
  exact bodyPost_ret (v := .tuple #[val 1 n ⟨#[]⟩ false, .string sDone]) (by simp [results, Tryz.results51, go_sem, hcl]) rfl ⟨rfl, (by repeat (first | exact Below.refl _ _ | assumption | refine Below.alloc ?_ (by first | (simp; done) | (simp; omega)) _ | refine Below.setCell ?_ (by first | (simp; done) | (simp; omega)) _ | refine Below.drew ?_ | refine below_drewN ?_ _ | refine Below.trans ?_ (hb.mono (by first | (simp; done) | (simp; omega)))))⟩
set_option maxHeartbeats 1000000 in
theorem tnum16_o (n l : Int) (w : World) (hn : -9223372036854775808 ≤ n ∧ n ≤ 9223372036854775807) (hc : n < -32768 ∨ 32768 ≤ n) :
    Calls Tryz.prog 51 #[.int .i64 n, typ 1 l] w fun e w' => e = .returned (.tuple #[nullV, .string sOut]) ∧ Below w.heap.size w w' := by
  have hq : (n / 32768 == 0) = false := by simp; omega
  have hr : (n / 32768 == -1) = false := by simp; omega
  have hq2 : (n / 32768 != 0) = true := by simp; omega
  have hr2 : (n / 32768 != -1) = true := by simp; omega
  clear hc hn
  go_enter Tryz.func51, Tryz.ntmps51
  go_wp2_with (go_at_call 41; refine (tbits_any 1 l _).mono ?_; rw [show bitsT 1 = 16 from rfl]; rintro e w1 ⟨rfl, hb⟩; obtain ⟨hcl, hfr⟩ := bcell hb)
  exact bodyPost_ret (v := .tuple #[nullV, .string sOut]) (by simp [results, Tryz.results51, go_sem, hcl]) rfl ⟨rfl, (by repeat (first | exact Below.refl _ _ | assumption | refine Below.alloc ?_ (by first | (simp; done) | (simp; omega)) _ | refine Below.setCell ?_ (by first | (simp; done) | (simp; omega)) _ | refine Below.drew ?_ | refine below_drewN ?_ _ | refine Below.trans ?_ (hb.mono (by first | (simp; done) | (simp; omega)))))⟩
set_option maxHeartbeats 1000000 in
theorem tnum32_p (n l : Int) (w : World) (hn : -9223372036854775808 ≤ n ∧ n ≤ 9223372036854775807) (hc : 0 ≤ n ∧ n < 2147483648) :
    Calls Tryz.prog 51 #[.int .i64 n, typ 2 l] w fun e w' => e = .returned (.tuple #[val 1 n ⟨#[]⟩ false, .string sDone]) ∧ Below w.heap.size w w' := by
  have hq : n / 2147483648 = 0 := by omega
  clear hc hn
  go_enter Tryz.func51, Tryz.ntmps51
  go_wp2_with (go_at_call 41; refine (tbits_any 2 l _).mono ?_; rw [show bitsT 2 = 32 from rfl]; rintro e w1 ⟨rfl, hb⟩; obtain ⟨hcl, hfr⟩ := bcell hb)
  exact bodyPost_ret (v := .tuple #[val 1 n ⟨#[]⟩ false, .string sDone]) (by simp [results, Tryz.results51, go_sem, hcl]) rfl ⟨rfl, (by repeat (first | exact Below.refl _ _ | assumption | refine Below.alloc ?_ (by first | (simp; done) | (simp; omega)) _ | refine Below.setCell ?_ (by first | (simp; done) | (simp; omega)) _ | refine Below.drew ?_ | refine below_drewN ?_ _ | refine Below.trans ?_ (hb.mono (by first | (simp; done) | (simp; omega)))))⟩
set_option maxHeartbeats 1000000 in
theorem tnum32_m (n l : Int) (w : World) (hn : -9223372036854775808 ≤ n ∧ n ≤ 9223372036854775807) (hc : -2147483648 ≤ n ∧ n < 0) :
    Calls Tryz.prog 51 #[.int .i64 n, typ 2 l] w fun e w' => e = .returned (.tuple #[val 1 n ⟨#[]⟩ false, .string sDone]) ∧ Below w.heap.size w w' := by
  have hq : n / 2147483648 = -1 := by omega
  clear hc hn
  go_enter Tryz.func51, Tryz.ntmps51
  go_wp2_with (go_at_call 41; refine (tbits_any 2 l _).mono ?_; rw [show bitsT 2 = 32 from rfl]; rintro e w1 ⟨rfl, hb⟩; obtain ⟨hcl, hfr⟩ := bcell hb)
  exact bodyPost_ret (v := .tuple #[val 1 n ⟨#[]⟩ false, .string sDone]) (by simp [results, Tryz.results51, go_sem, hcl]) rfl ⟨rfl, (by repeat (first | exact Below.refl _ _ | assumption | refine Below.alloc ?_ (by first | (simp; done) | (simp; omega)) _ | refine Below.setCell ?_ (by first | (simp; done) | (simp; omega)) _ | refine Below.drew ?_ | refine below_drewN ?_ _ | refine Below.trans ?_ (hb.mono (by first | (simp; done) | (simp; omega)))))⟩
set_option maxHeartbeats 1000000 in
theorem tnum32_o (n l : Int) (w : World) (hn : -9223372036854775808 ≤ n ∧ n ≤ 9223372036854775807) (hc : n < -2147483648 ∨ 2147483648 ≤ n) :
    Calls Tryz.prog 51 #[.int .i64 n, typ 2 l] w fun e w' => e = .returned (.tuple #[nullV, .string sOut]) ∧ Below w.heap.size w w' := by
  have hq : (n / 2147483648 == 0) = false := by simp; omega
  have hr : (n / 2147483648 == -1) = false := by simp; omega
  have hq2 : (n / 2147483648 != 0) = true := by simp; omega
  have hr2 : (n / 2147483648 != -1) = true := by simp; omega
  clear hc hn
  go_enter Tryz.func51, Tryz.ntmps51
  go_wp2_with (go_at_call 41; refine (tbits_any 2 l _).mono ?_; rw [show bitsT 2 = 32 from rfl]; rintro e w1 ⟨rfl, hb⟩; obtain ⟨hcl, hfr⟩ := bcell hb)
  exact bodyPost_ret (v := .tuple #[nullV, .string sOut]) (by simp [results, Tryz.results51, go_sem, hcl]) rfl ⟨rfl, (by repeat (first | exact Below.refl _ _ | assumption | refine Below.alloc ?_ (by first | (simp; done) | (simp; omega)) _ | refine Below.setCell ?_ (by first | (simp; done) | (simp; omega)) _ | refine Below.drew ?_ | refine below_drewN ?_ _ | refine Below.trans ?_ (hb.mono (by first | (simp; done) | (simp; omega)))))⟩
set_option maxHeartbeats 1000000 in
theorem tnum64_p (n b l : Int) (w : World) (hn : -9223372036854775808 ≤ n ∧ n ≤ 9223372036854775807) (HB : Hid (bitsT b = 64)) (hc : 0 ≤ n ∧ n < 9223372036854775808) :
    Calls Tryz.prog 51 #[.int .i64 n, typ b l] w fun e w' => e = .returned (.tuple #[val 1 n ⟨#[]⟩ false, .string sDone]) ∧ Below w.heap.size w w' := by
  have hq : n / 9223372036854775808 = 0 := by omega
  clear hc hn
  go_enter Tryz.func51, Tryz.ntmps51
  go_wp2_with (go_at_call 41; refine (tbits_any b l _).mono ?_; rw [HB.out]; rintro e w1 ⟨rfl, hb⟩; obtain ⟨hcl, hfr⟩ := bcell hb)
  exact bodyPost_ret (v := .tuple #[val 1 n ⟨#[]⟩ false, .string sDone]) (by simp [results, Tryz.results51, go_sem, hcl]) rfl ⟨rfl, (by repeat (first | exact Below.refl _ _ | assumption | refine Below.alloc ?_ (by first | (simp; done) | (simp; omega)) _ | refine Below.setCell ?_ (by first | (simp; done) | (simp; omega)) _ | refine Below.drew ?_ | refine below_drewN ?_ _ | refine Below.trans ?_ (hb.mono (by first | (simp; done) | (simp; omega)))))⟩
set_option maxHeartbeats 1000000 in
theorem tnum64_m (n b l : Int) (w : World) (hn : -9223372036854775808 ≤ n ∧ n ≤ 9223372036854775807) (HB : Hid (bitsT b = 64)) (hc : -9223372036854775808 ≤ n ∧ n < 0) :
    Calls Tryz.prog 51 #[.int .i64 n, typ b l] w fun e w' => e = .returned (.tuple #[val 1 n ⟨#[]⟩ false, .string sDone]) ∧ Below w.heap.size w w' := by
  have hq : n / 9223372036854775808 = -1 := by omega
  clear hc hn
  go_enter Tryz.func51, Tryz.ntmps51
  go_wp2_with (go_at_call 41; refine (tbits_any b l _).mono ?_; rw [HB.out]; rintro e w1 ⟨rfl, hb⟩; obtain ⟨hcl, hfr⟩ := bcell hb)
  exact bodyPost_ret (v := .tuple #[val 1 n ⟨#[]⟩ false, .string sDone]) (by simp [results, Tryz.results51, go_sem, hcl]) rfl ⟨rfl, (by repeat (first | exact Below.refl _ _ | assumption | refine Below.alloc ?_ (by first | (simp; done) | (simp; omega)) _ | refine Below.setCell ?_ (by first | (simp; done) | (simp; omega)) _ | refine Below.drew ?_ | refine below_drewN ?_ _ | refine Below.trans ?_ (hb.mono (by first | (simp; done) | (simp; omega)))))⟩
theorem tnum_any (n b l : Int) (w : World) (hn : -9223372036854775808 ≤ n ∧ n ≤ 9223372036854775807) :
    Calls Tryz.prog 51 #[.int .i64 n, typ b l] w fun e w' => e = .returned ((numA n b).ret) ∧ Below w.heap.size w w' := by
  by_cases h1 : b = 1
  · subst h1
    by_cases c1 : 0 ≤ n ∧ n < 32768
    · rw [show numA n 1 = ansNum n by simp [numA, fitsT]; omega]; exact tnum16_p n l w hn c1
    · by_cases c2 : -32768 ≤ n ∧ n < 0
      · rw [show numA n 1 = ansNum n by simp [numA, fitsT]; omega]; exact tnum16_m n l w hn c2
      · rw [show numA n 1 = ansNo sOut by simp [numA, fitsT]; omega]; exact tnum16_o n l w hn (by omega)
  · by_cases h2 : b = 2
    · subst h2
      by_cases c1 : 0 ≤ n ∧ n < 2147483648
      · rw [show numA n 2 = ansNum n by simp [numA, fitsT]; omega]; exact tnum32_p n l w hn c1
      · by_cases c2 : -2147483648 ≤ n ∧ n < 0
        · rw [show numA n 2 = ansNum n by simp [numA, fitsT]; omega]; exact tnum32_m n l w hn c2
        · rw [show numA n 2 = ansNo sOut by simp [numA, fitsT]; omega]; exact tnum32_o n l w hn (by omega)
    · have HB : Hid (bitsT b = 64) := by show bitsT b = 64; simp [bitsT, h1, h2]
      rw [show numA n b = ansNum n by simp [numA, fitsT, h1, h2]]
      by_cases c1 : 0 ≤ n
      · exact tnum64_p n b l w hn HB ⟨c1, by omega⟩
      · exact tnum64_m n b l w hn HB ⟨by omega, by omega⟩
end Go.Proofs.YtfmnlgepllgpnaaGreatDoor

/- The walk of value.Order at every two right values, out of the texts of layer 1. -/
import Derived.Test.YtjajngngajnnpabGreatDoorB2
namespace Go.Proofs.YtjajngngajnnpabGreatDoor
open Go.RowKit
set_option linter.unusedVariables false
def cmpI (a b : Int) : Int := if a < b then -1 else if a > b then 1 else 0
set_option maxHeartbeats 400000 in
theorem cmpK_any (a b : Int) (w : World) :
    Calls Tryz.prog 27 #[.int .i64 a, .int .i64 b] w fun e w' => e = .returned (.int .i64 (cmpI a b)) ∧ w' = w := by
  go_enter Tryz.func27, Tryz.ntmps27
  go_wp2
  all_goals
    go_ret
    exact ⟨ret_int (by unfold cmpI; (repeat' split) <;> omega), rfl⟩
set_option maxHeartbeats 400000 in
theorem cmpN_any (a b : Int) (w : World) :
    Calls Tryz.prog 28 #[.int .i64 a, .int .i64 b] w fun e w' => e = .returned (.int .i64 (cmpI a b)) ∧ w' = w := by
  go_enter Tryz.func28, Tryz.ntmps28
  go_wp2
  all_goals
    go_ret
    exact ⟨ret_int (by unfold cmpI; (repeat' split) <;> omega), rfl⟩
def cmpB (a b : List UInt8) : Int := if Op.bytesLess a b then -1 else if (!Op.bytesLess a b && !(a == b)) then 1 else 0
set_option maxHeartbeats 400000 in
theorem cmpS_any (a b : ByteArray) (w : World) :
    Calls Tryz.prog 29 #[.string a, .string b] w fun e w' => e = .returned (.int .i64 (cmpB a.toList b.toList)) ∧ w' = w := by
  cases h1 : Op.bytesLess a.toList b.toList
  · cases h2 : (a.toList == b.toList)
    · have h3 : (!a.toList == b.toList) = true := by rw [h2]; rfl
      go_enter Tryz.func29, Tryz.ntmps29
      go_wp2
      go_ret
      exact ⟨ret_int (by simp [cmpB, h1, h2]), rfl⟩
    · have h3 : (!a.toList == b.toList) = false := by rw [h2]; rfl
      go_enter Tryz.func29, Tryz.ntmps29
      go_wp2
      go_ret
      exact ⟨ret_int (by simp [cmpB, h1, h2]), rfl⟩
  · go_enter Tryz.func29, Tryz.ntmps29
    go_wp2
    go_ret
    exact ⟨ret_int (by simp [cmpB, h1]), rfl⟩

set_option maxHeartbeats 400000 in
theorem order_kind (k1 n1 k2 n2 : Int) (s1 s2 : ByteArray) (b1 b2 : Bool) (w : World) (h : (k1 != k2) = true) :
    Calls Tryz.prog 11 #[val k1 n1 s1 b1, val k2 n2 s2 b2] w fun e w' => e = .returned (.int .i64 (cmpI k1 k2)) ∧ Below w.heap.size w w' := by
  go_enter Tryz.func11, Tryz.ntmps11
  go_wp2_with (go_at_call 27; refine (cmpK_any _ _ _).mono ?_; rintro e w' ⟨rfl, rfl⟩)
  go_ret
  exact ⟨rfl, (by repeat (first | exact Below.refl _ _ | assumption | refine Below.alloc ?_ (by first | (simp; done) | (simp; omega)) _ | refine Below.setCell ?_ (by first | (simp; done) | (simp; omega)) _ | refine Below.drew ?_ | refine below_drewN ?_ _))⟩

set_option maxHeartbeats 400000 in
theorem order_num (n1 n2 : Int) (s1 s2 : ByteArray) (b1 b2 : Bool) (w : World) :
    Calls Tryz.prog 11 #[val 1 n1 s1 b1, val 1 n2 s2 b2] w fun e w' => e = .returned (.int .i64 (cmpI n1 n2)) ∧ Below w.heap.size w w' := by
  go_enter Tryz.func11, Tryz.ntmps11
  go_wp2_with (go_at_call 28; refine (cmpN_any _ _ _).mono ?_; rintro e w' ⟨rfl, rfl⟩)
  go_ret
  exact ⟨rfl, (by repeat (first | exact Below.refl _ _ | assumption | refine Below.alloc ?_ (by first | (simp; done) | (simp; omega)) _ | refine Below.setCell ?_ (by first | (simp; done) | (simp; omega)) _ | refine Below.drew ?_ | refine below_drewN ?_ _))⟩

set_option maxHeartbeats 400000 in
theorem order_null (n1 n2 : Int) (s1 s2 : ByteArray) (b1 b2 : Bool) (w : World) :
    Calls Tryz.prog 11 #[val 0 n1 s1 b1, val 0 n2 s2 b2] w fun e w' => e = .returned (.int .i64 0) ∧ Below w.heap.size w w' := by
  go_enter Tryz.func11, Tryz.ntmps11
  go_wp2
  go_ret
  exact ⟨rfl, (by repeat (first | exact Below.refl _ _ | assumption | refine Below.alloc ?_ (by first | (simp; done) | (simp; omega)) _ | refine Below.setCell ?_ (by first | (simp; done) | (simp; omega)) _ | refine Below.drew ?_ | refine below_drewN ?_ _))⟩

def ordB (a b : Bool) : Int := if a = b then 0 else if b then -1 else 1
set_option maxHeartbeats 400000 in
theorem order_bool (n1 n2 : Int) (s1 s2 : ByteArray) (b1 b2 : Bool) (w : World) :
    Calls Tryz.prog 11 #[val 3 n1 s1 b1, val 3 n2 s2 b2] w fun e w' => e = .returned (.int .i64 (ordB b1 b2)) ∧ Below w.heap.size w w' := by
  cases b1 <;> cases b2
  all_goals
    go_enter Tryz.func11, Tryz.ntmps11
    go_wp2
    go_ret
    exact ⟨rfl, (by repeat (first | exact Below.refl _ _ | assumption | refine Below.alloc ?_ (by first | (simp; done) | (simp; omega)) _ | refine Below.setCell ?_ (by first | (simp; done) | (simp; omega)) _ | refine Below.drew ?_ | refine below_drewN ?_ _))⟩

set_option maxHeartbeats 400000 in
theorem order_text (n1 n2 : Int) (s1 s2 : ByteArray) (b1 b2 : Bool) (w : World) (h1 : s1.size ≤ maxLen) (h2 : s2.size ≤ maxLen) :
    Calls Tryz.prog 11 #[val 2 n1 s1 b1, val 2 n2 s2 b2] w fun e w' => e = .returned (.int .i64 (cmpB (trimL s1.data.toList) (trimL s2.data.toList))) ∧ Below w.heap.size w w' := by
  go_enter Tryz.func11, Tryz.ntmps11
  go_wp2_with fail
  go_quiet (first | (go_at_call 30; exact Calls.quiet_of_same (words_any _ _ (by assumption))) | (go_at_call 29; exact Calls.quiet_of_same (cmpS_any _ _ _)))
  go_wp2
  go_ret
  exact ⟨ret_int (by rw [Lib.toList_data, Lib.toList_data]), (by repeat (first | exact Below.refl _ _ | assumption | refine Below.alloc ?_ (by first | (simp; done) | (simp; omega)) _ | refine Below.setCell ?_ (by first | (simp; done) | (simp; omega)) _ | refine Below.drew ?_ | refine below_drewN ?_ _))⟩

theorem bl_irrefl : ∀ a : List UInt8, Op.bytesLess a a = false
  | [] => rfl
  | x :: a => by simp [Op.bytesLess, bl_irrefl a]
theorem bl_tri : ∀ a b : List UInt8, Op.bytesLess a b = true ∨ a = b ∨ Op.bytesLess b a = true
  | [], [] => Or.inr (Or.inl rfl)
  | [], _ :: _ => Or.inl rfl
  | _ :: _, [] => Or.inr (Or.inr rfl)
  | x :: a, y :: b => by
    have ih := bl_tri a b
    simp only [Op.bytesLess, Bool.or_eq_true, Bool.and_eq_true, decide_eq_true_eq, beq_iff_eq, UInt8.lt_iff_toNat_lt]
    by_cases e : x = y
    · subst e
      rcases ih with h | h | h
      · exact Or.inl (Or.inr ⟨rfl, h⟩)
      · exact Or.inr (Or.inl (by rw [h]))
      · exact Or.inr (Or.inr (Or.inr ⟨rfl, h⟩))
    · have : x.toNat ≠ y.toNat := fun h => e (UInt8.toNat_inj.1 h)
      by_cases l : x.toNat < y.toNat
      · exact Or.inl (Or.inl l)
      · exact Or.inr (Or.inr (Or.inl (by omega)))
theorem bl_trans : ∀ a b c : List UInt8, Op.bytesLess a b = true → Op.bytesLess b c = true → Op.bytesLess a c = true
  | a, [], c, h, _ => by cases a <;> simp [Op.bytesLess] at h
  | a, _ :: _, [], _, h => by simp [Op.bytesLess] at h
  | [], _ :: _, _ :: _, _, _ => rfl
  | x :: a, y :: b, z :: c, h1, h2 => by
    have ih := bl_trans a b c
    simp only [Op.bytesLess, Bool.or_eq_true, Bool.and_eq_true, decide_eq_true_eq, beq_iff_eq, UInt8.lt_iff_toNat_lt] at h1 h2 ⊢
    rcases h1 with h1 | ⟨rfl, h1⟩
    · rcases h2 with h2 | ⟨rfl, h2⟩
      · exact Or.inl (by omega)
      · exact Or.inl h1
    · rcases h2 with h2 | ⟨rfl, h2⟩
      · exact Or.inl h2
      · exact Or.inr ⟨rfl, ih h1 h2⟩

/-- A comparison that puts all in one line. -/
def Line {α : Type} (f : α → α → Int) : Prop := ∀ x y z : α, f x x = 0 ∧ f x y = - f y x ∧ (-1 ≤ f x y ∧ f x y ≤ 1) ∧ (f x y ≤ 0 → f y z ≤ 0 → f x z ≤ 0) ∧ (f x y < 0 → f y z ≤ 0 → f x z < 0) ∧ (f x y = 0 → f x z = f y z)

theorem line_int : Line cmpI := fun x y z => by
  unfold cmpI
  refine ⟨?_, ?_, ?_, ?_, ?_, ?_⟩
  · split <;> (try split) <;> omega
  · split <;> (try split) <;> (try split) <;> (try split) <;> omega
  · split <;> (try split) <;> omega
  all_goals
    intro h1
    by_cases a1 : x < y <;> by_cases a2 : x > y <;> by_cases a3 : y < z <;> by_cases a4 : y > z <;> by_cases a5 : x < z <;> by_cases a6 : x > z <;> simp_all <;> omega
theorem line_bool : Line ordB := fun x y z => by cases x <;> cases y <;> cases z <;> decide
theorem cmpB_lt {a b : List UInt8} (h : Op.bytesLess a b = true) : cmpB a b = -1 := by simp [cmpB, h]
theorem cmpB_eq (a : List UInt8) : cmpB a a = 0 := by simp [cmpB, bl_irrefl]
theorem bl_asymm {a b : List UInt8} (h : Op.bytesLess b a = true) : Op.bytesLess a b = false := by
  cases e : Op.bytesLess a b with
  | false => rfl
  | true => have := bl_trans _ _ _ e h; rw [bl_irrefl] at this; cases this
theorem bl_ne {a b : List UInt8} (h : Op.bytesLess b a = true) : (a == b) = false := by
  rw [beq_eq_false_iff_ne]
  rintro rfl
  rw [bl_irrefl] at h; cases h
theorem cmpB_gt {a b : List UInt8} (h : Op.bytesLess b a = true) : cmpB a b = 1 := by simp [cmpB, bl_asymm h, bl_ne h]
theorem line_text : Line cmpB := fun x y z => by
  rcases bl_tri x y with h1 | rfl | h1
  · rcases bl_tri y z with h2 | rfl | h2
    · rw [cmpB_eq, cmpB_lt h1, cmpB_gt h1, cmpB_lt h2, cmpB_lt (bl_trans _ _ _ h1 h2)]; omega
    · rw [cmpB_eq, cmpB_lt h1, cmpB_gt h1, cmpB_eq]; omega
    · rw [cmpB_eq, cmpB_lt h1, cmpB_gt h1, cmpB_gt h2]; omega
  · rw [cmpB_eq]; refine ⟨rfl, rfl, by omega, fun _ h => h, fun h => by omega, fun _ => rfl⟩
  · rcases bl_tri y z with h2 | rfl | h2
    · rw [cmpB_eq, cmpB_gt h1, cmpB_lt h1, cmpB_lt h2]; omega
    · rw [cmpB_eq, cmpB_gt h1, cmpB_lt h1, cmpB_eq]; omega
    · rw [cmpB_eq, cmpB_gt h1, cmpB_lt h1, cmpB_gt h2, cmpB_gt (bl_trans _ _ _ h2 h1)]; omega

/-- A value: its kind, number, text and truth. -/
abbrev V4 : Type := Int × Int × List UInt8 × Bool
def ordV (x y : V4) : Int := if x.1 = y.1 then (if x.1 = 1 then cmpI x.2.1 y.2.1 else if x.1 = 2 then cmpB (trimL x.2.2.1) (trimL y.2.2.1) else if x.1 = 3 then ordB x.2.2.2 y.2.2.2 else 0) else cmpI x.1 y.1
theorem cmpI_ne {a b : Int} (h : a ≠ b) : cmpI a b ≠ 0 := by unfold cmpI; split <;> (try split) <;> omega
theorem line_val : Line ordV := fun x y z => by
  obtain ⟨K1, N1, S1, B1⟩ := x
  obtain ⟨K2, N2, S2, B2⟩ := y
  obtain ⟨K3, N3, S3, B3⟩ := z
  have hK := line_int K1 K2 K3
  by_cases e1 : K1 = K2
  · subst e1
    by_cases e2 : K1 = K3
    · subst e2
      unfold ordV
      simp only [if_true]
      by_cases c1 : K1 = 1
      · simp only [c1, if_true]; exact line_int N1 N2 N3
      · by_cases c2 : K1 = 2
        · simp only [c2, if_true, if_neg (show ¬ (2 : Int) = 1 by omega)]; exact line_text _ _ _
        · by_cases c3 : K1 = 3
          · simp only [c3, if_true, if_neg (show ¬ (3 : Int) = 1 by omega), if_neg (show ¬ (3 : Int) = 2 by omega)]; exact line_bool _ _ _
          · simp only [if_neg c1, if_neg c2, if_neg c3]; decide
    · have h12 : ordV (K1, N1, S1, B1) (K1, N2, S2, B2) = - ordV (K1, N2, S2, B2) (K1, N1, S1, B1) ∧ -1 ≤ ordV (K1, N1, S1, B1) (K1, N2, S2, B2) ∧ ordV (K1, N1, S1, B1) (K1, N2, S2, B2) ≤ 1 ∧ ordV (K1, N1, S1, B1) (K1, N1, S1, B1) = 0 := by
        unfold ordV
        simp only [if_true]
        by_cases c1 : K1 = 1
        · simp only [c1, if_true]; have := line_int N1 N2 0; exact ⟨this.2.1, this.2.2.1.1, this.2.2.1.2, this.1⟩
        · by_cases c2 : K1 = 2
          · simp only [c2, if_true, if_neg (show ¬ (2 : Int) = 1 by omega)]; have := line_text (trimL S1) (trimL S2) []; exact ⟨this.2.1, this.2.2.1.1, this.2.2.1.2, this.1⟩
          · by_cases c3 : K1 = 3
            · simp only [c3, if_true, if_neg (show ¬ (3 : Int) = 1 by omega), if_neg (show ¬ (3 : Int) = 2 by omega)]; have := line_bool B1 B2 false; exact ⟨this.2.1, this.2.2.1.1, this.2.2.1.2, this.1⟩
            · simp only [if_neg c1, if_neg c2, if_neg c3]; decide
      have h13 : ordV (K1, N1, S1, B1) (K3, N3, S3, B3) = cmpI K1 K3 := by simp [ordV, e2]
      have h23 : ordV (K1, N2, S2, B2) (K3, N3, S3, B3) = cmpI K1 K3 := by simp [ordV, e2]
      have hn := cmpI_ne e2
      rw [h13, h23]
      obtain ⟨a1, a2, a3, a4⟩ := h12
      refine ⟨a4, a1, ⟨a2, a3⟩, ?_, ?_, ?_⟩ <;> omega
  · have h12 : ordV (K1, N1, S1, B1) (K2, N2, S2, B2) = cmpI K1 K2 := by simp [ordV, e1]
    have h21 : ordV (K2, N2, S2, B2) (K1, N1, S1, B1) = cmpI K2 K1 := by simp [ordV, Ne.symm e1]
    have h11 : ordV (K1, N1, S1, B1) (K1, N1, S1, B1) = 0 := by
      unfold ordV
      simp only [if_true]
      by_cases c1 : K1 = 1
      · simp only [c1, if_true]; exact (line_int N1 0 0).1
      · by_cases c2 : K1 = 2
        · simp only [c2, if_true, if_neg (show ¬ (2 : Int) = 1 by omega)]; exact (line_text (trimL S1) [] []).1
        · by_cases c3 : K1 = 3
          · simp only [c3, if_true, if_neg (show ¬ (3 : Int) = 1 by omega), if_neg (show ¬ (3 : Int) = 2 by omega)]; exact (line_bool B1 B1 B1).1
          · simp only [if_neg c1, if_neg c2, if_neg c3]
    have hn := cmpI_ne e1
    rw [h11, h12, h21]
    by_cases e2 : K1 = K3
    · subst e2
      have h23 : ordV (K2, N2, S2, B2) (K1, N3, S3, B3) = cmpI K2 K1 := by simp [ordV, Ne.symm e1]
      rw [h23]
      obtain ⟨b1, b2, b3, b4, b5, b6⟩ := hK
      refine ⟨rfl, b2, b3, ?_, ?_, ?_⟩ <;> omega
    · have h13 : ordV (K1, N1, S1, B1) (K3, N3, S3, B3) = cmpI K1 K3 := by simp [ordV, e2]
      rw [h13]
      by_cases e3 : K2 = K3
      · subst e3
        obtain ⟨b1, b2, b3, b4, b5, b6⟩ := hK
        refine ⟨rfl, b2, b3, ?_, ?_, ?_⟩ <;> omega
      · have h23 : ordV (K2, N2, S2, B2) (K3, N3, S3, B3) = cmpI K2 K3 := by simp [ordV, e3]
        rw [h23]
        obtain ⟨b1, b2, b3, b4, b5, b6⟩ := hK
        exact ⟨rfl, b2, b3, b4, b5, b6⟩

theorem RightV.kind {K N : Int} {S : ByteArray} {B : Bool} (h : RightV K N S B) : K = 0 ∨ K = 1 ∨ K = 2 ∨ K = 3 := by
  rcases h with h | h | h | h
  · exact Or.inl h.1
  · exact Or.inr (Or.inl h.1)
  · exact Or.inr (Or.inr (Or.inl h.1))
  · exact Or.inr (Or.inr (Or.inr h.1))
theorem order_any (K1 N1 : Int) (S1 : ByteArray) (B1 : Bool) (K2 N2 : Int) (S2 : ByteArray) (B2 : Bool) (w : World) (hk : K1 = 0 ∨ K1 = 1 ∨ K1 = 2 ∨ K1 = 3) (h1 : S1.size ≤ maxLen) (h2 : S2.size ≤ maxLen) :
    Calls Tryz.prog 11 #[val K1 N1 S1 B1, val K2 N2 S2 B2] w fun e w' => e = .returned (.int .i64 (ordV (K1, N1, S1.data.toList, B1) (K2, N2, S2.data.toList, B2))) ∧ Below w.heap.size w w' := by
  by_cases hK : K1 = K2
  · subst hK
    rcases hk with rfl | rfl | rfl | rfl
    · exact order_null N1 N2 S1 S2 B1 B2 w
    · exact order_num N1 N2 S1 S2 B1 B2 w
    · exact order_text N1 N2 S1 S2 B1 B2 w h1 h2
    · exact order_bool N1 N2 S1 S2 B1 B2 w
  · have h := order_kind K1 N1 K2 N2 S1 S2 B1 B2 w (by simpa using hK)
    refine h.mono fun e w' ⟨he, hb⟩ => ⟨?_, hb⟩
    rw [he]
    exact ret_int (by simp [ordV, hK])
end Go.Proofs.YtjajngngajnnpabGreatDoor

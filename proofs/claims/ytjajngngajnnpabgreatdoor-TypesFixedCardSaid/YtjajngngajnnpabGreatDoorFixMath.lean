/- What stands in a column stays: mathematics, and the walk of value.Right. -/
import Derived.Test.YtjajngngajnnpabGreatDoorT2Cast
import Derived.Test.YtjajngngajnnpabGreatDoorB2Order
import Derived.Test.YtjajngngajnnpabGreatDoorT2Set2
import Derived.Test.YtjajngngajnnpabGreatDoorT2Raw
import Derived.Test.YtjajngngajnnpabGreatDoorT2Alive
namespace Go.Proofs.YtjajngngajnnpabGreatDoor
open Go.RowKit Go.Joins
set_option linter.unusedVariables false

theorem ret_boolF {a b : Bool} (h : a = b) : Ending.returned (.bool a) = .returned (.bool b) := by rw [h]
def rightB (K N : Int) (S : List UInt8) (B : Bool) : Bool := if K == 0 then (N == 0 && (S.isEmpty && !B)) else if K == 1 then (S.isEmpty && !B) else if K == 2 then (N == 0 && !B) else if K == 3 then (N == 0 && S.isEmpty) else false
set_option maxHeartbeats 1000000 in
theorem vright_any (K N : Int) (S : ByteArray) (B : Bool) (w : World) :
    Calls Tryz.prog 10 #[val K N S B] w fun e w' => e = .returned (.bool (rightB K N S.toList B)) ∧ Below w.heap.size w w' := by
  cases z0 : (K == 0)
  · cases z1 : (K == 1)
    · cases z2 : (K == 2)
      · cases z3 : (K == 3)
        all_goals
          go_enter Tryz.func10, Tryz.ntmps10
          go_wp2
          all_goals
            go_ret
            exact ⟨ret_boolF (by simp [rightB, *]), (by repeat (first | exact Below.refl _ _ | assumption | refine Below.alloc ?_ (by first | (simp; done) | (simp; omega)) _ | refine Below.setCell ?_ (by first | (simp; done) | (simp; omega)) _ | refine Below.drew ?_ | refine below_drewN ?_ _))⟩
      · go_enter Tryz.func10, Tryz.ntmps10
        go_wp2
        all_goals
          go_ret
          exact ⟨ret_boolF (by simp [rightB, *]), (by repeat (first | exact Below.refl _ _ | assumption | refine Below.alloc ?_ (by first | (simp; done) | (simp; omega)) _ | refine Below.setCell ?_ (by first | (simp; done) | (simp; omega)) _ | refine Below.drew ?_ | refine below_drewN ?_ _))⟩
    · go_enter Tryz.func10, Tryz.ntmps10
      go_wp2
      all_goals
        go_ret
        exact ⟨ret_boolF (by simp [rightB, *]), (by repeat (first | exact Below.refl _ _ | assumption | refine Below.alloc ?_ (by first | (simp; done) | (simp; omega)) _ | refine Below.setCell ?_ (by first | (simp; done) | (simp; omega)) _ | refine Below.drew ?_ | refine below_drewN ?_ _))⟩
  · go_enter Tryz.func10, Tryz.ntmps10
    go_wp2
    all_goals
      go_ret
      exact ⟨ret_boolF (by simp [rightB, *]), (by repeat (first | exact Below.refl _ _ | assumption | refine Below.alloc ?_ (by first | (simp; done) | (simp; omega)) _ | refine Below.setCell ?_ (by first | (simp; done) | (simp; omega)) _ | refine Below.drew ?_ | refine below_drewN ?_ _))⟩
theorem right_is {K N : Int} {S : ByteArray} {B : Bool} (h : RightV K N S B) : rightB K N S.toList B = true := by
  rcases h with ⟨rfl, rfl, rfl, rfl⟩ | ⟨rfl, rfl, rfl⟩ | ⟨rfl, rfl, rfl⟩ | ⟨rfl, rfl, rfl⟩ <;> simp [rightB, Lib.toList_data]

theorem trimL_app_blank (a b : List UInt8) (h : trimL b = []) : trimL (a ++ b) = trimL a := by
  unfold trimL at h ⊢
  rw [List.reverse_eq_nil_iff] at h
  rw [List.reverse_append, List.dropWhile_append, h]
  simp
theorem trimL_rep (n : Nat) : trimL (List.replicate n 32) = [] := by
  induction n with
  | zero => rfl
  | succ n ih => rw [List.replicate_succ', trimL_blank, ih]
theorem pad_trim (T : List UInt8) (b l : Int) : trimL (padL T b l) = trimL T := by
  unfold padL
  split
  · exact trimL_app_blank _ _ (trimL_rep _)
  · rfl
theorem pad_len (T : List UInt8) (b l : Int) (h : (T.length : Int) ≤ l) : ((padL T b l).length : Int) ≤ l := by
  unfold padL
  split
  · rw [List.length_append, List.length_replicate]; omega
  · exact h
theorem pad_pad (T : List UInt8) (b l : Int) (h : (T.length : Int) ≤ l) : padL (padL T b l) b l = padL T b l := by
  unfold padL
  by_cases hb : (b == 4) = true
  · rw [if_pos hb, if_pos hb, List.length_append, List.length_replicate, show l.toNat - (T.length + (l.toNat - T.length)) = 0 by omega]
    simp
  · rw [if_neg hb, if_neg hb]
theorem kind_two {b l : Int} (h : kindT b l = 2) : 1 ≤ l ∧ l ≤ 100 := by
  unfold kindT at h
  split at h
  · rename_i hr
    split at h
    · rename_i h45
      unfold rightT at hr
      have : (b == 1 || b == 2 || b == 3 || b == 6) = false := by
        simp at h45
        rcases h45 with rfl | rfl <;> rfl
      rw [this] at hr
      simp [h45] at hr
      omega
    · split at h <;> omega
  · omega
theorem text_fixed (S : List UInt8) (b l : Int) (hk : kindT b l = 2) :
    textA S b l = ansNo sLong ∨ ∃ T, textA S b l = ansText T ∧ (T.length : Int) ≤ l ∧ padL T b l = T ∧ trimL T = trimL S := by
  have hl := kind_two hk
  unfold textA
  by_cases h : (S.length : Int) ≤ l
  · rw [if_pos h]
    exact Or.inr ⟨_, rfl, pad_len S b l h, pad_pad S b l h, pad_trim S b l⟩
  · rw [if_neg h]
    by_cases h2 : trimL (S.drop l.toNat) = []
    · rw [if_pos h2]
      have hlen : ((S.take l.toNat).length : Int) ≤ l := by rw [List.length_take]; omega
      refine Or.inr ⟨_, rfl, pad_len _ b l hlen, pad_pad _ b l hlen, ?_⟩
      rw [pad_trim]
      conv => rhs; rw [← List.take_append_drop l.toNat S]
      rw [trimL_app_blank _ _ h2]
    · rw [if_neg h2]; exact Or.inl rfl
def Bad (st : ByteArray) : Prop := (st.toList == [48, 48, 48, 48, 48]) = false
theorem bad_mis : Bad sMis := by unfold Bad; rw [Lib.toList_data]; decide
theorem bad_long : Bad sLong := by unfold Bad; rw [Lib.toList_data]; decide
theorem bad_out : Bad sOut := by unfold Bad; rw [Lib.toList_data]; decide
/-- What was assigned stays: it is right, stands as it came, is assigned and cast as it is. -/
structure Stays (A : Ans) (K N : Int) (S : List UInt8) (B : Bool) (b l : Int) : Prop where
  done : A.st = sDone
  again : assignA A.k A.n A.s.data.toList A.b b l = A
  cast : castA A.k A.n A.s.data.toList A.b b l = A
  right : RightV A.k A.n A.s A.b
  num : -9223372036854775808 ≤ A.n ∧ A.n ≤ 9223372036854775807
  len : A.s.size ≤ 100
  ord : ordV (A.k, A.n, A.s.data.toList, A.b) (K, N, S, B) = 0
  kind : A.k = 0 ∨ A.k = kindT b l
theorem cmpI_self (a : Int) : cmpI a a = 0 := by simp [cmpI]
theorem fixed_cases (K N : Int) (S : ByteArray) (B : Bool) (b l : Int) (hR : RightV K N S B) (hN : -9223372036854775808 ≤ N ∧ N ≤ 9223372036854775807) :
    (∃ st, Bad st ∧ assignA K N S.data.toList B b l = ansNo st) ∨ Stays (assignA K N S.data.toList B b l) K N S.data.toList B b l := by
  by_cases hk0 : kindT b l = 0
  · exact Or.inl ⟨sMis, bad_mis, by simp [assignA, hk0]⟩
  have hk0' : (kindT b l == 0) = false := by simpa using hk0
  rcases hR with ⟨rfl, rfl, rfl, rfl⟩ | ⟨rfl, rfl, rfl⟩ | ⟨rfl, rfl, rfl⟩ | ⟨rfl, rfl, rfl⟩
  · have e : ∀ (N : Int) (S : List UInt8) (B : Bool), assignA 0 N S B b l = ansNo sDone := fun N S B => by simp [assignA, hk0']
    rw [e]
    refine Or.inr ⟨rfl, e _ _ _, by simp [ansNo, castA, hk0'], Or.inl ⟨rfl, rfl, rfl, rfl⟩, by simp [ansNo], by simp [ansNo]; decide, by simp [ansNo, ordV], Or.inl rfl⟩
  · by_cases hk : kindT b l = 1
    · by_cases hf : fitsT N b = true
      · have e : ∀ (S : List UInt8) (B : Bool), assignA 1 N S B b l = ansNum N := fun S B => by simp [assignA, hk, numA, hf]
        rw [e]
        refine Or.inr ⟨rfl, e _ _, by simp [ansNum, castA, hk, numA, hf], Or.inr (Or.inl ⟨rfl, rfl, rfl⟩), hN, by simp [ansNum]; decide, by simp [ansNum, ordV, cmpI_self], Or.inr hk.symm⟩
      · exact Or.inl ⟨sOut, bad_out, by simp [assignA, hk, numA, hf]⟩
    · have : ((1 : Int) != kindT b l) = true := by simp; exact fun e => hk e.symm
      exact Or.inl ⟨sMis, bad_mis, by simp [assignA, hk0', this]⟩
  · by_cases hk : kindT b l = 2
    · have e : ∀ (S : List UInt8), assignA 2 0 S false b l = textA S b l := fun S => by simp [assignA, hk]
      have hl := kind_two hk
      rw [e]
      rcases text_fixed S.data.toList b l hk with h | ⟨T, h, h1, h2, h3⟩
      · exact Or.inl ⟨sLong, bad_long, h⟩
      · rw [h]
        refine Or.inr ⟨rfl, ?_, ?_, Or.inr (Or.inr (Or.inl ⟨rfl, rfl, rfl⟩)), by simp [ansText], ?_, ?_, Or.inr hk.symm⟩
        · show assignA 2 0 T false b l = ansText T
          rw [e]
          unfold textA
          rw [if_pos h1, h2]
        · show castA 2 0 T false b l = ansText T
          have : castA 2 0 T false b l = ansText (padL (T.take l.toNat) b l) := by simp [castA, hk]
          rw [this, List.take_of_length_le (by omega), h2]
        · show T.toArray.size ≤ 100
          rw [List.size_toArray]; omega
        · show ordV (2, 0, T, false) (2, 0, S.data.toList, false) = 0
          simp [ordV, h3, cmpB_eq]
    · have : ((2 : Int) != kindT b l) = true := by simp; exact fun e => hk e.symm
      exact Or.inl ⟨sMis, bad_mis, by simp [assignA, hk0', this]⟩
  · by_cases hk : kindT b l = 3
    · have e : ∀ (S : List UInt8), assignA 3 0 S B b l = ansBool B := fun S => by simp [assignA, hk]
      rw [e]
      refine Or.inr ⟨rfl, e _, by simp [ansBool, castA, hk], Or.inr (Or.inr (Or.inr ⟨rfl, rfl, rfl⟩)), by simp [ansBool], by simp [ansBool]; decide, by simp [ansBool, ordV, ordB], Or.inr hk.symm⟩
    · have : ((3 : Int) != kindT b l) = true := by simp; exact fun e => hk e.symm
      exact Or.inl ⟨sMis, bad_mis, by simp [assignA, hk0', this]⟩
end Go.Proofs.YtjajngngajnnpabGreatDoor

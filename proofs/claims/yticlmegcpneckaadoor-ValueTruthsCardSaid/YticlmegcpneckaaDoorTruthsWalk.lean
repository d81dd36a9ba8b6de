/- The walks of Of and Back, of the document's own truths, and of the law ValueTruths. -/
import Derived.Test.YticlmegcpneckaaDoorAlive
import Derived.Test.YticlmegcpneckaaDoorRawValue
import Derived.WalkKit
import Derived.WalkSpells
import Derived.WalkLawsBesides
namespace Go.Proofs.YticlmegcpneckaaDoor
open Go.RowKit
set_option linter.unusedVariables false

abbrev sMis : ByteArray := ⟨#[52, 50, 56, 48, 52]⟩
def ofT (K : Int) (B : Bool) : Int := if K = 0 then 1 else if K = 3 then (if B then 2 else 0) else 1
def ofS (K : Int) : ByteArray := if K = 0 then sDone else if K = 3 then sDone else sMis
theorem ret_is {a b : Int} {s t : ByteArray} (h : a = b) (h2 : s = t) : Ending.returned (.tuple #[.int .i64 a, .string s]) = .returned (.tuple #[.int .i64 b, .string t]) := by rw [h, h2]

set_option maxHeartbeats 400000 in
theorem of_any (K N : Int) (S : ByteArray) (B : Bool) (w : World) :
    Calls Tryd.prog 17 #[val K N S B] w fun e w' => e = .returned (.tuple #[.int .i64 (ofT K B), .string (ofS K)]) ∧ Below w.heap.size w w' := by
  cases h0 : (K == 0)
  · cases h3 : (K == 3)
    · go_enter Tryd.func17, Tryd.ntmps17
      go_wp2
      go_ret2
      exact ⟨ret_is (by simp at h0 h3; simp [ofT, h0, h3]) (by simp at h0 h3; simp [ofS, h0, h3]), (by repeat (first | exact Below.refl _ _ | assumption | refine Below.alloc ?_ (by first | (simp; done) | (simp; omega)) _ | refine Below.setCell ?_ (by first | (simp; done) | (simp; omega)) _ | refine Below.drew ?_ | refine below_drewN ?_ _))⟩
    · cases B
      · go_enter Tryd.func17, Tryd.ntmps17
        go_wp2
        go_ret2
        exact ⟨ret_is (by simp at h3; simp [ofT, h3]) (by simp at h3; simp [ofS, h3]), (by repeat (first | exact Below.refl _ _ | assumption | refine Below.alloc ?_ (by first | (simp; done) | (simp; omega)) _ | refine Below.setCell ?_ (by first | (simp; done) | (simp; omega)) _ | refine Below.drew ?_ | refine below_drewN ?_ _))⟩
      · go_enter Tryd.func17, Tryd.ntmps17
        go_wp2
        go_ret2
        exact ⟨ret_is (by simp at h3; simp [ofT, h3]) (by simp at h3; simp [ofS, h3]), (by repeat (first | exact Below.refl _ _ | assumption | refine Below.alloc ?_ (by first | (simp; done) | (simp; omega)) _ | refine Below.setCell ?_ (by first | (simp; done) | (simp; omega)) _ | refine Below.drew ?_ | refine below_drewN ?_ _))⟩
  · go_enter Tryd.func17, Tryd.ntmps17
    go_wp2
    go_ret2
    exact ⟨ret_is (by simp at h0; simp [ofT, h0]) (by simp at h0; simp [ofS, h0]), (by repeat (first | exact Below.refl _ _ | assumption | refine Below.alloc ?_ (by first | (simp; done) | (simp; omega)) _ | refine Below.setCell ?_ (by first | (simp; done) | (simp; omega)) _ | refine Below.drew ?_ | refine below_drewN ?_ _))⟩

set_option maxHeartbeats 400000 in
theorem refOf_any (K N : Int) (S : ByteArray) (B : Bool) (w : World) :
    Calls Tryd.prog 18 #[val K N S B] w fun e w' => e = .returned (.tuple #[.int .i64 (ofT K B), .string (ofS K)]) ∧ Below w.heap.size w w' := by
  cases h0 : (K == 0)
  · cases h3 : (K == 3)
    · have h4 : (K != 3) = true := by simpa using h3
      go_enter Tryd.func18, Tryd.ntmps18
      go_wp2
      go_ret2
      exact ⟨ret_is (by simp at h0 h3; simp [ofT, h0, h3]) (by simp at h0 h3; simp [ofS, h0, h3]), (by repeat (first | exact Below.refl _ _ | assumption | refine Below.alloc ?_ (by first | (simp; done) | (simp; omega)) _ | refine Below.setCell ?_ (by first | (simp; done) | (simp; omega)) _ | refine Below.drew ?_ | refine below_drewN ?_ _))⟩
    · have h4 : (K != 3) = false := by simpa using h3
      cases B
      · go_enter Tryd.func18, Tryd.ntmps18
        go_wp2
        go_ret2
        exact ⟨ret_is (by simp at h3; simp [ofT, h3]) (by simp at h3; simp [ofS, h3]), (by repeat (first | exact Below.refl _ _ | assumption | refine Below.alloc ?_ (by first | (simp; done) | (simp; omega)) _ | refine Below.setCell ?_ (by first | (simp; done) | (simp; omega)) _ | refine Below.drew ?_ | refine below_drewN ?_ _))⟩
      · go_enter Tryd.func18, Tryd.ntmps18
        go_wp2
        go_ret2
        exact ⟨ret_is (by simp at h3; simp [ofT, h3]) (by simp at h3; simp [ofS, h3]), (by repeat (first | exact Below.refl _ _ | assumption | refine Below.alloc ?_ (by first | (simp; done) | (simp; omega)) _ | refine Below.setCell ?_ (by first | (simp; done) | (simp; omega)) _ | refine Below.drew ?_ | refine below_drewN ?_ _))⟩
  · go_enter Tryd.func18, Tryd.ntmps18
    go_wp2
    go_ret2
    exact ⟨ret_is (by simp at h0; simp [ofT, h0]) (by simp at h0; simp [ofS, h0]), (by repeat (first | exact Below.refl _ _ | assumption | refine Below.alloc ?_ (by first | (simp; done) | (simp; omega)) _ | refine Below.setCell ?_ (by first | (simp; done) | (simp; omega)) _ | refine Below.drew ?_ | refine below_drewN ?_ _))⟩

def bkK (t : Int) : Int := if t = 2 then 3 else if t = 0 then 3 else 0
def bkB (t : Int) : Bool := if t = 2 then true else false
theorem ret_val {a b : Int} {c d : Bool} (h : a = b) (h2 : c = d) : Ending.returned (val a 0 ⟨#[]⟩ c) = .returned (val b 0 ⟨#[]⟩ d) := by rw [h, h2]
set_option maxHeartbeats 400000 in
theorem back_any (t : Int) (w : World) :
    Calls Tryd.prog 19 #[.int .i64 t] w fun e w' => e = .returned (val (bkK t) 0 ⟨#[]⟩ (bkB t)) ∧ Below w.heap.size w w' := by
  cases h2 : (t == 2)
  · cases h0 : (t == 0)
    · go_enter Tryd.func19, Tryd.ntmps19
      go_wp2
      exact bodyPost_ret (v := val 0 0 ⟨#[]⟩ false) (by simp [results, Tryd.results19, go_sem]) rfl ⟨ret_val (by simp at h0 h2; simp [bkK, h0, h2]) (by simp at h0 h2; simp [bkB, h2]), (by repeat (first | exact Below.refl _ _ | assumption | refine Below.alloc ?_ (by first | (simp; done) | (simp; omega)) _ | refine Below.setCell ?_ (by first | (simp; done) | (simp; omega)) _ | refine Below.drew ?_ | refine below_drewN ?_ _))⟩
    · go_enter Tryd.func19, Tryd.ntmps19
      go_wp2
      exact bodyPost_ret (v := val 3 0 ⟨#[]⟩ false) (by simp [results, Tryd.results19, go_sem]) rfl ⟨ret_val (by simp at h0 h2; simp [bkK, h0]) (by simp at h0 h2; simp [bkB, h2]), (by repeat (first | exact Below.refl _ _ | assumption | refine Below.alloc ?_ (by first | (simp; done) | (simp; omega)) _ | refine Below.setCell ?_ (by first | (simp; done) | (simp; omega)) _ | refine Below.drew ?_ | refine below_drewN ?_ _))⟩
  · go_enter Tryd.func19, Tryd.ntmps19
    go_wp2
    exact bodyPost_ret (v := val 3 0 ⟨#[]⟩ true) (by simp [results, Tryd.results19, go_sem]) rfl ⟨ret_val (by simp at h2; simp [bkK, h2]) (by simp at h2; simp [bkB, h2]), (by repeat (first | exact Below.refl _ _ | assumption | refine Below.alloc ?_ (by first | (simp; done) | (simp; omega)) _ | refine Below.setCell ?_ (by first | (simp; done) | (simp; omega)) _ | refine Below.drew ?_ | refine below_drewN ?_ _))⟩

set_option maxHeartbeats 400000 in
theorem refBack_any (t : Int) (w : World) :
    Calls Tryd.prog 20 #[.int .i64 t] w fun e w' => e = .returned (val (bkK t) 0 ⟨#[]⟩ (bkB t)) ∧ Below w.heap.size w w' := by
  cases h2 : (t == 2)
  · cases h0 : (t == 0)
    · go_enter Tryd.func20, Tryd.ntmps20
      go_wp2
      exact bodyPost_ret (v := val 0 0 ⟨#[]⟩ false) (by simp [results, Tryd.results20, go_sem]) rfl ⟨ret_val (by simp at h0 h2; simp [bkK, h0, h2]) (by simp at h0 h2; simp [bkB, h2]), (by repeat (first | exact Below.refl _ _ | assumption | refine Below.alloc ?_ (by first | (simp; done) | (simp; omega)) _ | refine Below.setCell ?_ (by first | (simp; done) | (simp; omega)) _ | refine Below.drew ?_ | refine below_drewN ?_ _))⟩
    · go_enter Tryd.func20, Tryd.ntmps20
      go_wp2
      exact bodyPost_ret (v := val 3 0 ⟨#[]⟩ false) (by simp [results, Tryd.results20, go_sem]) rfl ⟨ret_val (by simp at h0 h2; simp [bkK, h0]) (by simp at h0 h2; simp [bkB, h2]), (by repeat (first | exact Below.refl _ _ | assumption | refine Below.alloc ?_ (by first | (simp; done) | (simp; omega)) _ | refine Below.setCell ?_ (by first | (simp; done) | (simp; omega)) _ | refine Below.drew ?_ | refine below_drewN ?_ _))⟩
  · go_enter Tryd.func20, Tryd.ntmps20
    go_wp2
    exact bodyPost_ret (v := val 3 0 ⟨#[]⟩ true) (by simp [results, Tryd.results20, go_sem]) rfl ⟨ret_val (by simp at h2; simp [bkK, h2]) (by simp at h2; simp [bkB, h2]), (by repeat (first | exact Below.refl _ _ | assumption | refine Below.alloc ?_ (by first | (simp; done) | (simp; omega)) _ | refine Below.setCell ?_ (by first | (simp; done) | (simp; omega)) _ | refine Below.drew ?_ | refine below_drewN ?_ _))⟩

set_option maxHeartbeats 400000 in
theorem one_any (t : Int) (w : World) :
    Calls Tryd.prog 52 #[.int .i64 t] w fun e w' => e = .returned (.int .i64 (trI t)) ∧ w' = w := by
  cases h2 : (t == 2)
  · cases h0 : (t == 0)
    · go_enter Tryd.func52, Tryd.ntmps52
      go_wp2
      go_ret
      exact ⟨ret_int (trI_no h0 h2).symm, rfl⟩
    · go_enter Tryd.func52, Tryd.ntmps52
      go_wp2
      go_ret
      exact ⟨ret_int (trI_yes0 h0).symm, rfl⟩
  · go_enter Tryd.func52, Tryd.ntmps52
    go_wp2
    go_ret
    exact ⟨ret_int (trI_yes2 h2).symm, rfl⟩

set_option maxHeartbeats 400000 in
theorem refNot_any (t : Int) (w : World) :
    Calls Tryd.prog 22 #[.int .i64 t] w fun e w' => e = .returned (.int .i64 (notI t)) ∧ w' = w := by
  cases h2 : (t == 2)
  · cases h0 : (t == 0)
    · have g2 : (trI t == 2) = false := by rw [trI_no h0 h2]; rfl
      have g0 : (trI t == 0) = false := by rw [trI_no h0 h2]; rfl
      go_enter Tryd.func22, Tryd.ntmps22
      go_wp2_with (go_at_call 52; refine (one_any _ _).mono ?_; rintro e w' ⟨rfl, rfl⟩)
      go_ret
      exact ⟨ret_int (by simp at h0 h2; simp [notI, h0, h2]), rfl⟩
    · have g2 : (trI t == 2) = false := by rw [trI_yes0 h0]; exact h2
      have g0 : (trI t == 0) = true := by rw [trI_yes0 h0]; exact h0
      go_enter Tryd.func22, Tryd.ntmps22
      go_wp2_with (go_at_call 52; refine (one_any _ _).mono ?_; rintro e w' ⟨rfl, rfl⟩)
      go_ret
      exact ⟨ret_int (by simp at h0 h2; simp [notI, h0]), rfl⟩
  · have g2 : (trI t == 2) = true := by rw [trI_yes2 h2]; exact h2
    go_enter Tryd.func22, Tryd.ntmps22
    go_wp2_with (go_at_call 52; refine (one_any _ _).mono ?_; rintro e w' ⟨rfl, rfl⟩)
    go_ret
    exact ⟨ret_int (by simp at h2; simp [notI, h2]), rfl⟩

set_option maxHeartbeats 400000 in
theorem refAnd_any (a b : Int) (w : World) :
    Calls Tryd.prog 24 #[.int .i64 a, .int .i64 b] w fun e w' => e = .returned (.int .i64 (andI a b)) ∧ w' = w := by
  go_enter Tryd.func24, Tryd.ntmps24
  go_wp2_with (go_at_call 52; refine (one_any _ _).mono ?_; rintro e w' ⟨rfl, rfl⟩)
  all_goals
    go_ret
    exact ⟨ret_int (by unfold andI; omega), rfl⟩

set_option maxHeartbeats 400000 in
theorem refOr_any (a b : Int) (w : World) :
    Calls Tryd.prog 26 #[.int .i64 a, .int .i64 b] w fun e w' => e = .returned (.int .i64 (orI a b)) ∧ w' = w := by
  go_enter Tryd.func26, Tryd.ntmps26
  go_wp2_with (go_at_call 52; refine (one_any _ _).mono ?_; rintro e w' ⟨rfl, rfl⟩)
  all_goals
    go_ret
    exact ⟨ret_int (by unfold orI; omega), rfl⟩

set_option maxHeartbeats 1000000 in
theorem truths_law (k n : Int) (s : ByteArray) (b : Bool) (p q : Int) (w : World) (hk : -9223372036854775808 ≤ k ∧ k ≤ 9223372036854775807) :
    Calls Tryd.prog 4 #[val k n s b, .int .i64 p, .int .i64 q] w fun e w' => e = .returned (.bool true) ∧ Below w.heap.size w w' := by
  go_enter Tryd.func4, Tryd.ntmps4
  go_wp2_with fail
  refine (rawValue_any k n s b _ hk).mono ?_
  rintro e w1 ⟨⟨K, N, S, B, rfl, HR, HN, HS⟩, hb⟩
  clear HR HN HS hk
  obtain ⟨hcl, hfr⟩ := bcell hb
  have h1 : Below w.heap.size w w1 := (by repeat (first | exact Below.refl _ _ | assumption | refine Below.alloc ?_ (by first | (simp; done) | (simp; omega)) _ | refine Below.setCell ?_ (by first | (simp; done) | (simp; omega)) _ | refine Below.drew ?_ | refine below_drewN ?_ _ | refine Below.trans ?_ (hb.mono (by first | (simp; done) | (simp; omega)))))
  clear hb
  go_wp2_with fail
  refine (of_any _ _ _ _ _).mono ?_
  rintro e w2 ⟨rfl, hb2⟩
  obtain ⟨hcl2, hfr2⟩ := bcell hb2
  have h2 : Below w.heap.size w w2 := (h1.alloc h1.size _).trans (hb2.mono (Nat.le_trans h1.size (by simp)))
  have hz2 := hb2.size
  simp at hz2
  clear hb2
  go_wp2_with fail
  refine (refOf_any _ _ _ _ _).mono ?_
  rintro e w3 ⟨rfl, hb3⟩
  have h3 := keepA (W0 := w) h2 hb3
  clear hb3 h2 h1 hcl2 hfr2 hcl hfr hz2
  go_wp2_with (first
    | (go_at_call 12; refine (alive_any _).mono ?_; rintro e w' ⟨rfl, hb⟩; have hk := keepA (W0 := w) (by assumption) hb; clear hb)
    | (go_at_call 19; refine (back_any _ _).mono ?_; rintro e w' ⟨rfl, hb⟩; have hk := keepA (W0 := w) (by assumption) hb; clear hb)
    | (go_at_call 20; refine (refBack_any _ _).mono ?_; rintro e w' ⟨rfl, hb⟩; have hk := keepA (W0 := w) (by assumption) hb; clear hb)
    | (go_at_call 21; refine (not_any _ _).mono ?_; rintro e w' ⟨rfl, rfl⟩)
    | (go_at_call 22; refine (refNot_any _ _).mono ?_; rintro e w' ⟨rfl, rfl⟩)
    | (go_at_call 23; refine (and_any _ _ _).mono ?_; rintro e w' ⟨rfl, rfl⟩)
    | (go_at_call 24; refine (refAnd_any _ _ _).mono ?_; rintro e w' ⟨rfl, rfl⟩)
    | (go_at_call 25; refine (or_any _ _ _).mono ?_; rintro e w' ⟨rfl, rfl⟩)
    | (go_at_call 26; refine (refOr_any _ _ _).mono ?_; rintro e w' ⟨rfl, rfl⟩))
  go_ret
  exact ⟨rfl, by assumption⟩
end Go.Proofs.YticlmegcpneckaaDoor

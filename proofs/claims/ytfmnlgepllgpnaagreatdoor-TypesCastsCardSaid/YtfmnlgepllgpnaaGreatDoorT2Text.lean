/- The walks of the functions on texts of layer 2: filled, assignText, told; padded. -/
import Derived.Test.YtfmnlgepllgpnaaGreatDoorT2Right
namespace Go.Proofs.YtfmnlgepllgpnaaGreatDoor
open Go.RowKit
set_option linter.unusedVariables false

theorem repeatL_32 : ∀ c : Nat, Lib.repeatL [32] c = List.replicate c 32
  | 0 => rfl
  | c + 1 => by rw [Lib.repeatL, repeatL_32 c, List.replicate_succ]; rfl
theorem trepeat_any (z : Int) (w : World) (h : 0 ≤ z ∧ z ≤ 100) :
    Calls Tryz.prog 30 #[.string ⟨#[32]⟩, .int .i64 z] w fun e w' => e = .returned (.string ⟨(List.replicate z.toNat 32).toArray⟩) ∧ Below w.heap.size w w' := by
  obtain ⟨c, rfl⟩ := Int.eq_ofNat_of_zero_le h.1
  have := Tryz.strings_Repeat ⟨#[32]⟩ c w (by omega) (by have : (⟨#[32]⟩ : ByteArray).size = 1 := rfl; rw [this]; omega)
  rw [show ((⟨#[32]⟩ : ByteArray).data.toList) = [32] from rfl, repeatL_32] at this
  exact this
theorem cat_list (s : ByteArray) (l : List UInt8) : s ++ (⟨l.toArray⟩ : ByteArray) = ⟨(s.data.toList ++ l).toArray⟩ := by
  apply ByteArray.ext
  simp
theorem cat_rep (s : ByteArray) (n : Nat) : s ++ (⟨Array.replicate (n - s.size) 32⟩ : ByteArray) = ⟨(s.data.toList ++ List.replicate (n - s.data.toList.length) 32).toArray⟩ := by
  rw [← cat_list]
  simp
theorem padL_other {s : List UInt8} {b l : Int} (h : (b == 4) = false) : padL s b l = s := by simp [padL, h]
theorem padL_char {s : List UInt8} {l : Int} : padL s 4 l = s ++ List.replicate (l.toNat - s.length) 32 := by simp [padL]
theorem mk_eq {u : ByteArray} {l : List UInt8} (h : u.data.toList = l) : u = ⟨l.toArray⟩ := by subst h; rfl
theorem mk_list (u : ByteArray) : (⟨u.data.toList.toArray⟩ : ByteArray) = u := rfl

set_option maxHeartbeats 1000000 in
theorem tfilled_any (s : ByteArray) (b l : Int) (w : World) (h : b = 4 → (s.size : Int) ≤ l ∧ l ≤ 100) :
    Calls Tryz.prog 10 #[.string s, typ b l] w fun e w' => e = .returned (val 2 0 ⟨(padL s.data.toList b l).toArray⟩ false) ∧ Below w.heap.size w w' := by
  cases hb4 : (b == 4)
  · rw [padL_other hb4]
    clear h
    go_enter Tryz.func10, Tryz.ntmps10
    go_wp2
    exact bodyPost_ret (v := val 2 0 s false) (by simp [results, Tryz.results10, go_sem]) rfl ⟨rfl, (by repeat (first | exact Below.refl _ _ | assumption | refine Below.alloc ?_ (by first | (simp; done) | (simp; omega)) _ | refine Below.setCell ?_ (by first | (simp; done) | (simp; omega)) _ | refine Below.drew ?_ | refine below_drewN ?_ _))⟩
  · obtain rfl : b = 4 := by simpa using hb4
    obtain ⟨h1, h2⟩ := h rfl
    clear h hb4
    rw [padL_char]
    go_enter Tryz.func10, Tryz.ntmps10
    go_wp2_with (go_at_call 30; refine (trepeat_any _ _ ⟨by omega, by omega⟩).mono ?_; rintro e w1 ⟨rfl, hb⟩; obtain ⟨hcl, hfr⟩ := bcell hb)
    exact bodyPost_ret (v := val 2 0 (s ++ ⟨Array.replicate (l.toNat - s.size) 32⟩) false) (by simp [results, Tryz.results10, go_sem, hcl]) rfl ⟨by rw [cat_rep], (by repeat (first | exact Below.refl _ _ | assumption | refine Below.alloc ?_ (by first | (simp; done) | (simp; omega)) _ | refine Below.setCell ?_ (by first | (simp; done) | (simp; omega)) _ | refine Below.drew ?_ | refine below_drewN ?_ _ | refine Below.trans ?_ (hb.mono (by first | (simp; done) | (simp; omega)))))⟩

theorem ext_tail (s : ByteArray) (m : Nat) : (s.extract m s.size).data.toList = s.data.toList.drop m := by
  rw [Lib.extract_data]
  rw [List.take_of_length_le (by simp)]
theorem ttail_blank (s : ByteArray) (m : Nat) (w : World) (hs : s.size ≤ maxLen) (h : trimL (s.data.toList.drop m) = []) :
    Calls Tryz.prog 82 #[.string (s.extract m s.size), .string ⟨#[32]⟩] w fun e w' => e = .returned (.string ⟨#[]⟩) ∧ w' = w := by
  have := trimRight_any (s.extract m s.size) w (by simp; omega)
  rw [ext_tail, h] at this
  exact this
theorem ttail_not (s : ByteArray) (m : Nat) (w : World) (hs : s.size ≤ maxLen) (h : trimL (s.data.toList.drop m) ≠ []) :
    Calls Tryz.prog 82 #[.string (s.extract m s.size), .string ⟨#[32]⟩] w fun e w' => (∃ t : ByteArray, t.toList.isEmpty = false ∧ e = .returned (.string t)) ∧ w' = w := by
  have := trimRight_any (s.extract m s.size) w (by simp; omega)
  rw [ext_tail] at this
  refine this.mono fun e w' ⟨he, hw⟩ => ⟨⟨_, ?_, he⟩, hw⟩
  rw [Lib.toList_data]
  cases hh : trimL (s.data.toList.drop m) with
  | nil => exact absurd hh h
  | cons a r => rfl
set_option maxHeartbeats 1000000 in
theorem ttext_short (s : ByteArray) (b : Int) (m : Nat) (w : World) (hm : 1 ≤ m ∧ m ≤ 100) (h : s.size ≤ m) :
    Calls Tryz.prog 52 #[.string s, typ b m] w fun e w' => e = .returned (.tuple #[val 2 0 ⟨(padL s.data.toList b m).toArray⟩ false, .string sDone]) ∧ Below w.heap.size w w' := by
  go_enter Tryz.func52, Tryz.ntmps52
  go_wp2_with (go_at_call 10; refine (tfilled_any _ _ _ _ (fun _ => ⟨by omega, by omega⟩)).mono ?_; rintro e w1 ⟨rfl, hb⟩; obtain ⟨hcl, hfr⟩ := bcell hb)
  exact bodyPost_ret (v := .tuple #[val 2 0 ⟨(padL s.data.toList b m).toArray⟩ false, .string sDone]) (by simp [results, Tryz.results52, go_sem, hcl]) rfl ⟨rfl, (by repeat (first | exact Below.refl _ _ | assumption | refine Below.alloc ?_ (by first | (simp; done) | (simp; omega)) _ | refine Below.setCell ?_ (by first | (simp; done) | (simp; omega)) _ | refine Below.drew ?_ | refine below_drewN ?_ _ | refine Below.trans ?_ (hb.mono (by first | (simp; done) | (simp; omega)))))⟩
set_option maxHeartbeats 1000000 in
theorem ttext_cut (s : ByteArray) (b : Int) (m : Nat) (w : World) (hm : 1 ≤ m ∧ m ≤ 100) (h : m < s.size) (hs : s.size ≤ 9223372036854775807) (ht : Hid (trimL (s.data.toList.drop m) = [])) :
    Calls Tryz.prog 52 #[.string s, typ b m] w fun e w' => e = .returned (.tuple #[val 2 0 ⟨(padL (s.data.toList.take m) b m).toArray⟩ false, .string sDone]) ∧ Below w.heap.size w w' := by
  go_enter Tryz.func52, Tryz.ntmps52
  go_wp2_with (first
    | (go_at_call 82; refine (ttail_blank s m _ hs ht.out).mono ?_; rintro e w1 ⟨rfl, rfl⟩)
    | (go_at_call 10; refine (tfilled_any _ _ _ _ (fun _ => ⟨by simp; omega, by omega⟩)).mono ?_; rintro e w1 ⟨rfl, hb⟩; obtain ⟨hcl, hfr⟩ := bcell hb))
  exact bodyPost_ret (v := .tuple #[val 2 0 ⟨(padL (s.data.toList.take m) b m).toArray⟩ false, .string sDone]) (by simp [results, Tryz.results52, go_sem, hcl]) rfl ⟨rfl, (by repeat (first | exact Below.refl _ _ | assumption | refine Below.alloc ?_ (by first | (simp; done) | (simp; omega)) _ | refine Below.setCell ?_ (by first | (simp; done) | (simp; omega)) _ | refine Below.drew ?_ | refine below_drewN ?_ _ | refine Below.trans ?_ (hb.mono (by first | (simp; done) | (simp; omega)))))⟩
set_option maxHeartbeats 1000000 in
theorem ttext_long (s : ByteArray) (b : Int) (m : Nat) (w : World) (hm : 1 ≤ m ∧ m ≤ 100) (h : m < s.size) (hs : s.size ≤ 9223372036854775807) (ht : Hid (trimL (s.data.toList.drop m) ≠ [])) :
    Calls Tryz.prog 52 #[.string s, typ b m] w fun e w' => e = .returned (.tuple #[nullV, .string sLong]) ∧ Below w.heap.size w w' := by
  go_enter Tryz.func52, Tryz.ntmps52
  go_wp2_with (go_at_call 82; refine (ttail_not s m _ hs ht.out).mono ?_; rintro e w1 ⟨⟨t, ht2, rfl⟩, rfl⟩)
  exact bodyPost_ret (v := .tuple #[nullV, .string sLong]) (by simp [results, Tryz.results52, go_sem]) rfl ⟨rfl, (by repeat (first | exact Below.refl _ _ | assumption | refine Below.alloc ?_ (by first | (simp; done) | (simp; omega)) _ | refine Below.setCell ?_ (by first | (simp; done) | (simp; omega)) _ | refine Below.drew ?_ | refine below_drewN ?_ _))⟩
theorem ttext_any (s : ByteArray) (b l : Int) (w : World) (hl : 1 ≤ l ∧ l ≤ 100) (hs : s.size ≤ maxLen) :
    Calls Tryz.prog 52 #[.string s, typ b l] w fun e w' => e = .returned ((textA s.data.toList b l).ret) ∧ Below w.heap.size w w' := by
  obtain ⟨m, rfl⟩ := Int.eq_ofNat_of_zero_le (a := l) (by omega)
  have hsz : s.data.toList.length = s.size := by simp
  unfold textA
  rw [hsz]
  by_cases h : s.size ≤ m
  · rw [if_pos (by omega)]
    exact ttext_short s b m w (by omega) h
  · rw [if_neg (by omega)]
    by_cases ht : trimL (s.data.toList.drop ((m : Int).toNat)) = []
    · rw [if_pos ht]
      exact ttext_cut s b m w (by omega) (by omega) hs ht
    · rw [if_neg ht]
      exact ttext_long s b m w (by omega) (by omega) hs ht

set_option maxHeartbeats 1000000 in
theorem ttold_any (s : ByteArray) (b l : Int) (w : World) (hl : 1 ≤ l ∧ l ≤ 100) (hs : s.size ≤ 100) :
    Calls Tryz.prog 11 #[.string s, typ b l] w fun e w' => e = .returned ((toldA s.data.toList b l).ret) ∧ Below w.heap.size w w' := by
  have hsz : s.data.toList.length = s.size := by simp
  unfold toldA
  rw [hsz]
  by_cases h : (s.size : Int) ≤ l
  · rw [if_pos h]
    show Calls _ _ _ _ fun e w' => e = .returned (.tuple #[val 2 0 ⟨(padL s.data.toList b l).toArray⟩ false, .string sDone]) ∧ Below w.heap.size w w'
    clear hsz
    go_enter Tryz.func11, Tryz.ntmps11
    go_wp2_with (go_at_call 10; refine (tfilled_any _ _ _ _ (fun _ => ⟨by omega, by omega⟩)).mono ?_; rintro e w1 ⟨rfl, hb⟩; obtain ⟨hcl, hfr⟩ := bcell hb)
    exact bodyPost_ret (v := .tuple #[val 2 0 ⟨(padL s.data.toList b l).toArray⟩ false, .string sDone]) (by simp [results, Tryz.results11, go_sem, hcl]) rfl ⟨rfl, (by repeat (first | exact Below.refl _ _ | assumption | refine Below.alloc ?_ (by first | (simp; done) | (simp; omega)) _ | refine Below.setCell ?_ (by first | (simp; done) | (simp; omega)) _ | refine Below.drew ?_ | refine below_drewN ?_ _ | refine Below.trans ?_ (hb.mono (by first | (simp; done) | (simp; omega)))))⟩
  · rw [if_neg h]
    show Calls _ _ _ _ fun e w' => e = .returned (.tuple #[nullV, .string sLong]) ∧ Below w.heap.size w w'
    clear hsz
    go_enter Tryz.func11, Tryz.ntmps11
    go_wp2
    exact bodyPost_ret (v := .tuple #[nullV, .string sLong]) (by simp [results, Tryz.results11, go_sem]) rfl ⟨rfl, (by repeat (first | exact Below.refl _ _ | assumption | refine Below.alloc ?_ (by first | (simp; done) | (simp; omega)) _ | refine Below.setCell ?_ (by first | (simp; done) | (simp; omega)) _ | refine Below.drew ?_ | refine below_drewN ?_ _))⟩
end Go.Proofs.YtfmnlgepllgpnaaGreatDoor

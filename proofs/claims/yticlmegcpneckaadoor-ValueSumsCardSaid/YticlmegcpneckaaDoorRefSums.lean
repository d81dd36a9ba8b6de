/- The walks of the document's own answers for V3's whole numbers and joined texts, at values of other kinds. -/
import Derived.Test.YticlmegcpneckaaDoorCat
import Derived.Deep.QuietTactic
import Derived.BigQuiet
namespace Go.Proofs.YticlmegcpneckaaDoor
open Go.RowKit
set_option linter.unusedVariables false

theorem ret_sb {a b : ByteArray} {c d : Bool} (h : a = b) (h2 : c = d) : Ending.returned (.tuple #[.string a, .bool c]) = .returned (.tuple #[.string b, .bool d]) := by rw [h, h2]
set_option maxHeartbeats 1000000 in
theorem refBoth_out (kk K1 N1 : Int) (S1 : ByteArray) (B1 : Bool) (K2 N2 : Int) (S2 : ByteArray) (B2 : Bool) (ok : Bool) (st : ByteArray) (h0 : (kk == 0) = false) (hn : ¬ (K1 = kk ∧ K2 = kk)) (w : World) :
    Calls Tryd.prog 56 #[val K1 N1 S1 B1, val K2 N2 S2 B2, .int .i64 kk] w fun e w' => e = .returned (.tuple #[.string (rS kk K1 K2 ok st), .bool true]) ∧ Below w.heap.size w w' := by
  have hz : kk ≠ 0 := by simpa using h0
  by_cases a1 : K1 = 0
  · subst a1
    by_cases a2 : K2 = 0
    · subst a2
      have hs : rS kk 0 0 ok st = sDone := by simp [rS]
      go_enter Tryd.func56, Tryd.ntmps56
      go_wp2
      go_quiet (fail)
      go_wp2
      go_ret2
      exact ⟨ret_sb hs.symm rfl, (by repeat (first | exact Below.refl _ _ | assumption | refine Below.alloc ?_ (by first | (simp; done) | (simp; omega)) _ | refine Below.setCell ?_ (by first | (simp; done) | (simp; omega)) _ | refine Below.drew ?_ | refine below_drewN ?_ _))⟩
    · by_cases a3 : K2 = kk
      · subst a3
        have hs : rS K2 0 K2 ok st = sDone := by simp [rS]
        have b2 : (K2 != 0) = true := by simp [a2]
        clear hn
        go_enter Tryd.func56, Tryd.ntmps56
        go_wp2
        go_quiet (fail)
        go_wp2
        go_ret2
        exact ⟨ret_sb hs.symm rfl, (by repeat (first | exact Below.refl _ _ | assumption | refine Below.alloc ?_ (by first | (simp; done) | (simp; omega)) _ | refine Below.setCell ?_ (by first | (simp; done) | (simp; omega)) _ | refine Below.drew ?_ | refine below_drewN ?_ _))⟩
      · have hs : rS kk 0 K2 ok st = sMisA := by simp [rS, a2, a3]
        have b2 : (K2 != 0) = true := by simp [a2]
        have b3 : (K2 != kk) = true := by simp [a3]
        clear hn
        go_enter Tryd.func56, Tryd.ntmps56
        go_wp2
        go_ret2
        exact ⟨ret_sb hs.symm rfl, (by repeat (first | exact Below.refl _ _ | assumption | refine Below.alloc ?_ (by first | (simp; done) | (simp; omega)) _ | refine Below.setCell ?_ (by first | (simp; done) | (simp; omega)) _ | refine Below.drew ?_ | refine below_drewN ?_ _))⟩
  · have b1 : (K1 != 0) = true := by simp [a1]
    have c1 : (K1 == 0) = false := by simp [a1]
    by_cases a4 : K1 = kk
    · subst a4
      by_cases a2 : K2 = 0
      · subst a2
        have hs : rS K1 K1 0 ok st = sDone := by simp [rS]
        clear hn
        go_enter Tryd.func56, Tryd.ntmps56
        go_wp2
        go_quiet (fail)
        go_wp2
        go_ret2
        exact ⟨ret_sb hs.symm rfl, (by repeat (first | exact Below.refl _ _ | assumption | refine Below.alloc ?_ (by first | (simp; done) | (simp; omega)) _ | refine Below.setCell ?_ (by first | (simp; done) | (simp; omega)) _ | refine Below.drew ?_ | refine below_drewN ?_ _))⟩
      · have a3 : K2 ≠ K1 := fun h => hn ⟨rfl, h⟩
        have hs : rS K1 K1 K2 ok st = sMisA := by simp [rS, a2, a3]
        have b2 : (K2 != 0) = true := by simp [a2]
        have b3 : (K2 != K1) = true := by simp [a3]
        clear hn
        go_enter Tryd.func56, Tryd.ntmps56
        go_wp2
        go_ret2
        exact ⟨ret_sb hs.symm rfl, (by repeat (first | exact Below.refl _ _ | assumption | refine Below.alloc ?_ (by first | (simp; done) | (simp; omega)) _ | refine Below.setCell ?_ (by first | (simp; done) | (simp; omega)) _ | refine Below.drew ?_ | refine below_drewN ?_ _))⟩
    · have hs : rS kk K1 K2 ok st = sMisA := by simp [rS, a1, a4]
      have b4 : (K1 != kk) = true := by simp [a4]
      clear hn
      go_enter Tryd.func56, Tryd.ntmps56
      go_wp2
      go_ret2
      exact ⟨ret_sb hs.symm rfl, (by repeat (first | exact Below.refl _ _ | assumption | refine Below.alloc ?_ (by first | (simp; done) | (simp; omega)) _ | refine Below.setCell ?_ (by first | (simp; done) | (simp; omega)) _ | refine Below.drew ?_ | refine below_drewN ?_ _))⟩
set_option maxHeartbeats 1000000 in
theorem refBoth_go (kk N1 : Int) (S1 : ByteArray) (B1 : Bool) (N2 : Int) (S2 : ByteArray) (B2 : Bool) (h0 : (kk == 0) = false) (w : World) :
    Calls Tryd.prog 56 #[val kk N1 S1 B1, val kk N2 S2 B2, .int .i64 kk] w fun e w' => e = .returned (.tuple #[.string sDone, .bool false]) ∧ Below w.heap.size w w' := by
  have b1 : (kk != 0) = true := by simpa using h0
  go_enter Tryd.func56, Tryd.ntmps56
  go_wp2
  go_quiet (fail)
  go_wp2
  go_ret2
  exact ⟨rfl, (by repeat (first | exact Below.refl _ _ | assumption | refine Below.alloc ?_ (by first | (simp; done) | (simp; omega)) _ | refine Below.setCell ?_ (by first | (simp; done) | (simp; omega)) _ | refine Below.drew ?_ | refine below_drewN ?_ _))⟩
set_option maxHeartbeats 1000000 in
theorem refAdd_out (K1 N1 : Int) (S1 : ByteArray) (B1 : Bool) (K2 N2 : Int) (S2 : ByteArray) (B2 : Bool) (ok : Bool) (st : ByteArray) (hn : ¬ (K1 = 1 ∧ K2 = 1)) (w : World) :
    Calls Tryd.prog 28 #[val K1 N1 S1 B1, val K2 N2 S2 B2] w fun e w' => e = .returned (.tuple #[nullV, .string (rS 1 K1 K2 ok st)]) ∧ Below w.heap.size w w' := by
  have H : Hid (¬ (K1 = 1 ∧ K2 = 1)) := hn
  clear hn
  go_enter Tryd.func28, Tryd.ntmps28
  go_wp2_with fail
  refine (refBoth_out 1 K1 N1 S1 B1 K2 N2 S2 B2 ok st rfl H.out _).mono ?_
  rintro e w1 ⟨rfl, hb⟩
  obtain ⟨hcl, hfr⟩ := bcell hb
  go_wp2
  exact bodyPost_ret (v := .tuple #[nullV, .string (rS 1 K1 K2 ok st)]) (by simp [results, Tryd.results28, go_sem, hcl]) rfl ⟨rfl, (by repeat (first | exact Below.refl _ _ | assumption | refine Below.alloc ?_ (by first | (simp; done) | (simp; omega)) _ | refine Below.setCell ?_ (by first | (simp; done) | (simp; omega)) _ | refine Below.drew ?_ | refine below_drewN ?_ _ | refine Below.trans ?_ (hb.mono (by first | (simp; done) | (simp; omega)))))⟩
set_option maxHeartbeats 1000000 in
theorem refSub_out (K1 N1 : Int) (S1 : ByteArray) (B1 : Bool) (K2 N2 : Int) (S2 : ByteArray) (B2 : Bool) (ok : Bool) (st : ByteArray) (hn : ¬ (K1 = 1 ∧ K2 = 1)) (w : World) :
    Calls Tryd.prog 30 #[val K1 N1 S1 B1, val K2 N2 S2 B2] w fun e w' => e = .returned (.tuple #[nullV, .string (rS 1 K1 K2 ok st)]) ∧ Below w.heap.size w w' := by
  have H : Hid (¬ (K1 = 1 ∧ K2 = 1)) := hn
  clear hn
  go_enter Tryd.func30, Tryd.ntmps30
  go_wp2_with fail
  refine (refBoth_out 1 K1 N1 S1 B1 K2 N2 S2 B2 ok st rfl H.out _).mono ?_
  rintro e w1 ⟨rfl, hb⟩
  obtain ⟨hcl, hfr⟩ := bcell hb
  go_wp2
  exact bodyPost_ret (v := .tuple #[nullV, .string (rS 1 K1 K2 ok st)]) (by simp [results, Tryd.results30, go_sem, hcl]) rfl ⟨rfl, (by repeat (first | exact Below.refl _ _ | assumption | refine Below.alloc ?_ (by first | (simp; done) | (simp; omega)) _ | refine Below.setCell ?_ (by first | (simp; done) | (simp; omega)) _ | refine Below.drew ?_ | refine below_drewN ?_ _ | refine Below.trans ?_ (hb.mono (by first | (simp; done) | (simp; omega)))))⟩
set_option maxHeartbeats 1000000 in
theorem refMul_out (K1 N1 : Int) (S1 : ByteArray) (B1 : Bool) (K2 N2 : Int) (S2 : ByteArray) (B2 : Bool) (ok : Bool) (st : ByteArray) (hn : ¬ (K1 = 1 ∧ K2 = 1)) (w : World) :
    Calls Tryd.prog 32 #[val K1 N1 S1 B1, val K2 N2 S2 B2] w fun e w' => e = .returned (.tuple #[nullV, .string (rS 1 K1 K2 ok st)]) ∧ Below w.heap.size w w' := by
  have H : Hid (¬ (K1 = 1 ∧ K2 = 1)) := hn
  clear hn
  go_enter Tryd.func32, Tryd.ntmps32
  go_wp2_with fail
  refine (refBoth_out 1 K1 N1 S1 B1 K2 N2 S2 B2 ok st rfl H.out _).mono ?_
  rintro e w1 ⟨rfl, hb⟩
  obtain ⟨hcl, hfr⟩ := bcell hb
  go_wp2
  exact bodyPost_ret (v := .tuple #[nullV, .string (rS 1 K1 K2 ok st)]) (by simp [results, Tryd.results32, go_sem, hcl]) rfl ⟨rfl, (by repeat (first | exact Below.refl _ _ | assumption | refine Below.alloc ?_ (by first | (simp; done) | (simp; omega)) _ | refine Below.setCell ?_ (by first | (simp; done) | (simp; omega)) _ | refine Below.drew ?_ | refine below_drewN ?_ _ | refine Below.trans ?_ (hb.mono (by first | (simp; done) | (simp; omega)))))⟩
set_option maxHeartbeats 1000000 in
theorem refDiv_out (K1 N1 : Int) (S1 : ByteArray) (B1 : Bool) (K2 N2 : Int) (S2 : ByteArray) (B2 : Bool) (ok : Bool) (st : ByteArray) (hn : ¬ (K1 = 1 ∧ K2 = 1)) (w : World) :
    Calls Tryd.prog 34 #[val K1 N1 S1 B1, val K2 N2 S2 B2] w fun e w' => e = .returned (.tuple #[nullV, .string (rS 1 K1 K2 ok st)]) ∧ Below w.heap.size w w' := by
  have H : Hid (¬ (K1 = 1 ∧ K2 = 1)) := hn
  clear hn
  go_enter Tryd.func34, Tryd.ntmps34
  go_wp2_with fail
  refine (refBoth_out 1 K1 N1 S1 B1 K2 N2 S2 B2 ok st rfl H.out _).mono ?_
  rintro e w1 ⟨rfl, hb⟩
  obtain ⟨hcl, hfr⟩ := bcell hb
  go_wp2
  exact bodyPost_ret (v := .tuple #[nullV, .string (rS 1 K1 K2 ok st)]) (by simp [results, Tryd.results34, go_sem, hcl]) rfl ⟨rfl, (by repeat (first | exact Below.refl _ _ | assumption | refine Below.alloc ?_ (by first | (simp; done) | (simp; omega)) _ | refine Below.setCell ?_ (by first | (simp; done) | (simp; omega)) _ | refine Below.drew ?_ | refine below_drewN ?_ _ | refine Below.trans ?_ (hb.mono (by first | (simp; done) | (simp; omega)))))⟩
set_option maxHeartbeats 1000000 in
theorem refConcat_out (K1 N1 : Int) (S1 : ByteArray) (B1 : Bool) (K2 N2 : Int) (S2 : ByteArray) (B2 : Bool) (ok : Bool) (st : ByteArray) (hn : ¬ (K1 = 2 ∧ K2 = 2)) (w : World) :
    Calls Tryd.prog 38 #[val K1 N1 S1 B1, val K2 N2 S2 B2] w fun e w' => e = .returned (.tuple #[nullV, .string (rS 2 K1 K2 ok st)]) ∧ Below w.heap.size w w' := by
  have H : Hid (¬ (K1 = 2 ∧ K2 = 2)) := hn
  clear hn
  go_enter Tryd.func38, Tryd.ntmps38
  go_wp2_with fail
  refine (refBoth_out 2 K1 N1 S1 B1 K2 N2 S2 B2 ok st rfl H.out _).mono ?_
  rintro e w1 ⟨rfl, hb⟩
  obtain ⟨hcl, hfr⟩ := bcell hb
  go_wp2
  exact bodyPost_ret (v := .tuple #[nullV, .string (rS 2 K1 K2 ok st)]) (by simp [results, Tryd.results38, go_sem, hcl]) rfl ⟨rfl, (by repeat (first | exact Below.refl _ _ | assumption | refine Below.alloc ?_ (by first | (simp; done) | (simp; omega)) _ | refine Below.setCell ?_ (by first | (simp; done) | (simp; omega)) _ | refine Below.drew ?_ | refine below_drewN ?_ _ | refine Below.trans ?_ (hb.mono (by first | (simp; done) | (simp; omega)))))⟩
end Go.Proofs.YticlmegcpneckaaDoor

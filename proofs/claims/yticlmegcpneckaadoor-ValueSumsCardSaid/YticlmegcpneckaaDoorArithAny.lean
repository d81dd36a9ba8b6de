/- value.Add, Sub, Mul, Div at every two values. -/
import Derived.Test.YticlmegcpneckaaDoorArith
namespace Go.Proofs.YticlmegcpneckaaDoor
open Go.RowKit
set_option linter.unusedVariables false

abbrev sMisA : ByteArray := ⟨#[52, 50, 56, 48, 52]⟩
def rOk (kk K1 K2 : Int) (ok : Bool) : Bool := (K1 == kk) && (K2 == kk) && ok
def rK (kk K1 K2 : Int) (ok : Bool) : Int := if rOk kk K1 K2 ok then kk else 0
def rN (kk K1 K2 : Int) (ok : Bool) (r : Int) : Int := if rOk kk K1 K2 ok then r else 0
def rS (kk K1 K2 : Int) (ok : Bool) (st : ByteArray) : ByteArray := if (K1 != 0 && K1 != kk) || (K2 != 0 && K2 != kk) then sMisA else if K1 == 0 || K2 == 0 then sDone else if ok then sDone else st

set_option maxHeartbeats 1000000 in
theorem numbers_via (g : Nat) (k1 n1 k2 n2 : Int) (s1 s2 : ByteArray) (b1 b2 : Bool) (k n : Int) (s : ByteArray) (b : Bool) (st : ByteArray) (w : World)
    (hboth : ∀ (f : Value) (w : World), Calls Tryd.prog 62 #[.int .i64 1, val k1 n1 s1 b1, val k2 n2 s2 b2, f] w fun e w' => e = .returned (.tuple #[val k n s b, .string st]) ∧ Below w.heap.size w w') :
    Calls Tryd.prog 54 #[val k1 n1 s1 b1, val k2 n2 s2 b2, .func (.func g) #[] #[]] w fun e w' => e = .returned (.tuple #[val k n s b, .string st]) ∧ Below w.heap.size w w' := by
  have H : Hid (∀ (f : Value) (w : World), Calls Tryd.prog 62 #[.int .i64 1, val k1 n1 s1 b1, val k2 n2 s2 b2, f] w fun e w' => e = .returned (.tuple #[val k n s b, .string st]) ∧ Below w.heap.size w w') := hboth
  clear hboth
  go_enter Tryd.func54, Tryd.ntmps54
  go_wp2_with fail
  refine (H.out _ _).mono ?_
  rintro e w1 ⟨rfl, hb⟩
  obtain ⟨hcl, hfr⟩ := bcell hb
  go_wp2
  exact bodyPost_ret (v := .tuple #[val k n s b, .string st]) (by simp [results, Tryd.results54, go_sem, hcl]) rfl ⟨rfl, (by repeat (first | exact Below.refl _ _ | assumption | refine Below.alloc ?_ (by first | (simp; done) | (simp; omega)) _ | refine Below.setCell ?_ (by first | (simp; done) | (simp; omega)) _ | refine Below.drew ?_ | refine below_drewN ?_ _ | refine Below.trans ?_ (hb.mono (by first | (simp; done) | (simp; omega)))))⟩

theorem both_out (kk K1 N1 : Int) (S1 : ByteArray) (B1 : Bool) (K2 N2 : Int) (S2 : ByteArray) (B2 : Bool) (ok : Bool) (r : Int) (st : ByteArray) (h0 : (kk == 0) = false) (hn : ¬ (K1 = kk ∧ K2 = kk)) (f : Value) (w : World) :
    Calls Tryd.prog 62 #[.int .i64 kk, val K1 N1 S1 B1, val K2 N2 S2 B2, f] w fun e w' => e = .returned (.tuple #[val (rK kk K1 K2 ok) (rN kk K1 K2 ok r) ⟨#[]⟩ false, .string (rS kk K1 K2 ok st)]) ∧ Below w.heap.size w w' := by
  have hok : rOk kk K1 K2 ok = false := by
    unfold rOk
    cases e1 : (K1 == kk) <;> cases e2 : (K2 == kk) <;> simp
    exact absurd ⟨by simpa using e1, by simpa using e2⟩ hn
  have hk : rK kk K1 K2 ok = 0 := by simp [rK, hok]
  have hN : rN kk K1 K2 ok r = 0 := by simp [rN, hok]
  rw [hk, hN]
  have hz : kk ≠ 0 := by simpa using h0
  by_cases a1 : K1 = 0
  · subst a1
    by_cases a2 : K2 = 0
    · have hs : rS kk 0 K2 ok st = sDone := by simp [rS, a2]
      rw [hs]
      exact both_null1 f kk 0 N1 K2 N2 S1 S2 B1 B2 w (by simp [a2])
    · by_cases a3 : K2 = kk
      · have hs : rS kk 0 K2 ok st = sDone := by simp [rS, a3]
        rw [hs]
        exact both_null2 f kk 0 N1 K2 N2 S1 S2 B1 B2 w (by simp [a2]) (by simp [a3])
      · have hs : rS kk 0 K2 ok st = sMisA := by simp [rS, a2, a3]
        rw [hs]
        exact both_mis2 f kk 0 N1 K2 N2 S1 S2 B1 B2 w (by simp [a2]) (by simp [a3]) (by simp)
  · by_cases a4 : K1 = kk
    · by_cases a2 : K2 = 0
      · subst a2
        have hs : rS kk K1 0 ok st = sDone := by simp [rS, a4]
        rw [hs]
        exact both_null3 f kk K1 N1 0 N2 S1 S2 B1 B2 w (by simp [a1]) (by simp [a4]) (by simp [a1])
      · have a3 : K2 ≠ kk := fun h => hn ⟨a4, h⟩
        have hs : rS kk K1 K2 ok st = sMisA := by simp [rS, a2, a3]
        rw [hs]
        exact both_mis3 f kk K1 N1 K2 N2 S1 S2 B1 B2 w (by simp [a2]) (by simp [a3]) (by simp [a1]) (by simp [a4])
    · have hs : rS kk K1 K2 ok st = sMisA := by simp [rS, a1, a4]
      rw [hs]
      exact both_mis1 f kk K1 N1 K2 N2 S1 S2 B1 B2 w (by simp [a1]) (by simp [a4])

theorem numbers_any (g : Nat) (hg : isOp g) (K1 N1 : Int) (S1 : ByteArray) (B1 : Bool) (K2 N2 : Int) (S2 : ByteArray) (B2 : Bool) (ok : Bool) (r : Int) (st : ByteArray) (hop : OpIs g N1 N2 ok r st) (w : World) :
    Calls Tryd.prog 54 #[val K1 N1 S1 B1, val K2 N2 S2 B2, .func (.func g) #[] #[]] w fun e w' => e = .returned (.tuple #[val (rK 1 K1 K2 ok) (rN 1 K1 K2 ok r) ⟨#[]⟩ false, .string (rS 1 K1 K2 ok st)]) ∧ Below w.heap.size w w' := by
  by_cases hn : K1 = 1 ∧ K2 = 1
  · obtain ⟨rfl, rfl⟩ := hn
    cases ok
    · exact numbers_fail g N1 N2 0 S1 S2 B1 B2 st w hg hop.is (hop.fail rfl)
    · exact numbers_done g N1 N2 r S1 S2 B1 B2 w hg (hop.done rfl)
  · exact numbers_via g K1 N1 K2 N2 S1 S2 B1 B2 _ _ _ _ _ w fun f w => both_out 1 K1 N1 S1 B1 K2 N2 S2 B2 ok r st rfl hn f w
theorem add_any (K1 N1 : Int) (S1 : ByteArray) (B1 : Bool) (K2 N2 : Int) (S2 : ByteArray) (B2 : Bool) (w : World) (hx : -9223372036854775808 ≤ N1 ∧ N1 ≤ 9223372036854775807) (hy : -9223372036854775808 ≤ N2 ∧ N2 ≤ 9223372036854775807) :
    Calls Tryd.prog 27 #[val K1 N1 S1 B1, val K2 N2 S2 B2] w fun e w' => e = .returned (.tuple #[val (rK 1 K1 K2 (inR (N1 + N2))) (rN 1 K1 K2 (inR (N1 + N2)) (N1 + N2)) ⟨#[]⟩ false, .string (rS 1 K1 K2 (inR (N1 + N2)) sOut)]) ∧ Below w.heap.size w w' :=
  add_of K1 N1 K2 N2 S1 S2 B1 B2 _ _ _ _ _ w fun w => numbers_any 55 (Or.inl rfl) K1 N1 S1 B1 K2 N2 S2 B2 _ _ _ (add_is N1 N2 hx hy) w
theorem sub_any (K1 N1 : Int) (S1 : ByteArray) (B1 : Bool) (K2 N2 : Int) (S2 : ByteArray) (B2 : Bool) (w : World) (hx : -9223372036854775808 ≤ N1 ∧ N1 ≤ 9223372036854775807) (hy : -9223372036854775808 ≤ N2 ∧ N2 ≤ 9223372036854775807) :
    Calls Tryd.prog 29 #[val K1 N1 S1 B1, val K2 N2 S2 B2] w fun e w' => e = .returned (.tuple #[val (rK 1 K1 K2 (inR (N1 - N2))) (rN 1 K1 K2 (inR (N1 - N2)) (N1 - N2)) ⟨#[]⟩ false, .string (rS 1 K1 K2 (inR (N1 - N2)) sOut)]) ∧ Below w.heap.size w w' :=
  sub_of K1 N1 K2 N2 S1 S2 B1 B2 _ _ _ _ _ w fun w => numbers_any 57 (Or.inr (Or.inl rfl)) K1 N1 S1 B1 K2 N2 S2 B2 _ _ _ (sub_is N1 N2 hx hy) w
theorem mul_any (K1 N1 : Int) (S1 : ByteArray) (B1 : Bool) (K2 N2 : Int) (S2 : ByteArray) (B2 : Bool) (w : World) (hx : -9223372036854775808 ≤ N1 ∧ N1 ≤ 9223372036854775807) (hy : -9223372036854775808 ≤ N2 ∧ N2 ≤ 9223372036854775807) :
    Calls Tryd.prog 31 #[val K1 N1 S1 B1, val K2 N2 S2 B2] w fun e w' => e = .returned (.tuple #[val (rK 1 K1 K2 (inR (N1 * N2))) (rN 1 K1 K2 (inR (N1 * N2)) (N1 * N2)) ⟨#[]⟩ false, .string (rS 1 K1 K2 (inR (N1 * N2)) sOut)]) ∧ Below w.heap.size w w' :=
  mul_of K1 N1 K2 N2 S1 S2 B1 B2 _ _ _ _ _ w fun w => numbers_any 58 (Or.inr (Or.inr (Or.inl rfl))) K1 N1 S1 B1 K2 N2 S2 B2 _ _ _ (mul_is N1 N2 hx hy) w
theorem div_any (K1 N1 : Int) (S1 : ByteArray) (B1 : Bool) (K2 N2 : Int) (S2 : ByteArray) (B2 : Bool) (w : World) (hx : -9223372036854775808 ≤ N1 ∧ N1 ≤ 9223372036854775807) (hy : -9223372036854775808 ≤ N2 ∧ N2 ≤ 9223372036854775807) :
    Calls Tryd.prog 33 #[val K1 N1 S1 B1, val K2 N2 S2 B2] w fun e w' => e = .returned (.tuple #[val (rK 1 K1 K2 (divOk N1 N2)) (rN 1 K1 K2 (divOk N1 N2) (N1.tdiv N2)) ⟨#[]⟩ false, .string (rS 1 K1 K2 (divOk N1 N2) (divSt N2))]) ∧ Below w.heap.size w w' :=
  div_of K1 N1 K2 N2 S1 S2 B1 B2 _ _ _ _ _ w fun w => numbers_any 61 (Or.inr (Or.inr (Or.inr rfl))) K1 N1 S1 B1 K2 N2 S2 B2 _ _ _ (div_is N1 N2 hx hy) w
end Go.Proofs.YticlmegcpneckaaDoor

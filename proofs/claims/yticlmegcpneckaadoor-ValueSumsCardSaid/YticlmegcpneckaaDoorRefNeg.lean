/- Both sides' Neg, and the document's own quotient at every two values. -/
import Derived.Test.YticlmegcpneckaaDoorRefAll
import Derived.Deep.RegionWith
namespace Go.Proofs.YticlmegcpneckaaDoor
open Go.RowKit
set_option linter.unusedVariables false

set_option maxHeartbeats 1000000 in
theorem neg_any (K N : Int) (S : ByteArray) (B : Bool) (w : World) (hy : -9223372036854775808 ≤ N ∧ N ≤ 9223372036854775807) :
    Calls Tryd.prog 35 #[val K N S B] w fun e w' => e = .returned (.tuple #[val (rK 1 1 K (inR (0 - N))) (rN 1 1 K (inR (0 - N)) (0 - N)) ⟨#[]⟩ false, .string (rS 1 1 K (inR (0 - N)) sOut)]) ∧ Below w.heap.size w w' := by
  have HY : Hid (-9223372036854775808 ≤ N ∧ N ≤ 9223372036854775807) := hy
  clear hy
  go_enter Tryd.func35, Tryd.ntmps35
  go_wp2_with fail
  refine (sub_any 1 0 ⟨#[]⟩ false K N S B _ (by omega) HY.out).mono ?_
  rintro e w1 ⟨rfl, hb⟩
  obtain ⟨hcl, hfr⟩ := bcell hb
  go_wp2
  exact bodyPost_ret (v := .tuple #[val (rK 1 1 K (inR (0 - N))) (rN 1 1 K (inR (0 - N)) (0 - N)) ⟨#[]⟩ false, .string (rS 1 1 K (inR (0 - N)) sOut)]) (by simp [results, Tryd.results35, go_sem, hcl]) rfl ⟨rfl, (by repeat (first | exact Below.refl _ _ | assumption | refine Below.alloc ?_ (by first | (simp; done) | (simp; omega)) _ | refine Below.setCell ?_ (by first | (simp; done) | (simp; omega)) _ | refine Below.drew ?_ | refine below_drewN ?_ _ | refine Below.trans ?_ (hb.mono (by first | (simp; done) | (simp; omega)))))⟩

/-- A box that may be written. -/
structure Open4 (w : World) (b : Nat) : Prop where
  f0 : w.frozen? ⟨b, 0, none⟩ = false
  f1 : w.frozen? ⟨b, 1, none⟩ = false
  f2 : w.frozen? ⟨b, 2, none⟩ = false
  f3 : w.frozen? ⟨b, 3, none⟩ = false
theorem Open4.keep {W w' : World} {b : Nat} (h : Open4 W b) (hlt : b < W.heap.size) (hb : Below W.heap.size W w') : Open4 w' b :=
  ⟨(hb.frozen (p := ⟨b, 0, none⟩) hlt).trans h.f0, (hb.frozen (p := ⟨b, 1, none⟩) hlt).trans h.f1, (hb.frozen (p := ⟨b, 2, none⟩) hlt).trans h.f2, (hb.frozen (p := ⟨b, 3, none⟩) hlt).trans h.f3⟩
theorem Open4.newAt {W : World} {b : Nat} (K N : Int) (S : ByteArray) (B : Bool) (t : Nat) (hb : b = W.heap.size) : Open4 (W.alloc (.cells #[.int .i64 K, .int .i64 N, .string S, .bool B] t)) b := by
  subst hb
  exact ⟨by go_simp, by go_simp, by go_simp, by go_simp⟩
theorem negF {w w1 : World} {K N : Int} {S : ByteArray} {B : Bool} {t : Nat} (hb : Below (((w.alloc (.cells #[.int .i64 K, .int .i64 N, .string S, .bool B] t)).alloc (.cells #[.int .i64 0, .int .i64 0, .string ⟨#[]⟩, .bool false] t)).drew).heap.size (((w.alloc (.cells #[.int .i64 K, .int .i64 N, .string S, .bool B] t)).alloc (.cells #[.int .i64 0, .int .i64 0, .string ⟨#[]⟩, .bool false] t)).drew) w1) :
    Box w1 w.heap.size K N S B ∧ Box w1 (w.heap.size + 1) 0 0 ⟨#[]⟩ false ∧ Open4 w1 (w.heap.size + 1) ∧ Below w.heap.size w w1 := by
  have d : Below ((w.alloc (.cells #[.int .i64 K, .int .i64 N, .string S, .bool B] t)).alloc (.cells #[.int .i64 0, .int .i64 0, .string ⟨#[]⟩, .bool false] t)).heap.size ((w.alloc (.cells #[.int .i64 K, .int .i64 N, .string S, .bool B] t)).alloc (.cells #[.int .i64 0, .int .i64 0, .string ⟨#[]⟩, .bool false] t)) w1 := (Below.drew (Below.refl _ _)).trans hb
  refine ⟨((Box.new w K N S B t).alloc _).keep d, (Box.newAt 0 0 ⟨#[]⟩ false t (by simp)).keep d, (Open4.newAt 0 0 ⟨#[]⟩ false t (by simp)).keep (by simp) d, ?_⟩
  exact (below_alloc (below_alloc (Below.refl _ _) _) _).trans (d.mono (by simp; omega))

set_option maxHeartbeats 2000000 in
theorem refNeg_any (K N : Int) (S : ByteArray) (B : Bool) (w : World) (hy : -9223372036854775808 ≤ N ∧ N ≤ 9223372036854775807) :
    Calls Tryd.prog 36 #[val K N S B] w fun e w' => e = .returned (.tuple #[val (rK 1 1 K (inR (0 - N))) (rN 1 1 K (inR (0 - N)) (0 - N)) ⟨#[]⟩ false, .string (rS 1 1 K (inR (0 - N)) sOut)]) ∧ Below w.heap.size w w' := by
  have HY : Hid (-9223372036854775808 ≤ N ∧ N ≤ 9223372036854775807) := hy
  clear hy
  go_enter Tryd.func36, Tryd.ntmps36
  go_wp2_with fail
  go_region_with (first
    | (go_at_call 42; refine (num_any _ _).mono ?_; rintro e w1 ⟨rfl, hb⟩; obtain ⟨t1, t2, t3, t4⟩ := negF hb; clear hb; obtain ⟨e0, e1, e2, e3⟩ := t1)
    | (go_at_call 30; refine (refSub_any 1 0 ⟨#[]⟩ false K N S B _ (by omega) HY.out).mono ?_; rintro e w2 ⟨rfl, hb⟩; have u2 := t2.keep hb; have u3 := t3.keep t2.lt hb; have u4 := keepA t4 hb; clear hb t2 t3 t4; obtain ⟨f0, f1, f2, f3⟩ := u2; obtain ⟨g0, g1, g2, g3⟩ := u3))
  all_goals
    go_wp2
    exact bodyPost_ret (v := .tuple #[val (rK 1 1 K (inR (0 - N))) (rN 1 1 K (inR (0 - N)) (0 - N)) ⟨#[]⟩ false, .string (rS 1 1 K (inR (0 - N)) sOut)]) (by simp [results, Tryd.results36, go_sem, *]) rfl ⟨rfl, by repeat (first | assumption | refine Below.setCell ?_ (by first | (simp; done) | (simp; omega)) _)⟩

set_option maxHeartbeats 1000000 in
theorem refDiv_m1 (x : Int) (S1 S2 : ByteArray) (B1 B2 : Bool) (w : World) (hx : -9223372036854775808 ≤ x ∧ x ≤ 9223372036854775807) :
    Calls Tryd.prog 34 #[val 1 x S1 B1, val 1 (-1) S2 B2] w fun e w' => e = .returned (.tuple #[val (rK 1 1 1 (inR (0 - x))) (rN 1 1 1 (inR (0 - x)) (0 - x)) ⟨#[]⟩ false, .string (rS 1 1 1 (inR (0 - x)) sOut)]) ∧ Below w.heap.size w w' := by
  have HX : Hid (-9223372036854775808 ≤ x ∧ x ≤ 9223372036854775807) := hx
  clear hx
  go_enter Tryd.func34, Tryd.ntmps34
  go_wp2_with fail
  refine (refBoth_go 1 x S1 B1 (-1) S2 B2 rfl _).mono ?_
  rintro e w1 ⟨rfl, hb⟩
  obtain ⟨hcl, hfr⟩ := bcell hb
  have hB1 : Below w.heap.size w w1 := (by repeat (first | exact Below.refl _ _ | assumption | refine Below.alloc ?_ (by first | (simp; done) | (simp; omega)) _ | refine Below.setCell ?_ (by first | (simp; done) | (simp; omega)) _ | refine Below.drew ?_ | refine below_drewN ?_ _ | refine Below.trans ?_ (hb.mono (by first | (simp; done) | (simp; omega)))))
  have hz := hb.size
  simp at hz
  go_wp2_with fail
  refine (refNeg_any 1 x S1 B1 _ HX.out).mono ?_
  rintro e w2 ⟨rfl, hb2⟩
  obtain ⟨hcl2, hfr2⟩ := bcell hb2
  have hB : Below w.heap.size w w2 := keepA hB1 hb2
  have hz2 : w.heap.size + 1 + 1 < w1.heap.size := by omega
  go_wp2
  exact bodyPost_ret (v := .tuple #[val (rK 1 1 1 (inR (0 - x))) (rN 1 1 1 (inR (0 - x)) (0 - x)) ⟨#[]⟩ false, .string (rS 1 1 1 (inR (0 - x)) sOut)]) (by simp [results, Tryd.results34, go_sem, hcl, hcl2, hz2]) rfl ⟨rfl, (by repeat (first | exact hB | refine Below.setCell ?_ (by first | (simp; done) | (simp; omega)) _))⟩
theorem refDiv_any (K1 N1 : Int) (S1 : ByteArray) (B1 : Bool) (K2 N2 : Int) (S2 : ByteArray) (B2 : Bool) (w : World) (hx : -9223372036854775808 ≤ N1 ∧ N1 ≤ 9223372036854775807) (hy : -9223372036854775808 ≤ N2 ∧ N2 ≤ 9223372036854775807) :
    Calls Tryd.prog 34 #[val K1 N1 S1 B1, val K2 N2 S2 B2] w fun e w' => e = .returned (.tuple #[val (rK 1 K1 K2 (divOk N1 N2)) (rN 1 K1 K2 (divOk N1 N2) (N1.tdiv N2)) ⟨#[]⟩ false, .string (rS 1 K1 K2 (divOk N1 N2) (divSt N2))]) ∧ Below w.heap.size w w' := by
  by_cases hn : K1 = 1 ∧ K2 = 1
  · obtain ⟨rfl, rfl⟩ := hn
    by_cases h0 : N2 = 0
    · subst h0
      have e : divOk N1 0 = false := by simp [divOk]
      rw [e]
      exact refDiv_zero N1 S1 S2 B1 B2 w
    · have es : divSt N2 = sOut := by simp [divSt, h0]
      rw [es]
      by_cases hm : N2 = -1
      · subst hm
        have h := refDiv_m1 N1 S1 S2 B1 B2 w hx
        have e1 : N1.tdiv (-1) = 0 - N1 := by rw [Int.tdiv_neg, Int.tdiv_one]; omega
        have e2 : divOk N1 (-1) = inR (0 - N1) := by simp [divOk, e1]
        rw [e1, e2]
        exact h
      · have hin := tdiv_in N1 N2 hx h0 (by omega)
        have e2 : divOk N1 N2 = true := by simp [divOk, h0, inR_true.2 hin]
        have h := refDiv_in N1 N2 S1 S2 B1 B2 w (by simpa using h0) (by simpa using hm) h0
        rw [wrap64_in hin.1 hin.2] at h
        rw [e2]
        exact h
  · have h := refDiv_out K1 N1 S1 B1 K2 N2 S2 B2 (divOk N1 N2) (divSt N2) hn w
    have e1 : rK 1 K1 K2 (divOk N1 N2) = 0 := by simp [rK, rOk_no hn]
    have e2 : rN 1 K1 K2 (divOk N1 N2) (N1.tdiv N2) = 0 := by simp [rN, rOk_no hn]
    rw [e1, e2]
    exact h
end Go.Proofs.YticlmegcpneckaaDoor

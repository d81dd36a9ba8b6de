/- value.Concat at every two values whose texts together are no longer than a whole number of 64 bits tells. -/
import Derived.Test.YticlmegcpneckaaDoorArithAny
import Derived.Test.YticlmegcpneckaaDoorBoxes
namespace Go.Proofs.YticlmegcpneckaaDoor
open Go.RowKit
set_option linter.unusedVariables false

abbrev sLong : ByteArray := ⟨#[50, 50, 48, 48, 49]⟩
def catOk (S1 S2 : ByteArray) : Bool := decide (S1.size + S2.size ≤ 400)
def rT (K1 K2 : Int) (ok : Bool) (t : ByteArray) : ByteArray := if rOk 2 K1 K2 ok then t else ⟨#[]⟩

set_option maxHeartbeats 400000 in
theorem cat1_ok (S1 S2 : ByteArray) (a b : Nat) (w : World) (ha : w.cell? ⟨a, 2, none⟩ = some (.string S1)) (hb : w.cell? ⟨b, 2, none⟩ = some (.string S2)) (h : S1.size + S2.size ≤ 400) :
    Calls Tryd.prog 63 #[.pointer (some ⟨a, 0, none⟩), .pointer (some ⟨b, 0, none⟩)] w fun e w' => e = .returned (.tuple #[val 2 0 (S1 ++ S2) false, .string sDone]) ∧ Below w.heap.size w w' := by
  have a1 : a < w.heap.size := World.block_lt_of_cell? w _ ha
  have b1 : b < w.heap.size := World.block_lt_of_cell? w _ hb
  go_enter Tryd.func63, Tryd.ntmps63
  go_wp2
  all_goals exact bodyPost_ret (v := .tuple #[val 2 0 (S1 ++ S2) false, .string sDone]) (by simp [results, Tryd.results63, go_sem]) rfl ⟨rfl, (by repeat (first | exact Below.refl _ _ | assumption | refine Below.alloc ?_ (by first | (simp; done) | (simp; omega)) _ | refine Below.setCell ?_ (by first | (simp; done) | (simp; omega)) _ | refine Below.drew ?_ | refine below_drewN ?_ _))⟩
set_option maxHeartbeats 400000 in
theorem cat1_long (S1 S2 : ByteArray) (a b : Nat) (w : World) (ha : w.cell? ⟨a, 2, none⟩ = some (.string S1)) (hb : w.cell? ⟨b, 2, none⟩ = some (.string S2)) (h : 400 < S1.size + S2.size) (hs : S1.size + S2.size ≤ 9223372036854775807) :
    Calls Tryd.prog 63 #[.pointer (some ⟨a, 0, none⟩), .pointer (some ⟨b, 0, none⟩)] w fun e w' => e = .returned (.tuple #[nullV, .string sLong]) ∧ Below w.heap.size w w' := by
  have a1 : a < w.heap.size := World.block_lt_of_cell? w _ ha
  have b1 : b < w.heap.size := World.block_lt_of_cell? w _ hb
  go_enter Tryd.func63, Tryd.ntmps63
  go_wp2
  all_goals exact bodyPost_ret (v := .tuple #[nullV, .string sLong]) (by simp [results, Tryd.results63, go_sem]) rfl ⟨rfl, (by repeat (first | exact Below.refl _ _ | assumption | refine Below.alloc ?_ (by first | (simp; done) | (simp; omega)) _ | refine Below.setCell ?_ (by first | (simp; done) | (simp; omega)) _ | refine Below.drew ?_ | refine below_drewN ?_ _))⟩

set_option maxHeartbeats 1000000 in
theorem cat_op (N1 N2 : Int) (S1 S2 : ByteArray) (B1 B2 : Bool) (k n : Int) (s : ByteArray) (b : Bool) (st : ByteArray) (w : World)
    (hop : ∀ (a b' : Nat) (w : World), w.cell? ⟨a, 2, none⟩ = some (.string S1) → w.cell? ⟨b', 2, none⟩ = some (.string S2) →
      Calls Tryd.prog 63 #[.pointer (some ⟨a, 0, none⟩), .pointer (some ⟨b', 0, none⟩)] w fun e w' => e = .returned (.tuple #[val k n s b, .string st]) ∧ Below w.heap.size w w') :
    Calls Tryd.prog 37 #[val 2 N1 S1 B1, val 2 N2 S2 B2] w fun e w' => e = .returned (.tuple #[val k n s b, .string st]) ∧ Below w.heap.size w w' := by
  have H : Hid (∀ (a b' : Nat) (w : World), w.cell? ⟨a, 2, none⟩ = some (.string S1) → w.cell? ⟨b', 2, none⟩ = some (.string S2) →
      Calls Tryd.prog 63 #[.pointer (some ⟨a, 0, none⟩), .pointer (some ⟨b', 0, none⟩)] w fun e w' => e = .returned (.tuple #[val k n s b, .string st]) ∧ Below w.heap.size w w') := hop
  clear hop
  go_enter Tryd.func37, Tryd.ntmps37
  go_wp2_with fail
  refine (both_op 63 _ 2 N1 N2 S1 S2 B1 B2 k n s b st _ (Or.inr rfl) rfl ?_).mono ?_
  · intro w' hb
    refine H.out _ _ _ ?_ ?_
    · rw [hb.cell (p := ⟨_, _, _⟩) (by first | (simp; done) | (simp; omega))]; go_simp
    · rw [hb.cell (p := ⟨_, _, _⟩) (by first | (simp; done) | (simp; omega))]; go_simp
  rintro e w1 ⟨rfl, hb⟩
  obtain ⟨hcl, hfr⟩ := bcell hb
  go_wp2
  exact bodyPost_ret (v := .tuple #[val k n s b, .string st]) (by simp [results, Tryd.results37, go_sem, hcl]) rfl ⟨rfl, (by repeat (first | exact Below.refl _ _ | assumption | refine Below.alloc ?_ (by first | (simp; done) | (simp; omega)) _ | refine Below.setCell ?_ (by first | (simp; done) | (simp; omega)) _ | refine Below.drew ?_ | refine below_drewN ?_ _ | refine Below.trans ?_ (hb.mono (by first | (simp; done) | (simp; omega)))))⟩
set_option maxHeartbeats 1000000 in
theorem cat_via (k1 n1 k2 n2 : Int) (s1 s2 : ByteArray) (b1 b2 : Bool) (k n : Int) (s : ByteArray) (b : Bool) (st : ByteArray) (w : World)
    (hboth : ∀ (f : Value) (w : World), Calls Tryd.prog 62 #[.int .i64 2, val k1 n1 s1 b1, val k2 n2 s2 b2, f] w fun e w' => e = .returned (.tuple #[val k n s b, .string st]) ∧ Below w.heap.size w w') :
    Calls Tryd.prog 37 #[val k1 n1 s1 b1, val k2 n2 s2 b2] w fun e w' => e = .returned (.tuple #[val k n s b, .string st]) ∧ Below w.heap.size w w' := by
  have H : Hid (∀ (f : Value) (w : World), Calls Tryd.prog 62 #[.int .i64 2, val k1 n1 s1 b1, val k2 n2 s2 b2, f] w fun e w' => e = .returned (.tuple #[val k n s b, .string st]) ∧ Below w.heap.size w w') := hboth
  clear hboth
  go_enter Tryd.func37, Tryd.ntmps37
  go_wp2_with fail
  refine (H.out _ _).mono ?_
  rintro e w1 ⟨rfl, hb⟩
  obtain ⟨hcl, hfr⟩ := bcell hb
  go_wp2
  exact bodyPost_ret (v := .tuple #[val k n s b, .string st]) (by simp [results, Tryd.results37, go_sem, hcl]) rfl ⟨rfl, (by repeat (first | exact Below.refl _ _ | assumption | refine Below.alloc ?_ (by first | (simp; done) | (simp; omega)) _ | refine Below.setCell ?_ (by first | (simp; done) | (simp; omega)) _ | refine Below.drew ?_ | refine below_drewN ?_ _ | refine Below.trans ?_ (hb.mono (by first | (simp; done) | (simp; omega)))))⟩
theorem concat_any (K1 N1 : Int) (S1 : ByteArray) (B1 : Bool) (K2 N2 : Int) (S2 : ByteArray) (B2 : Bool) (w : World) (hs : S1.size + S2.size ≤ 9223372036854775807) :
    Calls Tryd.prog 37 #[val K1 N1 S1 B1, val K2 N2 S2 B2] w fun e w' => e = .returned (.tuple #[val (rK 2 K1 K2 (catOk S1 S2)) 0 (rT K1 K2 (catOk S1 S2) (S1 ++ S2)) false, .string (rS 2 K1 K2 (catOk S1 S2) sLong)]) ∧ Below w.heap.size w w' := by
  by_cases hn : K1 = 2 ∧ K2 = 2
  · obtain ⟨rfl, rfl⟩ := hn
    cases hc : catOk S1 S2
    · exact cat_op N1 N2 S1 S2 B1 B2 0 0 ⟨#[]⟩ false sLong w fun a b w ha hb => cat1_long S1 S2 a b w ha hb (by simp [catOk] at hc; omega) hs
    · exact cat_op N1 N2 S1 S2 B1 B2 2 0 (S1 ++ S2) false sDone w fun a b w ha hb => cat1_ok S1 S2 a b w ha hb (by simpa [catOk] using hc)
  · have h := fun f w => both_out 2 K1 N1 S1 B1 K2 N2 S2 B2 (catOk S1 S2) 0 sLong rfl hn f w
    have hok : rOk 2 K1 K2 (catOk S1 S2) = false := by
      unfold rOk
      cases e1 : (K1 == 2) <;> cases e2 : (K2 == 2) <;> simp
      exact absurd ⟨by simpa using e1, by simpa using e2⟩ hn
    have e1 : rT K1 K2 (catOk S1 S2) (S1 ++ S2) = ⟨#[]⟩ := by simp [rT, hok]
    have e2 : rN 2 K1 K2 (catOk S1 S2) 0 = 0 := by simp [rN]
    rw [e1]
    rw [e2] at h
    exact cat_via K1 N1 K2 N2 S1 S2 B1 B2 _ _ _ _ _ w h
end Go.Proofs.YticlmegcpneckaaDoor

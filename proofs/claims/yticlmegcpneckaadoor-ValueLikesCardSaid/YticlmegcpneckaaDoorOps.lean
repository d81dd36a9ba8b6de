/- The walks of value.numbers and of the four operations on whole numbers. -/
import Derived.Test.YticlmegcpneckaaDoorBoth
import Derived.WalkKit
import Derived.WalkSpells
import Derived.WalkLawsBesides
namespace Go.Proofs.YticlmegcpneckaaDoor
open Go.RowKit
set_option linter.unusedVariables false

set_option maxHeartbeats 1000000 in
theorem numbers_op (g : Nat) (x y : Int) (s1 s2 : ByteArray) (b1 b2 : Bool) (k n : Int) (s : ByteArray) (b : Bool) (st : ByteArray) (w : World)
    (hop : ∀ (a b' c : Nat) (w : World), w.cell? ⟨a, 0, none⟩ = some (.func (.func g) #[] #[]) → w.cell? ⟨b', 1, none⟩ = some (.int .i64 x) → w.cell? ⟨c, 1, none⟩ = some (.int .i64 y) →
      Calls Tryd.prog 69 #[.pointer (some ⟨a, 0, none⟩), .pointer (some ⟨b', 0, none⟩), .pointer (some ⟨c, 0, none⟩)] w fun e w' => e = .returned (.tuple #[val k n s b, .string st]) ∧ Below w.heap.size w w') :
    Calls Tryd.prog 54 #[val 1 x s1 b1, val 1 y s2 b2, .func (.func g) #[] #[]] w fun e w' => e = .returned (.tuple #[val k n s b, .string st]) ∧ Below w.heap.size w w' := by
  have H : Hid (∀ (a b' c : Nat) (w : World), w.cell? ⟨a, 0, none⟩ = some (.func (.func g) #[] #[]) → w.cell? ⟨b', 1, none⟩ = some (.int .i64 x) → w.cell? ⟨c, 1, none⟩ = some (.int .i64 y) →
      Calls Tryd.prog 69 #[.pointer (some ⟨a, 0, none⟩), .pointer (some ⟨b', 0, none⟩), .pointer (some ⟨c, 0, none⟩)] w fun e w' => e = .returned (.tuple #[val k n s b, .string st]) ∧ Below w.heap.size w w') := hop
  clear hop
  go_enter Tryd.func54, Tryd.ntmps54
  go_wp2_with fail
  refine (both_op 69 _ 1 x y s1 s2 b1 b2 k n s b st _ (Or.inl rfl) rfl ?_).mono ?_
  · intro w' hb
    refine H.out _ _ _ _ ?_ ?_ ?_
    · rw [hb.cell (p := ⟨_, _, _⟩) (by first | (simp; done) | (simp; omega))]; go_simp
    · rw [hb.cell (p := ⟨_, _, _⟩) (by first | (simp; done) | (simp; omega))]; go_simp
    · rw [hb.cell (p := ⟨_, _, _⟩) (by first | (simp; done) | (simp; omega))]; go_simp
  rintro e w1 ⟨rfl, hb⟩
  obtain ⟨hcl, hfr⟩ := bcell hb
  go_wp2
  exact bodyPost_ret (v := .tuple #[val k n s b, .string st]) (by simp [results, Tryd.results54, go_sem, hcl]) rfl ⟨rfl, (by repeat (first | exact Below.refl _ _ | assumption | refine Below.alloc ?_ (by first | (simp; done) | (simp; omega)) _ | refine Below.setCell ?_ (by first | (simp; done) | (simp; omega)) _ | refine Below.drew ?_ | refine Below.trans ?_ (hb.mono (by first | (simp; done) | (simp; omega)))))⟩

set_option maxHeartbeats 400000 in
theorem numbers_done (g : Nat) (x y r : Int) (s1 s2 : ByteArray) (b1 b2 : Bool) (w : World) (hg : isOp g)
    (hop : ∀ w, Calls Tryd.prog g #[.int .i64 x, .int .i64 y] w fun e w' => e = .returned (.tuple #[.int .i64 r, .string sDone]) ∧ w' = w) :
    Calls Tryd.prog 54 #[val 1 x s1 b1, val 1 y s2 b2, .func (.func g) #[] #[]] w fun e w' => e = .returned (.tuple #[val 1 r ⟨#[]⟩ false, .string sDone]) ∧ Below w.heap.size w w' :=
  numbers_op g x y s1 s2 b1 b2 1 r ⟨#[]⟩ false sDone w (fun a b' c w' ha hb hc => numbers1_done g x y r a b' c w' hg ha hb hc hop)

theorem numbers_fail (g : Nat) (x y r : Int) (s1 s2 : ByteArray) (b1 b2 : Bool) (st : ByteArray) (w : World) (hg : isOp g) (hst : st = ⟨#[50, 50, 48, 49, 50]⟩ ∨ st = ⟨#[50, 50, 48, 48, 51]⟩)
    (hop : ∀ w, Calls Tryd.prog g #[.int .i64 x, .int .i64 y] w fun e w' => e = .returned (.tuple #[.int .i64 r, .string st]) ∧ w' = w) :
    Calls Tryd.prog 54 #[val 1 x s1 b1, val 1 y s2 b2, .func (.func g) #[] #[]] w fun e w' => e = .returned (.tuple #[nullV, .string st]) ∧ Below w.heap.size w w' :=
  numbers_op g x y s1 s2 b1 b2 0 0 ⟨#[]⟩ false st w (fun a b' c w' ha hb hc => numbers1_fail g x y r st a b' c w' hg hst ha hb hc hop)

set_option maxHeartbeats 400000 in
theorem div1_zero (x : Int) (w : World) :
    Calls Tryd.prog 61 #[.int .i64 x, .int .i64 0] w fun e w' => e = .returned (.tuple #[.int .i64 0, .string ⟨#[50, 50, 48, 49, 50]⟩]) ∧ w' = w := by
  go_enter Tryd.func61, Tryd.ntmps61
  go_wp2
  go_ret2
  exact ⟨rfl, rfl⟩

set_option maxHeartbeats 400000 in
theorem div1_out (w : World) :
    Calls Tryd.prog 61 #[.int .i64 (-9223372036854775808), .int .i64 (-1)] w fun e w' => e = .returned (.tuple #[.int .i64 0, .string ⟨#[50, 50, 48, 48, 51]⟩]) ∧ w' = w := by
  go_enter Tryd.func61, Tryd.ntmps61
  go_wp2
  go_ret2
  exact ⟨rfl, rfl⟩

set_option maxHeartbeats 400000 in
theorem div1_one (x : Int) (w : World) (hx : (x == -9223372036854775808) = false) :
    Calls Tryd.prog 61 #[.int .i64 x, .int .i64 (-1)] w fun e w' => e = .returned (.tuple #[.int .i64 (wrap64 (-x)), .string sDone]) ∧ w' = w := by
  go_enter Tryd.func61, Tryd.ntmps61
  go_wp2
  go_ret2
  exact ⟨rfl, rfl⟩

set_option maxHeartbeats 400000 in
theorem div1_ok (x y : Int) (w : World) (h0 : (y == 0) = false) (h1 : (y == -1) = false) :
    Calls Tryd.prog 61 #[.int .i64 x, .int .i64 y] w fun e w' => e = .returned (.tuple #[.int .i64 (wrap64 (x.tdiv y)), .string sDone]) ∧ w' = w := by
  have h2 : y ≠ 0 := by simpa using h0
  go_enter Tryd.func61, Tryd.ntmps61
  go_wp2
  go_ret2
  exact ⟨rfl, rfl⟩

set_option maxHeartbeats 400000 in
theorem add_of (k1 n1 k2 n2 : Int) (s1 s2 : ByteArray) (b1 b2 : Bool) (k n : Int) (s : ByteArray) (b : Bool) (st : ByteArray) (w : World)
    (hnum : ∀ w, Calls Tryd.prog 54 #[val k1 n1 s1 b1, val k2 n2 s2 b2, .func (.func 55) #[] #[]] w fun e w' => e = .returned (.tuple #[val k n s b, .string st]) ∧ Below w.heap.size w w') :
    Calls Tryd.prog 27 #[val k1 n1 s1 b1, val k2 n2 s2 b2] w fun e w' => e = .returned (.tuple #[val k n s b, .string st]) ∧ Below w.heap.size w w' := by
  have H : Hid (∀ w, Calls Tryd.prog 54 #[val k1 n1 s1 b1, val k2 n2 s2 b2, .func (.func 55) #[] #[]] w fun e w' => e = .returned (.tuple #[val k n s b, .string st]) ∧ Below w.heap.size w w') := hnum
  clear hnum
  go_enter Tryd.func27, Tryd.ntmps27
  go_wp2_with fail
  refine (H.out _).mono ?_
  rintro e w1 ⟨rfl, hb⟩
  obtain ⟨hcl, hfr⟩ := bcell hb
  go_wp2
  exact bodyPost_ret (v := .tuple #[val k n s b, .string st]) (by simp [results, Tryd.results27, go_sem, hcl]) rfl ⟨rfl, (by repeat (first | exact Below.refl _ _ | assumption | refine Below.alloc ?_ (by first | (simp; done) | (simp; omega)) _ | refine Below.setCell ?_ (by first | (simp; done) | (simp; omega)) _ | refine Below.drew ?_ | refine Below.trans ?_ (hb.mono (by first | (simp; done) | (simp; omega)))))⟩

set_option maxHeartbeats 400000 in
theorem sub_of (k1 n1 k2 n2 : Int) (s1 s2 : ByteArray) (b1 b2 : Bool) (k n : Int) (s : ByteArray) (b : Bool) (st : ByteArray) (w : World)
    (hnum : ∀ w, Calls Tryd.prog 54 #[val k1 n1 s1 b1, val k2 n2 s2 b2, .func (.func 57) #[] #[]] w fun e w' => e = .returned (.tuple #[val k n s b, .string st]) ∧ Below w.heap.size w w') :
    Calls Tryd.prog 29 #[val k1 n1 s1 b1, val k2 n2 s2 b2] w fun e w' => e = .returned (.tuple #[val k n s b, .string st]) ∧ Below w.heap.size w w' := by
  have H : Hid (∀ w, Calls Tryd.prog 54 #[val k1 n1 s1 b1, val k2 n2 s2 b2, .func (.func 57) #[] #[]] w fun e w' => e = .returned (.tuple #[val k n s b, .string st]) ∧ Below w.heap.size w w') := hnum
  clear hnum
  go_enter Tryd.func29, Tryd.ntmps29
  go_wp2_with fail
  refine (H.out _).mono ?_
  rintro e w1 ⟨rfl, hb⟩
  obtain ⟨hcl, hfr⟩ := bcell hb
  go_wp2
  exact bodyPost_ret (v := .tuple #[val k n s b, .string st]) (by simp [results, Tryd.results29, go_sem, hcl]) rfl ⟨rfl, (by repeat (first | exact Below.refl _ _ | assumption | refine Below.alloc ?_ (by first | (simp; done) | (simp; omega)) _ | refine Below.setCell ?_ (by first | (simp; done) | (simp; omega)) _ | refine Below.drew ?_ | refine Below.trans ?_ (hb.mono (by first | (simp; done) | (simp; omega)))))⟩

set_option maxHeartbeats 400000 in
theorem mul_of (k1 n1 k2 n2 : Int) (s1 s2 : ByteArray) (b1 b2 : Bool) (k n : Int) (s : ByteArray) (b : Bool) (st : ByteArray) (w : World)
    (hnum : ∀ w, Calls Tryd.prog 54 #[val k1 n1 s1 b1, val k2 n2 s2 b2, .func (.func 58) #[] #[]] w fun e w' => e = .returned (.tuple #[val k n s b, .string st]) ∧ Below w.heap.size w w') :
    Calls Tryd.prog 31 #[val k1 n1 s1 b1, val k2 n2 s2 b2] w fun e w' => e = .returned (.tuple #[val k n s b, .string st]) ∧ Below w.heap.size w w' := by
  have H : Hid (∀ w, Calls Tryd.prog 54 #[val k1 n1 s1 b1, val k2 n2 s2 b2, .func (.func 58) #[] #[]] w fun e w' => e = .returned (.tuple #[val k n s b, .string st]) ∧ Below w.heap.size w w') := hnum
  clear hnum
  go_enter Tryd.func31, Tryd.ntmps31
  go_wp2_with fail
  refine (H.out _).mono ?_
  rintro e w1 ⟨rfl, hb⟩
  obtain ⟨hcl, hfr⟩ := bcell hb
  go_wp2
  exact bodyPost_ret (v := .tuple #[val k n s b, .string st]) (by simp [results, Tryd.results31, go_sem, hcl]) rfl ⟨rfl, (by repeat (first | exact Below.refl _ _ | assumption | refine Below.alloc ?_ (by first | (simp; done) | (simp; omega)) _ | refine Below.setCell ?_ (by first | (simp; done) | (simp; omega)) _ | refine Below.drew ?_ | refine Below.trans ?_ (hb.mono (by first | (simp; done) | (simp; omega)))))⟩

set_option maxHeartbeats 400000 in
theorem div_of (k1 n1 k2 n2 : Int) (s1 s2 : ByteArray) (b1 b2 : Bool) (k n : Int) (s : ByteArray) (b : Bool) (st : ByteArray) (w : World)
    (hnum : ∀ w, Calls Tryd.prog 54 #[val k1 n1 s1 b1, val k2 n2 s2 b2, .func (.func 61) #[] #[]] w fun e w' => e = .returned (.tuple #[val k n s b, .string st]) ∧ Below w.heap.size w w') :
    Calls Tryd.prog 33 #[val k1 n1 s1 b1, val k2 n2 s2 b2] w fun e w' => e = .returned (.tuple #[val k n s b, .string st]) ∧ Below w.heap.size w w' := by
  have H : Hid (∀ w, Calls Tryd.prog 54 #[val k1 n1 s1 b1, val k2 n2 s2 b2, .func (.func 61) #[] #[]] w fun e w' => e = .returned (.tuple #[val k n s b, .string st]) ∧ Below w.heap.size w w') := hnum
  clear hnum
  go_enter Tryd.func33, Tryd.ntmps33
  go_wp2_with fail
  refine (H.out _).mono ?_
  rintro e w1 ⟨rfl, hb⟩
  obtain ⟨hcl, hfr⟩ := bcell hb
  go_wp2
  exact bodyPost_ret (v := .tuple #[val k n s b, .string st]) (by simp [results, Tryd.results33, go_sem, hcl]) rfl ⟨rfl, (by repeat (first | exact Below.refl _ _ | assumption | refine Below.alloc ?_ (by first | (simp; done) | (simp; omega)) _ | refine Below.setCell ?_ (by first | (simp; done) | (simp; omega)) _ | refine Below.drew ?_ | refine Below.trans ?_ (hb.mono (by first | (simp; done) | (simp; omega)))))⟩

end Go.Proofs.YticlmegcpneckaaDoor

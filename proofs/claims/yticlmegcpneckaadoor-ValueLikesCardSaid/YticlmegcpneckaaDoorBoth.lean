/- The walk of value.both: what every operation asks of its two values. -/
import Derived.Test.YticlmegcpneckaaDoorSums
import Derived.WalkKit
import Derived.WalkSpells
import Derived.WalkLawsBesides
namespace Go.Proofs.YticlmegcpneckaaDoor
open Go.RowKit
set_option linter.unusedVariables false

theorem bcell {W w1 : World} (hb : Below W.heap.size W w1) : (∀ b o, b < W.heap.size → w1.cell? ⟨b, o, none⟩ = W.cell? ⟨b, o, none⟩) ∧ (∀ b o, b < W.heap.size → w1.frozen? ⟨b, o, none⟩ = W.frozen? ⟨b, o, none⟩) :=
  ⟨fun b o h => hb.cell (p := ⟨b, o, none⟩) h, fun b o h => hb.frozen (p := ⟨b, o, none⟩) h⟩

def isCl (c : Nat) : Prop := c = 69 ∨ c = 63

set_option maxHeartbeats 1000000 in
theorem both_op (c : Nat) (cap : Array Value) (kind n1 n2 : Int) (s1 s2 : ByteArray) (b1 b2 : Bool) (k n : Int) (s : ByteArray) (b : Bool) (st : ByteArray) (w : World) (hc : isCl c) (hk : (kind == 0) = false)
    (hop : ∀ w', Below w.heap.size w w' → Calls Tryd.prog c cap w' fun e w'' => e = .returned (.tuple #[val k n s b, .string st]) ∧ Below w'.heap.size w' w'') :
    Calls Tryd.prog 62 #[.int .i64 kind, val kind n1 s1 b1, val kind n2 s2 b2, .func (.func c) #[] cap] w fun e w' => e = .returned (.tuple #[val k n s b, .string st]) ∧ Below w.heap.size w w' := by
  have H : Hid (∀ w', Below w.heap.size w w' → Calls Tryd.prog c cap w' fun e w'' => e = .returned (.tuple #[val k n s b, .string st]) ∧ Below w'.heap.size w' w'') := hop
  clear hop
  have i0 := idx0
  have i1 := idx1
  have hk2 : (kind != 0) = true := by simpa using hk
  go_enter Tryd.func62, Tryd.ntmps62
  go_wp2
  refine wp_loop_rounds 3 ?_
  rw [rounds_succ]
  go_wp2
  rw [rounds_succ]
  go_wp2
  rw [rounds_succ]
  go_wp2
  rcases hc with rfl | rfl
  all_goals
    go_wp2_with fail
    refine (H.out _ ?_).mono ?_
    · exact (by repeat (first | exact Below.refl _ _ | assumption | refine Below.alloc ?_ (by first | (simp; done) | (simp; omega)) _ | refine Below.setCell ?_ (by first | (simp; done) | (simp; omega)) _ | refine Below.drew ?_))
    rintro e w1 ⟨rfl, hb⟩
    obtain ⟨hcl, hfr⟩ := bcell hb
    go_wp2
    exact bodyPost_ret (v := .tuple #[val k n s b, .string st]) (by simp [results, Tryd.results62, go_sem, hcl]) rfl ⟨rfl, (by repeat (first | exact Below.refl _ _ | assumption | refine Below.alloc ?_ (by first | (simp; done) | (simp; omega)) _ | refine Below.setCell ?_ (by first | (simp; done) | (simp; omega)) _ | refine Below.drew ?_ | refine Below.trans ?_ (hb.mono (by first | (simp; done) | (simp; omega)))))⟩

set_option maxHeartbeats 1000000 in
theorem both_mis1 (f : Value) (kind k1 n1 k2 n2 : Int) (s1 s2 : ByteArray) (b1 b2 : Bool) (w : World) (h1 : (k1 != 0) = true) (h2 : (k1 != kind) = true) :
    Calls Tryd.prog 62 #[.int .i64 kind, val k1 n1 s1 b1, val k2 n2 s2 b2, f] w fun e w' => e = .returned (.tuple #[nullV, .string ⟨#[52, 50, 56, 48, 52]⟩]) ∧ Below w.heap.size w w' := by
  have i0 := idx0
  have i1 := idx1
  go_enter Tryd.func62, Tryd.ntmps62
  go_wp2
  refine wp_loop_rounds 3 ?_
  rw [rounds_succ]
  go_wp2
  exact bodyPost_ret (v := .tuple #[nullV, .string ⟨#[52, 50, 56, 48, 52]⟩]) (by simp [results, Tryd.results62, go_sem]) rfl ⟨rfl, (by repeat (first | exact Below.refl _ _ | assumption | refine Below.alloc ?_ (by first | (simp; done) | (simp; omega)) _ | refine Below.setCell ?_ (by first | (simp; done) | (simp; omega)) _ | refine Below.drew ?_))⟩

set_option maxHeartbeats 1000000 in
theorem both_mis2 (f : Value) (kind k1 n1 k2 n2 : Int) (s1 s2 : ByteArray) (b1 b2 : Bool) (w : World) (h1 : (k2 != 0) = true) (h2 : (k2 != kind) = true) (h3 : (k1 != 0) = false) :
    Calls Tryd.prog 62 #[.int .i64 kind, val k1 n1 s1 b1, val k2 n2 s2 b2, f] w fun e w' => e = .returned (.tuple #[nullV, .string ⟨#[52, 50, 56, 48, 52]⟩]) ∧ Below w.heap.size w w' := by
  have i0 := idx0
  have i1 := idx1
  go_enter Tryd.func62, Tryd.ntmps62
  go_wp2
  refine wp_loop_rounds 3 ?_
  rw [rounds_succ]
  go_wp2
  rw [rounds_succ]
  go_wp2
  exact bodyPost_ret (v := .tuple #[nullV, .string ⟨#[52, 50, 56, 48, 52]⟩]) (by simp [results, Tryd.results62, go_sem]) rfl ⟨rfl, (by repeat (first | exact Below.refl _ _ | assumption | refine Below.alloc ?_ (by first | (simp; done) | (simp; omega)) _ | refine Below.setCell ?_ (by first | (simp; done) | (simp; omega)) _ | refine Below.drew ?_))⟩

set_option maxHeartbeats 1000000 in
theorem both_mis3 (f : Value) (kind k1 n1 k2 n2 : Int) (s1 s2 : ByteArray) (b1 b2 : Bool) (w : World) (h1 : (k2 != 0) = true) (h2 : (k2 != kind) = true) (h3 : (k1 != 0) = true) (h4 : (k1 != kind) = false) :
    Calls Tryd.prog 62 #[.int .i64 kind, val k1 n1 s1 b1, val k2 n2 s2 b2, f] w fun e w' => e = .returned (.tuple #[nullV, .string ⟨#[52, 50, 56, 48, 52]⟩]) ∧ Below w.heap.size w w' := by
  have i0 := idx0
  have i1 := idx1
  go_enter Tryd.func62, Tryd.ntmps62
  go_wp2
  refine wp_loop_rounds 3 ?_
  rw [rounds_succ]
  go_wp2
  rw [rounds_succ]
  go_wp2
  exact bodyPost_ret (v := .tuple #[nullV, .string ⟨#[52, 50, 56, 48, 52]⟩]) (by simp [results, Tryd.results62, go_sem]) rfl ⟨rfl, (by repeat (first | exact Below.refl _ _ | assumption | refine Below.alloc ?_ (by first | (simp; done) | (simp; omega)) _ | refine Below.setCell ?_ (by first | (simp; done) | (simp; omega)) _ | refine Below.drew ?_))⟩

set_option maxHeartbeats 1000000 in
theorem both_null1 (f : Value) (kind k1 n1 k2 n2 : Int) (s1 s2 : ByteArray) (b1 b2 : Bool) (w : World) (h1 : (k2 != 0) = false) :
    Calls Tryd.prog 62 #[.int .i64 kind, val 0 n1 s1 b1, val k2 n2 s2 b2, f] w fun e w' => e = .returned (.tuple #[nullV, .string sDone]) ∧ Below w.heap.size w w' := by
  have i0 := idx0
  have i1 := idx1
  go_enter Tryd.func62, Tryd.ntmps62
  go_wp2
  refine wp_loop_rounds 3 ?_
  rw [rounds_succ]
  go_wp2
  rw [rounds_succ]
  go_wp2
  rw [rounds_succ]
  go_wp2
  exact bodyPost_ret (v := .tuple #[nullV, .string sDone]) (by simp [results, Tryd.results62, go_sem]) rfl ⟨rfl, (by repeat (first | exact Below.refl _ _ | assumption | refine Below.alloc ?_ (by first | (simp; done) | (simp; omega)) _ | refine Below.setCell ?_ (by first | (simp; done) | (simp; omega)) _ | refine Below.drew ?_))⟩

set_option maxHeartbeats 1000000 in
theorem both_null2 (f : Value) (kind k1 n1 k2 n2 : Int) (s1 s2 : ByteArray) (b1 b2 : Bool) (w : World) (h1 : (k2 != 0) = true) (h2 : (k2 != kind) = false) :
    Calls Tryd.prog 62 #[.int .i64 kind, val 0 n1 s1 b1, val k2 n2 s2 b2, f] w fun e w' => e = .returned (.tuple #[nullV, .string sDone]) ∧ Below w.heap.size w w' := by
  have i0 := idx0
  have i1 := idx1
  go_enter Tryd.func62, Tryd.ntmps62
  go_wp2
  refine wp_loop_rounds 3 ?_
  rw [rounds_succ]
  go_wp2
  rw [rounds_succ]
  go_wp2
  rw [rounds_succ]
  go_wp2
  exact bodyPost_ret (v := .tuple #[nullV, .string sDone]) (by simp [results, Tryd.results62, go_sem]) rfl ⟨rfl, (by repeat (first | exact Below.refl _ _ | assumption | refine Below.alloc ?_ (by first | (simp; done) | (simp; omega)) _ | refine Below.setCell ?_ (by first | (simp; done) | (simp; omega)) _ | refine Below.drew ?_))⟩

set_option maxHeartbeats 1000000 in
theorem both_null3 (f : Value) (kind k1 n1 k2 n2 : Int) (s1 s2 : ByteArray) (b1 b2 : Bool) (w : World) (h1 : (k1 != 0) = true) (h2 : (k1 != kind) = false) (h3 : (k1 == 0) = false) :
    Calls Tryd.prog 62 #[.int .i64 kind, val k1 n1 s1 b1, val 0 n2 s2 b2, f] w fun e w' => e = .returned (.tuple #[nullV, .string sDone]) ∧ Below w.heap.size w w' := by
  have i0 := idx0
  have i1 := idx1
  go_enter Tryd.func62, Tryd.ntmps62
  go_wp2
  refine wp_loop_rounds 3 ?_
  rw [rounds_succ]
  go_wp2
  rw [rounds_succ]
  go_wp2
  rw [rounds_succ]
  go_wp2
  exact bodyPost_ret (v := .tuple #[nullV, .string sDone]) (by simp [results, Tryd.results62, go_sem]) rfl ⟨rfl, (by repeat (first | exact Below.refl _ _ | assumption | refine Below.alloc ?_ (by first | (simp; done) | (simp; omega)) _ | refine Below.setCell ?_ (by first | (simp; done) | (simp; omega)) _ | refine Below.drew ?_))⟩
end Go.Proofs.YticlmegcpneckaaDoor

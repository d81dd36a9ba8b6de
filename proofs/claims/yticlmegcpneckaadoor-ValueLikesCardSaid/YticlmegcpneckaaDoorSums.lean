/- The walks of the whole numbers' functions. -/
import Derived.Test.YticlmegcpneckaaDoorTruths
import Derived.WalkKit
import Derived.WalkSpells
import Derived.WalkLawsBesides
namespace Go.Proofs.YticlmegcpneckaaDoor
open Go.RowKit
set_option linter.unusedVariables false

abbrev val (k n : Int) (s : ByteArray) (b : Bool) : Value := .agg #[.int .i64 k, .int .i64 n, .string s, .bool b]
abbrev sDone : ByteArray := ⟨#[48, 48, 48, 48, 48]⟩
abbrev nullV : Value := val 0 0 ⟨#[]⟩ false

set_option maxHeartbeats 400000 in
theorem num_any (n : Int) (w : World) :
    Calls Tryd.prog 42 #[.int .i64 n] w fun e w' => e = .returned (val 1 n ⟨#[]⟩ false) ∧ Below w.heap.size w w' := by
  go_enter Tryd.func42, Tryd.ntmps42
  go_wp2
  exact bodyPost_ret (v := val 1 n ⟨#[]⟩ false) (by simp [results, Tryd.results42, go_sem]) rfl ⟨rfl, (Below.refl _ _).alloc (Nat.le_refl _) _⟩

set_option maxHeartbeats 400000 in
theorem text_any (s : ByteArray) (w : World) :
    Calls Tryd.prog 43 #[.string s] w fun e w' => e = .returned (val 2 0 s false) ∧ Below w.heap.size w w' := by
  go_enter Tryd.func43, Tryd.ntmps43
  go_wp2
  exact bodyPost_ret (v := val 2 0 s false) (by simp [results, Tryd.results43, go_sem]) rfl ⟨rfl, (Below.refl _ _).alloc (Nat.le_refl _) _⟩

theorem idx0 (a b c d e f g h : Value) (w : World) : (Instr.index 74 (.agg #[a, b, c, d, e, f, g, h]) (.int .i64 0)).run Tryd.prog w = .ok (.agg #[a, b, c, d]) w := by kernel_rfl
theorem idx1 (a b c d e f g h : Value) (w : World) : (Instr.index 74 (.agg #[a, b, c, d, e, f, g, h]) (.int .i64 1)).run Tryd.prog w = .ok (.agg #[e, f, g, h]) w := by kernel_rfl
def isOp (g : Nat) : Prop := g = 55 ∨ g = 57 ∨ g = 58 ∨ g = 61

set_option maxHeartbeats 400000 in
theorem numbers1_done (g : Nat) (x y r : Int) (a b c : Nat) (w : World) (hg : isOp g)
    (ha : w.cell? ⟨a, 0, none⟩ = some (.func (.func g) #[] #[])) (hb : w.cell? ⟨b, 1, none⟩ = some (.int .i64 x)) (hc : w.cell? ⟨c, 1, none⟩ = some (.int .i64 y))
    (hop : ∀ w, Calls Tryd.prog g #[.int .i64 x, .int .i64 y] w fun e w' => e = .returned (.tuple #[.int .i64 r, .string sDone]) ∧ w' = w) :
    Calls Tryd.prog 69 #[.pointer (some ⟨a, 0, none⟩), .pointer (some ⟨b, 0, none⟩), .pointer (some ⟨c, 0, none⟩)] w fun e w' => e = .returned (.tuple #[val 1 r ⟨#[]⟩ false, .string sDone]) ∧ Below w.heap.size w w' := by
  have H : Hid (∀ w, Calls Tryd.prog g #[.int .i64 x, .int .i64 y] w fun e w' => e = .returned (.tuple #[.int .i64 r, .string sDone]) ∧ w' = w) := hop
  clear hop
  have a1 : a < w.heap.size := World.block_lt_of_cell? w _ ha
  have b1 : b < w.heap.size := World.block_lt_of_cell? w _ hb
  have c1 : c < w.heap.size := World.block_lt_of_cell? w _ hc
  go_enter Tryd.func69, Tryd.ntmps69
  go_wp2
  rcases hg with rfl | rfl | rfl | rfl
  all_goals
    go_wp2_with fail
    refine (H.out _).mono ?_
    rintro e w' ⟨rfl, rfl⟩
    go_wp2
    exact bodyPost_ret (v := .tuple #[val 1 r ⟨#[]⟩ false, .string sDone]) (by simp [results, Tryd.results69, go_sem]) rfl ⟨rfl, (by repeat (first | exact Below.refl _ _ | assumption | refine Below.alloc ?_ (by first | (simp; done) | (simp; omega)) _ | refine Below.setCell ?_ (by first | (simp; done) | (simp; omega)) _ | refine Below.drew ?_))⟩

set_option maxHeartbeats 400000 in
theorem numbers1_fail (g : Nat) (x y r : Int) (st : ByteArray) (a b c : Nat) (w : World) (hg : isOp g) (hst : st = ⟨#[50, 50, 48, 49, 50]⟩ ∨ st = ⟨#[50, 50, 48, 48, 51]⟩)
    (ha : w.cell? ⟨a, 0, none⟩ = some (.func (.func g) #[] #[])) (hb : w.cell? ⟨b, 1, none⟩ = some (.int .i64 x)) (hc : w.cell? ⟨c, 1, none⟩ = some (.int .i64 y))
    (hop : ∀ w, Calls Tryd.prog g #[.int .i64 x, .int .i64 y] w fun e w' => e = .returned (.tuple #[.int .i64 r, .string st]) ∧ w' = w) :
    Calls Tryd.prog 69 #[.pointer (some ⟨a, 0, none⟩), .pointer (some ⟨b, 0, none⟩), .pointer (some ⟨c, 0, none⟩)] w fun e w' => e = .returned (.tuple #[nullV, .string st]) ∧ Below w.heap.size w w' := by
  have H : Hid (∀ w, Calls Tryd.prog g #[.int .i64 x, .int .i64 y] w fun e w' => e = .returned (.tuple #[.int .i64 r, .string st]) ∧ w' = w) := hop
  clear hop
  have a1 : a < w.heap.size := World.block_lt_of_cell? w _ ha
  have b1 : b < w.heap.size := World.block_lt_of_cell? w _ hb
  have c1 : c < w.heap.size := World.block_lt_of_cell? w _ hc
  rcases hst with rfl | rfl
  all_goals
    go_enter Tryd.func69, Tryd.ntmps69
    go_wp2
    rcases hg with rfl | rfl | rfl | rfl
    all_goals
      go_wp2_with fail
      refine (H.out _).mono ?_
      rintro e w' ⟨rfl, rfl⟩
      go_wp2
      refine bodyPost_ret (v := .tuple #[nullV, _]) (by simp [results, Tryd.results69, go_sem]) rfl ⟨rfl, (by repeat (first | exact Below.refl _ _ | assumption | refine Below.alloc ?_ (by first | (simp; done) | (simp; omega)) _ | refine Below.setCell ?_ (by first | (simp; done) | (simp; omega)) _ | refine Below.drew ?_))⟩

end Go.Proofs.YticlmegcpneckaaDoor

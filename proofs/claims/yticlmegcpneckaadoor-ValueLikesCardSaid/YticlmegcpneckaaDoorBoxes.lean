/- A value in a box of its own: its four cells, kept by whatever leaves old memory alone. -/
import Derived.Test.YticlmegcpneckaaDoorAlive
namespace Go.Proofs.YticlmegcpneckaaDoor
open Go.RowKit
set_option linter.unusedVariables false

structure Box (w : World) (b : Nat) (K N : Int) (S : ByteArray) (B : Bool) : Prop where
  c0 : w.cell? ⟨b, 0, none⟩ = some (.int .i64 K)
  c1 : w.cell? ⟨b, 1, none⟩ = some (.int .i64 N)
  c2 : w.cell? ⟨b, 2, none⟩ = some (.string S)
  c3 : w.cell? ⟨b, 3, none⟩ = some (.bool B)
theorem cell_keep {W w' : World} (hb : Below W.heap.size W w') {b o : Nat} {v : Value} (h : W.cell? ⟨b, o, none⟩ = some v) : w'.cell? ⟨b, o, none⟩ = some v :=
  (hb.cell (p := ⟨b, o, none⟩) (World.block_lt_of_cell? W _ h)).trans h
theorem Box.keep {W w' : World} {b : Nat} {K N : Int} {S : ByteArray} {B : Bool} (h : Box W b K N S B) (hb : Below W.heap.size W w') : Box w' b K N S B :=
  ⟨cell_keep hb h.c0, cell_keep hb h.c1, cell_keep hb h.c2, cell_keep hb h.c3⟩
theorem Box.lt {W : World} {b : Nat} {K N : Int} {S : ByteArray} {B : Bool} (h : Box W b K N S B) : b < W.heap.size := World.block_lt_of_cell? W _ h.c0
theorem Box.alloc {W : World} {b : Nat} {K N : Int} {S : ByteArray} {B : Bool} (h : Box W b K N S B) (o : Obj) : Box (W.alloc o) b K N S B :=
  h.keep ((Below.refl _ _).alloc (Nat.le_refl _) o)
theorem Box.new (W : World) (K N : Int) (S : ByteArray) (B : Bool) (t : Nat) : Box (W.alloc (.cells #[.int .i64 K, .int .i64 N, .string S, .bool B] t)) W.heap.size K N S B :=
  ⟨by go_simp, by go_simp, by go_simp, by go_simp⟩
theorem Box.newAt {W : World} {b : Nat} (K N : Int) (S : ByteArray) (B : Bool) (t : Nat) (hb : b = W.heap.size) : Box (W.alloc (.cells #[.int .i64 K, .int .i64 N, .string S, .bool B] t)) b K N S B := by
  subst hb; exact Box.new W K N S B t
theorem below_alloc {W w : World} (h : Below w.heap.size w W) (o : Obj) : Below w.heap.size w (W.alloc o) := h.alloc h.size o
end Go.Proofs.YticlmegcpneckaaDoor

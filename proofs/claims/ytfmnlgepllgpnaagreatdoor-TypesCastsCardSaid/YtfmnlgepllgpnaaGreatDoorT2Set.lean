/- A value's box written over, and what is kept beside it. -/
import Derived.Test.YtfmnlgepllgpnaaGreatDoorT2Alive
namespace Go.Proofs.YtfmnlgepllgpnaaGreatDoor
open Go.RowKit
set_option linter.unusedVariables false

theorem drewC {f : Nat} {args : Array Value} {v : Value} (h : ∀ w : World, Calls Tryz.prog f args w fun e w' => e = .returned v ∧ Below w.heap.size w w') (W : World) :
    Calls Tryz.prog f args W.drew fun e w' => e = .returned v ∧ Below W.heap.size W w' :=
  (h W.drew).mono fun e w' ⟨he, hb⟩ => ⟨he, (Below.refl _ _).drew.trans hb⟩
/-- A box that may be written. -/
structure Open4 (w : World) (b : Nat) : Prop where
  f0 : w.frozen? ⟨b, 0, none⟩ = false
  f1 : w.frozen? ⟨b, 1, none⟩ = false
  f2 : w.frozen? ⟨b, 2, none⟩ = false
  f3 : w.frozen? ⟨b, 3, none⟩ = false
theorem Open4.keep {W w' : World} {b : Nat} (h : Open4 W b) (hlt : b < W.heap.size) (hb : Below W.heap.size W w') : Open4 w' b :=
  ⟨(hb.frozen (p := ⟨b, 0, none⟩) hlt).trans h.f0, (hb.frozen (p := ⟨b, 1, none⟩) hlt).trans h.f1, (hb.frozen (p := ⟨b, 2, none⟩) hlt).trans h.f2, (hb.frozen (p := ⟨b, 3, none⟩) hlt).trans h.f3⟩
theorem Open4.newAt {W : World} {b : Nat} (K N : Int) (S : ByteArray) (B : Bool) (t : Nat) (hb : b = W.heap.size) : Open4 (W.alloc (.cells #[.int .i64 K, .int .i64 N, .string S, .bool B] t)) b := by
  subst hb
  exact ⟨by go_simp, by go_simp, by go_simp, by go_simp⟩
abbrev set4 (W : World) (p : Nat) (K N : Int) (S : ByteArray) (B : Bool) : World := (((W.setCell ⟨p, 0, none⟩ (.int .i64 K)).setCell ⟨p, 1, none⟩ (.int .i64 N)).setCell ⟨p, 2, none⟩ (.string S)).setCell ⟨p, 3, none⟩ (.bool B)
theorem ne_off {p i j : Nat} (h : i ≠ j) : (⟨p, i, none⟩ : Addr) ≠ ⟨p, j, none⟩ := fun e => h (by injection e)
theorem ne_blk {p q i j : Nat} (h : p ≠ q) : (⟨p, i, none⟩ : Addr) ≠ ⟨q, j, none⟩ := fun e => h (by injection e)
theorem set4_other {W : World} {p q o : Nat} {K N : Int} {S : ByteArray} {B : Bool} (h : p ≠ q) : (set4 W p K N S B).cell? ⟨q, o, none⟩ = W.cell? ⟨q, o, none⟩ := by
  unfold set4
  rw [World.cell?_setCell_other (h := ne_blk h), World.cell?_setCell_other (h := ne_blk h), World.cell?_setCell_other (h := ne_blk h), World.cell?_setCell_other (h := ne_blk h)]
theorem set4_box {W : World} {p : Nat} {K0 N0 : Int} {S0 : ByteArray} {B0 : Bool} (v : Box W p K0 N0 S0 B0) (K N : Int) (S : ByteArray) (B : Bool) : Box (set4 W p K N S B) p K N S B := by
  unfold set4
  refine ⟨?_, ?_, ?_, ?_⟩
  · rw [World.cell?_setCell_other (h := ne_off (by decide)), World.cell?_setCell_other (h := ne_off (by decide)), World.cell?_setCell_other (h := ne_off (by decide)), World.cell?_setCell_same (h := v.c0)]
  · rw [World.cell?_setCell_other (h := ne_off (by decide)), World.cell?_setCell_other (h := ne_off (by decide)), World.cell?_setCell_same (u := .int .i64 N0) (h := by rw [World.cell?_setCell_other (h := ne_off (by decide))]; exact v.c1)]
  · rw [World.cell?_setCell_other (h := ne_off (by decide)), World.cell?_setCell_same (u := .string S0) (h := by rw [World.cell?_setCell_other (h := ne_off (by decide)), World.cell?_setCell_other (h := ne_off (by decide))]; exact v.c2)]
  · rw [World.cell?_setCell_same (u := .bool B0) (h := by rw [World.cell?_setCell_other (h := ne_off (by decide)), World.cell?_setCell_other (h := ne_off (by decide)), World.cell?_setCell_other (h := ne_off (by decide))]; exact v.c3)]
theorem set4_keep {W : World} {p q : Nat} {K N K1 N1 : Int} {S S1 : ByteArray} {B B1 : Bool} (x : Box W q K1 N1 S1 B1) (h : p ≠ q) : Box (set4 W p K N S B) q K1 N1 S1 B1 :=
  ⟨(set4_other h).trans x.c0, (set4_other h).trans x.c1, (set4_other h).trans x.c2, (set4_other h).trans x.c3⟩
/-- A type's box. -/
structure TB (W : World) (p : Nat) (b l : Int) : Prop where
  d0 : W.cell? ⟨p, 0, none⟩ = some (.int .i64 b)
  d1 : W.cell? ⟨p, 1, none⟩ = some (.int .i64 l)
theorem TB.keep {W w' : World} {p : Nat} {b l : Int} (h : TB W p b l) (hb : Below W.heap.size W w') : TB w' p b l := ⟨cell_keep hb h.d0, cell_keep hb h.d1⟩
theorem TB.alloc {W : World} {p : Nat} {b l : Int} (h : TB W p b l) (o : Obj) : TB (W.alloc o) p b l := h.keep (below_alloc (Below.refl _ _) o)
theorem TB.set4 {W : World} {p q : Nat} {K N : Int} {S : ByteArray} {B : Bool} {b l : Int} (x : TB W q b l) (h : p ≠ q) : TB (set4 W p K N S B) q b l := ⟨(set4_other h).trans x.d0, (set4_other h).trans x.d1⟩
theorem TB.newAt {W : World} {p : Nat} (b l : Int) (t : Nat) (h : p = W.heap.size) : TB (W.alloc (.cells #[.int .i64 b, .int .i64 l] t)) p b l := by
  subst h
  exact ⟨by go_simp, by go_simp⟩
theorem set4_below {w W : World} {p : Nat} {K N : Int} {S : ByteArray} {B : Bool} (h : Below w.heap.size w W) (hp : w.heap.size ≤ p) : Below w.heap.size w (set4 W p K N S B) := by
  unfold set4
  exact (((h.setCell hp _).setCell hp _).setCell hp _).setCell hp _
/-- The world in which a law of a raw value and a type begins: the raw value's box, the type's. -/
theorem start_boxes (w : World) (k n : Int) (s : ByteArray) (b : Bool) (base size : Int) (t1 t2 : Nat) :
    Box ((w.alloc (.cells #[.int .i64 k, .int .i64 n, .string s, .bool b] t1)).alloc (.cells #[.int .i64 base, .int .i64 size] t2)) w.heap.size k n s b ∧
    TB ((w.alloc (.cells #[.int .i64 k, .int .i64 n, .string s, .bool b] t1)).alloc (.cells #[.int .i64 base, .int .i64 size] t2)) (w.heap.size + 1) base size ∧
    Below w.heap.size w ((w.alloc (.cells #[.int .i64 k, .int .i64 n, .string s, .bool b] t1)).alloc (.cells #[.int .i64 base, .int .i64 size] t2)) :=
  ⟨(Box.new w k n s b t1).alloc _, TB.newAt base size t2 (by simp), below_alloc (below_alloc (Below.refl _ _) _) _⟩
end Go.Proofs.YtfmnlgepllgpnaaGreatDoor

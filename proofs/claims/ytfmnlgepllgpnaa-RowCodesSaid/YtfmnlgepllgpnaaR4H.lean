/- The walk of rowcode's reading of a value. -/
import Derived.Test.YtfmnlgepllgpnaaR4G
namespace Go.Proofs.Ytfmnlgepllgpnaa
open Go.RowKit
set_option linter.unusedVariables false

theorem one_byte {c : UInt8} {n : Nat} (hn : n < 256) (h : ((c.toNat : Int) == (n : Int)) = true) : c = UInt8.ofNat n := by
  apply UInt8.toNat_inj.1
  have h' : c.toNat = n := by simp at h; omega
  rw [h', UInt8.toNat_ofNat']
  exact (Nat.mod_eq_of_lt hn).symm
theorem not_byte {c : UInt8} {n : Nat} (h : ((c.toNat : Int) == (n : Int)) = false) : c.toNat ≠ n := by
  intro e; rw [e] at h; simp at h
/-- A box that may be written. -/
structure Open4 (w : World) (b : Nat) : Prop where
  f0 : w.frozen? ⟨b, 0, none⟩ = false
  f1 : w.frozen? ⟨b, 1, none⟩ = false
  f2 : w.frozen? ⟨b, 2, none⟩ = false
  f3 : w.frozen? ⟨b, 3, none⟩ = false
theorem Open4.newAt {W : World} {b : Nat} (K N : Int) (S : ByteArray) (B : Bool) (t : Nat) (hb : b = W.heap.size) : Open4 (W.alloc (.cells #[.int .i64 K, .int .i64 N, .string S, .bool B] t)) b := by
  subst hb
  exact ⟨by go_simp, by go_simp, by go_simp, by go_simp⟩
theorem Box.but {W w' : World} {b p : Nat} {K N : Int} {S : ByteArray} {B : Bool} (h : Box W b K N S B) (hg : W.grownBy w' (some p)) (hne : b ≠ p) : Box w' b K N S B :=
  have e : some b ≠ some p := fun e => hne (Option.some.inj e)
  ⟨hg.cell h.c0 e, hg.cell h.c1 e, hg.cell h.c2 e, hg.cell h.c3 e⟩
theorem Open4.but {W w' : World} {b p : Nat} (h : Open4 W b) (hlt : b < W.heap.size) (hg : W.grownBy w' (some p)) (hne : b ≠ p) : Open4 w' b :=
  have e : some b ≠ some p := fun e => hne (Option.some.inj e)
  ⟨(hg.frozen_far ⟨b, 0, none⟩ hlt e).trans h.f0, (hg.frozen_far ⟨b, 1, none⟩ hlt e).trans h.f1, (hg.frozen_far ⟨b, 2, none⟩ hlt e).trans h.f2, (hg.frozen_far ⟨b, 3, none⟩ hlt e).trans h.f3⟩
theorem but_new {w W : World} {p b o : Nat} (h : w.grownBy W (some p)) (hb : w.heap.size ≤ b) (u : Value) : w.grownBy (W.setCell ⟨b, o, none⟩ u) (some p) :=
  ⟨h.os, h.tape, h.output, by simpa [World.setCell] using h.size, fun i hi hr => (Below.heap_setCell _ _ _ _ (show i ≠ b by omega)).trans (h.block i hi hr)⟩
theorem but_alloc {w W : World} {p : Nat} (h : w.grownBy W (some p)) (o : Obj) : w.grownBy (W.alloc o) (some p) := grownBy_trans h (World.grownBy_alloc _ _ _)
abbrev valV (x : V4) : Value := val x.1 x.2.1 ⟨x.2.2.1.toArray⟩ x.2.2.2
abbrev set4 (W : World) (p : Nat) (K N : Int) (S : ByteArray) (B : Bool) : World := (((W.setCell ⟨p, 0, none⟩ (.int .i64 K)).setCell ⟨p, 1, none⟩ (.int .i64 N)).setCell ⟨p, 2, none⟩ (.string S)).setCell ⟨p, 3, none⟩ (.bool B)

theorem Cur.alloc {w : World} {p B : Nat} {sv : Value} {r : List UInt8} (h : Cur w p B sv r) (o : Obj) : Cur (w.alloc o) p B sv r :=
  ⟨(Below.heap_alloc _ _ _ (lt_of_block h.hp)).trans h.hp, h.by_.keep ((Below.refl _ _).alloc (Nat.le_refl _) o), h.old, h.le⟩
theorem Cur.drew {w : World} {p B : Nat} {sv : Value} {r : List UInt8} (h : Cur w p B sv r) : Cur w.drew p B sv r := ⟨h.hp, h.by_, h.old, h.le⟩
/-- Reading goes on behind a store into another block that was made meanwhile. -/
theorem Cur.other {w : World} {p B b o : Nat} {sv : Value} {r : List UInt8} (h : Cur w p B sv r) (hp : p ≠ b) (hb : B ≤ b) (u : Value) : Cur (w.setCell ⟨b, o, none⟩ u) p B sv r := by
  refine ⟨(Below.heap_setCell _ _ _ _ hp).trans h.hp, ?_, h.old, h.le⟩
  have hg : w.grownBy (w.setCell ⟨b, o, none⟩ u) (some b) :=
    ⟨rfl, rfl, rfl, by simp [World.setCell], fun k _ hk => Below.heap_setCell _ _ _ _ (fun e => hk (by rw [e]))⟩
  exact h.by_.but (h.old.off hb) hg
theorem end4 {w W : World} {p B : Nat} {sv : Value} {r : List UInt8} (g : w.grownBy W (some p)) (hc : Cur W p B sv r) (hp : p < w.heap.size) (K N : Int) (S : ByteArray) (b : Bool) :
    w.grownBy (set4 W w.heap.size K N S b) (some p) ∧ Cur (set4 W w.heap.size K N S b) p B sv r := by
  have hB := hc.le
  unfold set4
  refine ⟨but_new (but_new (but_new (but_new g (Nat.le_refl _) _) (Nat.le_refl _) _) (Nat.le_refl _) _) (Nat.le_refl _) _, ?_⟩
  exact (((hc.other (by omega) (by omega) _).other (by omega) (by omega) _).other (by omega) (by omega) _).other (by omega) (by omega) _
/-- A value has been read. -/
structure RdV (w : World) (p B : Nat) (r : List UInt8) (x : V4) (w' : World) : Prop where
  cur : ∃ sv' r', Cur w' p B sv' r' ∧ r = rc x ++ r'
  grown : w.grownBy w' (some p)
  rv : RV x
/-- No value stands there. -/
structure NoRd (w : World) (p : Nat) (r : List UInt8) (w' : World) : Prop where
  noV : NoV r
  grown : w.grownBy w' (some p)
theorem head_of {r : List UInt8} (h : 1 ≤ r.length) : ∃ c t, r = c :: t := by
  cases r with
  | nil => simp at h
  | cons c t => exact ⟨c, t, rfl⟩
theorem first_byte {w : World} {tv : Value} {c : UInt8} {t : List UInt8} (h : Bytes w tv ((c :: t).take 1)) : ∃ a cap, tv = .slice (some a) 1 cap ∧ w.cell? a = some (.int .u8 c.toNat) := by
  rcases h with ⟨_, h⟩ | ⟨a, cap, hv, hc, h⟩
  · simp at h
  · have := h 0 (by simp)
    rw [show a.add 0 = a by simp [Addr.add]] at this
    exact ⟨a, cap, by simpa using hv, by simpa [bv] using this⟩
theorem wrap_back {u : Nat} (h : u < 256 ^ 8) : IntKind.i64.wrap (u : Int) = back64 u := by
  have e : (256 : Nat) ^ 8 = 18446744073709551616 := by decide
  rw [e] at h
  rw [IntKind.wrap_i64]
  unfold back64
  split <;> omega
theorem take8 {r : List UInt8} (h : 8 ≤ r.length) : leN 8 (leV (r.take 8)) = r.take 8 := by
  have h1 := leN_leV (r.take 8)
  have h2 : (r.take 8).length = 8 := by rw [List.length_take]; omega
  rwa [h2] at h1
theorem take2 {r : List UInt8} (h : 2 ≤ r.length) : leN 2 (leV (r.take 2)) = r.take 2 := by
  have h1 := leN_leV (r.take 2)
  have h2 : (r.take 2).length = 2 := by rw [List.length_take]; omega
  rwa [h2] at h1
theorem read_num {r : List UInt8} (h : 8 ≤ r.length) : (1 :: r) = rc (1, back64 (leV (r.take 8)), [], false) ++ r.drop 8 ∧ RV (1, back64 (leV (r.take 8)), [], false) := by
  have hl := leV_take_lt r 8 h
  obtain ⟨h1, h2⟩ := back_bits hl
  refine ⟨?_, rv_num h2⟩
  rw [rc_num', h1, take8 h, List.cons_append, List.take_append_drop]
theorem read_text {r : List UInt8} (h : 2 ≤ r.length) (h2 : leV (r.take 2) ≤ 400) (h3 : leV (r.take 2) ≤ (r.drop 2).length) :
    (2 :: r) = rc (2, 0, (r.drop 2).take (leV (r.take 2)), false) ++ (r.drop 2).drop (leV (r.take 2)) ∧ RV (2, 0, (r.drop 2).take (leV (r.take 2)), false) := by
  have hlen : ((r.drop 2).take (leV (r.take 2))).length = leV (r.take 2) := by rw [List.length_take]; omega
  refine ⟨?_, rv_text (by rw [hlen]; exact h2)⟩
  rw [rc_text', hlen, take2 h, List.cons_append, List.append_assoc, List.take_append_drop, List.take_append_drop]
end Go.Proofs.Ytfmnlgepllgpnaa

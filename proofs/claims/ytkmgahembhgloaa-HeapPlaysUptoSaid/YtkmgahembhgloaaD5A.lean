/- The ground of layer 5's texts: sectors, maps of sectors, rows of writes, a disk as it lies in memory, what a call may turn. -/
import Derived.Test.YtkmgahembhgloaaRows
import Derived.WalkKit
import Derived.WalkSpells
import Derived.WalkLawsBesides
import Derived.Deep.QuietTactic
import Derived.BigQuiet
import Derived.Deep.RegionHeld3
import Derived.Deep.AppendLies
import Derived.Deep.RegionHeldLaw
import Derived.Deep.RegionWith
import Derived.Deep.MidRow
import Derived.Laws.CopyOwn
import Derived.Great.BuildSlice
import Derived.Maps.OwnSet
import Derived.Shelf.SlMaps.Clone
namespace Go.Proofs.Ytkmgahembhgloaa
open Go.RowKit Go.Maps
set_option linter.unusedVariables false
set_option linter.unusedSimpArgs false

def bv (c : UInt8) : Value := .int .u8 c.toNat
theorem bv_inj {c d : UInt8} (h : bv c = bv d) : c = d := by
  unfold bv at h
  have : (c.toNat : Int) = d.toNat := by simpa using h
  exact UInt8.toNat_inj.1 (by omega)
theorem map_bv_inj {s t : List UInt8} (h : s.map bv = t.map bv) : s = t := (List.map_inj_right (fun _ _ h => bv_inj h)).1 h
theorem one_bv (ys : List UInt8) : ∀ u ∈ ys.map bv, u.oneCell' = true := by
  intro u hu
  obtain ⟨c, _, rfl⟩ := List.mem_map.1 hu
  rfl
/-- A sector's value. -/
def secV (s : List UInt8) : Value := .agg (s.map bv).toArray
theorem secV_inj {s t : List UInt8} (h : secV s = secV t) : s = t := by
  unfold secV at h
  have : (s.map bv).toArray = (t.map bv).toArray := by simpa using h
  exact map_bv_inj (by simpa using congrArg Array.toList this)
/-- Noughts. -/
def zsec : List UInt8 := List.replicate 128 0
theorem zsec_len : zsec.length = 128 := by simp [zsec]
/-- How a sector reads as a map's element. -/
noncomputable def secR (v : Value) : Option (DataW Unit × List MemPlace) := by
  classical
  exact if h : ∃ s : List UInt8, v = secV s ∧ s.length = 128 then some (.lit (.string h.choose), []) else none
theorem secR_mk {s : List UInt8} (h : s.length = 128) : secR (secV s) = some (.lit (.string s), []) := by
  have hx : ∃ t : List UInt8, secV s = secV t ∧ t.length = 128 := ⟨s, rfl, h⟩
  unfold secR
  rw [dif_pos hx]
  have := secV_inj hx.choose_spec.1
  rw [← this]
theorem secR_inv {v : Value} {d : DataW Unit} {ps : List MemPlace} (h : secR v = some (d, ps)) : ∃ s : List UInt8, v = secV s ∧ s.length = 128 ∧ d = .lit (.string s) := by
  unfold secR at h
  split at h
  · rename_i hx
    simp only [Option.some.injEq, Prod.mk.injEq] at h
    exact ⟨hx.choose, hx.choose_spec.1, hx.choose_spec.2, h.1.symm⟩
  · cases h
theorem zero_sec (w : World) : (zeroValue 86).run Try.prog w = .ok (secV zsec) w := by kernel_rfl
theorem keyed : Keyed Try.prog 3 := int_keyed Try.underlying3

/-- What the sectors hold, one of them turned. -/
def upd (f : Int → List UInt8) (i : Int) (s : List UInt8) : Int → List UInt8 := fun j => if j = i then s else f j
theorem upd_len {f : Int → List UInt8} (hf : ∀ i, (f i).length = 128) (i : Int) {s : List UInt8} (hs : s.length = 128) : ∀ j, (upd f i s j).length = 128 := by
  intro j; unfold upd; split
  · exact hs
  · exact hf j
/-- Block b is a map of sectors, at most n entries, that reads as f. -/
def SecMap (w : World) (b n : Nat) (f : Int → List UInt8) : Prop :=
  ∃ D : DataW Unit, w.ownsMap Try.prog 3 secR b n D ∧ (∀ i : Int, D.atKey (.int .i64 i) (.lit (.string zsec)) = .lit (.string (f i))) ∧ ∀ i, (f i).length = 128
theorem SecMap.lt {w : World} {b n : Nat} {f : Int → List UInt8} (h : SecMap w b n f) : b < w.heap.size := by
  obtain ⟨D, h, _⟩ := h; exact h.lt
theorem SecMap.len {w : World} {b n : Nat} {f : Int → List UInt8} (h : SecMap w b n f) : ∀ i, (f i).length = 128 := by
  obtain ⟨D, _, _, h⟩ := h; exact h
theorem SecMap.of_block {w w' : World} {b n : Nat} {f : Int → List UInt8} (h : SecMap w b n f) (hb : w'.heap[b]? = w.heap[b]?) : SecMap w' b n f := by
  obtain ⟨D, ⟨es, clock, h1, h2⟩, h3⟩ := h
  exact ⟨D, ⟨es, clock, hb.trans h1, h2⟩, h3⟩
theorem SecMap.mono {w : World} {b n m : Nat} {f : Int → List UInt8} (h : SecMap w b n f) (hn : n ≤ m) : SecMap w b m f := by
  obtain ⟨D, h1, h3⟩ := h
  exact ⟨D, h1.mono hn, h3⟩
theorem SecMap.made (w : World) : SecMap (w.alloc (.map #[] 0)) w.heap.size 0 (fun _ => zsec) :=
  ⟨.map [], World.ownsMap_made w _ _ _, fun _ => rfl, fun _ => zsec_len⟩
theorem SecMap.isMap {w : World} {b n : Nat} {f : Int → List UInt8} (h : SecMap w b n f) : ∃ es clock, w.heap[b]? = some (.map es clock) := by
  obtain ⟨D, ⟨es, clock, h1, _⟩, _⟩ := h
  exact ⟨es, clock, h1⟩
theorem int64_wf {i : Int} (h : -9223372036854775808 ≤ i ∧ i ≤ 9223372036854775807) : (Lit.int .i64 i).wf = true := by
  simpa [Lit.wf, IntKind.min, IntKind.max, IntKind.signed, IntKind.bits] using h
theorem SecMap.look {w : World} {b n : Nat} {f : Int → List UInt8} (h : SecMap w b n f) {i : Int} (hi : -9223372036854775808 ≤ i ∧ i ≤ 9223372036854775807) :
    (Instr.lookup 84 (.map (some b)) (.int .i64 i) false).run Try.prog w = .ok (secV (f i)) w := by
  obtain ⟨D, h1, h2, _⟩ := h
  obtain ⟨v, ps, hr, hv⟩ := h1.lookup keyed Try.underlying84 (zero_sec w) (secR_mk zsec_len) (keyOf_int_mk Try.underlying3 (int64_wf hi))
  rw [h2 i] at hv
  obtain ⟨s, rfl, _, hs⟩ := secR_inv hv
  rw [hr]
  have : f i = s := by simpa using hs
  rw [this]
theorem SecMap.upd {w : World} {b n : Nat} {f : Int → List UInt8} (h : SecMap w b n f) (hn : n < 1000000) {i : Int} (hi : -9223372036854775808 ≤ i ∧ i ≤ 9223372036854775807) {s : List UInt8} (hs : s.length = 128) :
    ∃ w', (Instr.mapUpdate 84 (.map (some b)) (.int .i64 i) (secV s)).run Try.prog w = .ok () w' ∧ SecMap w' b (n + 1) (upd f i s) ∧ w.grownBy w' (some b) := by
  obtain ⟨D, h1, h2, h3⟩ := h
  have hk := keyOf_int_mk (k := 3) Try.underlying3 (int64_wf hi)
  obtain ⟨w', hr, h4, h5⟩ := h1.update keyed Try.underlying84 (by unfold maxLen; omega) hk (secR_mk hs)
  refine ⟨w', hr, ⟨_, h4, fun j => ?_, upd_len h3 i hs⟩, h5⟩
  unfold Ytkmgahembhgloaa.upd
  split
  · rename_i e
    rw [e]
    exact atKey_put_same (h1.tidy keyed).isMap (keyed.key hk) _ _
  · rename_i e
    rw [atKey_put_other (by intro e'; exact e (by simpa using e'))]
    exact h2 j

/-- One write, as it is kept. -/
structure W3 where
  place : Int
  sec : List UInt8
  safe : Int
def cellsW (x : W3) : List Value := .int .i64 x.place :: (x.sec.map bv ++ [.int .i64 x.safe])
theorem cellsW_len {x : W3} (h : x.sec.length = 128) : (cellsW x).length = 130 := by simp [cellsW, h]
/-- A write that is right: a sector, numbers of 64 bits. -/
structure WOk (x : W3) : Prop where
  len : x.sec.length = 128
  place : -9223372036854775808 ≤ x.place ∧ x.place ≤ 9223372036854775807
theorem flat_at {α β : Type} (c : α → List β) (n : Nat) (l : List α) (hl : ∀ x ∈ l, (c x).length = n) (k : Nat) (h : k < l.length) (j : Nat) (hj : j < n) : (l.flatMap c)[k * n + j]? = (c l[k])[j]? := by
  induction l generalizing k with
  | nil => simp at h
  | cons x l ih =>
    rw [List.flatMap_cons]
    have hx : (c x).length = n := hl x (by simp)
    cases k with
    | zero =>
      rw [List.getElem?_append_left (by rw [hx]; omega)]
      simp
    | succ k =>
      have e : (k + 1) * n + j = n + (k * n + j) := by rw [Nat.succ_mul]; omega
      rw [e, List.getElem?_append_right (by rw [hx]; omega), hx, Nat.add_sub_cancel_left]
      simpa using ih (fun y hy => hl y (by simp [hy])) k (by simpa using h)
theorem flat_len {α β : Type} (c : α → List β) (n : Nat) (l : List α) (hl : ∀ x ∈ l, (c x).length = n) : (l.flatMap c).length = l.length * n := by
  induction l with
  | nil => simp
  | cons x l ih =>
    rw [List.flatMap_cons, List.length_append, hl x (by simp), ih (fun y hy => hl y (by simp [hy])), List.length_cons, Nat.succ_mul]; omega
/-- Where a row that is owned lies. -/
theorem own_range {base : Nat} {w : World} {e n : Nat} {v : Value} {α : Type} {c : α → List Value} {l : List α} (hl : ∀ x ∈ l, (c x).length = n) (h : w.ownsRow base e n v l.length (l.flatMap c)) :
    (v = .slice none 0 0 ∧ l = []) ∨ ∃ g cap, v = .slice (some ⟨g, 0, none⟩) l.length cap ∧ l.length ≤ cap ∧ base ≤ g ∧ g < w.heap.size ∧ ∀ k (hk : k < l.length), w.rangeAt g (k * n) (c l[k]) := by
  obtain ⟨h1, h2⟩ := h
  rcases h2 with ⟨hv, hn⟩ | ⟨g, cap, cur, hv, hg, hh, hc, hm, hs, hx⟩
  · exact Or.inl ⟨hv, List.eq_nil_of_length_eq_zero hn⟩
  · refine Or.inr ⟨g, cap, hv, hc, hg, (Array.getElem?_eq_some_iff.1 hh).1, fun k hk j u hu => ?_⟩
    have hj : j < n := by
      have := (List.getElem?_eq_some_iff.1 hu).1
      rwa [hl _ (List.getElem_mem hk)] at this
    rw [← flat_at c n l hl k hk j hj, ← hx, List.getElem?_take] at hu
    split at hu
    · rw [cell_of_row w g (k * n + j) cur _ _ hh]
      simpa using hu
    · cases hu
def OwnW (base : Nat) (w : World) (v : Value) (l : List W3) : Prop := w.ownsRow base 91 130 v l.length (l.flatMap cellsW)

/-- What a call may turn: blocks of F alone; new ones come. -/
structure Fr (w w' : World) (F : Nat → Prop) : Prop where
  os : w'.os = w.os
  tape : w'.tape = w.tape
  output : w'.output = w.output
  size : w.heap.size ≤ w'.heap.size
  block : ∀ k, k < w.heap.size → ¬ F k → w'.heap[k]? = w.heap[k]?
theorem Fr.refl (w : World) (F : Nat → Prop) : Fr w w F := ⟨rfl, rfl, rfl, Nat.le_refl _, fun _ _ _ => rfl⟩
theorem Fr.of_below {w w' : World} {F : Nat → Prop} (h : Below w.heap.size w w') : Fr w w' F := ⟨h.os, h.tape, h.output, h.size, fun k hk _ => h.block k hk⟩
theorem Fr.mono {w w' : World} {F G : Nat → Prop} (h : Fr w w' F) (hg : ∀ k, F k → G k) : Fr w w' G := ⟨h.os, h.tape, h.output, h.size, fun k hk hn => h.block k hk (fun x => hn (hg k x))⟩
theorem Fr.trans {a b c : World} {F G : Nat → Prop} (h : Fr a b F) (k : Fr b c G) (hg : ∀ i, G i → F i ∨ a.heap.size ≤ i) : Fr a c F :=
  ⟨k.os.trans h.os, k.tape.trans h.tape, k.output.trans h.output, Nat.le_trans h.size k.size, fun i hi hn => (k.block i (Nat.lt_of_lt_of_le hi h.size) (fun x => by rcases hg i x with x | x; exact hn x; omega)).trans (h.block i hi hn)⟩
theorem Fr.of_grown {w w' : World} {F : Nat → Prop} {r : Option Nat} (h : w.grownBy w' r) (hr : ∀ k, r = some k → F k) : Fr w w' F :=
  ⟨h.os, h.tape, h.output, h.size, fun k hk hn => h.block k hk (fun e => hn (hr k e.symm))⟩
theorem Fr.below {w w' : World} {F : Nat → Prop} (h : Fr w w' F) {B : Nat} (hB : B ≤ w.heap.size) (hF : ∀ k, F k → B ≤ k) : Below B w w' :=
  ⟨h.os, h.tape, h.output, h.size, fun k hk => h.block k (by omega) (fun x => by have := hF k x; omega)⟩
theorem Fr.drew (w : World) (F : Nat → Prop) : Fr w w.drew F := ⟨rfl, rfl, rfl, Nat.le_refl _, fun _ _ _ => rfl⟩
theorem Fr.alloc (w : World) (o : Obj) (F : Nat → Prop) : Fr w (w.alloc o) F := Fr.of_below ((Below.refl _ _).alloc (Nat.le_refl _) o)
theorem own_of_block {base : Nat} {w w' : World} {e n k : Nat} {v : Value} {xs : List Value} (h : w.ownsRow base e n v k xs) (hb : ∀ b, v.ownBlock = some b → w'.heap[b]? = w.heap[b]?) : w'.ownsRow base e n v k xs := by
  obtain ⟨h1, h2⟩ := h
  refine ⟨h1, ?_⟩
  rcases h2 with h | ⟨g, cap, cur, hv, hg, hh, hr⟩
  · exact Or.inl h
  · exact Or.inr ⟨g, cap, cur, hv, hg, (hb g (by rw [hv]; rfl)).trans hh, hr⟩
theorem own_base {base b2 : Nat} {w : World} {e n k : Nat} {v : Value} {xs : List Value} (h : w.ownsRow base e n v k xs) (hb : b2 ≤ base) : w.ownsRow b2 e n v k xs := by
  obtain ⟨h1, h2⟩ := h
  refine ⟨h1, ?_⟩
  rcases h2 with h | ⟨g, cap, cur, hv, hg, hr⟩
  · exact Or.inl h
  · exact Or.inr ⟨g, cap, cur, hv, Nat.le_trans hb hg, hr⟩

/-- A disk, as the program has it. -/
structure DS where
  size : Int
  first : Int → List UInt8
  now : Int → List UInt8
  ws : List W3
  safe : Nat
/-- A disk as it lies: its own block, its two maps, its row of writes. -/
structure DiskIn (base : Nat) (w : World) (F : Nat → Prop) (g b1 b2 : Nat) (v : Value) (n : Nat) (D : DS) : Prop where
  hg : w.heap[g]? = some (.cells #[.int .i64 D.size, .map (some b1), .map (some b2), v, .int .i64 D.safe] 89 (0, 0))
  m1 : SecMap w b1 n D.first
  m2 : SecMap w b2 (n + D.ws.length) D.now
  row : OwnW base w v D.ws
  fg : F g
  f1 : F b1
  f2 : F b2
  fv : ∀ k, v.ownBlock = some k → F k
  ne : b1 ≠ b2
  nv : v.ownBlock ≠ some g
  oks : ∀ x ∈ D.ws, WOk x
  lo : ∀ k, F k → base ≤ k ∧ k < w.heap.size
  sz : 0 ≤ D.size ∧ D.size ≤ 4096
  sf : D.safe ≤ D.ws.length
  cnt : n + D.ws.length ≤ 900000
  wsafe : ∀ k (h : k < D.ws.length), 0 ≤ D.ws[k].safe ∧ D.ws[k].safe ≤ k
def DiskAt (base : Nat) (w : World) (F : Nat → Prop) (p : Value) (n : Nat) (D : DS) : Prop := ∃ g b1 b2 v, p = .pointer (some ⟨g, 0, none⟩) ∧ DiskIn base w F g b1 b2 v n D
theorem DiskIn.keep {base : Nat} {w w' : World} {F G : Nat → Prop} {g b1 b2 : Nat} {v : Value} {n : Nat} {D : DS} (h : DiskIn base w F g b1 b2 v n D) (hf : Fr w w' G) (hd : ∀ k, F k → ¬ G k) : DiskIn base w' F g b1 b2 v n D := by
  have hb : ∀ k, F k → w'.heap[k]? = w.heap[k]? := fun k hk => hf.block k (h.lo k hk).2 (hd k hk)
  exact { h with
    hg := (hb g h.fg).trans h.hg
    m1 := h.m1.of_block (hb b1 h.f1)
    m2 := h.m2.of_block (hb b2 h.f2)
    row := own_of_block h.row (fun k hk => hb k (h.fv k hk))
    lo := fun k hk => ⟨(h.lo k hk).1, Nat.lt_of_lt_of_le (h.lo k hk).2 hf.size⟩ }
theorem DiskAt.keep {base : Nat} {w w' : World} {F G : Nat → Prop} {p : Value} {n : Nat} {D : DS} (h : DiskAt base w F p n D) (hf : Fr w w' G) (hd : ∀ k, F k → ¬ G k) : DiskAt base w' F p n D := by
  obtain ⟨g, b1, b2, v, hp, h⟩ := h
  exact ⟨g, b1, b2, v, hp, h.keep hf hd⟩
theorem DiskAt.keepB {base : Nat} {w w' : World} {F : Nat → Prop} {p : Value} {n : Nat} {D : DS} (h : DiskAt base w F p n D) (hf : Below w.heap.size w w') : DiskAt base w' F p n D :=
  h.keep (Fr.of_below (F := fun _ => False) hf) (fun _ _ => id)
theorem DiskAt.lo {base : Nat} {w : World} {F : Nat → Prop} {p : Value} {n : Nat} {D : DS} (h : DiskAt base w F p n D) : ∀ k, F k → base ≤ k ∧ k < w.heap.size := by
  obtain ⟨g, b1, b2, v, hp, h⟩ := h; exact h.lo
theorem DiskIn.base_le {base b' : Nat} {w : World} {F : Nat → Prop} {g b1 b2 : Nat} {v : Value} {n : Nat} {D : DS} (h : DiskIn base w F g b1 b2 v n D) (hb : b' ≤ base) : DiskIn b' w F g b1 b2 v n D :=
  { h with row := own_base h.row hb, lo := fun k hk => ⟨Nat.le_trans hb (h.lo k hk).1, (h.lo k hk).2⟩ }
theorem DiskAt.base_le {base b' : Nat} {w : World} {F : Nat → Prop} {p : Value} {n : Nat} {D : DS} (h : DiskAt base w F p n D) (hb : b' ≤ base) : DiskAt b' w F p n D := by
  obtain ⟨g, b1, b2, v, hp, h⟩ := h
  exact ⟨g, b1, b2, v, hp, h.base_le hb⟩
/-- The five cells. -/
structure Cells5 (w : World) (g : Nat) (c0 c1 c2 c3 c4 : Value) : Prop where
  c0 : w.cell? ⟨g, 0, none⟩ = some c0
  c1 : w.cell? ⟨g, 1, none⟩ = some c1
  c2 : w.cell? ⟨g, 2, none⟩ = some c2
  c3 : w.cell? ⟨g, 3, none⟩ = some c3
  c4 : w.cell? ⟨g, 4, none⟩ = some c4
  f : ∀ o, w.frozen? ⟨g, o, none⟩ = false
theorem frozen_row {w : World} {g : Nat} {cs : Array Value} {t : TypeId} (h : w.heap[g]? = some (.cells cs t (0, 0))) (o : Nat) : w.frozen? ⟨g, o, none⟩ = false := by
  simp [World.frozen?, h]
theorem cells5 {w : World} {g : Nat} {c0 c1 c2 c3 c4 : Value} {t : TypeId} (h : w.heap[g]? = some (.cells #[c0, c1, c2, c3, c4] t (0, 0))) : Cells5 w g c0 c1 c2 c3 c4 :=
  ⟨by rw [cell_of_row w g 0 _ _ _ h]; rfl, by rw [cell_of_row w g 1 _ _ _ h]; rfl, by rw [cell_of_row w g 2 _ _ _ h]; rfl, by rw [cell_of_row w g 3 _ _ _ h]; rfl, by rw [cell_of_row w g 4 _ _ _ h]; rfl, frozen_row h⟩
/-- A variable of many cells is laid. -/
theorem wpList_allocS {P : Program} {w : World} {ops : Array Oper} {rest : List Oper} {o : Oper} {a : Act} {Q : Exit → Act → World → Prop} (hgd : o.guard = none) (ty : TypeId) (ho : o.op = .alloc ty) (z : Value) (hz : ∀ w, (zeroValue ty).run P w = .ok z w)
    (h : wpList P ops Q rest (a.put o.dst (.pointer (some ⟨w.heap.size, 0, none⟩))) (w.alloc (.cells z.cells ty))) : wpList P ops Q (o :: rest) a w := by
  refine wpList_plain hgd fun K hK => ?_
  unfold Oper.wp execOp
  simp only [ho, Instr.alloc, Sem.run_bind, hz w, Result.andThen_ok]
  simp [newVar, newRow, Result.andThen]
  exact hK _ _ h
/-- Bytes that are read: so many, and where they lie. -/
def Bytes (w : World) (v : Value) (xs : List UInt8) : Prop :=
  (v = .slice none 0 0 ∧ xs = []) ∨ ∃ (a : Addr) (cap : Nat), v = .slice (some a) xs.length cap ∧ xs.length ≤ cap ∧ ∀ j (hj : j < xs.length), w.cell? (a.add j) = some (bv xs[j])
theorem Bytes.form {w : World} {v : Value} {xs : List UInt8} (h : Bytes w v xs) : ∃ ao cap, v = .slice ao xs.length cap ∧ xs.length ≤ cap ∧ (0 < xs.length → ∃ a, ao = some a ∧ ∀ j u, (xs.map bv)[j]? = some u → w.cell? (a.add j) = some u) := by
  rcases h with ⟨rfl, rfl⟩ | ⟨a, cap, rfl, hc, h⟩
  · exact ⟨none, 0, rfl, Nat.le_refl _, fun h => by simp at h⟩
  · refine ⟨some a, cap, rfl, hc, fun _ => ⟨a, rfl, fun j u hu => ?_⟩⟩
    rw [List.getElem?_map] at hu
    cases hj : xs[j]? with
    | none => rw [hj] at hu; cases hu
    | some c =>
      rw [hj] at hu
      obtain ⟨hlt, hc⟩ := List.getElem?_eq_some_iff.1 hj
      rw [h j hlt, hc]; exact hu
theorem Bytes.keep {W w' : World} {v : Value} {xs : List UInt8} (h : Bytes W v xs) (hb : Below W.heap.size W w') : Bytes w' v xs := by
  rcases h with h | ⟨a, cap, hv, hc, h⟩
  · exact Or.inl h
  · refine Or.inr ⟨a, cap, hv, hc, fun j hj => ?_⟩
    have h1 := h j hj
    exact (hb.cell (p := a.add j) (World.block_lt_of_cell? W _ h1)).trans h1
/-- Truths that are read: so many, and where they lie. -/
def Bools (w : World) (v : Value) (ks : List Bool) : Prop :=
  (v = .slice none 0 0 ∧ ks = []) ∨ ∃ (a : Addr) (cap : Nat), v = .slice (some a) ks.length cap ∧ ks.length ≤ cap ∧ ∀ j (hj : j < ks.length), w.cell? (a.add j) = some (.bool ks[j])
theorem Bools.keep {W w' : World} {v : Value} {ks : List Bool} (h : Bools W v ks) (hb : Below W.heap.size W w') : Bools w' v ks := by
  rcases h with h | ⟨a, cap, hv, hc, h⟩
  · exact Or.inl h
  · refine Or.inr ⟨a, cap, hv, hc, fun j hj => ?_⟩
    have h1 := h j hj
    exact (hb.cell (p := a.add j) (World.block_lt_of_cell? W _ h1)).trans h1
/-- A whole sector: bytes, and noughts behind them. -/
def full (xs : List UInt8) : List UInt8 := xs.take 128 ++ List.replicate (128 - xs.length) 0
theorem full_len (xs : List UInt8) : (full xs).length = 128 := by simp [full]; omega
theorem splice_full (xs : List UInt8) : splice (zsec.map bv) 0 ((xs.take 128).map bv) = (full xs).map bv := by
  unfold splice zsec full
  simp only [List.take_zero, List.nil_append, Nat.zero_add, List.length_map, List.length_take, List.map_append, List.map_replicate, List.drop_replicate]
  congr 2
  omega
end Go.Proofs.Ytkmgahembhgloaa

/- The document's disk: how it lies; how many writes there are. -/
import Derived.Test.YtpmbpadckbkglaaP7RX
namespace Go.Proofs.Ytpmbpadckbkglaa
open Go.RowKit Go.Maps
set_option linter.unusedVariables false
set_option linter.unusedSimpArgs false

/-- One entry of the document's lists: a write, or a Sync. -/
structure EV where
  i : Int
  v : Value
  sync : Bool
  s : List UInt8
def cellsE (e : EV) : List Value := [.int .i64 e.i, e.v, .bool e.sync]
theorem cellsE_len (e : EV) : (cellsE e).length = 3 := rfl
/-- Its bytes lie in a block of G. -/
def EOk (w : World) (G : Nat → Prop) (e : EV) : Prop := (e.v = .slice none 0 0 ∧ e.s = [] ∧ e.sync = true) ∨ ∃ k, e.v = sl k ∧ RowB w k e.s ∧ G k ∧ e.s.length = 128 ∧ e.sync = false
theorem EOk.bytes {w : World} {G : Nat → Prop} {e : EV} (h : EOk w G e) : Bytes w e.v e.s := by
  rcases h with ⟨h1, h2, _⟩ | ⟨k, h1, h2, _, h4, _⟩
  · exact Or.inl ⟨h1, h2⟩
  · rw [h1]; exact bytes_row h2 h4
theorem EOk.keep {w w' : World} {G F : Nat → Prop} {e : EV} (h : EOk w G e) (hf : Fr w w' F) (hd : ∀ k, G k → ¬ F k) : EOk w' G e := by
  rcases h with h | ⟨k, h1, h2, h3, h4⟩
  · exact Or.inl h
  · exact Or.inr ⟨k, h1, (hf.block k h2.lt (hd k h3)).trans h2, h3, h4⟩
theorem EOk.wide {w : World} {G G' : Nat → Prop} {e : EV} (h : EOk w G e) (hg : ∀ k, G k → G' k) : EOk w G' e := by
  rcases h with h | ⟨k, h1, h2, h3, h4⟩
  · exact Or.inl h
  · exact Or.inr ⟨k, h1, h2, hg k h3, h4⟩
/-- A list of entries that is read: so many, and where they lie. -/
def ERow (w : World) (v : Value) (l : List EV) : Prop :=
  ∃ (ao : Option Addr) (cap : Nat), v = .slice ao l.length cap ∧ l.length ≤ cap ∧ (l = [] ∨ ∃ g o, ao = some ⟨g, o, none⟩ ∧ ∀ k (h : k < l.length), w.rangeAt g (o + k * 3) (cellsE l[k]))
def OwnE (base : Nat) (w : World) (v : Value) (l : List EV) : Prop := w.ownsRow base 83 3 v l.length (l.flatMap cellsE)
theorem OwnE.row {base : Nat} {w : World} {v : Value} {l : List EV} (h : OwnE base w v l) : ERow w v l := by
  rcases own_range (c := cellsE) (n := 3) (fun x _ => cellsE_len x) h with ⟨hv, hl⟩ | ⟨g, cap, hv, hc, _, _, hr⟩
  · exact ⟨none, 0, by rw [hv, hl]; rfl, by rw [hl]; simp, Or.inl hl⟩
  · exact ⟨_, cap, hv, hc, Or.inr ⟨g, 0, rfl, fun k hk => by simpa using hr k hk⟩⟩
theorem ERow.keep {W w' : World} {v : Value} {l : List EV} (h : ERow W v l) (hb : Below W.heap.size W w') : ERow w' v l := by
  obtain ⟨ao, cap, hv, hc, h⟩ := h
  refine ⟨ao, cap, hv, hc, ?_⟩
  rcases h with h | ⟨g, o, hg, h⟩
  · exact Or.inl h
  · exact Or.inr ⟨g, o, hg, fun k hk => rangeAt_keep hb (h k hk)⟩
/-- How many are writes. -/
def cntE (l : List EV) : Nat := (l.filter (fun e => !e.sync)).length
theorem cntE_le (l : List EV) : cntE l ≤ l.length := List.length_filter_le _ _
theorem cntE_succ (l : List EV) (k : Nat) (h : k < l.length) : cntE (l.take (k + 1)) = cntE (l.take k) + (if l[k].sync then 0 else 1) := by
  unfold cntE
  rw [List.take_succ_eq_append_getElem h, List.filter_append, List.length_append]
  cases h2 : l[k].sync <;> simp [h2]
theorem cells_e {w : World} {g o : Nat} {e : EV} (h : w.rangeAt g o (cellsE e)) : w.cell? ⟨g, o, none⟩ = some (.int .i64 e.i) ∧ w.cell? ⟨g, o + 1, none⟩ = some e.v ∧ w.cell? ⟨g, o + 2, none⟩ = some (.bool e.sync) :=
  ⟨h 0 _ rfl, h 1 _ rfl, h 2 _ rfl⟩
/-- The document's disk as it lies: its own block, its two rows. -/
structure RefIn (base : Nat) (w : World) (G : Nat → Prop) (g : Nat) (vF vL : Value) (N : Int) (F L : List EV) : Prop where
  hg : w.heap[g]? = some (.cells #[.int .i64 N, vF, vL] 38 (0, 0))
  rF : OwnE base w vF F
  rL : OwnE base w vL L
  oF : ∀ e ∈ F, EOk w G e
  oL : ∀ e ∈ L, EOk w G e
  gg : G g
  gF : ∀ k, vF.ownBlock = some k → G k
  gL : ∀ k, vL.ownBlock = some k → G k
  ne : ∀ k, vF.ownBlock = some k → vL.ownBlock ≠ some k
  lo : ∀ k, G k → base ≤ k ∧ k < w.heap.size
  len : F.length + L.length ≤ 100000
def RefAt (base : Nat) (w : World) (G : Nat → Prop) (q : Value) (N : Int) (F L : List EV) : Prop := ∃ g vF vL, q = .pointer (some ⟨g, 0, none⟩) ∧ RefIn base w G g vF vL N F L
theorem RefIn.keep {base : Nat} {w w' : World} {G X : Nat → Prop} {g : Nat} {vF vL : Value} {N : Int} {F L : List EV} (h : RefIn base w G g vF vL N F L) (hf : Fr w w' X) (hd : ∀ k, G k → ¬ X k) : RefIn base w' G g vF vL N F L := by
  have hb : ∀ k, G k → w'.heap[k]? = w.heap[k]? := fun k hk => hf.block k (h.lo k hk).2 (hd k hk)
  exact { h with
    hg := (hb g h.gg).trans h.hg
    rF := own_of_block h.rF (fun k hk => hb k (h.gF k hk))
    rL := own_of_block h.rL (fun k hk => hb k (h.gL k hk))
    oF := fun e he => (h.oF e he).keep hf hd
    oL := fun e he => (h.oL e he).keep hf hd
    lo := fun k hk => ⟨(h.lo k hk).1, Nat.lt_of_lt_of_le (h.lo k hk).2 hf.size⟩ }
theorem RefAt.keep {base : Nat} {w w' : World} {G X : Nat → Prop} {q : Value} {N : Int} {F L : List EV} (h : RefAt base w G q N F L) (hf : Fr w w' X) (hd : ∀ k, G k → ¬ X k) : RefAt base w' G q N F L := by
  obtain ⟨g, vF, vL, hq, h⟩ := h
  exact ⟨g, vF, vL, hq, h.keep hf hd⟩
theorem RefAt.keepB {base : Nat} {w w' : World} {G : Nat → Prop} {q : Value} {N : Int} {F L : List EV} (h : RefAt base w G q N F L) (hf : Below w.heap.size w w') : RefAt base w' G q N F L :=
  h.keep (Fr.of_below (F := fun _ => False) hf) (fun _ _ => id)
theorem cells3 {w : World} {g : Nat} {c0 c1 c2 : Value} {t : TypeId} (h : w.heap[g]? = some (.cells #[c0, c1, c2] t (0, 0))) : w.cell? ⟨g, 0, none⟩ = some c0 ∧ w.cell? ⟨g, 1, none⟩ = some c1 ∧ w.cell? ⟨g, 2, none⟩ = some c2 ∧ ∀ o, w.frozen? ⟨g, o, none⟩ = false :=
  ⟨by rw [cell_of_row w g 0 _ _ _ h]; rfl, by rw [cell_of_row w g 1 _ _ _ h]; rfl, by rw [cell_of_row w g 2 _ _ _ h]; rfl, frozen_row h⟩
/-- Where the last Sync stands (0, if there is none). -/
def lastS (l : List EV) : Nat := (l.zipIdx).foldl (fun a x => if x.1.sync then x.2 else a) 0
theorem lastS_succ (l : List EV) (k : Nat) (h : k < l.length) : lastS (l.take (k + 1)) = if l[k].sync then k else lastS (l.take k) := by
  unfold lastS
  rw [List.take_succ_eq_append_getElem h, List.zipIdx_append, List.foldl_append]
  simp [Nat.min_eq_left (Nat.le_of_lt h)]
theorem lastS_le (l : List EV) : ∀ k, k ≤ l.length → lastS (l.take k) ≤ k
  | 0, _ => by simp [lastS]
  | k + 1, h => by
    rw [lastS_succ l k (by omega)]
    have := lastS_le l k (by omega)
    split <;> omega
theorem ERow.drop {w : World} {ao : Option Addr} {cap n : Nat} {l : List EV} (hn : l.length = n) (hc : n ≤ cap) (h : l = [] ∨ ∃ g o, ao = some ⟨g, o, none⟩ ∧ ∀ k (h : k < l.length), w.rangeAt g (o + k * 3) (cellsE l[k])) (g o a : Nat) (hao : ao = some ⟨g, o, none⟩) (ha : a ≤ n) :
    ERow w (.slice (some ⟨g, o + a * 3, none⟩) (n - a) (cap - a)) (l.drop a) := by
  refine ⟨_, cap - a, by rw [List.length_drop, hn], by rw [List.length_drop]; omega, ?_⟩
  rcases h with h | ⟨g', o', h1, h2⟩
  · left; rw [h]; simp
  · right
    rw [hao] at h1
    obtain ⟨rfl, rfl⟩ : g = g' ∧ o = o' := by simpa using h1
    refine ⟨g, o + a * 3, rfl, fun k hk => ?_⟩
    rw [List.length_drop] at hk
    have := h2 (a + k) (by omega)
    rw [List.getElem_drop]
    rw [show o + a * 3 + k * 3 = o + (a + k) * 3 by omega]
    exact this
end Go.Proofs.Ytpmbpadckbkglaa

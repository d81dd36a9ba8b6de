/- What the document's 'left' builds: a disk whose first entries grow. -/
import Derived.Test.YtggkclnnneoohaaD5V
namespace Go.Proofs.Ytggkclnnneoohaa
open Go.RowKit Go.Maps
set_option linter.unusedVariables false
set_option linter.unusedSimpArgs false

/-- Is the write number i left, of the pending ones the number k? -/
def leftB2 (ks : List Bool) (safe i k : Nat) : Bool := decide (i < safe) || ks.getD k false
def leftStep (ks : List Bool) (safe : Nat) (st : List EV × Nat) (x : EV × Nat) : List EV × Nat :=
  if x.1.sync then st else (if leftB2 ks safe x.2 st.2 then st.1 ++ [x.1] else st.1, if safe ≤ x.2 then st.2 + 1 else st.2)
/-- What some of what came leaves, and how many of it were pending. -/
def leftE (ks : List Bool) (safe : Nat) (l A : List EV) : List EV × Nat := (l.zipIdx).foldl (leftStep ks safe) (A, 0)
theorem leftE_succ (ks : List Bool) (safe : Nat) (l A : List EV) (k : Nat) (h : k < l.length) : leftE ks safe (l.take (k + 1)) A = leftStep ks safe (leftE ks safe (l.take k) A) (l[k], k) := by
  unfold leftE
  rw [List.take_succ_eq_append_getElem h, List.zipIdx_append, List.foldl_append]
  simp [Nat.min_eq_left (Nat.le_of_lt h)]
theorem leftE_len (ks : List Bool) (safe : Nat) (l A : List EV) : ∀ k, k ≤ l.length → (leftE ks safe (l.take k) A).1.length ≤ A.length + k ∧ (leftE ks safe (l.take k) A).2 ≤ k
  | 0, _ => by simp [leftE]
  | k + 1, h => by
    rw [leftE_succ ks safe l A k (by omega)]
    obtain ⟨h1, h2⟩ := leftE_len ks safe l A k (by omega)
    unfold leftStep
    split
    · exact ⟨by omega, by omega⟩
    · refine ⟨?_, ?_⟩
      · simp only
        split
        · simp; omega
        · omega
      · simp only
        split <;> omega
/-- The disk that is being built. -/
structure LeftIn (w wr : World) (base : Nat) (G : Nat → Prop) (g : Nat) (vO : Value) (N : Int) (A : List EV) : Prop where
  ref : RefIn base wr (fun k => G k ∨ w.heap.size ≤ k ∧ k < wr.heap.size) g vO (.slice none 0 0) N A []
  lg : w.heap.size ≤ g
  lv : ∀ k, vO.ownBlock = some k → w.heap.size ≤ k
  below : Below w.heap.size w wr
theorem LeftIn.nv {w wr : World} {base : Nat} {G : Nat → Prop} {g : Nat} {vO : Value} {N : Int} {A : List EV} (h : LeftIn w wr base G g vO N A) : vO.ownBlock ≠ some g := fun e' => by
  obtain ⟨cur, hh⟩ := own_typed h.ref.rF e'
  rw [h.ref.hg] at hh; simp at hh
theorem LeftIn.put {w wr wA w4 : World} {base : Nat} {G : Nat → Prop} {g : Nat} {vO : Value} {N : Int} {A es : List EV} (h : LeftIn w wr base G g vO N A) (hA : Below wr.heap.size wr wA) (hg4 : wA.grownBy w4 vO.ownBlock) {gk n cap : Nat}
    (hown : OwnE base w4 (.slice (some ⟨gk, 0, none⟩) n cap) (A ++ es)) (hk : vO.ownBlock = some gk ∨ gk = wA.heap.size) (hG : ∀ k, G k → k < w.heap.size) (hes : ∀ e ∈ es, EOk w G e) (hl : (A ++ es).length ≤ 1000) : LeftIn w (w4.setCell ⟨g, 1, none⟩ (.slice (some ⟨gk, 0, none⟩) n cap)) base G g (.slice (some ⟨gk, 0, none⟩) n cap) N (A ++ es) := by
  have sA := hA.size
  have s4 := hg4.size
  have sw := h.below.size
  have hgl := (h.ref.lo g h.ref.gg).2
  have hbg := (h.ref.lo g h.ref.gg).1
  have kw : ∀ k, k < wr.heap.size → some k ≠ vO.ownBlock → w4.heap[k]? = wr.heap[k]? := fun k hk hne => (hg4.block k (by omega) hne).trans (hA.block k hk)
  have k5 : ∀ k, k ≠ g → (w4.setCell ⟨g, 1, none⟩ (.slice (some ⟨gk, 0, none⟩) n cap)).heap[k]? = w4.heap[k]? := fun k hne => Below.heap_setCell _ _ _ _ (fun e => hne e)
  have e5 : (w4.setCell ⟨g, 1, none⟩ (.slice (some ⟨gk, 0, none⟩) n cap)).heap.size = w4.heap.size := by simp [World.setCell]
  have hg' := (kw g hgl (Ne.symm h.nv)).trans h.ref.hg
  have hset := setCell_eq_setRow w4 g 1 _ _ _ (.slice (some ⟨gk, 0, none⟩) n cap) hg'
  have hgk : gk ≠ g := by
    rcases hk with hk | hk
    · intro e'; exact h.nv (by rw [hk, e'])
    · omega
  have gkl : gk < w4.heap.size := by
    obtain ⟨cur, hh⟩ := own_typed hown (b := gk) rfl
    exact (Array.getElem?_eq_some_iff.1 hh).1
  have gkw : w.heap.size ≤ gk := by
    rcases hk with hk | hk
    · exact h.lv _ hk
    · omega
  have rowk : ∀ b s', RowB wr b s' → RowB (w4.setCell ⟨g, 1, none⟩ (.slice (some ⟨gk, 0, none⟩) n cap)) b s' := fun b s' hb => by
    refine (k5 b fun e' => ?_).trans ((kw b hb.lt fun e' => ?_).trans hb)
    · have := h.ref.hg
      rw [← e', hb] at this
      simp at this
    · obtain ⟨cur, hh⟩ := own_typed h.ref.rF e'.symm
      rw [hb] at hh
      simp at hh
  refine ⟨⟨by rw [hset, setRow_heap w4 g _ _ _ _ hg']; rfl, ?_, World.ownsRow_nil _ _ _ _, fun x hx => ?_, (fun x hx => by cases hx), Or.inr ⟨h.lg, by rw [e5]; omega⟩, fun k hk' => ?_, (fun k hk' => by cases hk'), (fun k _ hk2 => by cases hk2), fun k hk' => ?_, by have := hl; simp at this ⊢; omega⟩, h.lg, fun k hk' => ?_, ?_⟩
  · exact own_of_block hown (fun b hb => k5 b (by
      have : gk = b := by simpa [Value.ownBlock] using hb
      rw [← this]; exact hgk))
  · rcases List.mem_append.1 hx with hx | hx
    · rcases h.ref.oF x hx with hx | ⟨k, h1, h2, h3, h4⟩
      · exact Or.inl hx
      · refine Or.inr ⟨k, h1, rowk k _ h2, ?_, h4⟩
        rcases h3 with h3 | h3
        · exact Or.inl h3
        · exact Or.inr ⟨h3.1, by rw [e5]; omega⟩
    · rcases hes x hx with hx | ⟨k, h1, h2, h3, h4⟩
      · exact Or.inl hx
      · exact Or.inr ⟨k, h1, rowk k _ (h2.keep h.below), Or.inl h3, h4⟩
  · have : gk = k := by simpa [Value.ownBlock] using hk'
    subst this
    exact Or.inr ⟨gkw, by rw [e5]; omega⟩
  · rw [e5] at hk' ⊢
    rcases hk' with hk' | hk'
    · exact ⟨(h.ref.lo k (Or.inl hk')).1, by have := hG k hk'; omega⟩
    · refine ⟨?_, hk'.2⟩
      have hwl : base ≤ w.heap.size := by
        rcases Nat.lt_or_ge w.heap.size wr.heap.size with h' | h'
        · exact (h.ref.lo w.heap.size (Or.inr ⟨Nat.le_refl _, h'⟩)).1
        · omega
      omega
  · have : gk = k := by simpa [Value.ownBlock] using hk'
    subst this
    exact gkw
  · refine h.below.trans ⟨(hg4.os.trans hA.os), (hg4.tape.trans hA.tape), (hg4.output.trans hA.output), by rw [e5]; omega, fun k hk' => ?_⟩
    exact (k5 k (by have := h.lg; omega)).trans (kw k (by omega) (fun e' => by have := h.lv k e'.symm; omega))
theorem flat_cellsE {w : World} {g : Nat} {l : List EV} (h : ∀ k (h : k < l.length), w.rangeAt g (k * 3) (cellsE l[k])) : ∀ j u, (l.flatMap cellsE)[j]? = some u → w.cell? ((⟨g, 0, none⟩ : Addr).add j) = some u := by
  intro j u hu
  have hj := (List.getElem?_eq_some_iff.1 hu).1
  rw [flat_len cellsE 3 l (fun x _ => cellsE_len x)] at hj
  have hk : j / 3 < l.length := by omega
  have e : j = j / 3 * 3 + j % 3 := by omega
  rw [e, flat_at cellsE 3 l (fun x _ => cellsE_len x) (j / 3) hk (j % 3) (by omega)] at hu
  have := h (j / 3) hk (j % 3) u hu
  rw [Addr.add_mid, Nat.zero_add, e]
  exact this
/-- nil stored where nil was. -/
theorem LeftIn.same {w w1 : World} {base : Nat} {G : Nat → Prop} {N : Int} {F : List EV} (h : LeftIn w w1 base G w.heap.size (.slice none 0 0) N []) (hF : F = []) : LeftIn w (w1.drew.setCell ⟨w.heap.size, 1, none⟩ (.slice none 0 0)) base G w.heap.size (.slice none 0 0) N F := by
  subst hF
  have hg : w1.drew.heap[w.heap.size]? = some (.cells #[.int .i64 N, .slice none 0 0, .slice none 0 0] 31 (0, 0)) := h.ref.hg
  have hset := setCell_eq_setRow w1.drew w.heap.size 1 _ _ _ (.slice none 0 0) hg
  have hsz : (w1.drew.setCell ⟨w.heap.size, 1, none⟩ (.slice none 0 0)).heap.size = w1.heap.size := by simp [World.setCell]
  refine ⟨⟨by rw [hset, setRow_heap w1.drew w.heap.size _ _ _ _ hg]; rfl, World.ownsRow_nil _ _ _ _, World.ownsRow_nil _ _ _ _, (fun e he => by cases he), (fun e he => by cases he), by rw [hsz]; exact h.ref.gg, (fun k hk => by cases hk), (fun k hk => by cases hk), (fun k hk => by cases hk), by rw [hsz]; exact h.ref.lo, by simp⟩, h.lg, h.lv, ?_⟩
  exact h.below.drew.trans ((fr_set _ _ _ _).below (by have := h.below.size; simpa using this) (fun k hk => by omega))
theorem bools_form {w : World} {v : Value} {ks : List Bool} (h : Bools w v ks) : ∃ ao cap, v = .slice ao ks.length cap ∧ ∀ p, p < ks.length → ∃ a, ao = some a ∧ w.cell? (a.add p) = some (.bool (ks.getD p false)) := by
  rcases h with ⟨rfl, rfl⟩ | ⟨a, cap, rfl, hc, h⟩
  · exact ⟨none, 0, rfl, fun p h => by simp at h⟩
  · refine ⟨some a, cap, rfl, fun p hp => ⟨a, rfl, ?_⟩⟩
    rw [h p hp]; simp [List.getD, hp]
end Go.Proofs.Ytggkclnnneoohaa

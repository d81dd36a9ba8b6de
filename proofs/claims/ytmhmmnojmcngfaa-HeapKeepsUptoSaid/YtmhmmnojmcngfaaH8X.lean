/- The list of the law HeapKeeps beside its heap. -/
import Derived.Test.YtmhmmnojmcngfaaH8W
import Derived.Deep.AppendLies
namespace Go.Proofs.Ytmhmmnojmcngfaa
open Go.RowKit Go.Maps
set_option linter.unusedVariables false
set_option linter.unusedSimpArgs false

/-- A record that is there: its id, its bytes and where they lie. -/
structure KV where
  id : Int
  v : Value
  b : List UInt8
def kvc (x : KV) : List Value := [.int .i64 x.id, x.v]
def kvp (x : KV) : Int × List UInt8 := (x.id, x.b)
theorem kvc_len (L : List KV) : (L.flatMap kvc).length = L.length * 2 := by
  induction L with
  | nil => rfl
  | cons x r ih => rw [List.flatMap_cons, List.length_append, ih, List.length_cons]; show 2 + _ = _; omega
theorem kvc_at {L : List KV} {k : Nat} (hk : k < L.length) : (L.flatMap kvc)[2 * k]? = some (.int .i64 L[k].id) ∧ (L.flatMap kvc)[2 * k + 1]? = some L[k].v := by
  induction L generalizing k with
  | nil => simp at hk
  | cons x r ih =>
    rw [List.flatMap_cons]
    cases k with
    | zero => exact ⟨rfl, rfl⟩
    | succ k =>
      have := ih (k := k) (by simpa using hk)
      have e1 : 2 * (k + 1) = 2 + 2 * k := by omega
      have e2 : 2 * (k + 1) + 1 = 2 + (2 * k + 1) := by omega
      have h2 : (kvc x).length = 2 := rfl
      rw [e1, List.getElem?_append_right (by omega), show 2 + 2 * k + 1 = 2 + (2 * k + 1) by omega, List.getElem?_append_right (by omega), h2, Nat.add_sub_cancel_left, Nat.add_sub_cancel_left]
      simpa using this
theorem kvc_set {L : List KV} {k : Nat} (hk : k < L.length) (v : Value) (b : List UInt8) : (L.flatMap kvc).set (2 * k + 1) v = (L.set k ⟨L[k].id, v, b⟩).flatMap kvc := by
  induction L generalizing k with
  | nil => simp at hk
  | cons x r ih =>
    cases k with
    | zero => rfl
    | succ k =>
      have := ih (k := k) (by simpa using hk)
      rw [List.flatMap_cons, List.set_cons_succ, List.flatMap_cons]
      have e2 : 2 * (k + 1) + 1 = (2 * k + 1) + 1 + 1 := by omega
      rw [e2]
      show Value.int .i64 x.id :: x.v :: List.set (List.flatMap kvc r) (2 * k + 1) v = Value.int .i64 x.id :: x.v :: List.flatMap kvc (r.set k ⟨(r[k]'(by simpa using hk)).id, v, b⟩)
      rw [this]
/-- The heap, and a list of what is there; the heap and the list's row lie below the block S. -/
inductive KS (base S : Nat) (w : World) (hv : Value) (n : Nat) (R : Nat → List (List UInt8)) (t : Nat) (lv : Value) (L : List KV) : Prop
  | mk (F : Nat → Prop) (hA : HeapAt base w F hv n R t) (row : w.ownsRow base 48 2 lv L.length (L.flatMap kvc)) (off : ∀ c, lv.ownBlock = some c → ¬ F c ∧ c < S) (vs : ∀ x ∈ L, Bytes w x.v x.b ∧ ∀ a n c, x.v = .slice (some a) n c → base ≤ a.block ∧ a.block < w.heap.size ∧ ¬ F a.block ∧ lv.ownBlock ≠ some a.block) (lt : ∀ i, F i → i < S) (le : S ≤ w.heap.size)
theorem KS.start {base : Nat} {w : World} {F : Nat → Prop} {hv : Value} {n : Nat} {R : Nat → List (List UInt8)} {t : Nat} (hA : HeapAt base w F hv n R t) : KS base w.heap.size w hv n R t (.slice none 0 0) [] :=
  .mk F hA ⟨rfl, Or.inl ⟨rfl, rfl⟩⟩ (fun c hc => by cases hc) (fun x hx => by cases hx) (fun i hi => (hA.lo i hi).2) (Nat.le_refl _)
theorem KS.size {base S : Nat} {w : World} {hv : Value} {n : Nat} {R : Nat → List (List UInt8)} {t : Nat} {lv : Value} {L : List KV} (h : KS base S w hv n R t lv L) : S ≤ w.heap.size := by
  obtain ⟨F, hA, row, off, vs, lt, le⟩ := h; exact le
theorem KS.few {base S : Nat} {w : World} {hv : Value} {n : Nat} {R : Nat → List (List UInt8)} {t : Nat} {lv : Value} {L : List KV} (h : KS base S w hv n R t lv L) : ∀ j, j < n → (R j).length ≤ 256 := by
  obtain ⟨F, hA, row, off, vs, lt, le⟩ := h; exact hA.few
theorem KS.up {base S : Nat} {w : World} {hv : Value} {n : Nat} {R : Nat → List (List UInt8)} {t : Nat} {lv : Value} {L : List KV} (h : KS base S w hv n R t lv L) : KS base w.heap.size w hv n R t lv L := by
  obtain ⟨F, hA, row, off, vs, lt, le⟩ := h
  exact .mk F hA row (fun c hc => ⟨(off c hc).1, Nat.lt_of_lt_of_le (off c hc).2 le⟩) vs (fun i hi => Nat.lt_of_lt_of_le (lt i hi) le) (Nat.le_refl _)
theorem KS.le {base S : Nat} {w : World} {hv : Value} {n : Nat} {R : Nat → List (List UInt8)} {t t' : Nat} {lv : Value} {L : List KV} (h : KS base S w hv n R t lv L) (ht : t ≤ t') : KS base S w hv n R t' lv L := by
  obtain ⟨F, hA, row, off, vs, lt, le⟩ := h
  exact .mk F (hA.le ht) row off vs lt le
theorem KS.keepB {base S : Nat} {w w' : World} {hv : Value} {n : Nat} {R : Nat → List (List UInt8)} {t : Nat} {lv : Value} {L : List KV} (h : KS base S w hv n R t lv L) (hb : Below w.heap.size w w') : KS base S w' hv n R t lv L := by
  obtain ⟨F, hA, row, off, vs, lt, le⟩ := h
  exact .mk F (hA.keepB hb) (own_of_block row (fun b hc => hb.block b (World.ownsRow.lt row b hc).2)) off (fun x hx => ⟨(vs x hx).1.keep hb, fun a n c e => by have q := (vs x hx).2 a n c e; have := hb.size; exact ⟨q.1, by omega, q.2.2.1, q.2.2.2⟩⟩) lt (Nat.le_trans le hb.size)
/-- The list as it lies. -/
theorem KS.form {base S : Nat} {w : World} {hv : Value} {n : Nat} {R : Nat → List (List UInt8)} {t : Nat} {lv : Value} {L : List KV} (h : KS base S w hv n R t lv L) : ∃ ao cap, lv = .slice ao L.length cap ∧ L.length ≤ cap ∧ (L = [] ∨ ∃ g, ao = some ⟨g, 0, none⟩ ∧ ∀ k (hk : k < L.length), w.cell? ⟨g, 2 * k, none⟩ = some (.int .i64 L[k].id) ∧ w.cell? ⟨g, 2 * k + 1, none⟩ = some L[k].v ∧ w.frozen? ⟨g, 2 * k + 1, none⟩ = false) := by
  obtain ⟨F, hA, row, off, vs, lt, le⟩ := h
  rcases id row with ⟨h1, ⟨hv, hn⟩ | ⟨g, cap, cur, hv, hg, hh, hc, _⟩⟩
  · exact ⟨none, 0, by rw [hv, hn], by omega, Or.inl (List.eq_nil_of_length_eq_zero hn)⟩
  · refine ⟨some ⟨g, 0, none⟩, cap, hv, hc, Or.inr ⟨g, rfl, fun k hk => ?_⟩⟩
    obtain ⟨e1, e2⟩ := kvc_at hk
    have c1 := World.ownsRow.cells row (g := g) (by rw [hv]; rfl) (2 * k) _ e1
    have c2 := World.ownsRow.cells row (g := g) (by rw [hv]; rfl) (2 * k + 1) _ e2
    rw [Addr.add_mid, Nat.zero_add] at c1 c2
    refine ⟨c1, c2, ?_⟩
    rw [hv] at row
    exact World.ownsRow.frozenAt row _
theorem KS.bytes {base S : Nat} {w : World} {hv : Value} {n : Nat} {R : Nat → List (List UInt8)} {t : Nat} {lv : Value} {L : List KV} (h : KS base S w hv n R t lv L) {x : KV} (hx : x ∈ L) : Bytes w x.v x.b := by
  obtain ⟨F, hA, row, off, vs, lt, le⟩ := h; exact (vs x hx).1
/-- What a call on the heap leaves. -/
theorem KS.step {base S : Nat} {w w' : World} {F : Nat → Prop} {hv : Value} {n : Nat} {R' : Nat → List (List UInt8)} {t' : Nat} {lv : Value} {L : List KV} (row : w.ownsRow base 48 2 lv L.length (L.flatMap kvc)) (off : ∀ c, lv.ownBlock = some c → ¬ F c ∧ c < S) (vs : ∀ x ∈ L, Bytes w x.v x.b ∧ ∀ a n c, x.v = .slice (some a) n c → base ≤ a.block ∧ a.block < w.heap.size ∧ ¬ F a.block ∧ lv.ownBlock ≠ some a.block) (lt : ∀ i, F i → i < S) (le : S ≤ w.heap.size) (lo : ∀ i, F i → base ≤ i) (hT : HTo base w F hv n R' t' w') : KS base w'.heap.size w' hv n R' t' lv L ∧ Fr w w' (fun i => base ≤ i ∧ i < S) := by
  obtain ⟨F', hH', hF', hfr⟩ := hT
  have hs := hfr.size
  refine ⟨.mk F' hH' (own_of_block row (fun b hc => hfr.block b (World.ownsRow.lt row b hc).2 (off b hc).1)) (fun c hc => ⟨fun h => ?_, ?_⟩) (fun x hx => ⟨(vs x hx).1.fr8 (fun a n c e => ((vs x hx).2 a n c e).2.2.1) hfr, fun a n c e => ?_⟩) (fun i h => (hH'.lo i h).2) (Nat.le_refl _), hfr.mono (fun i hi => ⟨lo i hi, lt i hi⟩)⟩
  · rcases hF' c h with h' | h'
    · exact (off c hc).1 h'
    · have := (off c hc).2; omega
  · have := (off c hc).2; omega
  · obtain ⟨q1, q2, q3, q4⟩ := (vs x hx).2 a n c e
    refine ⟨q1, by omega, fun h => ?_, q4⟩
    rcases hF' _ h with h' | h'
    · exact q3 h'
    · omega
theorem KS.insert {base S : Nat} {w : World} {hv : Value} {n : Nat} {R : Nat → List (List UInt8)} {t : Nat} {lv : Value} {L : List KV} (h : KS base S w hv n R t lv L) (ht : t + n < 50000) (v : Value) (b : List UInt8) (hB : Bytes w v b) (hn : NewB S v) (hl : b.length ≤ 140737488355328) :
    Calls Try.prog 18 #[hv, v] w fun e w' => e = .returned (.tuple #[.int .i64 (insE n R b).1, .int .i64 (insE n R b).2]) ∧ KS base w'.heap.size w' hv n (insR n R b) (t + n) lv L ∧ Fr w w' (fun i => base ≤ i ∧ i < S) := by
  obtain ⟨F, hA, row, off, vs, lt, le⟩ := h
  refine (hinsert_any hA ht v b hB (fun a n c e hF => by have := lt _ hF; have := hn a n c e; omega) hl).mono ?_
  rintro e w' hO
  obtain ⟨he, hT⟩ := hO.fn
  exact ⟨he, KS.step row off vs lt le (fun i hi => (hA.lo i hi).1) hT⟩
theorem KS.update {base S : Nat} {w : World} {hv : Value} {n : Nat} {R : Nat → List (List UInt8)} {t : Nat} {lv : Value} {L : List KV} (h : KS base S w hv n R t lv L) (ht : t < 50000) (id : Int) (hid : -9223372036854775808 ≤ id ∧ id ≤ 9223372036854775807) (v : Value) (b : List UInt8) (hB : Bytes w v b) (hn : NewB S v) (hl : b.length ≤ 140737488355328) :
    Calls Try.prog 20 #[hv, .int .i64 id, v] w fun e w' => e = .returned (.int .i64 (updE n R id b)) ∧ KS base w'.heap.size w' hv n (updR n R id b) (t + 1) lv L ∧ Fr w w' (fun i => base ≤ i ∧ i < S) := by
  obtain ⟨F, hA, row, off, vs, lt, le⟩ := h
  refine (hupdate_any hA ht id hid v b hB (fun a n c e hF => by have := lt _ hF; have := hn a n c e; omega) hl).mono ?_
  rintro e w' hO
  obtain ⟨he, hT⟩ := hO.fn
  exact ⟨he, KS.step row off vs lt le (fun i hi => (hA.lo i hi).1) hT⟩
theorem KS.delete {base S : Nat} {w : World} {hv : Value} {n : Nat} {R : Nat → List (List UInt8)} {t : Nat} {lv : Value} {L : List KV} (h : KS base S w hv n R t lv L) (ht : t < 50000) (id : Int) (hid : -9223372036854775808 ≤ id ∧ id ≤ 9223372036854775807) :
    Calls Try.prog 21 #[hv, .int .i64 id] w fun e w' => e = .returned (.int .i64 (delE n R id)) ∧ KS base w'.heap.size w' hv n (delR n R id) (t + 1) lv L ∧ Fr w w' (fun i => base ≤ i ∧ i < S) := by
  obtain ⟨F, hA, row, off, vs, lt, le⟩ := h
  refine (hdelete_any hA ht id hid).mono ?_
  rintro e w' hO
  obtain ⟨he, hT⟩ := hO.fn
  exact ⟨he, KS.step row off vs lt le (fun i hi => (hA.lo i hi).1) hT⟩
theorem KS.scan {base S : Nat} {w : World} {hv : Value} {n : Nat} {R : Nat → List (List UInt8)} {t : Nat} {lv : Value} {L : List KV} (h : KS base S w hv n R t lv L) (ht : t + n < 50000) :
    Calls Try.prog 12 #[hv] w fun e w' => ∃ ao cp, e = .returned (.tuple #[.slice ao (scanR n R).length cp, .int .i64 0]) ∧ KS base w'.heap.size w' hv n R (t + n) lv L ∧ Fr w w' (fun i => base ≤ i ∧ i < S) := by
  obtain ⟨F, hA, row, off, vs, lt, le⟩ := h
  refine (hscan_any hA ht).mono ?_
  rintro e w' ⟨v, he, hrow, F', hH', hF', hfr, hnF⟩
  obtain ⟨ao, cp, hv, _, _⟩ := ints_of_own hrow
  subst hv
  exact ⟨ao, cp, he, KS.step row off vs lt le (fun i hi => (hA.lo i hi).1) ⟨F', hH', hF', hfr⟩⟩
theorem KS.get {base S : Nat} {w : World} {hv : Value} {n : Nat} {R : Nat → List (List UInt8)} {t : Nat} {lv : Value} {L : List KV} (h : KS base S w hv n R t lv L) (ht : t < 50000) (id : Int) (hid : -9223372036854775808 ≤ id ∧ id ≤ 9223372036854775807) :
    Calls Try.prog 15 #[hv, .int .i64 id] w fun e w' => ∃ ao m cp, e = .returned (.tuple #[.slice ao m cp, .int .i64 (getE n R id)]) ∧ Bytes w' (.slice ao m cp) (getB n R id) ∧ KS base w'.heap.size w' hv n R (t + 1) lv L ∧ Fr w w' (fun i => base ≤ i ∧ i < S) := by
  obtain ⟨F, hA, row, off, vs, lt, le⟩ := h
  refine (hget_any hA ht id hid).mono ?_
  rintro e w' hO
  cases hO with
  | no hn he hT => exact ⟨none, 0, 0, by rw [he]; unfold getE; rw [if_neg hn], by unfold getB; rw [if_neg hn]; exact Or.inl ⟨rfl, rfl⟩, KS.step row off vs lt le (fun i hi => (hA.lo i hi).1) hT⟩
  | yes k s hk hs hid' hy ao m cp he hown F' hH' hF' hfr hnF =>
    have hT : ThereR n R id := ⟨k, s, hk, hs, hid', hy⟩
    obtain ⟨e1, e2⟩ := ksOf hs hid'
    exact ⟨ao, m, cp, by rw [he]; unfold getE; rw [if_pos hT], by unfold getB; rw [if_pos hT, e1, e2]; exact hown.toBytes, KS.step row off vs lt le (fun i hi => (hA.lo i hi).1) ⟨F', hH', hF', hfr⟩⟩
/-- A record is put behind the list. -/
theorem KS.put {base S : Nat} {wA w4 : World} {hv : Value} {n : Nat} {R : Nat → List (List UInt8)} {t : Nat} {lv : Value} {L : List KV} (h : KS base S wA hv n R t lv L) (x : KV) (hb : Bytes wA x.v x.b) (hn : ∀ a n c, x.v = .slice (some a) n c → base ≤ a.block ∧ S ≤ a.block ∧ a.block < wA.heap.size) {gk cap : Nat} (hown : w4.ownsRow base 48 2 (.slice (some ⟨gk, 0, none⟩) (L.length + 1) cap) (L.length + 1) (L.flatMap kvc ++ kvc x)) (hg : wA.grownBy w4 lv.ownBlock) (hgk : lv.ownBlock = some gk ∨ gk = wA.heap.size) : KS base w4.heap.size w4 hv n R t (.slice (some ⟨gk, 0, none⟩) (L.length + 1) cap) (L ++ [x]) ∧ Fr wA w4 (fun i => base ≤ i ∧ i < S) := by
  obtain ⟨F, hA, row, off, vs, lt, le⟩ := h
  have hfr : Fr wA w4 (fun k => lv.ownBlock = some k) := Fr.of_grown hg (fun k hk => hk)
  have hs := hfr.size
  have hlt4 := (World.ownsRow.lt hown gk rfl).2
  have hne : ∀ y : Addr, y.block < wA.heap.size → lv.ownBlock ≠ some y.block → (Value.slice (some ⟨gk, 0, none⟩) (L.length + 1) cap).ownBlock ≠ some y.block := fun y hy hl e => by
    simp only [Value.ownBlock, Option.some.injEq] at e
    rcases hgk with h | h
    · exact hl (by rw [h, e])
    · omega
  refine ⟨.mk F (hA.keep hfr (fun i hi hk => (off i hk).1 hi)) (by rw [List.length_append, List.flatMap_append]; simpa using hown) (fun c hc => ?_) (fun y hy => ?_) (fun i hi => by have := lt i hi; omega) (Nat.le_refl _), hfr.mono (fun i hi => ⟨(World.ownsRow.lt row i hi).1, (off i hi).2⟩)⟩
  · simp only [Value.ownBlock, Option.some.injEq] at hc
    subst hc
    refine ⟨fun hF => ?_, hlt4⟩
    rcases hgk with h | h
    · exact (off _ h).1 hF
    · have := lt _ hF; omega
  · rcases List.mem_append.1 hy with hy | hy
    · refine ⟨(vs y hy).1.fr8 (fun a n c e => ((vs y hy).2 a n c e).2.2.2) hfr, fun a n c e => ?_⟩
      obtain ⟨q1, q2, q3, q4⟩ := (vs y hy).2 a n c e
      exact ⟨q1, by omega, q3, hne a q2 q4⟩
    · obtain rfl := List.mem_singleton.1 hy
      have hl : ∀ a n c, y.v = .slice (some a) n c → lv.ownBlock ≠ some a.block := fun a n c e e' => by
        have := (off _ e').2
        have := hn a n c e
        omega
      refine ⟨hb.fr8 (fun a n c e => hl a n c e) hfr, fun a n c e => ?_⟩
      obtain ⟨q1, q2, q3⟩ := hn a n c e
      exact ⟨q1, by omega, fun hF => by have := lt _ hF; omega, hne a q3 (hl a n c e)⟩
/-- A record's bytes are stored in the list. -/
theorem KS.set {base S : Nat} {w : World} {hv : Value} {n : Nat} {R : Nat → List (List UInt8)} {t : Nat} {g cap : Nat} {L : List KV} (h : KS base S w hv n R t (.slice (some ⟨g, 0, none⟩) L.length cap) L) {k : Nat} (hk : k < L.length) (v : Value) (b : List UInt8) (hb : Bytes w v b) (hn : ∀ a n c, v = .slice (some a) n c → base ≤ a.block ∧ S ≤ a.block ∧ a.block < w.heap.size) : KS base (w.setCell ⟨g, 2 * k + 1, none⟩ v).heap.size (w.setCell ⟨g, 2 * k + 1, none⟩ v) hv n R t (.slice (some ⟨g, 0, none⟩) L.length cap) (L.set k ⟨L[k].id, v, b⟩) ∧ Fr w (w.setCell ⟨g, 2 * k + 1, none⟩ v) (fun i => base ≤ i ∧ i < S) := by
  obtain ⟨F, hA, row, off, vs, lt, le⟩ := h
  have hfr := fr_set w g (2 * k + 1) v
  have hsz : (w.setCell ⟨g, 2 * k + 1, none⟩ v).heap.size = w.heap.size := by simp [World.setCell]
  obtain ⟨h1, h2⟩ := World.ownsRow.stored row (2 * k + 1) v
  rw [kvc_set hk v b] at h1
  have hg := off g rfl
  refine ⟨.mk F (hA.keep hfr (fun i hi e => hg.1 (by rw [← e]; exact hi))) (by rw [List.length_set]; exact h1) (fun c hc => ⟨(off c hc).1, by have := (off c hc).2; omega⟩) (fun y hy => ?_) (fun i hi => by have := lt i hi; omega) (Nat.le_refl _), hfr.mono (fun i hi => by rw [hi]; exact ⟨(World.ownsRow.lt row g rfl).1, hg.2⟩)⟩
  obtain ⟨j, hj, rfl⟩ := List.getElem_of_mem hy
  have hj' : j < L.length := by simpa using hj
  rw [List.getElem_set]
  by_cases e : k = j
  · rw [if_pos e]
    have hl : ∀ a n c, v = .slice (some a) n c → a.block ≠ g := fun a n c e e' => by
      have := hn a n c e
      have := hg.2
      omega
    refine ⟨hb.fr8 (fun a n c e => hl a n c e) hfr, fun a n c e => ?_⟩
    obtain ⟨q1, q2, q3⟩ := hn a n c e
    exact ⟨q1, by omega, fun hF => by have := lt _ hF; omega, fun e' => hl a n c e (by simp only [Value.ownBlock, Option.some.injEq] at e'; exact e'.symm)⟩
  · rw [if_neg e]
    obtain ⟨b1, b2⟩ := vs _ (List.getElem_mem hj')
    refine ⟨b1.fr8 (fun a n c e e' => (b2 a n c e).2.2.2 (by rw [e']; rfl)) hfr, fun a n c e => ?_⟩
    obtain ⟨q1, q2, q3, q4⟩ := b2 a n c e
    exact ⟨q1, by omega, q3, q4⟩
/-- Another row of the same records, all but one. -/
theorem KS.drop {base S : Nat} {w w2 : World} {hv : Value} {n : Nat} {R : Nat → List (List UInt8)} {t : Nat} {lv rv : Value} {L L' : List KV} (h : KS base S w hv n R t lv L) (hsub : ∀ x ∈ L', x ∈ L) (hown : w2.ownsRow base 48 2 rv L'.length (L'.flatMap kvc)) (hb : Below w.heap.size w w2) (hnew : ∀ c, rv.ownBlock = some c → w.heap.size ≤ c) : KS base w2.heap.size w2 hv n R t rv L' := by
  obtain ⟨F, hA, row, off, vs, lt, le⟩ := h
  have hs := hb.size
  refine .mk F (hA.keepB hb) hown (fun c hc => ⟨fun hF => ?_, (World.ownsRow.lt hown c hc).2⟩) (fun y hy => ?_) (fun i hi => by have := lt i hi; omega) (Nat.le_refl _)
  · have := lt _ hF
    have := hnew c hc
    omega
  · obtain ⟨b1, b2⟩ := vs y (hsub y hy)
    refine ⟨b1.keep hb, fun a n c e => ?_⟩
    obtain ⟨q1, q2, q3, q4⟩ := b2 a n c e
    exact ⟨q1, by omega, q3, fun e' => by have := hnew _ e'; omega⟩
end Go.Proofs.Ytmhmmnojmcngfaa

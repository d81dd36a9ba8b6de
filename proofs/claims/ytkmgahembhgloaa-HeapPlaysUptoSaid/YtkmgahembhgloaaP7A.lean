/- The pool's ground: rows of pages that rise, a map of frames, what a range over it tells, the pool as it lies. -/
import Derived.Test.YtkmgahembhgloaaP7O
import Derived.Maps.RangeWalk
import Derived.Sort.KeysCollected
namespace Go.Proofs.Ytkmgahembhgloaa
open Go.RowKit Go.Maps
set_option linter.unusedVariables false
set_option linter.unusedSimpArgs false

/-- A page comes to pages that rise. -/
def insS (k : Int) : List Int → List Int
  | [] => [k]
  | x :: xs => if k < x then k :: x :: xs else x :: insS k xs
theorem mem_insS (k j : Int) (l : List Int) : j ∈ insS k l ↔ j = k ∨ j ∈ l := by
  induction l with
  | nil => simp [insS]
  | cons x xs ih =>
    unfold insS
    split
    · simp
    · rw [List.mem_cons, ih, List.mem_cons]
      constructor
      · rintro (h | h | h)
        · exact Or.inr (Or.inl h)
        · exact Or.inl h
        · exact Or.inr (Or.inr h)
      · rintro (h | h | h)
        · exact Or.inr (Or.inl h)
        · exact Or.inl h
        · exact Or.inr (Or.inr h)
theorem len_insS (k : Int) (l : List Int) : (insS k l).length = l.length + 1 := by
  induction l with
  | nil => rfl
  | cons x xs ih =>
    unfold insS
    split
    · rfl
    · simp [ih]
/-- Pages that rise. -/
abbrev Rise (l : List Int) : Prop := l.Pairwise (fun a b => a < b)
theorem rise_insS {k : Int} {l : List Int} (h : Rise l) (hk : k ∉ l) : Rise (insS k l) := by
  induction l with
  | nil => simp [insS, Rise]
  | cons x xs ih =>
    have hx := List.pairwise_cons.1 h
    unfold insS
    split
    · rename_i hlt
      refine List.pairwise_cons.2 ⟨fun y hy => ?_, h⟩
      rcases List.mem_cons.1 hy with rfl | hy
      · exact hlt
      · have := hx.1 y hy; omega
    · rename_i hlt
      refine List.pairwise_cons.2 ⟨fun y hy => ?_, ih hx.2 (fun h => hk (List.mem_cons_of_mem _ h))⟩
      rcases (mem_insS _ _ _).1 hy with rfl | hy
      · have : y ≠ x := fun e => hk (by rw [e]; exact List.mem_cons_self ..)
        omega
      · exact hx.1 y hy
theorem Rise.nodup {l : List Int} (h : Rise l) : l.Nodup := h.imp (fun h => by omega)
/-- A page goes. -/
def delS (k : Int) (l : List Int) : List Int := l.filter (fun j => decide (j ≠ k))
theorem mem_delS (k j : Int) (l : List Int) : j ∈ delS k l ↔ j ≠ k ∧ j ∈ l := by
  simp [delS, and_comm]
theorem rise_delS {k : Int} {l : List Int} (h : Rise l) : Rise (delS k l) := h.filter _
theorem len_delS {k : Int} {l : List Int} (h : l.Nodup) (hk : k ∈ l) : (delS k l).length + 1 = l.length := by
  induction l with
  | nil => cases hk
  | cons x xs ih =>
    have hx := List.nodup_cons.1 h
    by_cases e : x = k
    · subst e
      have : delS x (x :: xs) = xs := by
        unfold delS
        rw [List.filter_cons_of_neg (by simp)]
        exact List.filter_eq_self.2 (fun y hy => by simp; exact fun e => hx.1 (e ▸ hy))
      rw [this]; rfl
    · have h1 : delS k (x :: xs) = x :: delS k xs := by
        unfold delS
        rw [List.filter_cons_of_pos (by simp [e])]
      rw [h1, List.length_cons, List.length_cons, ih hx.2 (by rcases List.mem_cons.1 hk with h | h; exact absurd h.symm e; exact h)]
theorem rise_len' {n : Int} : ∀ (l : List Int) (a : Int), a ≤ n → Rise l → (∀ k ∈ l, a ≤ k ∧ k < n) → (l.length : Int) ≤ n - a
  | [], a, ha, _, _ => by simp; omega
  | x :: xs, a, ha, h, hr => by
    have hx := List.pairwise_cons.1 h
    have h0 := hr x (List.mem_cons_self ..)
    have := rise_len' xs (x + 1) (by omega) hx.2 (fun k hk => ⟨by have := hx.1 k hk; omega, (hr k (List.mem_cons_of_mem _ hk)).2⟩)
    rw [List.length_cons]
    omega
theorem rise_len {l : List Int} {n : Nat} (h : Rise l) (hr : ∀ k ∈ l, 0 ≤ k ∧ k < n) : l.length ≤ n := by
  have := rise_len' (n := n) l 0 (by omega) h hr
  omega

/-- What one place holds, turned. -/
def updA {α : Type} (f : Int → α) (i : Int) (x : α) : Int → α := fun j => if j = i then x else f j
theorem updA_same {α : Type} (f : Int → α) (i : Int) (x : α) : updA f i x i = x := by simp [updA]
theorem updA_other {α : Type} (f : Int → α) {i j : Int} (x : α) (h : j ≠ i) : updA f i x j = f j := by simp [updA, h]

/-- A pointer's value. -/
def ptr (b : Nat) : Value := .pointer (some ⟨b, 0, none⟩)
/-- How a pointer to a frame reads as a map's element: none reads as -1. -/
noncomputable def ptrR (v : Value) : Option (DataW Unit × List MemPlace) := by
  classical
  exact if h : ∃ b : Nat, v = ptr b then some (.lit (.int .i64 h.choose), []) else if v = .pointer none then some (.lit (.int .i64 (-1)), []) else none
theorem ptr_inj {a b : Nat} (h : ptr a = ptr b) : a = b := by simpa [ptr] using h
theorem ptrR_mk (b : Nat) : ptrR (ptr b) = some (.lit (.int .i64 b), []) := by
  have hx : ∃ c : Nat, ptr b = ptr c := ⟨b, rfl⟩
  unfold ptrR
  rw [dif_pos hx]
  have := ptr_inj hx.choose_spec
  rw [← this]
theorem ptrR_nil : ptrR (.pointer none) = some (.lit (.int .i64 (-1)), []) := by
  unfold ptrR
  rw [dif_neg (by rintro ⟨b, hb⟩; cases hb), if_pos rfl]
theorem ptrR_inv {v : Value} {d : DataW Unit} {ps : List MemPlace} (h : ptrR v = some (d, ps)) : (∃ b, v = ptr b ∧ d = .lit (.int .i64 b)) ∨ (v = .pointer none ∧ d = .lit (.int .i64 (-1))) := by
  unfold ptrR at h
  split at h
  · rename_i hx
    simp only [Option.some.injEq, Prod.mk.injEq] at h
    exact Or.inl ⟨hx.choose, hx.choose_spec, h.1.symm⟩
  · split at h
    · rename_i h2
      simp only [Option.some.injEq, Prod.mk.injEq] at h
      exact Or.inr ⟨h2, h.1.symm⟩
    · cases h
theorem zero_ptr (w : World) : (zeroValue 104).run Try.prog w = .ok (.pointer none) w := by kernel_rfl
/-- What is told of a datum that holds these pages. -/
structure Tells (D : DataW Unit) (keys : List Int) (blk : Int → Nat) : Prop where
  has : ∀ k : Int, Maps.has D (.int .i64 k) = decide (k ∈ keys)
  at_ : ∀ k ∈ keys, ∀ zd, D.atKey (.int .i64 k) zd = .lit (.int .i64 (blk k))
/-- Block b is a map of frames that holds just these pages. -/
def FMap (w : World) (b : Nat) (keys : List Int) (blk : Int → Nat) : Prop :=
  ∃ D : DataW Unit, w.ownsMap Try.prog 3 ptrR b keys.length D ∧ Tells D keys blk
theorem FMap.lt {w : World} {b : Nat} {keys : List Int} {blk : Int → Nat} (h : FMap w b keys blk) : b < w.heap.size := by
  obtain ⟨D, h, _⟩ := h; exact h.lt
theorem FMap.of_block {w w' : World} {b : Nat} {keys : List Int} {blk : Int → Nat} (h : FMap w b keys blk) (hb : w'.heap[b]? = w.heap[b]?) : FMap w' b keys blk := by
  obtain ⟨D, ⟨es, clock, h1, h2⟩, h3⟩ := h
  exact ⟨D, ⟨es, clock, hb.trans h1, h2⟩, h3⟩
theorem FMap.isMap {w : World} {b : Nat} {keys : List Int} {blk : Int → Nat} (h : FMap w b keys blk) : ∃ es clock, w.heap[b]? = some (.map es clock) := by
  obtain ⟨D, ⟨es, clock, h1, _⟩, _⟩ := h
  exact ⟨es, clock, h1⟩
theorem FMap.made (w : World) (blk : Int → Nat) : FMap (w.alloc (.map #[] 0)) w.heap.size [] blk :=
  ⟨.map [], World.ownsMap_made w _ _ _, ⟨fun _ => rfl, fun k hk => by cases hk⟩⟩
theorem i64_of_key {key : Value} {kl : Lit} (h : keyOf Try.prog 3 key = some kl) : ∃ x : Int, key = .int .i64 x ∧ kl = .int .i64 x ∧ (Lit.int .i64 x).wf = true := Maps.keyOf_int_inv Try.underlying3 h
/-- How many entries: as many as pages. -/
theorem tells_size {w : World} {b n : Nat} {D : DataW Unit} {keys : List Int} {blk : Int → Nat} (h : w.ownsMap Try.prog 3 ptrR b n D) (ht : Tells D keys blk) (hr : Rise keys) : Maps.size D = keys.length := by
  obtain ⟨es, hD, hpw, _⟩ := h.entries keyed
  obtain ⟨es', hD', hko⟩ := h.keysOf
  obtain rfl : es = es' := by rw [hD] at hD'; simpa using hD'
  subst hD
  have hint : ∀ p ∈ es, ∃ x, p.1 = Lit.int .i64 x := fun p hp => by
    obtain ⟨v, hv⟩ := hko p hp
    obtain ⟨x, _, hx, _⟩ := i64_of_key hv
    exact ⟨x, hx⟩
  have hp : (es.map Prod.fst).Perm (keys.map (Lit.int .i64)) := by
    refine (List.perm_ext_iff_of_nodup (List.pairwise_map.2 hpw) ?_).2 fun l => ?_
    · exact List.pairwise_map.2 (hr.imp (fun {a b} h e => by simp at e; omega))
    · constructor
      · intro hl
        obtain ⟨p, hp, rfl⟩ := List.mem_map.1 hl
        obtain ⟨x, hx⟩ := hint p hp
        have h1 := ht.has x
        have h2 : Maps.has (.map es) (.int .i64 x) = true := by
          rw [has_eq, List.any_eq_true]
          exact ⟨p, hp, by rw [hx]; simp [Lit.sameKey]⟩
        rw [h2] at h1
        exact List.mem_map.2 ⟨x, by simpa using h1.symm, hx.symm⟩
      · intro hl
        obtain ⟨x, hx, rfl⟩ := List.mem_map.1 hl
        have h1 := ht.has x
        rw [has_eq] at h1
        have h2 : es.any (fun p => p.1.sameKey (.int .i64 x)) = true := by rw [h1]; simpa using hx
        obtain ⟨p, hp, hs⟩ := List.any_eq_true.1 h2
        obtain ⟨y, hy⟩ := hint p hp
        rw [hy] at hs
        have : y = x := by simpa [Lit.sameKey] using hs
        exact List.mem_map.2 ⟨p, hp, by rw [hy, this]⟩
  have := hp.length_eq
  simpa [Maps.size_eq] using this
theorem own_tight {w : World} {b n m : Nat} {D : DataW Unit} (h : w.ownsMap Try.prog 3 ptrR b n D) (hm : Maps.size D = m) : w.ownsMap Try.prog 3 ptrR b m D := by
  obtain ⟨es, clock, hb, F, hs, rfl⟩ := h
  subst hm
  exact ⟨es, clock, hb, F, by simp [Maps.size, length_sorted], rfl⟩
theorem FMap.look_ok {w : World} {b : Nat} {keys : List Int} {blk : Int → Nat} (h : FMap w b keys blk) {i : Int} (hi : -9223372036854775808 ≤ i ∧ i ≤ 9223372036854775807) :
    (Instr.lookup 93 (.map (some b)) (.int .i64 i) true).run Try.prog w = .ok (.tuple #[if i ∈ keys then ptr (blk i) else .pointer none, .bool (decide (i ∈ keys))]) w := by
  obtain ⟨D, h1, h2⟩ := h
  obtain ⟨v, ps, hr, hv⟩ := h1.look_ok keyed Try.underlying93 (zero_ptr w) ptrR_nil (keyOf_int_mk Try.underlying3 (int64_wf hi))
  rw [hr, h2.has i]
  split
  · rename_i hk
    rw [h2.at_ i hk] at hv
    rcases ptrR_inv hv with ⟨c, rfl, hc⟩ | ⟨_, hc⟩
    · have : blk i = c := by simp at hc; omega
      rw [this]
    · simp at hc
  · rename_i hk
    rw [atKey_of_not_has (by rw [h2.has i]; simpa using hk)] at hv
    rcases ptrR_inv hv with ⟨c, rfl, hc⟩ | ⟨rfl, _⟩
    · simp at hc
    · rfl
theorem FMap.look {w : World} {b : Nat} {keys : List Int} {blk : Int → Nat} (h : FMap w b keys blk) {i : Int} (hi : -9223372036854775808 ≤ i ∧ i ≤ 9223372036854775807) (hk : i ∈ keys) :
    (Instr.lookup 93 (.map (some b)) (.int .i64 i) false).run Try.prog w = .ok (.pointer (some ⟨blk i, 0, none⟩)) w := by
  obtain ⟨D, h1, h2⟩ := h
  obtain ⟨v, ps, hr, hv⟩ := h1.lookup keyed Try.underlying93 (zero_ptr w) ptrR_nil (keyOf_int_mk Try.underlying3 (int64_wf hi))
  rw [hr]
  rw [h2.at_ i hk] at hv
  rcases ptrR_inv hv with ⟨c, rfl, hc⟩ | ⟨_, hc⟩
  · have : blk i = c := by simp at hc; omega
    rw [this]; rfl
  · simp at hc
theorem FMap.len {w : World} {b : Nat} {keys : List Int} {blk : Int → Nat} (h : FMap w b keys blk) (hr : Rise keys) (ty : TypeId) :
    (Builtin.len_ #[93] ty #[.map (some b)]).run Try.prog w = .ok (.int .i64 keys.length) w := by
  obtain ⟨D, h1, h2⟩ := h
  rw [h1.len Try.underlying93 ty, tells_size h1 h2 hr]
theorem FMap.put {w : World} {b : Nat} {keys : List Int} {blk : Int → Nat} (h : FMap w b keys blk) (hn : keys.length < 1000000) (hr : Rise keys) {i : Int} (hi : -9223372036854775808 ≤ i ∧ i ≤ 9223372036854775807) (hk : i ∉ keys) (g : Nat) :
    ∃ w', (Instr.mapUpdate 93 (.map (some b)) (.int .i64 i) (.pointer (some ⟨g, 0, none⟩))).run Try.prog w = .ok () w' ∧ FMap w' b (insS i keys) (updA blk i g) ∧ w.grownBy w' (some b) := by
  obtain ⟨D, h1, h2⟩ := h
  have hkey := keyOf_int_mk (k := 3) Try.underlying3 (int64_wf hi)
  obtain ⟨w', hr', h4, h5⟩ := h1.store keyed Try.underlying93 (by unfold maxLen; omega) hkey (ptrR_mk g)
  refine ⟨w', hr', ⟨_, by rw [len_insS]; exact h4, ⟨fun j => ?_, fun j hj zd => ?_⟩⟩, h5.grown⟩
  · by_cases e : j = i
    · subst e
      rw [has_put_same (h1.tidy keyed).isMap (keyed.key hkey)]
      simp [mem_insS]
    · rw [has_put_other (by intro e'; exact e (by simpa using e')), h2.has j]
      simp [mem_insS, e]
  · by_cases e : j = i
    · subst e
      rw [atKey_put_same (h1.tidy keyed).isMap (keyed.key hkey), updA_same]
    · rw [atKey_put_other (by intro e'; exact e (by simpa using e')), updA_other _ _ e]
      exact h2.at_ j (by rcases (mem_insS _ _ _).1 hj with h | h; exact absurd h e; exact h) zd
theorem FMap.del {w : World} {b : Nat} {keys : List Int} {blk : Int → Nat} (h : FMap w b keys blk) (hr : Rise keys) {i : Int} (hi : -9223372036854775808 ≤ i ∧ i ≤ 9223372036854775807) (ty : TypeId) :
    ∃ w', (Builtin.delete_ #[93, 3] ty #[.map (some b), .int .i64 i]).run Try.prog w = .ok (.tuple #[]) w' ∧ FMap w' b (delS i keys) blk ∧ w.grownBy w' (some b) := by
  obtain ⟨D, h1, h2⟩ := h
  have hkey := keyOf_int_mk (k := 3) Try.underlying3 (int64_wf hi)
  obtain ⟨w', hr', h4, h5⟩ := h1.drop keyed Try.underlying93 hkey ty
  have ht : Tells (D.del (.int .i64 i)) (delS i keys) blk := by
    refine ⟨fun j => ?_, fun j hj zd => ?_⟩
    · by_cases e : j = i
      · subst e
        rw [has_del_same]
        simp [mem_delS]
      · rw [has_del_other (by intro e'; exact e (by simpa using e')), h2.has j]
        simp [mem_delS, e]
    · have hj := (mem_delS _ _ _).1 hj
      rw [atKey_del_other (by intro e'; exact hj.1 (by simpa using e'))]
      exact h2.at_ j hj.2 zd
  exact ⟨w', hr', ⟨_, own_tight h4 (tells_size h4 ht (rise_delS hr)), ht⟩, h5.grown⟩

/-- A range over the map of frames: which pages are still to come. -/
def FRange (w : World) (b r : Nat) (keys : List Int) (blk : Int → Nat) (left : Int → Bool) (cnt : Nat) : Prop :=
  ∃ (D : DataW Unit) (lf : Lit → Bool), w.ranges Try.prog 3 ptrR b r keys.length D lf cnt ∧ Tells D keys blk ∧ (∀ k, lf (.int .i64 k) = left k) ∧ ∀ k, left k = true → k ∈ keys
theorem FRange.map {w : World} {b r : Nat} {keys : List Int} {blk : Int → Nat} {left : Int → Bool} {cnt : Nat} (h : FRange w b r keys blk left cnt) : FMap w b keys blk := by
  obtain ⟨D, lf, h1, h2, _⟩ := h
  exact ⟨D, h1.owns, h2⟩
theorem FRange.left_eq {w : World} {b r : Nat} {keys : List Int} {blk : Int → Nat} {left : Int → Bool} {cnt : Nat} (h : FRange w b r keys blk left cnt) : w.rangeLeft b r = cnt := by
  obtain ⟨D, lf, h1, h2, _⟩ := h
  exact h1.left_eq
theorem FRange.below {w w' : World} {b r : Nat} {keys : List Int} {blk : Int → Nat} {left : Int → Bool} {cnt : Nat} (h : FRange w b r keys blk left cnt) (hb : Below w.heap.size w w') : FRange w' b r keys blk left cnt := by
  obtain ⟨D, lf, h1, h2⟩ := h
  exact ⟨D, lf, h1.kept (row := none) ⟨hb.os, hb.tape, hb.output, hb.size, fun k hk _ => hb.block k hk⟩ (by simp) (by simp), h2⟩
theorem wp_rangeF (w : World) {ops : Array Oper} {rest : List Oper} {o : Oper} {a : Act} {Q : Exit → Act → World → Prop} (hgd : o.guard = none) (m : Operand) (hop : o.op = Op.range 93 m)
    (b : Nat) (keys : List Int) (blk : Int → Nat) (hm : a.eval m = .map (some b)) (hown : FMap w b keys blk)
    (h : ∀ w' cnt, FRange w' b w.heap.size keys blk (fun k => decide (k ∈ keys)) cnt → Below w.heap.size w w' → w'.heap.size = w.heap.size + 1 → wpList Try.prog ops Q rest (a.put o.dst (.pointer (some ⟨w.heap.size, 0, none⟩))) w') :
    wpList Try.prog ops Q (o :: rest) a w := by
  obtain ⟨D, h1, h2⟩ := hown
  refine wpList_range_own w hgd m 93 hop 3 _ keyed Try.underlying93 ptrR b keys.length D hm h1 ?_
  intro w' hrg hg hs
  exact h w' _ ⟨D, _, hrg, h2, h2.has, fun k hk => by simpa using hk⟩ ((Below.refl _ _).grown hg (Nat.le_refl _) (fun k hk => by cases hk)) hs
theorem wp_nextF (w : World) {ops : Array Oper} {rest : List Oper} {o : Oper} {a : Act} {Q : Exit → Act → World → Prop} (hgd : o.guard = none) (it : Operand) (hop : o.op = Op.next it false)
    (b r : Nat) (keys : List Int) (blk : Int → Nat) (left : Int → Bool) (cnt : Nat) (hit : a.eval it = .pointer (some ⟨r, 0, none⟩)) (h : FRange w b r keys blk left cnt)
    (hDone : (∀ k, left k = false) → wpList Try.prog ops Q rest (a.put o.dst (.tuple #[.bool false])) w)
    (hMore : ∀ (x : Int) (w' : World) (cnt' : Nat), left x = true → x ∈ keys → (-9223372036854775808 ≤ x ∧ x ≤ 9223372036854775807) → FRange w' b r keys blk (fun z => left z && decide (z ≠ x)) cnt' → cnt' < cnt → Below r w w' → Fr w w' (fun k => k = r) →
      (Instr.entry (.pointer (some ⟨r, 0, none⟩))).run Try.prog w' = .ok (.tuple #[.int .i64 x, .pointer (some ⟨blk x, 0, none⟩)]) w' → wpList Try.prog ops Q rest (a.put o.dst (.tuple #[.bool true, .int .i64 x, .pointer (some ⟨blk x, 0, none⟩)])) w') :
    wpList Try.prog ops Q (o :: rest) a w := by
  obtain ⟨D, lf, h1, h2, h3, h4⟩ := h
  have hrl := h1.lt
  refine wpList_next_ranges w hgd it hop 3 keyed ptrR (Value.int .i64) (fun c : Option Nat => .pointer (c.map fun b => ⟨b, 0, none⟩)) (fun key kl hk => by obtain ⟨x, hx, _⟩ := i64_of_key hk; exact ⟨x, hx⟩) (fun v y hv => by
    rcases ptrR_inv (d := y.1) (ps := y.2) hv with ⟨b, hb, _⟩ | ⟨hb, _⟩
    · exact ⟨some b, hb⟩
    · exact ⟨none, hb⟩) b r keys.length D lf cnt hit h1 (fun _ hl => hDone (fun k => by rw [← h3 k]; exact hl _)) ?_
  intro x c kl y w' cnt' hkey hlk hv hat hrg hlt hgr hsz hen
  obtain ⟨x', ex, rfl, hwf⟩ := i64_of_key hkey
  cases ex
  have hx : x ∈ keys := h4 x (by rw [← h3 x]; exact hlk)
  have hc : c = some (blk x) := by
    have e1 := hat (.lit (.int .i64 0))
    rw [h2.at_ x hx] at e1
    rcases ptrR_inv (d := y.1) (ps := y.2) hv with ⟨b, hb, hy⟩ | ⟨hb, hy⟩
    · rw [hy] at e1
      cases c with
      | none => cases hb
      | some c => simp [ptr] at hb e1; simp; omega
    · rw [hy] at e1; simp at e1
  subst hc
  refine hMore x w' cnt' (by rw [← h3 x]; exact hlk) hx (by simpa [Lit.wf, IntKind.min, IntKind.max, IntKind.signed, IntKind.bits] using hwf) ⟨D, _, hrg, h2, fun k => ?_, fun k hk => ?_⟩ hlt ((Below.refl _ _).grown hgr (by omega) (fun k hk => by cases hk; exact Nat.le_refl _)) (Fr.of_grown hgr (fun k hk => by cases hk; rfl)) hen
  · rw [h3 k]
    by_cases e : k = x
    · subst e; simp [Lit.sameKey]
    · simp [Lit.sameKey, e]
  · exact h4 k (by simp at hk; exact hk.1)
end Go.Proofs.Ytkmgahembhgloaa

/- What the law DiskPlays wants besides: both disks together; bytes that are overwritten; append of nothing. -/
import Derived.Test.YtggkclnnneoohaaD5ZA
import Derived.Test.YtggkclnnneoohaaP7O
namespace Go.Proofs.Ytggkclnnneoohaa
open Go.RowKit Go.Maps
set_option linter.unusedVariables false
set_option linter.unusedSimpArgs false

theorem refWrite_all {base : Nat} {w : World} {G : Nat → Prop} {q : Value} {N : Int} {F L : List EV} (h : RefAt base w G q N F L) (i : Int) (vb : Value) (xs : List UInt8) (hB : Bytes w vb xs) (hl : F.length + L.length < 100000) :
    Calls Try.prog 10 #[q, .int .i64 i, vb] w fun e w' => e = .returned (.int .i64 (writeE N i xs)) ∧ ∃ L', RefTurned base w G q N F L' w' ∧ L'.length ≤ L.length + 1 ∧ ∀ D, Same5 D N F L → Same5 (D.write i xs) N F L' := by
  have keep : ∀ D, ¬ ((0 ≤ i ∧ i < N) ∧ xs.length ≤ 128) → Same5 D N F L → Same5 (D.write i xs) N F L := fun D hn hD => by
    unfold DS.write
    rw [if_neg (by rw [hD.size]; exact hn)]
    exact hD
  by_cases h1 : 0 ≤ i ∧ i < N
  · by_cases h2 : xs.length ≤ 128
    · refine (refWrite_any h i h1 vb xs hB h2 hl).mono fun e w' ⟨he, v, ht⟩ => ⟨by rw [he, writeE, if_pos h1, if_pos h2], _, ht, by simp, fun D hD => ?_⟩
      unfold DS.write
      rw [if_pos ⟨by rw [hD.size]; exact h1, h2⟩]
      exact hD.write i v xs
    · refine (refWrite_long h i h1 vb xs hB (by omega)).mono fun e w' ⟨he, hw⟩ => ⟨by rw [he, writeE, if_pos h1, if_neg h2], L, ?_, by omega, fun D => keep D (fun hh => h2 hh.2)⟩
      subst hw
      exact ⟨G, h, Fr.refl _ _, fun k hk => Or.inl hk⟩
  · refine (refWrite_range h i (by omega) vb).mono fun e w' ⟨he, hw⟩ => ⟨by rw [he, writeE, if_neg h1], L, ?_, by omega, fun D => keep D (fun hh => h1 hh.1)⟩
    subst hw
    exact ⟨G, h, Fr.refl _ _, fun k hk => Or.inl hk⟩
theorem write_len5 {D : DS} (i : Int) (xs : List UInt8) : (D.write i xs).ws.length ≤ D.ws.length + 1 := by
  unfold DS.write; split <;> simp
/-- A row that is being overwritten. -/
structure Scrub (w wr : World) (gb C : Nat) : Prop where
  ex : ∃ cur, wr.heap[gb]? = some (.cells cur 5 (0, 0)) ∧ cur.size = C
  f : Fr w wr (fun k => k = gb)
theorem Scrub.start {w : World} {gb C : Nat} {cur : Array Value} (h : w.heap[gb]? = some (.cells cur 5 (0, 0))) (hc : cur.size = C) : Scrub w w gb C := ⟨⟨cur, h, hc⟩, Fr.refl _ _⟩
theorem Scrub.cell {w wr : World} {gb C : Nat} (h : Scrub w wr gb C) {k : Nat} (hk : k < C) : ∃ u, wr.cell? ⟨gb, k, none⟩ = some u := by
  obtain ⟨cur, hc, hs⟩ := h.ex
  refine ⟨cur[k]'(by omega), ?_⟩
  rw [cell_of_row wr gb k _ _ _ hc]
  simp [hs, hk]
theorem Scrub.frozen {w wr : World} {gb C : Nat} (h : Scrub w wr gb C) (k : Nat) : wr.frozen? ⟨gb, k, none⟩ = false := by
  obtain ⟨cur, hc, hs⟩ := h.ex
  exact frozen_row hc k
theorem Scrub.step {w wr : World} {gb C : Nat} (h : Scrub w wr gb C) (k : Nat) (u : Value) : Scrub w (wr.setCell ⟨gb, k, none⟩ u) gb C := by
  obtain ⟨cur, hc, hs⟩ := h.ex
  have he := setCell_eq_setRow wr gb k _ _ _ u hc
  refine ⟨⟨_, by rw [he]; exact setRow_heap wr gb _ _ _ _ hc, by simp [hs]⟩, h.f.trans (F := fun k => k = gb) (G := fun k => k = gb) ?_ (fun _ h => Or.inl h)⟩
  rw [he]
  exact ⟨rfl, rfl, rfl, by simp, fun i _ hi => setRow_other wr gb i _ hi⟩
/-- append of nothing. -/
theorem run_app0 (w : World) (base : Nat) (ty : TypeId) (g n cap : Nat) (xs : List UInt8) (hown : OwnB base w (.slice (some ⟨g, 0, none⟩) n cap) xs) (vo : Option Addr) (vc : Nat) (hbase : base ≤ w.heap.size) :
    ∃ w', (Builtin.append_ #[32, 32] ty #[.slice (some ⟨g, 0, none⟩) n cap, .slice vo 0 vc]).run Try.prog w = .ok (.slice (some ⟨g, 0, none⟩) n cap) w' ∧ OwnB base w' (.slice (some ⟨g, 0, none⟩) n cap) xs ∧ Below base w w' := by
  obtain ⟨i0, hi, hz0, hz1, hz2⟩ := info_parts infoB
  rcases id hown with ⟨h0, h2⟩
  rcases h2 with ⟨hv, hn⟩ | ⟨g', cap', cur, hv, hbg, hg, hnc, hcm, hcs, htake⟩
  · cases hv
  · cases hv
    cases vo with
    | none =>
      refine ⟨w, ?_, hown, Below.refl _ _⟩
      simp [Builtin.append_, run_underlying Try.underlying32, sizeOf, typeInfo, hi, Builtin.lenOf, Builtin.firstCells, hnc, storeCells]
    | some ad =>
      have hr := run_append_room (P := Try.prog) w 32 ty 5 i0 Try.underlying32 hi g xs.length cap cur hg ad 0 vc [] (by simp) (by simp) (by simp) hnc (by rw [hz1, hcs]; simp; omega)
      refine ⟨_, hr, ?_, ?_⟩
      · refine ⟨by simp, Or.inr ⟨g, cap, _, rfl, hbg, setRow_heap w g cur _ 5 _ hg, hnc, hcm, ?_, ?_⟩⟩
        · simp [hz1]; omega
        · rw [hz1, htake]
          simp
      · refine ⟨rfl, rfl, rfl, by simp, fun k hk => setRow_other w g k _ (by omega)⟩
theorem OwnB.cells {base : Nat} {w : World} {v : Value} {xs : List UInt8} (h : OwnB base w v xs) : (v = .slice none 0 0 ∧ xs = []) ∨ ∃ g cap cur, v = .slice (some ⟨g, 0, none⟩) xs.length cap ∧ base ≤ g ∧ w.heap[g]? = some (.cells cur 5 (0, 0)) ∧ cur.size = cap ∧ xs.length ≤ cap := by
  obtain ⟨h1, h2⟩ := h
  rcases h2 with ⟨hv, hn⟩ | ⟨g, cap, cur, hv, hg, hh, hc, hm, hs, hx⟩
  · exact Or.inl ⟨hv, List.eq_nil_of_length_eq_zero hn⟩
  · exact Or.inr ⟨g, cap, cur, hv, hg, hh, by omega, hc⟩
/-- append of bytes that lie somewhere, none or many, to an empty row that was laid now. -/
theorem wp_appF (w : World) {ops : Array Oper} {rest : List Oper} {o : Oper} {a : Act} {Q : Exit → Act → World → Prop} (hgd : o.guard = none) (s x : Operand)
    (ho : o.op = .call { callee := .builtin .append, args := #[s, x], argTypes := #[32, 32] })
    (hs : a.eval s = .slice (some ⟨w.heap.size, 0, none⟩) 0 0) (vb : Value) (ys : List UInt8) (hx : a.eval x = vb) (hB : Bytes w vb ys) (hl : ys.length ≤ 140737488351232)
    (h : ∀ g cap cur w', w.heap.size ≤ g → w'.heap[g]? = some (.cells cur 5 (0, 0)) → cur.size = cap → ys.length ≤ cap → Bytes w' (.slice (some ⟨g, 0, none⟩) ys.length cap) ys → Below w.heap.size w w' → wpList Try.prog ops Q rest (a.put o.dst (.slice (some ⟨g, 0, none⟩) ys.length cap)) w') : wpList Try.prog ops Q (o :: rest) a (w.alloc (.cells #[] 5)) := by
  have h0 : Below w.heap.size w (w.alloc (.cells #[] 5)) := (Below.refl _ _).alloc (Nat.le_refl _) _
  have hO : OwnB w.heap.size (w.alloc (.cells #[] 5)) (.slice (some ⟨w.heap.size, 0, none⟩) 0 0) [] := own_empty w.heap.size w (Nat.le_refl _)
  obtain ⟨ao, cap, rfl, hc, hcells⟩ := hB.form
  by_cases hy : 0 < ys.length
  · obtain ⟨ad, rfl, _⟩ := hcells hy
    have hC : ∀ j (hj : j < ys.length), (w.alloc (.cells #[] 5)).cell? (ad.add j) = some (bv ys[j]) := by
      rcases hB.keep h0 with ⟨h, _⟩ | ⟨a', cap', h, _, h2⟩
      · cases h
      · cases h; exact h2
    refine wp_appA _ hgd s x ho w.heap.size _ [] hs hO ad ys.length cap ys hx hC rfl hy (by simp; omega) (by simp) ?_
    intro v' w' ho' hg
    have hby := ho'.toBytes
    rcases ho'.cells with ⟨_, hn⟩ | ⟨g, c, cur, hv, hbg, hh, hcs, hlc⟩
    · simp at hn; rw [hn] at hy; simp at hy
    · simp only [List.nil_append] at hv hlc hby
      subst hv
      exact h g c cur w' hbg hh hcs hlc hby (h0.grown hg.grown (by simp) (own_ge hO))
  · have hy0 : ys = [] := List.eq_nil_of_length_eq_zero (by omega)
    subst hy0
    refine wpList_plain hgd fun K hK => ?_
    obtain ⟨w', hr, h2, h3⟩ := run_app0 (w.alloc (.cells #[] 5)) w.heap.size o.type w.heap.size 0 0 [] hO ao cap (by simp)
    unfold Oper.wp execOp
    simp only [List.length_nil] at hx
    simp only [ho, resolve, invoke, builtin, Sem.run_bind, Sem.run_pure, Result.andThen_ok, List.map_toArray, List.map_cons, List.map_nil, hs, hx, hr]
    rcases h2.cells with ⟨hn, _⟩ | ⟨g, c, cur, hv, hbg, hh, hcs, hlc⟩
    · cases hn
    · cases hv
      exact hK _ _ (h _ _ cur w' hbg hh hcs hlc h2.toBytes (h0.trans (h3.mono (Nat.le_refl _))))
/-- The document's disk, new. -/
theorem ref_new (base : Nat) (w : World) (N : Int) (hb : base ≤ w.heap.size) : RefAt base (w.alloc (.cells #[.int .i64 N, .slice none 0 0, .slice none 0 0] 31)) (fun k => k = w.heap.size) (.pointer (some ⟨w.heap.size, 0, none⟩)) N [] [] := by
  refine ⟨_, _, _, rfl, ⟨heap_alloc_new w _, ⟨rfl, Or.inl ⟨rfl, rfl⟩⟩, ⟨rfl, Or.inl ⟨rfl, rfl⟩⟩, by simp, by simp, rfl, by simp [Value.ownBlock], by simp [Value.ownBlock], by simp [Value.ownBlock], fun k hk => ?_, by simp⟩⟩
  subst hk
  exact ⟨hb, by simp⟩
theorem Two5.keepF {base : Nat} {w w' : World} {X G Y : Nat → Prop} {p q : Value} {n : Nat} {D : DS} {N : Int} {F L : List EV} (h : Two5 base w X G p q n D N F L) (hf : Fr w w' Y) (h1 : ∀ k, X k → ¬ Y k) (h2 : ∀ k, G k → ¬ Y k) : Two5 base w' X G p q n D N F L := ⟨h.d.keep hf h1, h.r.keep hf h2, h.a, h.s⟩
theorem RefAt.lo {base : Nat} {w : World} {G : Nat → Prop} {q : Value} {N : Int} {F L : List EV} (h : RefAt base w G q N F L) : ∀ k, G k → base ≤ k ∧ k < w.heap.size := by
  obtain ⟨g, vF, vL, hq, h⟩ := h; exact h.lo
/-- Both disks, whatever they hold. -/
structure Pair5 (base : Nat) (w : World) (X G : Nat → Prop) (p q : Value) (n : Nat) (D : DS) (N : Int) (F L : List EV) : Prop where
  d : DiskAt base w X p n D
  r : RefAt base w G q N F L
  a : ∀ k, X k → ¬ G k
theorem Two5.pair {base : Nat} {w : World} {X G : Nat → Prop} {p q : Value} {n : Nat} {D : DS} {N : Int} {F L : List EV} (h : Two5 base w X G p q n D N F L) : Pair5 base w X G p q n D N F L := ⟨h.d, h.r, h.a⟩
theorem Pair5.two {base : Nat} {w : World} {X G : Nat → Prop} {p q : Value} {n : Nat} {D : DS} {N : Int} {F L : List EV} (h : Pair5 base w X G p q n D N F L) (s : Same5 D N F L) : Two5 base w X G p q n D N F L := ⟨h.d, h.r, h.a, s⟩
theorem Pair5.keep {base : Nat} {w w' : World} {X G : Nat → Prop} {p q : Value} {n : Nat} {D : DS} {N : Int} {F L : List EV} (h : Pair5 base w X G p q n D N F L) (hb : Below w.heap.size w w') : Pair5 base w' X G p q n D N F L := ⟨h.d.keepB hb, h.r.keepB hb, h.a⟩
theorem Pair5.turnD {base : Nat} {w w' : World} {X G : Nat → Prop} {p q : Value} {n : Nat} {D D' : DS} {N : Int} {F L : List EV} (h : Pair5 base w X G p q n D N F L) (hb : base ≤ w.heap.size) (ht : Turned base w X p n D' w') : ∃ X', Pair5 base w' X' G p q n D' N F L ∧ Fr w w' X ∧ (∀ k, X' k → X k ∨ w.heap.size ≤ k) ∧ Below base w w' := by
  obtain ⟨X', h1, h2, h3⟩ := ht
  refine ⟨X', ⟨h1, h.r.keep h2 (fun k hk hx => h.a k hx hk), fun k hk hg => ?_⟩, h2, h3, h2.below hb (fun k hk => (h.d.lo k hk).1)⟩
  rcases h3 k hk with h4 | h4
  · exact h.a k h4 hg
  · have := (h.r.lo k hg).2; omega
theorem Pair5.turnR {base : Nat} {w w' : World} {X G : Nat → Prop} {p q : Value} {n : Nat} {D : DS} {N : Int} {F L L' : List EV} (h : Pair5 base w X G p q n D N F L) (hb : base ≤ w.heap.size) (ht : RefTurned base w G q N F L' w') : ∃ G', Pair5 base w' X G' p q n D N F L' ∧ Below base w w' := by
  obtain ⟨G', h1, h2, h3⟩ := ht
  refine ⟨G', ⟨h.d.keep h2 h.a, h1, fun k hk hg => ?_⟩, h2.below hb (fun k hk => (h.r.lo k hk).1)⟩
  rcases h3 k hg with h4 | h4
  · exact h.a k hk h4
  · have := (h.d.lo k hk).2; omega
theorem Pair5.scrub {base : Nat} {w w' : World} {X G : Nat → Prop} {p q : Value} {n : Nat} {D : DS} {N : Int} {F L : List EV} {gb C : Nat} (h : Pair5 base w X G p q n D N F L) (hs : Scrub w w' gb C) (h1 : ¬ X gb) (h2 : ¬ G gb) : Pair5 base w' X G p q n D N F L :=
  ⟨h.d.keep hs.f (fun k hk e => h1 (by rw [← e]; exact hk)), h.r.keep hs.f (fun k hk e => h2 (by rw [← e]; exact hk)), h.a⟩
theorem Scrub.below {w w' : World} {gb C B : Nat} (hs : Scrub w w' gb C) (hB : B ≤ gb) (h : B ≤ w.heap.size) : Below B w w' := hs.f.below h (fun k hk => by omega)
/-- Behind a loss of power. -/
theorem Two5.cutTo {base : Nat} {w w1 w2 : World} {X G X' : Nat → Prop} {p q c c2 : Value} {n n' : Nat} {D D' : DS} {N : Int} {F L FF : List EV} (h : Two5 base w X G p q n D N F L) (hb : base ≤ w.heap.size) (hD : DiskAt w.heap.size w1 X' c n' D') (hb1 : Below w.heap.size w w1)
    (hR : RefAt base w2 (fun k => G k ∨ w1.heap.size ≤ k ∧ k < w2.heap.size) c2 N FF []) (hb2 : Below w1.heap.size w1 w2) (hs : Same5 D' N FF []) : Two5 base w2 X' (fun k => G k ∨ w1.heap.size ≤ k ∧ k < w2.heap.size) c c2 n' D' N FF [] := by
  refine ⟨(hD.keepB hb2).base_le hb, hR, fun k hk hg => ?_, hs⟩
  have h1 := hD.lo k hk
  rcases hg with hg | hg
  · have := (h.r.lo k hg).2; omega
  · omega
theorem RefAt.lens {base : Nat} {w : World} {G : Nat → Prop} {q : Value} {N : Int} {F L : List EV} (h : RefAt base w G q N F L) : ∀ e ∈ L, e.sync = false → e.s.length = 128 := by
  obtain ⟨g, vF, vL, hq, h⟩ := h
  intro e he hs
  rcases h.oL e he with ⟨_, _, h3⟩ | ⟨k, _, _, _, h4, _⟩
  · rw [hs] at h3; cases h3
  · exact h4
theorem left_len (ks : List Bool) (l F L : List EV) (hl : l.length ≤ L.length) (S : Nat) : (leftE ks S l F).1.length ≤ F.length + L.length := by
  have := (leftE_len ks S l F l.length (Nat.le_refl _)).1
  rw [List.take_length] at this
  omega
end Go.Proofs.Ytggkclnnneoohaa

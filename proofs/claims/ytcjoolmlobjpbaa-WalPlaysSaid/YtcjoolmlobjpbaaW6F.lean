/- Package wal: a region's bytes, taken one behind the other; the next record. -/
import Derived.Test.YtcjoolmlobjpbaaW6C
namespace Go.Proofs.Ytcjoolmlobjpbaa
open Go.RowKit Go.Maps
set_option linter.unusedVariables false
set_option linter.unusedSimpArgs false

/-- A slice of bytes somewhere within a block that the call made. -/
def SlB (base : Nat) (w : World) (v : Value) (xs : List UInt8) : Prop :=
  (v = .slice none 0 0 ∧ xs = []) ∨ ∃ (g off cap : Nat) (cur : Array Value), v = .slice (some ⟨g, off, none⟩) xs.length cap ∧ base ≤ g ∧ w.heap[g]? = some (.cells cur 5 (0, 0)) ∧ xs.length ≤ cap ∧ (off + cap ≤ cur.size ∨ cap = 0) ∧ (cur.toList.drop off).take xs.length = xs.map bv
theorem SlB.cells {base : Nat} {w : World} {v : Value} {xs : List UInt8} {g off n cap : Nat} (h : SlB base w v xs) (hv : v = .slice (some ⟨g, off, none⟩) n cap) : ∀ j u, (xs.map bv)[j]? = some u → w.cell? ((⟨g, off, none⟩ : Addr).add j) = some u := by
  intro j u hu
  rcases h with ⟨h, _⟩ | ⟨g', off', cap', cur, hv', _, hg, _, _, ht⟩
  · rw [h] at hv; cases hv
  · rw [hv'] at hv; cases hv
    rw [← ht, List.getElem?_take] at hu
    split at hu
    · rw [List.getElem?_drop] at hu
      rw [Addr.add_mid, cell_of_row w g (off + j) cur _ _ hg]
      simpa using hu
    · cases hu
theorem SlB.bytes {base : Nat} {w : World} {v : Value} {xs : List UInt8} (h : SlB base w v xs) : Bytes w v xs := by
  have h0 := h
  rcases h with h | ⟨g, off, cap, cur, hv, _, hg, hc, _, ht⟩
  · exact Or.inl h
  · exact Or.inr ⟨_, cap, hv, hc, fun j hj => h0.cells hv j (bv xs[j]) (by simp [hj])⟩
theorem SlB.form {base : Nat} {w : World} {v : Value} {xs : List UInt8} (h : SlB base w v xs) : ∃ ao cap, v = .slice ao xs.length cap ∧ xs.length ≤ cap := by
  obtain ⟨ao, cap, hv, hc, _⟩ := h.bytes.form
  exact ⟨ao, cap, hv, hc⟩
theorem SlB.of_block {base : Nat} {w w' : World} {v : Value} {xs : List UInt8} (h : SlB base w v xs) (hb : ∀ b, v.ownBlock = some b → w'.heap[b]? = w.heap[b]?) : SlB base w' v xs := by
  rcases h with h | ⟨g, off, cap, cur, hv, hb0, hg, hr⟩
  · exact Or.inl h
  · exact Or.inr ⟨g, off, cap, cur, hv, hb0, (hb g (by rw [hv]; rfl)).trans hg, hr⟩
theorem SlB.lt {base : Nat} {w : World} {v : Value} {xs : List UInt8} (h : SlB base w v xs) : ∀ k, v.ownBlock = some k → base ≤ k ∧ k < w.heap.size := by
  intro k hk
  rcases h with ⟨h, _⟩ | ⟨g, off, cap, cur, hv, hb0, hg, hr⟩
  · rw [h] at hk; cases hk
  · rw [hv] at hk; cases hk
    exact ⟨hb0, (Array.getElem?_eq_some_iff.1 hg).1⟩
/-- append, to such a slice, of bytes that lie somewhere. -/
theorem run_appSl (w : World) (base : Nat) (ty : TypeId) (v : Value) (xs : List UInt8) (hown : SlB base w v xs) (ad : Addr) (m c : Nat) (ys : List UInt8) (hB : ∀ j (hj : j < ys.length), w.cell? (ad.add j) = some (bv ys[j])) (hm : ys.length = m) (hm0 : 0 < m) (hl : xs.length + m ≤ 140737488355328) (hbase : base ≤ w.heap.size) :
    ∃ v' w', (Builtin.append_ #[36, 36] ty #[v, .slice (some ad) m c]).run Try.prog w = .ok v' w' ∧ SlB base w' v' (xs ++ ys) ∧ GrowB w v w' v' := by
  obtain ⟨i0, hi, hz0, hz1, hz2⟩ := info_parts infoB
  have hnews : ∀ j u, (ys.map bv)[j]? = some u → w.cell? (ad.add j) = some u := by
    intro j u hu
    rw [List.getElem?_map] at hu
    cases hj : ys[j]? with
    | none => rw [hj] at hu; cases hu
    | some c =>
      rw [hj] at hu
      obtain ⟨hlt, hc⟩ := List.getElem?_eq_some_iff.1 hj
      rw [hB j hlt, hc]; exact hu
  have hnl : (ys.map bv).length = m * i0.size := by rw [List.length_map, hm, hz1, Nat.mul_one]
  have h0 := hown
  rcases hown with ⟨rfl, rfl⟩ | ⟨g, off, cap, cur, rfl, hbg, hg, hnc, hcs, htake⟩
  · have hr := run_append_nil (P := Try.prog) w 36 ty 5 i0 (.int .u8 0) Try.underlying36 hi hz0 ad m c (ys.map bv) hnl hnews hm0 (by simp at hl; omega) (by rw [hz2]; simp at hl; omega)
    have hge := grownCap_ge w m 0 5
    refine ⟨_, _, hr, Or.inr ⟨w.heap.size, 0, grownCap w m 0 5, _, by simp [hm], hbase, heap_alloc_new w.drew _, by simpa [hm] using hge, Or.inl ?_, ?_⟩, ⟨grownBy_trans (grownBy_drew w _) (World.grownBy_alloc w.drew _ _), Or.inr fun k hk => by simp [Value.ownBlock] at hk; omega⟩⟩
    · simp [size_zeroCells, Value.cells, hm]; omega
    · simp [hm]
  · have hlen : (xs.map bv).length = xs.length := by simp
    by_cases hroom : xs.length + m ≤ cap
    · have hcs' : off + cap ≤ cur.size := by
        rcases hcs with h | h
        · exact h
        · omega
      have hst := run_storeCells_at Try.prog g (off + xs.length * i0.size) 5 (ys.map bv) 0 cur w hg (by rw [hz1]; simp [hm]; omega) (one_bv ys)
      have hf := run_firstCells_some (P := Try.prog) w i0.size m ad m c (ys.map bv) hnl hnews
      simp only [Nat.add_zero] at hst
      refine ⟨.slice (some ⟨g, off, none⟩) (xs.length + m) cap, _, by
        simp [Builtin.append_, run_underlying Try.underlying36, sizeOf, typeInfo, hi, Builtin.lenOf, hroom, hf, Addr.add_mid, hst]
        rfl, ?_, ?_⟩
      · refine Or.inr ⟨g, off, cap, _, by simp [hm], hbg, setRow_heap w g cur _ 5 _ hg, by simpa [hm] using hroom, Or.inl ?_, ?_⟩
        · simp [hz1, hm]; omega
        · have hlt : (cur.toList.take (off + xs.length)).length = off + xs.length := by simp; omega
          have hd : (cur.toList.take (off + xs.length)).drop off = xs.map bv := by
            rw [List.drop_take, show off + xs.length - off = xs.length by omega, htake]
          rw [hz1, Nat.mul_one]
          simp only [List.append_assoc, List.toList_toArray]
          rw [List.drop_append, hd, hlt, show off - (off + xs.length) = 0 by omega, List.drop_zero]
          rw [List.length_append, hm, List.map_append, ← List.append_assoc, List.take_append, List.take_of_length_le (by simp [hm])]
          simp [hm]
      · exact ⟨⟨rfl, rfl, rfl, by simp, fun k hk hne => setRow_other w g k _ (by simpa [Value.ownBlock, eq_comm] using hne)⟩, Or.inl rfl⟩
    · have hr := run_append_grow (P := Try.prog) w 36 ty 5 i0 (.int .u8 0) Try.underlying36 hi hz0 ⟨g, off, none⟩ xs.length cap (xs.map bv) (by rw [hlen, hz1, Nat.mul_one]) (h0.cells rfl) ad m c (ys.map bv) hnl hnews (by omega) (by omega)
        (by rw [hz2]; have := cap_near (need := xs.length + m) (old := cap) (by omega); omega)
      have hge := grownCap_ge w (xs.length + m) cap 5
      refine ⟨_, _, hr, Or.inr ⟨w.heap.size, 0, grownCap w (xs.length + m) cap 5, _, by simp [hm], hbase, heap_alloc_new w.drew _, by simpa [hm] using hge, Or.inl ?_, ?_⟩, ⟨grownBy_trans (grownBy_drew w _) (World.grownBy_alloc w.drew _ _), Or.inr fun k hk => by simp [Value.ownBlock] at hk; omega⟩⟩
      · simp [size_zeroCells, Value.cells, hm]; omega
      · simp [hm, List.take_append]
        exact List.take_of_length_le (by simp)
theorem wp_appSl (w : World) {ops : Array Oper} {rest : List Oper} {o : Oper} {a : Act} {Q : Exit → Act → World → Prop} (hgd : o.guard = none) (s x : Operand)
    (ho : o.op = .call { callee := .builtin .append, args := #[s, x], argTypes := #[36, 36] })
    (base : Nat) (v : Value) (xs : List UInt8) (hs : a.eval s = v) (hown : SlB base w v xs) (ad : Addr) (m c : Nat) (ys : List UInt8) (hx : a.eval x = .slice (some ad) m c) (hB : ∀ j (hj : j < ys.length), w.cell? (ad.add j) = some (bv ys[j])) (hm : ys.length = m) (hm0 : 0 < m) (hl : xs.length + m ≤ 140737488355328) (hbase : base ≤ w.heap.size)
    (h : ∀ v' w', SlB base w' v' (xs ++ ys) → GrowB w v w' v' → wpList Try.prog ops Q rest (a.put o.dst v') w') : wpList Try.prog ops Q (o :: rest) a w := by
  refine wpList_plain hgd fun K hK => ?_
  obtain ⟨v', w', hr, h2, h3⟩ := run_appSl w base o.type v xs hown ad m c ys hB hm hm0 hl hbase
  unfold Oper.wp execOp
  simp only [ho, resolve, invoke, builtin, Sem.run_bind, Sem.run_pure, Result.andThen_ok, List.map_toArray, List.map_cons, List.map_nil, hs, hx, hr]
  exact hK _ _ (h v' w' h2 h3)

/-- What the taking of bytes stands on: what is held, the next sector, the end, the disk. -/
structure Tk (base : Nat) (w : World) (T : Nat → Prop) (gh gn ge gd : Nat) (pd sv : Value) (held : List UInt8) (nx en : Nat) : Prop where
  hh : w.heap[gh]? = some (.cells #[sv] 36 (0, 0))
  hn : w.heap[gn]? = some (.cells #[.int .i64 nx] 3 (0, 0))
  he : w.heap[ge]? = some (.cells #[.int .i64 en] 3 (0, 0))
  hd : w.heap[gd]? = some (.cells #[pd] 25 (0, 0))
  sl : SlB base w sv held
  th : T gh
  tn : T gn
  te : T ge
  td : T gd
  ts : ∀ k, sv.ownBlock = some k → T k
  ne : gn ≠ ge
  lo : ∀ k, T k → base ≤ k ∧ k < w.heap.size
  nxen : nx ≤ en
  hlen : held.length ≤ 1000000
theorem Tk.keep {base : Nat} {w w' : World} {F T : Nat → Prop} {gh gn ge gd : Nat} {pd sv : Value} {held : List UInt8} {nx en : Nat} (h : Tk base w T gh gn ge gd pd sv held nx en) (hf : Fr w w' F) (hd : ∀ k, T k → ¬ F k) : Tk base w' T gh gn ge gd pd sv held nx en := by
  have hb : ∀ k, T k → w'.heap[k]? = w.heap[k]? := fun k hk => hf.block k (h.lo k hk).2 (hd k hk)
  exact { h with
    hh := (hb _ h.th).trans h.hh
    hn := (hb _ h.tn).trans h.hn
    he := (hb _ h.te).trans h.he
    hd := (hb _ h.td).trans h.hd
    sl := h.sl.of_block (fun k hk => hb k (h.ts k hk))
    lo := fun k hk => ⟨(h.lo k hk).1, Nat.lt_of_lt_of_le (h.lo k hk).2 hf.size⟩ }
theorem cell_one {w : World} {g : Nat} {v : Value} {t : TypeId} (h : w.heap[g]? = some (.cells #[v] t (0, 0))) : w.cell? ⟨g, 0, none⟩ = some v := by
  rw [cell_of_row w g 0 _ _ _ h]; rfl
theorem one_setCell {w : World} {g : Nat} {v u : Value} {t : TypeId} (h : w.heap[g]? = some (.cells #[v] t (0, 0))) : (w.setCell ⟨g, 0, none⟩ u).heap[g]? = some (.cells #[u] t (0, 0)) := by
  rw [setCell_eq_setRow w g 0 _ _ _ u h, setRow_heap w g _ _ _ _ h]; rfl
theorem Tk.distinct {base : Nat} {w : World} {T : Nat → Prop} {gh gn ge gd : Nat} {pd sv : Value} {held : List UInt8} {nx en : Nat} (h : Tk base w T gh gn ge gd pd sv held nx en) :
    gh ≠ gn ∧ gh ≠ ge ∧ gh ≠ gd ∧ gn ≠ gd ∧ ge ≠ gd ∧ sv.ownBlock ≠ some gh ∧ sv.ownBlock ≠ some gn ∧ sv.ownBlock ≠ some ge ∧ sv.ownBlock ≠ some gd := by
  have hs : ∀ k, sv.ownBlock = some k → ∃ cur, w.heap[k]? = some (.cells cur 5 (0, 0)) := by
    intro k hk
    rcases h.sl with ⟨e, _⟩ | ⟨g, off, cap, cur, hv, _, hg, _⟩
    · rw [e] at hk; cases hk
    · rw [hv] at hk; cases hk; exact ⟨cur, hg⟩
  refine ⟨fun e => ?_, fun e => ?_, fun e => ?_, fun e => ?_, fun e => ?_, fun e => ?_, fun e => ?_, fun e => ?_, fun e => ?_⟩
  · have := h.hh; rw [e, h.hn] at this; simp at this
  · have := h.hh; rw [e, h.he] at this; simp at this
  · have := h.hh; rw [e, h.hd] at this; simp at this
  · have := h.hn; rw [e, h.hd] at this; simp at this
  · have := h.he; rw [e, h.hd] at this; simp at this
  · obtain ⟨cur, hc⟩ := hs _ e; rw [h.hh] at hc; simp at hc
  · obtain ⟨cur, hc⟩ := hs _ e; rw [h.hn] at hc; simp at hc
  · obtain ⟨cur, hc⟩ := hs _ e; rw [h.he] at hc; simp at hc
  · obtain ⟨cur, hc⟩ := hs _ e; rw [h.hd] at hc; simp at hc
/-- The held slice is another one. -/
theorem Tk.newHeld {base : Nat} {w w1 : World} {T : Nat → Prop} {gh gn ge gd : Nat} {pd sv sv' : Value} {held held' : List UInt8} {nx en : Nat} (h : Tk base w T gh gn ge gd pd sv held nx en) (hg : GrowB w sv w1 sv') (ho : SlB base w1 sv' held') (hl : held'.length ≤ 1000000) :
    Tk base (w1.setCell ⟨gh, 0, none⟩ sv') (Gplus T w w1) gh gn ge gd pd sv' held' nx en ∧ Fr w (w1.setCell ⟨gh, 0, none⟩ sv') T := by
  obtain ⟨d1, d2, d3, d4, d5, d6, d7, d8, d9⟩ := h.distinct
  have hfs : Fr w1 (w1.setCell ⟨gh, 0, none⟩ sv') (fun k => k = gh) := fr_set _ _ _ _
  have f1 : Fr w w1 T := Fr.of_grown hg.grown (fun k hk => h.ts k hk)
  have k1 : ∀ k, T k → sv.ownBlock ≠ some k → w1.heap[k]? = w.heap[k]? := fun k hk hne => hg.grown.block k (h.lo k hk).2 (fun e => hne e.symm)
  have k2 : ∀ k, T k → sv.ownBlock ≠ some k → k ≠ gh → (w1.setCell ⟨gh, 0, none⟩ sv').heap[k]? = w.heap[k]? := fun k hk hne hne2 => (hfs.block k (Nat.lt_of_lt_of_le (h.lo k hk).2 hg.grown.size) hne2).trans (k1 k hk hne)
  have hne : sv'.ownBlock ≠ some gh := by
    rcases hg.own with e | e
    · rw [e]; exact d6
    · intro e2; have := e gh e2; have := h.lo gh h.th; omega
  refine ⟨{ h with
    hh := one_setCell ((k1 gh h.th d6).trans h.hh)
    hn := (k2 gn h.tn d7 (fun e => d1 e.symm)).trans h.hn
    he := (k2 ge h.te d8 (fun e => d2 e.symm)).trans h.he
    hd := (k2 gd h.td d9 (fun e => d3 e.symm)).trans h.hd
    sl := ho.of_block (fun k hk => hfs.block k (ho.lt k hk).2 (fun e => hne (by rw [← e]; exact hk)))
    th := Or.inl h.th
    tn := Or.inl h.tn
    te := Or.inl h.te
    td := Or.inl h.td
    ts := fun k hk => ?_
    lo := fun k hk => ?_
    hlen := hl }, f1.trans hfs (fun i hi => Or.inl (by rw [hi]; exact h.th))⟩
  · rcases hg.own with e | e
    · exact Or.inl (h.ts k (by rw [← e]; exact hk))
    · exact Or.inr ⟨e k hk, (ho.lt k hk).2⟩
  · have hs := hg.grown.size
    have hsz : (w1.setCell ⟨gh, 0, none⟩ sv').heap.size = w1.heap.size := by simp [World.setCell]
    rcases hk with hk | hk
    · have := h.lo k hk; omega
    · have := h.lo gh h.th; omega
theorem Tk.newNext {base : Nat} {w : World} {T : Nat → Prop} {gh gn ge gd : Nat} {pd sv : Value} {held : List UInt8} {nx en nx' : Nat} (h : Tk base w T gh gn ge gd pd sv held nx en) (hn : nx' ≤ en) :
    Tk base (w.setCell ⟨gn, 0, none⟩ (.int .i64 nx')) T gh gn ge gd pd sv held nx' en ∧ Fr w (w.setCell ⟨gn, 0, none⟩ (.int .i64 nx')) T := by
  obtain ⟨d1, d2, d3, d4, d5, d6, d7, d8, d9⟩ := h.distinct
  have hfs : Fr w (w.setCell ⟨gn, 0, none⟩ (.int .i64 nx')) (fun k => k = gn) := fr_set _ _ _ _
  have k2 : ∀ k, T k → k ≠ gn → (w.setCell ⟨gn, 0, none⟩ (.int .i64 nx')).heap[k]? = w.heap[k]? := fun k hk hne => hfs.block k (h.lo k hk).2 hne
  exact ⟨{ h with
    hh := (k2 gh h.th d1).trans h.hh
    hn := one_setCell h.hn
    he := (k2 ge h.te (fun e => h.ne e.symm)).trans h.he
    hd := (k2 gd h.td (fun e => d4 e.symm)).trans h.hd
    sl := h.sl.of_block (fun k hk => k2 k (h.ts k hk) (fun e => d7 (by rw [← e]; exact hk)))
    lo := fun k hk => ⟨(h.lo k hk).1, Nat.lt_of_lt_of_le (h.lo k hk).2 hfs.size⟩
    nxen := hn }, hfs.mono (fun k hk => by rw [hk]; exact h.tn)⟩
end Go.Proofs.Ytcjoolmlobjpbaa

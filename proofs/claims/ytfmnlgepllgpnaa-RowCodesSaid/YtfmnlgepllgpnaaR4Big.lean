/- append, to bytes that the call made, of bytes that lie somewhere, however many a process can hold. -/
import Derived.Test.YtfmnlgepllgpnaaRAWalk
namespace Go.Proofs.Ytfmnlgepllgpnaa
open Go.RowKit
set_option linter.unusedVariables false

/-- What a slice grows to is not much more than it needs. -/
theorem cap_near {need old : Nat} (h : old < need) : Builtin.nextslicecap need old ≤ need + need / 4 + 1000 := by
  unfold Builtin.nextslicecap
  split
  · omega
  · split
    · omega
    · rw [growBy_four]
      repeat' split
      all_goals omega
theorem bytes_news {w : World} {ad : Addr} {ys : List UInt8} (hB : ∀ j (hj : j < ys.length), w.cell? (ad.add j) = some (bv ys[j])) : ∀ j u, (ys.map bv)[j]? = some u → w.cell? (ad.add j) = some u := by
  intro j u hu
  rw [List.getElem?_map] at hu
  cases hj : ys[j]? with
  | none => rw [hj] at hu; cases hu
  | some c =>
    rw [hj] at hu
    obtain ⟨hlt, hc⟩ := List.getElem?_eq_some_iff.1 hj
    rw [hB j hlt, hc]; exact hu
theorem run_appL (w : World) (base : Nat) (ty : TypeId) (v : Value) (xs : List UInt8) (hown : OwnB base w v xs)
    (ad : Addr) (m c : Nat) (ys : List UInt8) (hB : ∀ j (hj : j < ys.length), w.cell? (ad.add j) = some (bv ys[j])) (hm : ys.length = m) (hm0 : 0 < m)
    (hl : xs.length + m ≤ 200000000000000) (hbase : base ≤ w.heap.size) :
    ∃ v' w', (Builtin.append_ #[25, 25] ty #[v, .slice (some ad) m c]).run Try.prog w = .ok v' w' ∧ OwnB base w' v' (xs ++ ys) ∧ Below base w w' := by
  obtain ⟨i0, hi, hz0, hz1, hz2⟩ := info_parts infoB
  have hnews := bytes_news hB
  have hnl : (ys.map bv).length = m * i0.size := by rw [List.length_map, hm, hz1, Nat.mul_one]
  have hge := own_ge hown
  rcases id hown with ⟨h0, h2⟩
  rcases h2 with ⟨rfl, hn⟩ | ⟨g, cap, cur, rfl, hbg, hg, hnc, hcm, hcs, htake⟩
  · have hx : xs = [] := List.eq_nil_of_length_eq_zero hn
    subst hx
    have hr := run_append_nil (P := Try.prog) w 25 ty 5 i0 (.int .u8 0) Try.underlying25 hi hz0 ad m c (ys.map bv) hnl hnews hm0 (by omega) (by rw [hz2]; simp at hl; omega)
    refine ⟨_, _, hr, ?_, ((Below.refl _ _).drew).alloc hbase _⟩
    have hge := grownCap_ge w m 0 5
    refine ⟨by simp, Or.inr ⟨w.heap.size, _, _, by simp [hm], hbase, heap_alloc_new w.drew _, by simpa [hm] using hge, grownCap_le_maxLen w m 0 5 (by unfold maxLen; omega), ?_, ?_⟩⟩
    · simp [size_zeroCells, Value.cells, hm]
      omega
    · simp [hm]
  · have hlen : (xs.map bv).length = xs.length := by simp
    by_cases hroom : xs.length + m ≤ cap
    · have hfit : xs.length * i0.size + (ys.map bv).length ≤ cur.size := by rw [hnl, hcs, hz1]; omega
      have hr := run_append_room (P := Try.prog) w 25 ty 5 i0 Try.underlying25 hi g xs.length cap cur hg ad m c (ys.map bv) hnl hnews (one_bv ys) hroom hfit
      refine ⟨_, _, hr, ?_, ?_⟩
      · refine ⟨by simp, Or.inr ⟨g, cap, _, by simp [hm], hbg, setRow_heap w g cur _ 5 _ hg, by simpa [hm] using hroom, hcm, ?_, ?_⟩⟩
        · simp [hz1, hm] at hfit ⊢
          omega
        · rw [hz1, htake]
          simp [hm, List.take_append]
          exact List.take_of_length_le (by simp)
      · refine ⟨rfl, rfl, rfl, by simp, fun k hk => setRow_other w g k _ (by omega)⟩
    · have hr := run_append_grow (P := Try.prog) w 25 ty 5 i0 (.int .u8 0) Try.underlying25 hi hz0 ⟨g, 0, none⟩ xs.length cap (xs.map bv) (by rw [hlen, hz1, Nat.mul_one]) (World.ownsRow.cells hown rfl) ad m c (ys.map bv) hnl hnews (by omega) (by omega)
        (by rw [hz2]; have := cap_near (need := xs.length + m) (old := cap) (by omega); omega)
      refine ⟨_, _, hr, ?_, ((Below.refl _ _).drew).alloc hbase _⟩
      have hge := grownCap_ge w (xs.length + m) cap 5
      refine ⟨by simp, Or.inr ⟨w.heap.size, _, _, by simp [hm], hbase, heap_alloc_new w.drew _, by simpa [hm] using hge, grownCap_le_maxLen w (xs.length + m) cap 5 (by unfold maxLen; omega), ?_, ?_⟩⟩
      · simp [size_zeroCells, Value.cells, hm]
        omega
      · simp [hm, List.take_append]
        exact List.take_of_length_le (by simp)
/-- append of nothing. -/
theorem run_app0 (w : World) (base : Nat) (ty : TypeId) (g n cap : Nat) (xs : List UInt8) (hown : OwnB base w (.slice (some ⟨g, 0, none⟩) n cap) xs) (vo : Option Addr) (vc : Nat) (hbase : base ≤ w.heap.size) :
    ∃ v' w', (Builtin.append_ #[25, 25] ty #[.slice (some ⟨g, 0, none⟩) n cap, .slice vo 0 vc]).run Try.prog w = .ok v' w' ∧ OwnB base w' v' xs ∧ Below base w w' := by
  obtain ⟨i0, hi, hz0, hz1, hz2⟩ := info_parts infoB
  rcases id hown with ⟨h0, h2⟩
  rcases h2 with ⟨hv, hn⟩ | ⟨g', cap', cur, hv, hbg, hg, hnc, hcm, hcs, htake⟩
  · cases hv
  · cases hv
    cases vo with
    | none =>
      refine ⟨_, w, ?_, hown, Below.refl _ _⟩
      simp [Builtin.append_, run_underlying Try.underlying25, sizeOf, typeInfo, hi, Builtin.lenOf, Builtin.firstCells, hnc, storeCells]
    | some ad =>
      have hr := run_append_room (P := Try.prog) w 25 ty 5 i0 Try.underlying25 hi g xs.length cap cur hg ad 0 vc [] (by simp) (by simp) (by simp) hnc (by rw [hz1, hcs]; simp; omega)
      refine ⟨_, _, hr, ?_, ?_⟩
      · refine ⟨by simp, Or.inr ⟨g, cap, _, rfl, hbg, setRow_heap w g cur _ 5 _ hg, hnc, hcm, ?_, ?_⟩⟩
        · simp [hz1]; omega
        · rw [hz1, htake]
          simp
      · refine ⟨rfl, rfl, rfl, by simp, fun k hk => setRow_other w g k _ (by omega)⟩
theorem wp_app0 (w : World) {ops : Array Oper} {rest : List Oper} {o : Oper} {a : Act} {Q : Exit → Act → World → Prop} (hgd : o.guard = none) (s x : Operand)
    (ho : o.op = .call { callee := .builtin .append, args := #[s, x], argTypes := #[25, 25] })
    (base g n cap : Nat) (xs : List UInt8) (hs : a.eval s = .slice (some ⟨g, 0, none⟩) n cap) (hown : OwnB base w (.slice (some ⟨g, 0, none⟩) n cap) xs) (vo : Option Addr) (vc : Nat) (hx : a.eval x = .slice vo 0 vc) (hbase : base ≤ w.heap.size)
    (h : ∀ v' w', OwnB base w' v' xs → Below base w w' → wpList Try.prog ops Q rest (a.put o.dst v') w') : wpList Try.prog ops Q (o :: rest) a w := by
  refine wpList_plain hgd fun K hK => ?_
  obtain ⟨v', w', hr, h2, h3⟩ := run_app0 w base o.type g n cap xs hown vo vc hbase
  unfold Oper.wp execOp
  simp only [ho, resolve, invoke, builtin, Sem.run_bind, Sem.run_pure, Result.andThen_ok, List.map_toArray, List.map_cons, List.map_nil, hs, hx, hr]
  exact hK _ _ (h v' w' h2 h3)
theorem wp_appL (w : World) {ops : Array Oper} {rest : List Oper} {o : Oper} {a : Act} {Q : Exit → Act → World → Prop} (hgd : o.guard = none) (s x : Operand)
    (ho : o.op = .call { callee := .builtin .append, args := #[s, x], argTypes := #[25, 25] })
    (base : Nat) (v : Value) (xs : List UInt8) (hs : a.eval s = v) (hown : OwnB base w v xs)
    (ad : Addr) (m c : Nat) (ys : List UInt8) (hx : a.eval x = .slice (some ad) m c) (hB : ∀ j (hj : j < ys.length), w.cell? (ad.add j) = some (bv ys[j])) (hm : ys.length = m) (hm0 : 0 < m)
    (hl : xs.length + m ≤ 200000000000000) (hbase : base ≤ w.heap.size)
    (h : ∀ v' w', OwnB base w' v' (xs ++ ys) → Below base w w' → wpList Try.prog ops Q rest (a.put o.dst v') w') : wpList Try.prog ops Q (o :: rest) a w := by
  refine wpList_plain hgd fun K hK => ?_
  obtain ⟨v', w', hr, h2, h3⟩ := run_appL w base o.type v xs hown ad m c ys hB hm hm0 hl hbase
  unfold Oper.wp execOp
  simp only [ho, resolve, invoke, builtin, Sem.run_bind, Sem.run_pure, Result.andThen_ok, List.map_toArray, List.map_cons, List.map_nil, hs, hx, hr]
  exact hK _ _ (h v' w' h2 h3)
end Go.Proofs.Ytfmnlgepllgpnaa

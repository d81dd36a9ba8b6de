/- The document's pool: rows of frames grow; which frame goes. -/
import Derived.Test.YtpmbpadckbkglaaP7RK
namespace Go.Proofs.Ytpmbpadckbkglaa
open Go.RowKit Go.Maps
set_option linter.unusedVariables false
set_option linter.unusedSimpArgs false

theorem infoF : (Try.prog.info? 95).map (fun i => (i.zero, i.size, i.bytes)) = some (some (.agg #[.int .i64 0, .int .i64 0, .bool false, .int .u64 0, .slice none 0 0, .int .i64 0]), 6, 64) := by kernel_rfl
theorem one_cellsR (l : List RF) (h : ∀ f ∈ l, f.v.oneCell' = true) : ∀ u ∈ l.flatMap cellsR, u.oneCell' = true := by
  intro u hu
  obtain ⟨f, hf, hu⟩ := List.mem_flatMap.1 hu
  simp only [cellsR, List.mem_cons, List.not_mem_nil, or_false] at hu
  rcases hu with rfl | rfl | rfl | rfl | rfl | rfl
  all_goals first | rfl | exact h f hf
theorem range_flat {w : World} {g o : Nat} {l : List RF} (h : ∀ k (hk : k < l.length), w.rangeAt g (o + k * 6) (cellsR l[k])) : ∀ j u, (l.flatMap cellsR)[j]? = some u → w.cell? ⟨g, o + j, none⟩ = some u := by
  intro j u hu
  have hlt := (List.getElem?_eq_some_iff.1 hu).1
  rw [flat_len cellsR 6 l (fun x _ => rfl)] at hlt
  have hk : j / 6 < l.length := by omega
  have e : j = (j / 6) * 6 + j % 6 := by omega
  rw [e, flat_at cellsR 6 l (fun x _ => rfl) (j / 6) hk (j % 6) (Nat.mod_lt _ (by decide))] at hu
  have := h (j / 6) hk (j % 6) u hu
  rwa [show o + j / 6 * 6 + j % 6 = o + j by omega] at this
/-- What an append of frames leaves. -/
structure AppR (base : Nat) (w : World) (v : Value) (l : List RF) (w' : World) (v' : Value) : Prop where
  own : OwnF base w' v' l
  gr : w.grownBy w' v.ownBlock
  at_ : v'.ownBlock = v.ownBlock ∨ ∀ k, v'.ownBlock = some k → w.heap.size ≤ k
theorem run_appR0 (w : World) (base : Nat) (ty : TypeId) (v : Value) (l : List RF) (hown : OwnF base w v l) (vo : Option Addr) (vc : Nat) :
    ∃ w', (Builtin.append_ #[39, 39] ty #[v, .slice vo 0 vc]).run Try.prog w = .ok v w' ∧ AppR base w v l w' v := by
  obtain ⟨i0, hi, hz0, hz1, hz2⟩ := info_parts infoF
  rcases id hown with ⟨h0, h2⟩
  rcases h2 with ⟨hv, hn⟩ | ⟨g, cap, cur, hv, hbg, hg, hnc, hcm, hcs, htake⟩
  · subst hv
    refine ⟨w, ?_, hown, World.grownBy.refl _ _, Or.inl rfl⟩
    cases vo with
    | none => simp [Builtin.append_, run_underlying Try.underlying39, sizeOf, typeInfo, hi, Builtin.lenOf, Builtin.firstCells, storeCells]
    | some ad => simp [Builtin.append_, run_underlying Try.underlying39, sizeOf, typeInfo, hi, Builtin.lenOf, Builtin.firstCells, storeCells, loadCells, loadCellsFrom]
  · subst hv
    cases vo with
    | none =>
      refine ⟨w, ?_, hown, World.grownBy.refl _ _, Or.inl rfl⟩
      simp [Builtin.append_, run_underlying Try.underlying39, sizeOf, typeInfo, hi, Builtin.lenOf, Builtin.firstCells, hnc, storeCells]
    | some ad =>
      have hr := run_append_room (P := Try.prog) w 39 ty 95 i0 Try.underlying39 hi g l.length cap cur hg ad 0 vc [] (by simp) (by simp) (by simp) hnc (by rw [hz1, hcs]; simp; omega)
      refine ⟨_, hr, ?_, ?_, Or.inl rfl⟩
      · refine ⟨h0, Or.inr ⟨g, cap, _, rfl, hbg, setRow_heap w g cur _ 95 _ hg, hnc, hcm, ?_, ?_⟩⟩
        · simp [hz1]; omega
        · rw [hz1, htake]
          simp
          exact List.take_left' h0
      · refine ⟨rfl, rfl, rfl, by simp, fun k hk hne => setRow_other w g k _ (fun e => hne (by rw [e]; rfl))⟩
/-- append of frames that lie somewhere, none or some. -/
theorem wp_appR (w : World) {ops : Array Oper} {rest : List Oper} {o : Oper} {a : Act} {Q : Exit → Act → World → Prop} (hgd : o.guard = none) (s x : Operand)
    (ho : o.op = .call { callee := .builtin .append, args := #[s, x], argTypes := #[39, 39] })
    (base : Nat) (v : Value) (l : List RF) (hs : a.eval s = v) (hown : OwnF base w v l) (xo : Option Addr) (m xc : Nat) (l2 : List RF) (hx : a.eval x = .slice xo m xc) (hm : l2.length = m) (hrow : l2 = [] ∨ ∃ gx ox, xo = some ⟨gx, ox, none⟩ ∧ ∀ k (hk : k < l2.length), w.rangeAt gx (ox + k * 6) (cellsR l2[k])) (hone : ∀ f ∈ l2, f.v.oneCell' = true)
    (hl : l.length + l2.length ≤ 1000) (hbase : base ≤ w.heap.size)
    (h : ∀ ao n c w', AppR base w v (l ++ l2) w' (.slice ao n c) → wpList Try.prog ops Q rest (a.put o.dst (.slice ao n c)) w') : wpList Try.prog ops Q (o :: rest) a w := by
  subst hm
  rcases hrow with h0 | ⟨gx, ox, rfl, hrow⟩
  · subst h0
    refine wpList_plain hgd fun K hK => ?_
    obtain ⟨w', hr, hA⟩ := run_appR0 w base o.type v l hown xo xc
    unfold Oper.wp execOp
    simp only [List.length_nil] at hx
    simp only [ho, resolve, invoke, builtin, Sem.run_bind, Sem.run_pure, Result.andThen_ok, List.map_toArray, List.map_cons, List.map_nil, hs, hx, hr]
    obtain ⟨ao, cap, hv, _⟩ := hown.form
    rw [List.append_nil] at h
    subst hv
    exact hK _ _ (h ao _ _ w' hA)
  · by_cases h0 : l2 = []
    · subst h0
      refine wpList_plain hgd fun K hK => ?_
      obtain ⟨w', hr, hA⟩ := run_appR0 w base o.type v l hown (some ⟨gx, ox, none⟩) xc
      unfold Oper.wp execOp
      simp only [List.length_nil] at hx
      simp only [ho, resolve, invoke, builtin, Sem.run_bind, Sem.run_pure, Result.andThen_ok, List.map_toArray, List.map_cons, List.map_nil, hs, hx, hr]
      obtain ⟨ao, cap, hv, _⟩ := hown.form
      rw [List.append_nil] at h
      subst hv
      exact hK _ _ (h ao _ _ w' hA)
    · have hpos : 0 < l2.length := List.length_pos_iff.2 h0
      obtain ⟨i0, hi, hz0, hz1, hz2⟩ := info_parts infoF
      refine wpList_append_lies w hgd s x 39 ho base 95 i0 _ 6 64 Try.underlying39 hi hz0 hz1 hz2 rfl (by decide) v l.length (l.flatMap cellsR) hs hown ⟨gx, ox, none⟩ l2.length xc (l2.flatMap cellsR) hx (flat_len cellsR 6 l2 (fun x _ => rfl)) (fun j u hu => by
        have h5 := range_flat hrow j u hu
        unfold Addr.add
        by_cases h6 : j = 0
        · subst h6; simpa using h5
        · simpa [h6] using h5) (one_cellsR l2 hone) hpos (by unfold maxLen; omega) (by omega) hbase w.heap.size rfl ?_
      intro gk cap w' h1 h2 h3 _
      refine h _ _ _ w' ⟨?_, h2, ?_⟩
      · unfold OwnF
        rw [List.length_append, List.flatMap_append]
        exact h1
      · rcases h3 with h3 | h3
        · exact Or.inl h3.symm
        · exact Or.inr fun k hk => by simp [Value.ownBlock] at hk; omega
/-- May a frame of the document's go? -/
def candR (log : Int) (f : RF) : Bool := decide (f.pins = 0) && !(f.dirty && decide (f.mark > log))
/-- Where the search of the frame that goes stands. -/
structure VBest (l : List RF) (log : Int) (k : Nat) (vi : Int) (sb : Bool) : Prop where
  some : sb = true ↔ ∃ j, ∃ hj : j < l.length, j < k ∧ l[j].pins = 0
  v : (vi = -1 ∧ ∀ j (hj : j < l.length), j < k → candR log l[j] = false) ∨ (∃ v, ∃ hv : v < l.length, v < k ∧ vi = v ∧ candR log l[v] = true ∧ ∀ j (hj : j < l.length), j < k → candR log l[j] = true → l[v].used ≤ l[j].used)
theorem VBest.zero (l : List RF) (log : Int) : VBest l log 0 (-1) false := ⟨by simp, Or.inl ⟨rfl, fun j _ h => by omega⟩⟩
theorem VBest.lo {l : List RF} {log : Int} {k : Nat} {vi : Int} {sb : Bool} (h : VBest l log k vi sb) : -1 ≤ vi ∧ vi < k ∨ vi = -1 := by
  rcases h.v with ⟨h1, _⟩ | ⟨v, _, h1, h2, _⟩
  · exact Or.inr h1
  · exact Or.inl (by omega)
/-- The frame k is passed by. -/
theorem VBest.pass {l : List RF} {log : Int} {k : Nat} {vi : Int} {sb : Bool} (h : VBest l log k vi sb) (hk : k < l.length) (sb' : Bool) (hs : sb' = (sb || decide (l[k].pins = 0))) (hc : candR log l[k] = false ∨ ∃ v, ∃ hv : v < l.length, vi = v ∧ l[v].used ≤ l[k].used) : VBest l log (k + 1) vi sb' := by
  constructor
  · rw [hs, Bool.or_eq_true, h.some, decide_eq_true_eq]
    constructor
    · rintro (⟨j, hj, h1, h2⟩ | h1)
      · exact ⟨j, hj, by omega, h2⟩
      · exact ⟨k, hk, by omega, h1⟩
    · rintro ⟨j, hj, h1, h2⟩
      by_cases e : j = k
      · subst e; exact Or.inr h2
      · exact Or.inl ⟨j, hj, by omega, h2⟩
  · rcases h.v with ⟨h1, h2⟩ | ⟨v, hv, h1, h2, h3, h4⟩
    · left
      refine ⟨h1, fun j hj hjk => ?_⟩
      by_cases e : j = k
      · subst e
        rcases hc with hc | ⟨v, hv, h3, _⟩
        · exact hc
        · omega
      · exact h2 j hj (by omega)
    · right
      refine ⟨v, hv, by omega, h2, h3, fun j hj hjk hcj => ?_⟩
      by_cases e : j = k
      · subst e
        rcases hc with hc | ⟨v', hv', h5, h6⟩
        · rw [hc] at hcj; cases hcj
        · obtain rfl : v' = v := by omega
          exact h6
      · exact h4 j hj (by omega) hcj
/-- The frame k is better. -/
theorem VBest.take {l : List RF} {log : Int} {k : Nat} {vi : Int} {sb : Bool} (h : VBest l log k vi sb) (hk : k < l.length) (sb' : Bool) (hs : sb' = (sb || decide (l[k].pins = 0))) (hc : candR log l[k] = true) (hv : vi = -1 ∨ ∃ v, ∃ hv : v < l.length, vi = v ∧ l[k].used ≤ l[v].used) : VBest l log (k + 1) k sb' := by
  constructor
  · rw [hs, Bool.or_eq_true, h.some, decide_eq_true_eq]
    constructor
    · rintro (⟨j, hj, h1, h2⟩ | h1)
      · exact ⟨j, hj, by omega, h2⟩
      · exact ⟨k, hk, by omega, h1⟩
    · rintro ⟨j, hj, h1, h2⟩
      by_cases e : j = k
      · subst e; exact Or.inr h2
      · exact Or.inl ⟨j, hj, by omega, h2⟩
  · right
    refine ⟨k, hk, by omega, rfl, hc, fun j hj hjk hcj => ?_⟩
    by_cases e : j = k
    · subst e; exact Int.le_refl _
    · rcases h.v with ⟨h1, h2⟩ | ⟨v, hv', h1, h2, h3, h4⟩
      · have := h2 j hj (by omega)
        rw [this] at hcj; cases hcj
      · rcases hv with hv | ⟨v', hv'', h5, h6⟩
        · omega
        · obtain rfl : v' = v := by omega
          have := h4 j hj (by omega) hcj
          omega
theorem Rel.cand {P : PS} {R : RPS} (h : Rel P R) {f : RF} (hf : f ∈ R.l) : candR R.log f = mayGo P.safe (P.fr f.page) := by
  have hb := h.beh hf
  have := (h.fr f hf).pins
  unfold candR mayGo unp
  rw [← hb, this]
theorem Rel.goner {P : PS} {R : RPS} (h : Rel P R) {v : Nat} (hv : v < R.l.length) (hc : candR R.log R.l[v] = true) (hb : ∀ j (hj : j < R.l.length), candR R.log R.l[j] = true → R.l[v].used ≤ R.l[j].used) : Goner P R.l[v].page := by
  refine ⟨h.has (List.getElem_mem hv), by rw [← h.cand (List.getElem_mem hv)]; exact hc, fun j hj hm => ?_⟩
  obtain ⟨f, hf, rfl⟩ := h.find hj
  obtain ⟨i, hi, rfl⟩ := List.getElem_of_mem hf
  rw [← (h.fr _ (List.getElem_mem hv)).used, ← (h.fr _ (List.getElem_mem hi)).used]
  exact hb i hi (by rw [h.cand (List.getElem_mem hi)]; exact hm)
end Go.Proofs.Ytpmbpadckbkglaa

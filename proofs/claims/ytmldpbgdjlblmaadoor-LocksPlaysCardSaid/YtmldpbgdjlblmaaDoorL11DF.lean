/- slices.IndexFunc and slices.DeleteFunc of requests. -/
import Derived.Test.YtmldpbgdjlblmaaDoorL11AL
namespace Go.Proofs.YtmldpbgdjlblmaaDoor
open Go.RowKit Go.Joins Go.Maps Go.Shelf
set_option linter.unusedVariables false
set_option linter.unusedSimpArgs false

theorem OwnQ.form {base : Nat} {w : World} {v : Value} {L : List Rq} (h : OwnQ base w v L) : ∃ ao cap, v = .slice ao L.length cap ∧ L.length ≤ cap ∧ (L = [] ∨ ∃ g, ao = some ⟨g, 0, none⟩) := by
  rcases id h with ⟨_, ⟨hv, hn⟩ | ⟨g, cap, cur, hv, hg, hh, hc, _⟩⟩
  · exact ⟨none, 0, by rw [hv, hn], by omega, Or.inl (List.eq_nil_of_length_eq_zero hn)⟩
  · exact ⟨some ⟨g, 0, none⟩, cap, hv, hc, Or.inr ⟨g, rfl⟩⟩
theorem OwnQ.keepB {base : Nat} {w w' : World} {v : Value} {L : List Rq} (h : OwnQ base w v L) (hb : Below w.heap.size w w') : OwnQ base w' v L := h.of_block (fun c hc => hb.block c (h.lo c hc).2)
/-- What IndexFunc finds. -/
def IdxE (p : Rq → Bool) (L : List Rq) (e : Ending) : Prop := (e = .returned (.int .i64 (-1)) ∧ ∀ r ∈ L, p r = false) ∨ ∃ k : Nat, k < L.length ∧ e = .returned (.int .i64 k) ∧ p (atR L k) = true ∧ ∀ j, j < k → p (atR L j) = false
set_option maxRecDepth 100000 in
set_option maxHeartbeats 4000000 in
theorem index_fn {base : Nat} {w : World} {v : Value} {L : List Rq} (h : OwnQ base w v L) (hlen : L.length ≤ 100000) (p : Rq → Bool) (gp : Nat) (lbp : Array Value) (eg : Enters Tryd.prog gp) (hcall : ∀ W, Below w.heap.size w W → ∀ r : Rq, Calls Tryd.prog gp (#[r.v] ++ lbp) W fun e W' => e = .returned (.bool (p r)) ∧ Below W.heap.size W W') :
    Calls Tryd.prog 74 #[v, .func (.func gp) #[] lbp] w fun e w' => IdxE p L e ∧ Below w.heap.size w w' := by
  obtain ⟨ao, cap, rfl, hcap, hao⟩ := h.form
  unfold Enters at eg
  go_enter Tryd.func74, Tryd.ntmps74
  go_wp2_with fail
  go_loopw [8] (fun i wr => ∃ k : Nat, i = .int .i64 k ∧ k ≤ L.length ∧ Hid (∀ j, j < k → p (atR L j) = false) ∧ Hid (Below w.heap.size w wr)) (fun i _ => L.length - (intOf i).toNat)
  case atStart => exact ⟨0, rfl, Nat.zero_le _, fun j hj => by omega, Below.refl _ _⟩
  case round =>
    obtain ⟨k, rfl, hk, HN, HB⟩ := hrel
    by_cases hlt : k < L.length
    · have tk : (k : Int) < (L.length : Int) := by omega
      rcases hao with h0 | ⟨g, rfl⟩
      · rw [h0] at hlt; simp at hlt
      have hq := OwnQ.rq (h.keepB HB.out) hlt
      rw [← atR_lt hlt] at hq
      have hc := hcall wr HB.out (atR L k)
      have HS : Hid (p (atR L k) = false → ∀ j, j < k + 1 → p (atR L j) = false) := fun h1 j hj => by
        by_cases e : j = k
        · subst e; exact h1
        · exact HN.out j (by omega)
      have HF : Hid (p (atR L k) = true → IdxE p L (.returned (.int .i64 k))) := fun h1 => Or.inr ⟨k, hlt, rfl, h1, HN.out⟩
      obtain ⟨q0, q1, q2, q3, q4, q5, q6, q7, q8⟩ := hq
      generalize p (atR L k) = pr at *
      generalize atR L k = r at *
      obtain ⟨xt, ⟨sa, ta, la, ua, na⟩, xm, xg, xs⟩ := r
      simp only at q0 q1 q2 q3 q4 q5 q6 q7 q8
      go_wp2_with fail
      refine hc.mono ?_
      rintro e w2 ⟨rfl, hb2⟩
      have HB2 : Hid (Below w.heap.size w w2) := keepA HB.out hb2
      clear hc hb2 HB q0 q1 q2 q3 q4 q5 q6 q7 q8
      cases pr with
      | true =>
        go_wp2_with fail
        go_ret
        exact ⟨HF.out (by trivial), HB2.out⟩
      | false =>
        go_wp2_with fail
        go_roundw
        case rel => exact ⟨k + 1, by go_num, by omega, HS.out (by trivial), HB2⟩
        case measure => simp [intOf]; omega
    · have tk : ¬ (k : Int) < (L.length : Int) := by omega
      have HF : Hid (IdxE p L (.returned (.int .i64 (-1)))) := Or.inl ⟨rfl, fun r hr => by
        obtain ⟨j, hj, e⟩ := List.getElem_of_mem hr
        have := HN.out j (by omega)
        rwa [atR_lt hj, e] at this⟩
      go_wp2_with fail
      go_ret
      exact ⟨HF.out, HB.out⟩
theorem flat_set9 (r : Rq) (L : List Rq) : ∀ (i : Nat), i < L.length → (((((((((L.flatMap Rq.cells).set (i * 9) (.int .i64 r.tx)).set (i * 9 + 1) (.int .i64 r.ob.sp)).set (i * 9 + 2) (.string r.ob.tb)).set (i * 9 + 3) (.string r.ob.lo)).set (i * 9 + 4) (.string r.ob.hi)).set (i * 9 + 5) (.bool r.ob.en)).set (i * 9 + 6) (.int .i64 r.md)).set (i * 9 + 7) (.bool r.gr)).set (i * 9 + 8) (.bool r.sh) = (L.set i r).flatMap Rq.cells := by
  induction L with
  | nil => intro i hi; simp at hi
  | cons a l ih =>
    intro i hi
    cases i with
    | zero => rfl
    | succ i =>
      have sh : ∀ (X : List Value) (k : Nat) (u : Value), (Rq.cells a ++ X).set ((i + 1) * 9 + k) u = Rq.cells a ++ X.set (i * 9 + k) u := fun X k u => by
        have e : (i + 1) * 9 + k = (Rq.cells a).length + (i * 9 + k) := by show _ = 9 + _; omega
        rw [e, List.set_append, if_neg (by omega), Nat.add_sub_cancel_left]
      have sh0 : ∀ (X : List Value) (u : Value), (Rq.cells a ++ X).set ((i + 1) * 9) u = Rq.cells a ++ X.set (i * 9) u := fun X u => sh X 0 u
      rw [List.flatMap_cons, sh0, sh, sh, sh, sh, sh, sh, sh, sh, ih i (by simpa using hi)]
      rfl
/-- The nine cells of a place are turned. -/
abbrev set9 (w : World) (g i : Nat) (r : Rq) : World := ((((((((w.setCell ⟨g, i * 9, none⟩ (.int .i64 r.tx)).setCell ⟨g, i * 9 + 1, none⟩ (.int .i64 r.ob.sp)).setCell ⟨g, i * 9 + 2, none⟩ (.string r.ob.tb)).setCell ⟨g, i * 9 + 3, none⟩ (.string r.ob.lo)).setCell ⟨g, i * 9 + 4, none⟩ (.string r.ob.hi)).setCell ⟨g, i * 9 + 5, none⟩ (.bool r.ob.en)).setCell ⟨g, i * 9 + 6, none⟩ (.int .i64 r.md)).setCell ⟨g, i * 9 + 7, none⟩ (.bool r.gr)).setCell ⟨g, i * 9 + 8, none⟩ (.bool r.sh)
theorem row_set9 {base : Nat} {w : World} {g n cap : Nat} {T : List Rq} (h : OwnQ base w (.slice (some ⟨g, 0, none⟩) n cap) T) {i : Nat} (hi : i < T.length) (r : Rq) : OwnQ base (set9 w g i r) (.slice (some ⟨g, 0, none⟩) n cap) (T.set i r) := by
  obtain rfl := Row.len h
  have h0 := (World.ownsRow.stored h (i * 9) (.int .i64 r.tx)).1
  have h1 := (World.ownsRow.stored h0 (i * 9 + 1) (.int .i64 r.ob.sp)).1
  have h2 := (World.ownsRow.stored h1 (i * 9 + 2) (.string r.ob.tb)).1
  have h3 := (World.ownsRow.stored h2 (i * 9 + 3) (.string r.ob.lo)).1
  have h4 := (World.ownsRow.stored h3 (i * 9 + 4) (.string r.ob.hi)).1
  have h5 := (World.ownsRow.stored h4 (i * 9 + 5) (.bool r.ob.en)).1
  have h6 := (World.ownsRow.stored h5 (i * 9 + 6) (.int .i64 r.md)).1
  have h7 := (World.ownsRow.stored h6 (i * 9 + 7) (.bool r.gr)).1
  have h8 := (World.ownsRow.stored h7 (i * 9 + 8) (.bool r.sh)).1
  rw [flat_set9 r T i hi] at h8
  show World.ownsRow _ _ _ _ _ _ _
  rw [List.length_set]
  exact h8
theorem fr_set9 (w : World) (g i : Nat) (r : Rq) : Fr w (set9 w g i r) (fun k => k = g) :=
  have f := fun (W : World) (o : Nat) (u : Value) (h : Fr w W (fun k => k = g)) => h.trans (fr_set W g o u) (fun k e => Or.inl e)
  f _ _ _ (f _ _ _ (f _ _ _ (f _ _ _ (f _ _ _ (f _ _ _ (f _ _ _ (f _ _ _ (fr_set w g _ _))))))))
/-- Where DeleteFunc stands. -/
structure DfI (base : Nat) (w : World) (v : Value) (L : List Rq) (p : Rq → Bool) (i j : Nat) (T : List Rq) (W : World) : Prop where
  row : OwnQ base W v T
  fr : Fr w W (fun b => v.ownBlock = some b)
  len : T.length = L.length
  lt : i < j
  le : j ≤ L.length
  tk : T.take i = (L.take j).filter fun r => !p r
  dr : T.drop j = L.drop j
theorem DfI.il {base : Nat} {w : World} {v : Value} {L : List Rq} {p : Rq → Bool} {i j : Nat} {T : List Rq} {W : World} (h : DfI base w v L p i j T W) : i < T.length := by rw [h.len]; have := h.lt; have := h.le; omega
theorem DfI.at_ {base : Nat} {w : World} {v : Value} {L : List Rq} {p : Rq → Bool} {i j : Nat} {T : List Rq} {W : World} (h : DfI base w v L p i j T W) (hj : j < L.length) : ∃ hj' : j < T.length, T[j] = L[j] := by
  have hj' : j < T.length := by rw [h.len]; exact hj
  refine ⟨hj', ?_⟩
  have e : (T.drop j)[0]? = (L.drop j)[0]? := by rw [h.dr]
  rw [List.getElem?_drop, List.getElem?_drop, Nat.add_zero, List.getElem?_eq_getElem hj', List.getElem?_eq_getElem hj] at e
  exact Option.some.inj e
theorem DfI.skip {base : Nat} {w : World} {v : Value} {L : List Rq} {p : Rq → Bool} {i j : Nat} {T : List Rq} {W W' : World} (h : DfI base w v L p i j T W) (hb : Below W.heap.size W W') (hj : j < L.length) (hp : p L[j] = true) : DfI base w v L p i (j + 1) T W' := by
  refine ⟨h.row.keepB hb, h.fr.trans (Fr.of_below (F := fun _ => False) hb) (fun _ e => e.elim), h.len, by have := h.lt; omega, hj, ?_, ?_⟩
  · rw [h.tk, filter_take_succ hj, if_neg (by simp [hp]), List.append_nil]
  · have := congrArg (List.drop 1) h.dr
    simpa [List.drop_drop] using this
theorem DfI.move {base : Nat} {w : World} {g n cap : Nat} {L : List Rq} {p : Rq → Bool} {i j : Nat} {T : List Rq} {W W' : World} (h : DfI base w (.slice (some ⟨g, 0, none⟩) n cap) L p i j T W) (hb : Below W.heap.size W W') (hj : j < L.length) (hp : p L[j] = false) : DfI base w (.slice (some ⟨g, 0, none⟩) n cap) L p (i + 1) (j + 1) (T.set i L[j]) (set9 W' g i L[j]) := by
  have hi := h.il
  have hlt := h.lt
  refine ⟨row_set9 (h.row.keepB hb) hi L[j], (h.fr.trans (Fr.of_below (F := fun _ => False) hb) (fun _ e => e.elim)).trans (fr_set9 W' g i L[j]) (fun k e => Or.inl (by rw [e]; rfl)), by rw [List.length_set, h.len], by omega, hj, ?_, ?_⟩
  · rw [filter_take_succ hj, if_pos (by simp [hp]), ← h.tk, List.take_succ_eq_append_getElem (by rw [List.length_set]; exact hi), List.getElem_set_self, List.take_set_of_le (Nat.le_refl _)]
  · rw [List.drop_set_of_lt (by omega)]
    have := congrArg (List.drop 1) h.dr
    simpa [List.drop_drop] using this
theorem zeroQ (w : World) : (zeroValue 53).run Tryd.prog w = .ok (.agg #[.int .i64 0, .int .i64 0, .string ByteArray.empty, .string ByteArray.empty, .string ByteArray.empty, .bool false, .int .i64 0, .bool false, .bool false]) w := by kernel_rfl
theorem zc_one (n : Nat) : ∀ v ∈ (Builtin.zeroCells (Value.agg #[.int .i64 0, .int .i64 0, .string ByteArray.empty, .string ByteArray.empty, .string ByteArray.empty, .bool false, .int .i64 0, .bool false, .bool false]).cells n).toList, v.oneCell' = true := by
  intro v hv
  simp [Builtin.zeroCells, Value.cells, Array.range, List.mem_flatten] at hv
  obtain ⟨k, hk⟩ := hv
  rw [← hk]
  have h9 : (k : Nat) % 9 < 9 := Nat.mod_lt _ (by omega)
  generalize (k : Nat) % 9 = j at *
  have : j = 0 ∨ j = 1 ∨ j = 2 ∨ j = 3 ∨ j = 4 ∨ j = 5 ∨ j = 6 ∨ j = 7 ∨ j = 8 := by omega
  rcases this with rfl | rfl | rfl | rfl | rfl | rfl | rfl | rfl | rfl <;> rfl
/-- At its end: what is left is cleared, and the row is cut. -/
theorem DfI.done {base : Nat} {w : World} {g cap : Nat} {L : List Rq} {p : Rq → Bool} {i : Nat} {T : List Rq} {W : World} (h : DfI base w (.slice (some ⟨g, 0, none⟩) L.length cap) L p i L.length T W) :
    ∃ W', ((Builtin.clear_ #[29] 0 #[.slice (some ⟨g, i * 9, none⟩) (L.length - i) (cap - i)]).run Tryd.prog W = .ok (.tuple #[]) W') ∧ OwnQ base W' (.slice (some ⟨g, 0, none⟩) i cap) (L.filter fun r => !p r) ∧ (Value.slice (some ⟨g, 0, none⟩) i cap).ownBlock = (Value.slice (some ⟨g, 0, none⟩) L.length cap).ownBlock ∧ Fr w W' (fun b => (Value.slice (some ⟨g, 0, none⟩) L.length cap).ownBlock = some b) := by
  have hi := h.il
  have hlen := h.len
  have hlt := h.lt
  rcases id h.row with ⟨h1, ⟨hv, _⟩ | ⟨g', cap', cur, hv, hb, hh, hc, hm, hs, hx⟩⟩
  · cases hv
  simp only [Value.slice.injEq, Option.some.injEq, Addr.mk.injEq, and_true] at hv
  obtain ⟨rfl, _, rfl⟩ := hv
  have hzl : (Builtin.zeroCells (Value.agg #[.int .i64 0, .int .i64 0, .string ByteArray.empty, .string ByteArray.empty, .string ByteArray.empty, .bool false, .int .i64 0, .bool false, .bool false]).cells (L.length - i)).toList.length = (L.length - i) * 9 := by rw [zeroCells_len]; rfl
  have hr := run_clearZ (P := Tryd.prog) W 29 0 53 g (i * 9) (L.length - i) (cap - i) (Value.agg #[.int .i64 0, .int .i64 0, .string ByteArray.empty, .string ByteArray.empty, .string ByteArray.empty, .bool false, .int .i64 0, .bool false, .bool false]) cur 53 Tryd.underlying29 zeroQ (by omega) hh (by rw [hzl, hs]; omega) (zc_one _)
  refine ⟨_, hr, ?_, rfl, h.fr.trans (Fr.of_grown (F := fun b => b = g) (setRow_grown W g _) (fun k e => by cases e; rfl)) (fun k e => Or.inl (by rw [e]; rfl))⟩
  have hfl : (L.filter fun r => !p r).length = i := by
    have := congrArg List.length h.tk
    rw [List.take_of_length_le (Nat.le_refl L.length), List.length_take] at this
    omega
  refine ⟨by rw [flat_len Rq.cells 9 _ (rqc_len _)], Or.inr ⟨g, cap, _, by rw [hfl], hb, setRow_heap W g cur _ _ _ hh, by rw [hfl]; omega, hm, ?_, ?_⟩⟩
  · rw [List.size_toArray, length_splice _ _ _ (by rw [hzl]; simp [hs]; omega)]
    simpa using hs
  · rw [hfl]
    show List.take _ _ = _
    rw [splice_take _ _ _ _ (by rw [hzl]; simp [hs]; omega) (Nat.le_refl _)]
    have e1 : (T.flatMap Rq.cells).take (i * 9) = (T.take i).flatMap Rq.cells := flat_take Rq.cells 9 T (rqc_len T) i
    rw [h.tk, List.take_of_length_le (Nat.le_refl L.length)] at e1
    rw [← e1, ← hx, List.take_take, Nat.min_eq_left (by omega)]
set_option maxRecDepth 100000 in
set_option maxHeartbeats 4000000 in
theorem delete_fn {base : Nat} {w : World} {v : Value} {L : List Rq} (h : OwnQ base w v L) (hlen : L.length ≤ 100000) (p : Rq → Bool) (gp : Nat) (lbp : Array Value) (eg : Enters Tryd.prog gp) (hcall : ∀ W, Fr w W (fun b => v.ownBlock = some b) → ∀ r : Rq, Calls Tryd.prog gp (#[r.v] ++ lbp) W fun e W' => e = .returned (.bool (p r)) ∧ Below W.heap.size W W') :
    Calls Tryd.prog 58 #[v, .func (.func gp) #[] lbp] w fun e w' => ∃ v', e = .returned v' ∧ OwnQ base w' v' (L.filter fun r => !p r) ∧ v'.ownBlock = v.ownBlock ∧ Fr w w' (fun b => v.ownBlock = some b) := by
  have hix := index_fn h hlen p gp lbp eg (fun W hb => hcall W (Fr.of_below hb))
  obtain ⟨ao, cap, rfl, hcap, hao⟩ := h.form
  unfold Enters at eg
  go_enter Tryd.func58, Tryd.ntmps58
  go_wp2_with fail
  refine hix.mono ?_
  rintro e w1 ⟨hE, hb1⟩
  rcases hE with ⟨rfl, hno⟩ | ⟨k0, hk0, rfl, hy, hn⟩
  · go_wp2_with fail
    go_ret
    have e1 : L.filter (fun r => !p r) = L := List.filter_eq_self.2 (fun r hr => by rw [hno r hr]; rfl)
    rw [e1]
    exact ⟨_, rfl, h.keepB hb1, rfl, Fr.of_below hb1⟩
  · have hk0' : ((k0 : Int) == -1) = false := by simp
    rcases hao with h0 | ⟨g, rfl⟩
    · rw [h0] at hk0; simp at hk0
    have HI : Hid (DfI base w (.slice (some ⟨g, 0, none⟩) L.length cap) L p k0 (k0 + 1) L w1) := ⟨h.keepB hb1, Fr.of_below hb1, rfl, by omega, hk0, by
      rw [filter_take_succ hk0, if_neg (by rw [← atR_lt hk0, hy]; simp), List.append_nil]
      refine (List.filter_eq_self.2 (fun r hr => ?_)).symm
      rw [List.mem_take_iff_getElem] at hr
      obtain ⟨j, hj, e⟩ := hr
      have := hn j (by omega)
      rw [atR_lt (show j < L.length by omega), e] at this
      rw [this]; rfl, rfl⟩
    clear hix hb1 hy hn h
    go_wp2_with fail
    go_loopw [5, 6] (fun v5 v6 wr => ∃ (i j : Nat) (T : List Rq), v5 = .int .i64 i ∧ v6 = .int .i64 j ∧ Hid (DfI base w (.slice (some ⟨g, 0, none⟩) L.length cap) L p i j T wr)) (fun _ v6 _ => L.length - (intOf v6).toNat)
    case atStart => exact ⟨k0, k0 + 1, L, rfl, by go_num, HI⟩
    case round =>
      obtain ⟨i, j, T, rfl, rfl, HD⟩ := hrel
      have hle := HD.out.le
      have hij := HD.out.lt
      by_cases hlt : j < L.length
      · have tk : (j : Int) < (L.length : Int) := by omega
        obtain ⟨hj', eT⟩ := HD.out.at_ hlt
        have hq := OwnQ.rq HD.out.row hj'
        rw [eT, ← atR_lt hlt] at hq
        have hbx := boxq_b wr (atR L j)
        have hc := hcall (wr.alloc (atR L j).box) (HD.out.fr.trans (Fr.alloc wr _ (fun _ => False)) (fun _ e => e.elim)) (atR L j)
        have HBX : Hid (BoxQ (wr.alloc (atR L j).box) wr.heap.size (atR L j)) := BoxQ.new wr (atR L j)
        have HSK : Hid (p (atR L j) = true → ∀ W', Below wr.heap.size wr W' → DfI base w (.slice (some ⟨g, 0, none⟩) L.length cap) L p i (j + 1) T W') := fun hp W' hb => HD.out.skip hb hlt (by rw [← atR_lt hlt]; exact hp)
        have HMV : Hid (p (atR L j) = false → ∀ W', Below wr.heap.size wr W' → DfI base w (.slice (some ⟨g, 0, none⟩) L.length cap) L p (i + 1) (j + 1) (T.set i (atR L j)) (set9 W' g i (atR L j))) := fun hp W' hb => by
          have := HD.out.move hb hlt (by rw [← atR_lt hlt]; exact hp)
          rw [atR_lt hlt]; exact this
        have HBW : Hid (Below wr.heap.size wr (wr.alloc (atR L j).box)) := hbx
        obtain ⟨q0, q1, q2, q3, q4, q5, q6, q7, q8⟩ := hq
        generalize p (atR L j) = pr at *
        generalize atR L j = r at *
        obtain ⟨xt, ⟨sa, ta, la, ua, na⟩, xm, xg, xs⟩ := r
        simp only at q0 q1 q2 q3 q4 q5 q6 q7 q8
        clear hbx
        go_wp2_with fail
        refine hc.mono ?_
        rintro e w2 ⟨rfl, hb2⟩
        obtain ⟨y0, y1, y2, y3, y4, y5, y6, y7, y8⟩ := HBX.out.keep hb2
        simp only at y0 y1 y2 y3 y4 y5 y6 y7 y8
        have HB2 : Hid (Below wr.heap.size wr w2) := keepA HBW.out hb2
        clear hc hb2 q0 q1 q2 q3 q4 q5 q6 q7 q8 HBX HBW
        cases pr with
        | true =>
          go_wp2_with fail
          go_roundw
          case rel => exact ⟨i, j + 1, T, rfl, by go_num, HSK.out (by trivial) _ HB2.out⟩
          case measure => simp [intOf]; omega
        | false =>
          have hil : i < L.length := by omega
          have hil2 : (i : Int) < (L.length : Int) := by omega
          have hiT : i < T.length := HD.out.il
          have hR2 := HD.out.row.keepB HB2.out
          obtain ⟨z0, z1, z2, z3, z4, z5, z6, z7, z8⟩ := OwnQ.rq hR2 hiT
          have hfz := fun o => Row.frozen hR2 o
          have HMV2 := Hid.mk' (HMV.out (by trivial) w2 HB2.out)
          clear HMV HSK hR2 HD
          generalize T[i] = old at *
          obtain ⟨oxt, ⟨osa, ota, ola, oua, ona⟩, oxm, oxg, oxs⟩ := old
          simp only at z0 z1 z2 z3 z4 z5 z6 z7 z8
          go_wp2_with fail
          go_roundw
          case rel => exact ⟨i + 1, j + 1, _, by go_num, by go_num, HMV2⟩
          case measure => simp [intOf]; omega
      · have tk : ¬ (j : Int) < (L.length : Int) := by omega
        obtain rfl : j = L.length := by omega
        have HZ := Hid.mk' (HD.out.done)
        have hij2 : ¬ (L.length = i) := by omega
        have hic : i ≤ cap := by omega
        have hil2 : (i : Int) ≤ (L.length : Int) := by omega
        have hcl : cap ≠ i := by omega
        clear HD
        obtain ⟨w9, hrun, hfin⟩ := HZ.out
        have HFIN := Hid.mk' hfin
        clear HZ hfin
        go_wp2_with fail
        go_ret
        exact ⟨_, rfl, HFIN.out⟩
end Go.Proofs.YtmldpbgdjlblmaaDoor

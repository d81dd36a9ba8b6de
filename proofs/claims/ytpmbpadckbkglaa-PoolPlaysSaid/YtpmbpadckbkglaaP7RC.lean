/- The document's pool: own, Held; two lists of pages held against each other. -/
import Derived.Test.YtpmbpadckbkglaaP7RB
namespace Go.Proofs.Ytpmbpadckbkglaa
open Go.RowKit Go.Maps
set_option linter.unusedVariables false
set_option linter.unusedSimpArgs false

set_option maxHeartbeats 400000 in
/-- own: a copy. -/
theorem ref_own (base : Nat) (v : Value) (xs : List UInt8) (w : World) (h : Bytes w v xs) (hx : 0 < xs.length) (hl : xs.length ≤ 1000000) (hb : base ≤ w.heap.size) :
    Calls Try.prog 44 #[v] w fun e w' => ∃ v', e = .returned v' ∧ OwnB base w' v' xs ∧ (∀ k, v'.ownBlock = some k → w.heap.size ≤ k) ∧ Below w.heap.size w w' := by
  obtain ⟨ao, cap, rfl, hc, hcells⟩ := h.form
  obtain ⟨a, rfl, _⟩ := hcells hx
  clear hcells
  have h0 : Below w.heap.size w (w.alloc (.cells #[] 5)) := (Below.refl _ _).alloc (Nat.le_refl _) _
  have h1 := h.keep h0
  have HC : Hid (∀ j (hj : j < xs.length), (w.alloc (.cells #[] 5)).cell? (a.add j) = some (bv xs[j])) := by
    rcases h1 with ⟨h, _⟩ | ⟨a', cap', h, _, h2⟩
    · cases h
    · cases h; exact h2
  have HO : Hid (OwnB base (w.alloc (.cells #[] 5)) (.slice (some ⟨w.heap.size, 0, none⟩) 0 0) []) := own_empty base w hb
  have hbe := build_empty w
  clear h1 h
  go_enter Try.func44, Try.ntmps44
  go_wp2_with (first | (at_builtin; refine wp_appA _ rfl _ _ rfl base _ [] rfl HO.out a xs.length cap xs rfl HC.out rfl hx (by simp; omega) (by simp; omega) ?_))
  intro v' w2 ho hg
  have hb2 : Below w.heap.size w w2 := h0.grown hg.grown (by simp) (by intro k hk; simp [Value.ownBlock] at hk; omega)
  have hn : ∀ k, v'.ownBlock = some k → w.heap.size ≤ k := fun k hk => by
    rcases hg.own with e | e
    · rw [e] at hk; simp [Value.ownBlock] at hk; omega
    · have := e k hk; simp at this; omega
  clear hg
  go_wp2
  go_ret
  exact ⟨v', rfl, by simpa using ho, hn, hb2⟩
set_option maxHeartbeats 1000000 in
theorem sameInts_any {w : World} {v1 v2 : Value} {xs ys : List Int} (h1 : Ints w v1 xs) (h2 : Ints w v2 ys) (hl : xs.length ≤ 1000) (hl2 : ys.length ≤ 1000) :
    Calls Try.prog 12 #[v1, v2] w fun e w' => e = .returned (.bool (decide (xs = ys))) ∧ Below w.heap.size w w' := by
  obtain ⟨a1, c1, rfl, hc1, hx⟩ := h1
  obtain ⟨a2, c2, rfl, hc2, hy⟩ := h2
  by_cases hlen : xs.length = ys.length
  · have HX : Hid (xs = [] ∨ ∃ g, a1 = some ⟨g, 0, none⟩ ∧ ∀ j (hj : j < xs.length), w.cell? ⟨g, j, none⟩ = some (.int .i64 xs[j])) := hx
    have HY : Hid (ys = [] ∨ ∃ g, a2 = some ⟨g, 0, none⟩ ∧ ∀ j (hj : j < ys.length), w.cell? ⟨g, j, none⟩ = some (.int .i64 ys[j])) := hy
    have HL : Hid (xs.length = ys.length) := hlen
    rw [← hlen]
    rw [← hlen] at hc2
    clear hx hy hlen
    go_enter Try.func12, Try.ntmps12
    go_wp2
    go_loopw [5] (fun i wr => ∃ k : Nat, k ≤ xs.length ∧ i = .int .i64 k ∧ Hid (xs.take k = ys.take k) ∧ Below w.heap.size w wr) (fun i _ => xs.length - (intOf i).toNat)
    case atStart => exact ⟨0, Nat.zero_le _, rfl, rfl, Below.refl _ _⟩
    case round =>
      obtain ⟨k, hk, rfl, HT, hb⟩ := hrel
      by_cases hlt : k < xs.length
      · have hlt2 : k < ys.length := by have := HL.out; omega
        rcases HX.out with h0 | ⟨g1, rfl, hX⟩
        · rw [h0] at hlt; simp at hlt
        rcases HY.out with h0 | ⟨g2, rfl, hY⟩
        · rw [h0] at hlt2; simp at hlt2
        have q1 := (hb.cell (World.block_lt_of_cell? _ _ (hX k hlt))).trans (hX k hlt)
        have q2 := (hb.cell (World.block_lt_of_cell? _ _ (hY k hlt2))).trans (hY k hlt2)
        have HS : Hid (xs[k] = ys[k] → xs.take (k + 1) = ys.take (k + 1)) := fun e => by
          rw [List.take_succ_eq_append_getElem hlt, List.take_succ_eq_append_getElem hlt2, HT.out, e]
        have HD : Hid (xs[k] ≠ ys[k] → xs ≠ ys) := fun e e' => e (by subst e'; rfl)
        clear hX hY
        generalize xs[k] = X at *
        generalize ys[k] = Y at *
        by_cases he : X = Y
        · subst he
          go_wp2
          go_quiet (fail)
          go_wp2
          go_roundw
          case rel => exact ⟨k + 1, by omega, by first | go_num | (congr 1; omega), HS.out (by first | rfl | trivial), below_drewN hb _⟩
          case measure => simp [intOf]; omega
        · have y1 : (X != Y) = true := by simpa using he
          have hne := HD.out he
          go_wp2
          go_quiet (fail)
          go_wp2
          go_ret
          exact ⟨by simp [hne], below_drewN hb _⟩
      · obtain rfl : k = xs.length := by omega
        have he : xs = ys := by
          have := HT.out
          rwa [List.take_of_length_le (Nat.le_refl _), List.take_of_length_le (by have := HL.out; omega)] at this
        go_wp2
        go_ret
        exact ⟨by simp [he], hb⟩
  · have hne : xs ≠ ys := fun e => hlen (by rw [e])
    have y1 : ((xs.length : Int) != (ys.length : Int)) = true := by simp; omega
    clear hx hy
    generalize xs.length = A at *
    generalize ys.length = B at *
    go_enter Try.func12, Try.ntmps12
    go_wp2
    go_ret
    exact ⟨by simp [hne], Below.refl _ _⟩
theorem infoI : (Try.prog.info? 3).map (fun i => (i.zero, i.size, i.bytes)) = some (some (.int .i64 0), 1, 8) := by kernel_rfl
def OwnI (base : Nat) (w : World) (v : Value) (ks : List Int) : Prop := w.ownsRow base 3 1 v ks.length (ks.map (Value.int .i64))
theorem one_ints (ks : List Int) : ∀ u ∈ ks.map (Value.int .i64), u.oneCell' = true := by
  intro u hu
  obtain ⟨c, _, rfl⟩ := List.mem_map.1 hu
  rfl
/-- append, to integers that the call made, of one more. -/
theorem wp_appI (w : World) {ops : Array Oper} {rest : List Oper} {o : Oper} {a : Act} {Q : Exit → Act → World → Prop} (hgd : o.guard = none) (s x : Operand)
    (ho : o.op = .call { callee := .builtin .append, args := #[s, x], argTypes := #[47, 47] })
    (base : Nat) (v : Value) (ks : List Int) (hs : a.eval s = v) (hown : OwnI base w v ks)
    (B : Nat) (y : Int) (hx : a.eval x = .slice (some ⟨B, 0, none⟩) 1 1) (hB : w.heap[B]? = some (.cells #[.int .i64 y] 3 (0, 0)))
    (hl : ks.length ≤ 1000000) (hbase : base ≤ w.heap.size)
    (h : ∀ v' w', OwnI base w' v' (ks ++ [y]) → GrowB w v w' v' → wpList Try.prog ops Q rest (a.put o.dst v') w') : wpList Try.prog ops Q (o :: rest) a w := by
  obtain ⟨i0, hi, hz0, hz1, hz2⟩ := info_parts infoI
  refine wpList_append_lies w hgd s x 47 ho base 3 i0 (.int .i64 0) 1 8 Try.underlying47 hi hz0 hz1 hz2 rfl (by decide) v ks.length (ks.map (Value.int .i64)) hs hown ⟨B, 0, none⟩ 1 1 [.int .i64 y] hx rfl ?_ (one_ints [y]) (by decide) (by unfold maxLen; omega) (by omega) hbase w.heap.size rfl ?_
  · exact World.news_of_block hB
  · intro g cap w' h1 h2 h3 _
    refine h _ w' ?_ ⟨h2, ?_⟩
    · unfold OwnI
      rw [List.length_append, List.map_append]
      exact h1
    · rcases h3 with h3 | h3
      · exact Or.inl h3.symm
      · exact Or.inr fun k hk => by simp [Value.ownBlock] at hk; omega
theorem OwnI.ge {base : Nat} {w : World} {v : Value} {ks : List Int} (h : OwnI base w v ks) : ∀ k, v.ownBlock = some k → base ≤ k := fun k hk => (World.ownsRow.lt h k hk).1
theorem OwnI.keepB {base : Nat} {w w' : World} {v : Value} {ks : List Int} (h : OwnI base w v ks) (hb : Below w.heap.size w w') : OwnI base w' v ks := own_of_block h (fun b hx => hb.block b (World.ownsRow.lt h b hx).2)
/-- The pages below n that the document's frames hold. -/
def heldR (l : List RF) : Nat → List Int
  | 0 => []
  | n + 1 => if l.any (fun f => decide (f.page = (n : Int))) then heldR l n ++ [(n : Int)] else heldR l n
theorem heldR_len (l : List RF) : ∀ n, (heldR l n).length ≤ n
  | 0 => Nat.le_refl _
  | n + 1 => by
    have := heldR_len l n
    unfold heldR
    split
    · rw [List.length_append]; simp; omega
    · omega
set_option maxHeartbeats 1000000 in
theorem refHeld_any {base : Nat} {w : World} {H : Nat → Prop} {g : Nat} {dq vL : Value} {R : RPS} (h : RPIn base w H g dq vL R) (hl : R.l.length ≤ 1000) (n : Nat) (hn : R.pages = n) (hn2 : n ≤ 256) :
    Calls Try.prog 14 #[.pointer (some ⟨g, 0, none⟩)] w fun e w' => ∃ v, e = .returned v ∧ OwnI w.heap.size w' v (heldR R.l n) ∧ Below w.heap.size w w' := by
  have HP : Hid (RPIn base w H g dq vL R) := h
  clear h
  go_enter Try.func14, Try.ntmps14
  go_wp2
  go_loopw [3, 4] (fun v i wr => ∃ k : Nat, k ≤ n ∧ i = .int .i64 k ∧ OwnI w.heap.size wr v (heldR R.l k) ∧ Below w.heap.size w wr) (fun _ i _ => n - (intOf i).toNat)
  case atStart => exact ⟨0, Nat.zero_le _, rfl, World.ownsRow_nil _ _ _ _, Below.refl _ _⟩
  case round =>
    obtain ⟨k, hk, rfl, hown, hb⟩ := hrel
    have hPr := HP.out.keepB hb
    have c2 : wr.cell? ⟨g, 2, none⟩ = some (.int .i64 n) := by rw [cell_of_row wr g 2 _ _ _ hPr.hg]; simp [hn]
    by_cases hlt : k < n
    · have hfd := find_any hPr (k : Int) hl
      have HO : Hid (OwnI w.heap.size wr _ (heldR R.l k)) := hown
      have hlen := heldR_len R.l k
      clear hPr hown
      go_wp2_with fail
      refine hfd.mono ?_
      rintro e wx ⟨hF, hwx⟩
      rw [hwx]
      clear hwx wx hfd
      cases hF with
      | none_ hp he =>
        subst he
        have hs : heldR R.l (k + 1) = heldR R.l k := by
          unfold heldR
          rw [if_neg (by simp only [List.any_eq_true, decide_eq_true_eq, not_exists, not_and]; exact hp)]
          cases k <;> rfl
        have hO2 := HO.out
        rw [← hs] at hO2
        have HO2 : Hid (OwnI w.heap.size wr _ (heldR R.l (k + 1))) := hO2
        clear HO hp hs hO2
        go_wp2
        go_roundw
        case rel => exact ⟨k + 1, by omega, by first | go_num | (congr 1; omega), HO2.out, hb⟩
        case measure => simp [intOf]; omega
      | at_ j hj hp he =>
        subst he
        have hs : heldR R.l (k + 1) = heldR R.l k ++ [(k : Int)] := by
          have e : heldR R.l (k + 1) = if R.l.any (fun f => decide (f.page = (k : Int))) then heldR R.l k ++ [(k : Int)] else heldR R.l k := rfl
          rw [e, if_pos (List.any_eq_true.2 ⟨_, List.getElem_mem hj, by simpa using hp⟩)]
        have HS : Hid (heldR R.l (k + 1) = heldR R.l k ++ [(k : Int)]) := hs
        have hb0 : Below wr.heap.size wr (wr.alloc (.cells #[.int .i64 (k : Int)] 3)) := (Below.refl _ _).alloc (Nat.le_refl _) _
        have t1 : decide ((j : Int) ≥ 0) = true := by simp
        have hws := hb.size
        have HO2 : Hid (OwnI w.heap.size (wr.alloc (.cells #[.int .i64 (k : Int)] 3)) _ (heldR R.l k)) := HO.out.keepB hb0
        clear HO hp hs
        go_wp2_with (first | (at_builtin; refine wp_appI _ rfl _ _ rfl w.heap.size _ (heldR R.l k) rfl HO2.out wr.heap.size (k : Int) rfl (heap_alloc_new wr _) (by omega) (by simp; omega) ?_))
        intro v' w2 ho hg
        have hb3 : Below w.heap.size w w2 := (hb.trans (hb0.mono hws)).grown hg.grown (by simp; omega) HO2.out.ge
        rw [← HS.out] at ho
        clear hg HO2 HS hb0
        go_wp2
        go_roundw
        case rel => exact ⟨k + 1, by omega, by first | go_num | (congr 1; omega), ho, hb3⟩
        case measure => simp [intOf]; omega
    · obtain rfl : k = n := by omega
      go_wp2
      go_ret
      exact ⟨_, rfl, hown, hb⟩
end Go.Proofs.Ytpmbpadckbkglaa

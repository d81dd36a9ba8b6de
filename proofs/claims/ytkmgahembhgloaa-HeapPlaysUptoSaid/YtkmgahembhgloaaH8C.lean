/- Rows of records: their room, a place for one more, a page laid out. -/
import Derived.Test.YtkmgahembhgloaaH8B
namespace Go.Proofs.Ytkmgahembhgloaa
open Go.RowKit Go.Maps
set_option linter.unusedVariables false
set_option linter.unusedSimpArgs false

theorem infoS : (Try.prog.info? 30).map (fun i => (i.zero, i.size, i.bytes)) = some (some (.slice none 0 0), 1, 24) := by kernel_rfl
def OwnV (base : Nat) (w : World) (v : Value) (vs : List Value) : Prop := w.ownsRow base 30 1 v vs.length vs
theorem own_snoc {base : Nat} {w' : World} {g n cap : Nat} {vs : List Value} {u : Value} (h : w'.ownsRow base 30 1 (.slice (some ⟨g, 0, none⟩) (n + 1) cap) (n + 1) (vs ++ [u])) (hn : vs.length = n) : OwnV base w' (.slice (some ⟨g, 0, none⟩) (n + 1) cap) (vs ++ [u]) := by
  unfold OwnV
  rw [List.length_append, hn]
  exact h
/-- append, to a list that the call made, of one more. -/
theorem wp_appV (w : World) {ops : Array Oper} {rest : List Oper} {o : Oper} {a : Act} {Q : Exit → Act → World → Prop} (hgd : o.guard = none) (s x : Operand)
    (ho : o.op = .call { callee := .builtin .append, args := #[s, x], argTypes := #[71, 71] })
    (base : Nat) (v : Value) (vs : List Value) (hs : a.eval s = v) (hown : OwnV base w v vs) (Bk : Nat) (u : Value) (hx : a.eval x = .slice (some ⟨Bk, 0, none⟩) 1 1) (hB : w.heap[Bk]? = some (.cells #[u] 30 (0, 0))) (hu : u.oneCell' = true) (hl : vs.length ≤ 1000000000000) (hbase : base ≤ w.heap.size)
    (h : ∀ v' w', (∃ ao n c, v' = .slice ao n c) → OwnV base w' v' (vs ++ [u]) → GrowB w v w' v' → wpList Try.prog ops Q rest (a.put o.dst v') w') : wpList Try.prog ops Q (o :: rest) a w := by
  obtain ⟨i0, hi, hz0, hz1, hz2⟩ := info_parts infoS
  refine wpList_append_lies w hgd s x 71 ho base 30 i0 (.slice none 0 0) 1 24 Try.underlying71 hi hz0 hz1 hz2 rfl (by decide) v vs.length vs hs hown ⟨Bk, 0, none⟩ 1 1 [u] hx rfl (World.news_of_block hB) (by intro y hy; simp at hy; rw [hy]; exact hu) (by decide) (by unfold maxLen; omega) (by omega) hbase w.heap.size rfl ?_
  intro g cap w' h1 h2 h3 _
  refine h _ w' ⟨_, _, _, rfl⟩ (own_snoc h1 rfl) ⟨h2, ?_⟩
  rcases h3 with h3 | h3
  · exact Or.inl h3.symm
  · exact Or.inr fun k hk => by simp [Value.ownBlock] at hk; omega
/-- Where a row of slices lies. -/
inductive RowV (w : World) (ao : Option Addr) (vs : List Value) : Prop
  | mt (h : vs = [])
  | at_ (g o : Nat) (ha : ao = some ⟨g, o, none⟩) (h : ∀ k (hk : k < vs.length), w.cell? ⟨g, o + k, none⟩ = some vs[k])
theorem OwnV.row {base : Nat} {w : World} {v : Value} {vs : List Value} (h : OwnV base w v vs) : ∃ ao cap, v = .slice ao vs.length cap ∧ vs.length ≤ cap ∧ RowV w ao vs := by
  rcases id h with ⟨_, ⟨hv, hn⟩ | ⟨g, cap, cur, hv, hg, hh, hc, _⟩⟩
  · have e := List.eq_nil_of_length_eq_zero hn
    exact ⟨none, 0, by rw [hv, e]; rfl, by rw [e]; exact Nat.le_refl _, .mt e⟩
  · refine ⟨_, cap, hv, hc, .at_ g 0 rfl fun k hk => ?_⟩
    have := World.ownsRow.cells h (g := g) (by rw [hv]; rfl) k vs[k] (by simp [hk])
    rwa [Addr.add_mid] at this
/-- The records that a row of slices holds. -/
structure ElB (w : World) (vs : List Value) (rs : List (List UInt8)) : Prop where
  len : vs.length = rs.length
  el : ∀ k (h1 : k < rs.length) (h2 : k < vs.length), Bytes w vs[k] rs[k]
theorem ElB.keep {w w' : World} {vs : List Value} {rs : List (List UInt8)} (h : ElB w vs rs) (hb : Below w.heap.size w w') : ElB w' vs rs :=
  ⟨h.len, fun k h1 h2 => (h.el k h1 h2).keep hb⟩
theorem ElB.nil (w : World) : ElB w [] [] := ⟨rfl, fun k h => by simp at h⟩
theorem ElB.snoc {w : World} {vs : List Value} {rs : List (List UInt8)} (h : ElB w vs rs) {u : Value} {r : List UInt8} (hu : Bytes w u r) : ElB w (vs ++ [u]) (rs ++ [r]) := by
  refine ⟨by simp [h.len], fun k h1 h2 => ?_⟩
  by_cases hk : k < rs.length
  · rw [List.getElem_append_left hk, List.getElem_append_left (by rw [h.len]; exact hk)]; exact h.el k hk _
  · have e : k = rs.length := by simp at h1; omega
    subst e
    rw [List.getElem_append_right (Nat.le_refl _), List.getElem_append_right (by rw [h.len]; exact Nat.le_refl _)]
    simp [h.len]; exact hu
theorem ElB.set {w : World} {vs : List Value} {rs : List (List UInt8)} (h : ElB w vs rs) (s : Nat) {u : Value} {r : List UInt8} (hu : Bytes w u r) : ElB w (vs.set s u) (rs.set s r) := by
  refine ⟨by simp [h.len], fun k h1 h2 => ?_⟩
  by_cases e : k = s
  · subst e; rw [List.getElem_set_self, List.getElem_set_self]; exact hu
  · rw [List.getElem_set_ne (fun e' => e e'.symm), List.getElem_set_ne (fun e' => e e'.symm)]; exact h.el k (by simpa using h1) (by simpa using h2)
set_option maxHeartbeats 400000 in
theorem hroom_any {w : World} {ao : Option Addr} {cap : Nat} {vs : List Value} {rs : List (List UInt8)} (hr : RowV w ao vs) (he : ElB w vs rs) (hc : vs.length ≤ cap) (hn : rs.length ≤ 256) (hs : sumL rs ≤ 1000000) :
    Calls Try.prog 43 #[.slice ao vs.length cap] w fun e w' => e = .returned (.int .i64 (roomP rs)) ∧ w' = w := by
  have HR : Hid (RowV w ao vs) := hr
  have HE : Hid (ElB w vs rs) := he
  have hl := he.len
  rw [hl] at hc ⊢
  have ha := fun w => slotAt_any rs.length (by omega) w
  have HT : Hid (∀ k, k < rs.length → ∃ g o u n c, ao = some ⟨g, o, none⟩ ∧ w.cell? ⟨g, o + k, none⟩ = some (.slice u n c) ∧ sumL (rs.take (k + 1)) = sumL (rs.take k) + n) := by
    intro k hk
    cases hr with
    | mt h => rw [h] at hl; simp at hl; omega
    | at_ g o h1 h2 =>
      obtain ⟨u, c, hu, _⟩ := (he.el k hk (by omega)).form
      exact ⟨g, o, u, _, c, h1, by rw [h2 k (by omega), hu], sumL_take rs k hk⟩
  have HL : Hid (∀ k, sumL (rs.take k) ≤ sumL rs) := sumL_le rs
  have HA : Hid (sumL (rs.take rs.length) = sumL rs) := by rw [List.take_length]; exact rfl
  have H0 : Hid (sumL (rs.take 0) = 0) := by rfl
  have HP : Hid (roomP rs = 2046 - 4 * rs.length - sumL rs) := rfl
  clear hr he hl HR HE
  go_enter Try.func43, Try.ntmps43
  go_wp2_with (go_at_call 59; refine (ha _).mono ?_; rintro e wx ⟨rfl, hwx⟩; rw [hwx]; clear hwx wx)
  go_loopw [12, 3] (fun i l wr => ∃ (k m : Nat), k ≤ rs.length ∧ i = .int .i64 k ∧ Hid (m = sumL (rs.take k)) ∧ m ≤ 1000000 ∧ l = .int .i64 (2046 - 4 * (rs.length : Int) - m) ∧ w = wr) (fun i _ _ => rs.length - (intOf i).toNat)
  case atStart => exact ⟨0, 0, Nat.zero_le _, rfl, H0.out.symm, by omega, by first | rfl | (congr 1; omega), rfl⟩
  case round =>
    obtain ⟨k, m, hk, rfl, HM, hm, rfl, hw⟩ := hrel
    subst hw
    by_cases hlt : k < rs.length
    · obtain ⟨g, o, u, n, c, rfl, hcell, hsum⟩ := HT.out k hlt
      have HS : Hid (m + n = sumL (rs.take (k + 1))) := by have h := HM.out; show m + n = _; omega
      have hmn : m + n ≤ 1000000 := by have := HS.out; have := HL.out (k + 1); omega
      clear hsum HM
      go_wp2
      go_roundw
      case rel => exact ⟨k + 1, m + n, by omega, by first | go_num | (congr 1; omega), HS.out, hmn, by first | go_num | (congr 1; omega), by first | rfl | trivial⟩
      case measure => simp [intOf]; omega
    · obtain rfl : k = rs.length := by omega
      have hm2 : m = sumL rs := by have := HM.out; have := HA.out; omega
      clear HM
      go_wp2
      go_ret
      exact ⟨by rw [HP.out, ← hm2]; rfl, rfl⟩
theorem roomP_bound {rs : List (List UInt8)} (hn : rs.length ≤ 256) (hs : sumL rs ≤ 1000000) : -2000000 ≤ roomP rs ∧ roomP rs ≤ 2046 := by unfold roomP; omega
set_option maxHeartbeats 400000 in
theorem placeFor_any {w : World} {ao : Option Addr} {cap : Nat} {vs : List Value} {rs : List (List UInt8)} (hr : RowV w ao vs) (he : ElB w vs rs) (hc : vs.length ≤ cap) (hn : rs.length ≤ 256) (hs : sumL rs ≤ 1000000) (n : Nat) (hnl : n ≤ 1000000) :
    Calls Try.prog 40 #[.slice ao vs.length cap, .int .i64 n] w fun e w' => e = .returned (.tuple #[.int .i64 (freeAt rs), .bool (fitsP rs n)]) ∧ w' = w := by
  have hl := he.len
  have HRM : Hid (Calls Try.prog 43 #[.slice ao rs.length cap] w fun e w' => e = .returned (.int .i64 (roomP rs)) ∧ w' = w) := by rw [← hl]; exact hroom_any hr he hc hn hs
  rw [hl] at hc ⊢
  have HT : Hid (∀ k (hk : k < rs.length), ∃ g o u c, ao = some ⟨g, o, none⟩ ∧ w.cell? ⟨g, o + k, none⟩ = some (.slice u rs[k].length c)) := by
    intro k hk
    cases hr with
    | mt h => rw [h] at hl; simp at hl; omega
    | at_ g o h1 h2 =>
      obtain ⟨u, c, hu, _⟩ := (he.el k hk (by omega)).form
      exact ⟨g, o, u, c, h1, by rw [h2 k (by omega), hu]⟩
  have HF : Hid (∀ k (hk : k < rs.length), rs[k].length = 0 → (∀ j (hj : j < rs.length), j < k → rs[j].length ≠ 0) → freeAt rs = k ∧ fitsP rs n = decide ((n : Int) ≤ roomP rs)) := by
    intro k hk h0 hj
    have e := freeAt_eq hk h0 hj
    refine ⟨e, ?_⟩
    unfold fitsP
    rw [if_pos (by omega)]
  have HN : Hid ((∀ j (hj : j < rs.length), rs[j].length ≠ 0) → freeAt rs = rs.length ∧ fitsP rs n = (decide (rs.length < 256) && decide ((n : Int) + 4 ≤ roomP rs))) := by
    intro h
    have e := freeAt_none h
    refine ⟨e, ?_⟩
    unfold fitsP
    rw [if_neg (by omega)]
  have hrb := roomP_bound hn hs
  clear hr he hl hs
  generalize roomP rs = R at *
  go_enter Try.func40, Try.ntmps40
  go_wp2_with (go_at_call 43; refine HRM.out.mono ?_; rintro e wx ⟨rfl, hwx⟩; rw [hwx]; clear hwx wx)
  go_loopw [13] (fun i wr => ∃ k : Nat, k ≤ rs.length ∧ i = .int .i64 k ∧ Hid (∀ j (hj : j < rs.length), j < k → rs[j].length ≠ 0) ∧ w = wr) (fun i _ => rs.length - (intOf i).toNat)
  case atStart => exact ⟨0, Nat.zero_le _, rfl, fun j _ h => by omega, rfl⟩
  case round =>
    obtain ⟨k, hk, rfl, HJ, hw⟩ := hrel
    subst hw
    by_cases hlt : k < rs.length
    · obtain ⟨g, o, u, c, rfl, hcell⟩ := HT.out k hlt
      by_cases h0 : rs[k].length = 0
      · have HE : Hid (freeAt rs = k ∧ fitsP rs n = decide ((n : Int) ≤ R)) := HF.out k hlt h0 HJ.out
        rw [h0] at hcell
        clear HF HN HJ HT
        rcases Decidable.em ((n : Int) ≤ R) with hle | hle
        all_goals
          go_wp2
          refine bodyPost_ret (v := .tuple #[.int .i64 (freeAt rs), .bool (fitsP rs n)]) ?_ rfl ⟨rfl, rfl⟩
          rw [HE.out.1, HE.out.2]
          first | rw [decide_eq_true hle] | rw [decide_eq_false (by omega)]
          simp [results, Try.results40, go_sem]
      · have HJ2 : Hid (∀ j (hj : j < rs.length), j < k + 1 → rs[j].length ≠ 0) := fun j hj hjk => by
          by_cases e : j = k
          · subst e; exact h0
          · exact HJ.out j hj (by omega)
        generalize rs[k].length = m at *
        have t1 : ((m : Int) == 0) = false := by simpa using h0
        clear HJ HF HN
        go_wp2
        go_roundw
        case rel => exact ⟨k + 1, by omega, by first | go_num | (congr 1; omega), HJ2, by first | rfl | trivial⟩
        case measure => simp [intOf]; omega
    · obtain rfl : k = rs.length := by omega
      have HE : Hid (freeAt rs = rs.length ∧ fitsP rs n = (decide (rs.length < 256) && decide ((n : Int) + 4 ≤ R))) := HN.out (fun j hj => HJ.out j hj hj)
      clear HF HN HJ HT hlt
      by_cases h1 : rs.length < 256
      · rcases Decidable.em ((n : Int) + 4 ≤ R) with hle | hle
        all_goals
          have h1' : (rs.length : Int) < 256 := by omega
          go_wp2
          refine bodyPost_ret (v := .tuple #[.int .i64 (freeAt rs), .bool (fitsP rs n)]) ?_ rfl ⟨rfl, rfl⟩
          rw [HE.out.1, HE.out.2, decide_eq_true h1, Bool.true_and]
          first | rw [decide_eq_true hle] | rw [decide_eq_false (by omega)]
          simp [results, Try.results40, go_sem]
      · have h1' : ¬ (rs.length : Int) < 256 := by omega
        go_wp2
        refine bodyPost_ret (v := .tuple #[.int .i64 (freeAt rs), .bool (fitsP rs n)]) ?_ rfl ⟨rfl, rfl⟩
        rw [HE.out.1, HE.out.2, decide_eq_false h1, Bool.false_and]
        simp [results, Try.results40, go_sem]
end Go.Proofs.Ytkmgahembhgloaa

/- Lists of records: read, made; Same, Size; a region's bytes as the laws read them. -/
import Derived.Test.YtcjoolmlobjpbaaW6L
import Derived.Lib.Strings
namespace Go.Proofs.Ytcjoolmlobjpbaa
open Go.RowKit Go.Maps
set_option linter.unusedVariables false
set_option linter.unusedSimpArgs false

theorem Bytes.frN {w w' : World} {rv : Value} {r : List UInt8} {G : Nat → Prop} (h : Bytes w rv r) (ha : r ≠ [] → OffF G rv) (hf : Fr w w' G) : Bytes w' rv r := by
  by_cases hr : r = []
  · subst hr
    rcases h with h | ⟨a, cap, hv, hc, h⟩
    · exact Or.inl h
    · exact Or.inr ⟨a, cap, hv, hc, fun j hj => by simp at hj⟩
  · exact h.fr (ha hr) hf
/-- A list of records that is read: where it lies. -/
def RecsIn (w : World) (H : Nat → Prop) (v : Value) (recs : List (List UInt8)) : Prop :=
  ∃ ao cap, v = .slice ao recs.length cap ∧ recs.length ≤ cap ∧ (recs = [] ∨ ∃ g o, ao = some ⟨g, o, none⟩ ∧ H g ∧ ∀ k (h : k < recs.length), ∃ u, w.cell? ⟨g, o + k, none⟩ = some u ∧ Bytes w u recs[k] ∧ ∀ a n c, u = .slice (some a) n c → recs[k] ≠ [] → H a.block)
theorem RecsIn.keep {w w' : World} {H S : Nat → Prop} {v : Value} {recs : List (List UInt8)} (h : RecsIn w H v recs) (hf : Fr w w' S) (hd : ∀ k, H k → ¬ S k) : RecsIn w' H v recs := by
  obtain ⟨ao, cap, hv, hc, h⟩ := h
  refine ⟨ao, cap, hv, hc, ?_⟩
  rcases h with h | ⟨g, o, ha, hg, h⟩
  · exact Or.inl h
  · refine Or.inr ⟨g, o, ha, hg, fun k hk => ?_⟩
    obtain ⟨u, h1, h2, h3⟩ := h k hk
    exact ⟨u, fr_cell hf (hd g hg) h1, h2.frN (fun hne a n c e => hd _ (h3 a n c e hne)) hf, h3⟩
theorem RecsIn.keepB {w w' : World} {H : Nat → Prop} {v : Value} {recs : List (List UInt8)} (h : RecsIn w H v recs) (hb : Below w.heap.size w w') : RecsIn w' H v recs :=
  h.keep (Fr.of_below (F := fun _ => False) hb) (fun _ _ => id)
theorem RecsIn.mono {w : World} {H H' : Nat → Prop} {v : Value} {recs : List (List UInt8)} (h : RecsIn w H v recs) (hh : ∀ k, H k → H' k) : RecsIn w H' v recs := by
  obtain ⟨ao, cap, hv, hc, h⟩ := h
  refine ⟨ao, cap, hv, hc, ?_⟩
  rcases h with h | ⟨g, o, ha, hg, h⟩
  · exact Or.inl h
  · refine Or.inr ⟨g, o, ha, hh g hg, fun k hk => ?_⟩
    obtain ⟨u, h1, h2, h3⟩ := h k hk
    exact ⟨u, h1, h2, fun a n c e hne => hh _ (h3 a n c e hne)⟩
theorem conv_str {w : World} {tv : Value} {xs : List UInt8} (h : Bytes w tv xs) : (convert 36 9 tv).run Try.prog w = .ok (.string ⟨xs.toArray⟩) w := by
  rcases h with ⟨rfl, rfl⟩ | ⟨a, cap, rfl, hc, hb⟩
  · rw [run_convert_bytes_string w _ _ _ none 0 0 Try.underlying36 Try.underlying5 Try.underlying9]; rfl
  · exact run_convert_bytes_back w 36 9 5 a cap xs Try.underlying36 Try.underlying5 Try.underlying9 hb
theorem take_snoc_eq {x y : List (List UInt8)} {k : Nat} (h1 : k < x.length) (h2 : k < y.length) (h : x.take k = y.take k) (he : x[k] = y[k]) : x.take (k + 1) = y.take (k + 1) := by
  rw [List.take_succ_eq_append_getElem h1, List.take_succ_eq_append_getElem h2, h, he]
set_option maxHeartbeats 2000000 in
theorem same_any {w : World} {H1 H2 : Nat → Prop} {v1 v2 : Value} {x y : List (List UInt8)} (h1 : RecsIn w H1 v1 x) (h2 : RecsIn w H2 v2 y) (hl : x.length ≤ 100000000) :
    Calls Try.prog 20 #[v1, v2] w fun e w' => e = .returned (.bool (decide (x = y))) ∧ Below w.heap.size w w' := by
  obtain ⟨ao1, cap1, rfl, hc1, h1⟩ := h1
  obtain ⟨ao2, cap2, rfl, hc2, h2⟩ := h2
  by_cases hlen : x.length = y.length
  · have HX : Hid (x = [] ∨ ∃ g o, ao1 = some ⟨g, o, none⟩ ∧ H1 g ∧ ∀ k (h : k < x.length), ∃ u, w.cell? ⟨g, o + k, none⟩ = some u ∧ Bytes w u x[k] ∧ ∀ a n c, u = .slice (some a) n c → x[k] ≠ [] → H1 a.block) := h1
    have HY : Hid (y = [] ∨ ∃ g o, ao2 = some ⟨g, o, none⟩ ∧ H2 g ∧ ∀ k (h : k < y.length), ∃ u, w.cell? ⟨g, o + k, none⟩ = some u ∧ Bytes w u y[k] ∧ ∀ a n c, u = .slice (some a) n c → y[k] ≠ [] → H2 a.block) := h2
    clear h1 h2
    have HLE : Hid (x.length = y.length) := hlen
    have e1 : ((x.length : Int) = (y.length : Int)) := by omega
    clear hlen
    go_enter Try.func20, Try.ntmps20
    go_wp2
    go_loopw [5] (fun i wr => ∃ k : Nat, k ≤ x.length ∧ i = .int .i64 k ∧ Hid (x.take k = y.take k) ∧ Below w.heap.size w wr) (fun i _ => x.length - (intOf i).toNat)
    case atStart => exact ⟨0, Nat.zero_le _, rfl, rfl, Below.refl _ _⟩
    case round =>
      obtain ⟨k, hk, rfl, HT, hb⟩ := hrel
      by_cases hlt : k < x.length
      · have hy : k < y.length := by have := HLE.out; omega
        rcases HX.out with h0 | ⟨g1, o1, rfl, _, hx⟩
        · rw [h0] at hlt; simp at hlt
        rcases HY.out with h0 | ⟨g2, o2, rfl, _, hyy⟩
        · rw [h0] at hy; simp at hy
        obtain ⟨u1, c1, b1, _⟩ := hx k hlt
        obtain ⟨u2, c2, b2, _⟩ := hyy k hy
        have c1' := cell_keep hb c1
        have c2' := cell_keep hb c2
        have HEQ : Hid (x[k] = y[k] → x.take (k + 1) = y.take (k + 1)) := take_snoc_eq hlt hy HT.out
        have HNE : Hid (x[k] ≠ y[k] → x ≠ y) := fun h e => h (by subst e; rfl)
        have q1 : ∀ nq, (convert 36 9 u1).run Try.prog (wr.drewN nq) = .ok (.string ⟨x[k].toArray⟩) (wr.drewN nq) := fun nq => conv_str (b1.keep (below_drewN hb nq))
        have q2 : ∀ nq, (convert 36 9 u2).run Try.prog (wr.drewN nq) = .ok (.string ⟨y[k].toArray⟩) (wr.drewN nq) := fun nq => conv_str (b2.keep (below_drewN hb nq))
        have l1 : (⟨x[k].toArray⟩ : ByteArray).toList = x[k] := by rw [Lib.toList_data]
        have l2 : (⟨y[k].toArray⟩ : ByteArray).toList = y[k] := by rw [Lib.toList_data]
        obtain ⟨a1, p1, hu1, _⟩ := b1.form
        obtain ⟨a2, p2, hu2, _⟩ := b2.form
        subst hu1 hu2
        clear hx hyy c1 c2 b1 b2
        generalize (⟨x[k].toArray⟩ : ByteArray) = X at *
        generalize (⟨y[k].toArray⟩ : ByteArray) = Y at *
        generalize x[k] = xk at *
        generalize y[k] = yk at *
        by_cases he : xk = yk
        · have HE : Hid (xk = yk) := he
          have hT : (xk == yk) = true := by simpa using he
          clear he
          go_wp2
          go_quiet (fail)
          go_wp2
          go_roundw
          case rel => exact ⟨k + 1, by omega, by go_num, HEQ.out HE.out, below_drewN hb _⟩
          case measure => simp [intOf]; omega
        · have HE : Hid (x ≠ y) := HNE.out he
          have hT : (xk == yk) = false := by simpa using he
          clear he
          go_wp2
          go_quiet (fail)
          go_wp2
          go_ret
          exact ⟨by rw [decide_eq_false HE.out]; rfl, below_drewN hb _⟩
      · have HE : Hid (x = y) := by
          have := HT.out
          rw [List.take_of_length_le (by omega), List.take_of_length_le (by have := HLE.out; omega)] at this
          exact this
        go_wp2
        go_ret
        exact ⟨by rw [decide_eq_true HE.out]; rfl, hb⟩
  · have HN : Hid (x ≠ y) := fun e => hlen (by rw [e])
    have e1 : ¬ ((x.length : Int) = (y.length : Int)) := by omega
    clear hlen h1 h2
    go_enter Try.func20, Try.ntmps20
    go_wp2
    go_ret
    exact ⟨by rw [decide_eq_false HN.out]; rfl, Below.refl _ _⟩
set_option maxHeartbeats 1000000 in
theorem size_any6 {w : World} {H : Nat → Prop} {v : Value} {x : List (List UInt8)} (h : RecsIn w H v x) (hl : sizeL x ≤ 1000000000) (hx : x.length ≤ 100000000) (hlr : ∀ r ∈ x, r.length ≤ 1000000000) :
    Calls Try.prog 14 #[v] w fun e w' => e = .returned (.int .i64 (sizeL x)) ∧ w' = w := by
  obtain ⟨ao1, cap1, rfl, hc1, h1⟩ := h
  have HX : Hid (x = [] ∨ ∃ g o, ao1 = some ⟨g, o, none⟩ ∧ H g ∧ ∀ k (h : k < x.length), ∃ u, w.cell? ⟨g, o + k, none⟩ = some u ∧ Bytes w u x[k] ∧ ∀ a n c, u = .slice (some a) n c → x[k] ≠ [] → H a.block) := h1
  clear h1
  go_enter Try.func14, Try.ntmps14
  go_wp2
  go_loop [3, 4] (fun s i => ∃ k : Nat, k ≤ x.length ∧ i = .int .i64 k ∧ s = .int .i64 (sizeL (x.take k))) (fun _ i => x.length - (intOf i).toNat)
  case atStart => exact ⟨0, Nat.zero_le _, rfl, rfl⟩
  case round =>
    obtain ⟨k, hk, rfl, rfl⟩ := hrel
    have hle := sizeL_le x k
    by_cases hlt : k < x.length
    · rcases HX.out with h0 | ⟨g1, o1, rfl, _, hxx⟩
      · rw [h0] at hlt; simp at hlt
      obtain ⟨u1, c1, b1, _⟩ := hxx k hlt
      obtain ⟨a1, p1, hu1, _⟩ := b1.form
      subst hu1
      have HS : Hid (sizeL (x.take (k + 1)) = sizeL (x.take k) + 8 + rnd x[k].length) := sizeL_take x k hlt
      have hrl := hlr _ (List.getElem_mem hlt)
      have hle2 := sizeL_le x (k + 1)
      rw [HS.out] at hle2
      clear hxx b1
      generalize x[k].length = m at *
      generalize sizeL (x.take k) = z at *
      go_wp2_with (go_at_call 34; refine (round_any m _ (by omega)).mono ?_; rintro e wx ⟨rfl, rfl⟩)
      go_round
      case rel => exact ⟨k + 1, by omega, by go_num, by rw [HS.out]; go_num⟩
      case measure => simp [intOf]; omega
    · have hE : x.take k = x := List.take_of_length_le (by omega)
      rw [hE]
      go_wp2
      go_ret
      exact ⟨rfl, rfl⟩
end Go.Proofs.Ytcjoolmlobjpbaa

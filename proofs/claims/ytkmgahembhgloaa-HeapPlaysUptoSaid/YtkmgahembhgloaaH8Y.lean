/- The document's heap: what it reads of a page, bytes of its own, there (for HeapPlays). -/
import Derived.Test.YtkmgahembhgloaaH8W
namespace Go.Proofs.Ytkmgahembhgloaa
open Go.RowKit Go.Maps
set_option linter.unusedVariables false
set_option linter.unusedSimpArgs false

/-- A row of slices of bytes, as it is read. -/
def Recs (w : World) (pv : Value) (rs : List (List UInt8)) : Prop :=
  ∃ (ao : Option Addr) (cap : Nat), pv = .slice ao rs.length cap ∧ rs.length ≤ cap ∧ (rs = [] ∨ ∃ g, ao = some ⟨g, 0, none⟩ ∧ ∀ i (hi : i < rs.length), ∃ vo vc, w.cell? ⟨g, i, none⟩ = some (.slice vo rs[i].length vc) ∧ Bytes w (.slice vo rs[i].length vc) rs[i])
set_option maxHeartbeats 1000000 in
theorem refRoom_any {w : World} {pv : Value} {rs : List (List UInt8)} (h : Recs w pv rs) (hl : rs.length ≤ 256) (hs : sumL rs ≤ 1000000) :
    Calls Try.prog 53 #[pv] w fun e w' => e = .returned (.int .i64 (roomP rs)) ∧ w' = w := by
  obtain ⟨ao, cap, rfl, hc, hcl⟩ := h
  have HC : Hid (rs = [] ∨ ∃ g, ao = some ⟨g, 0, none⟩ ∧ ∀ i (hi : i < rs.length), ∃ vo vc, w.cell? ⟨g, i, none⟩ = some (.slice vo rs[i].length vc) ∧ Bytes w (.slice vo rs[i].length vc) rs[i]) := hcl
  clear hcl
  go_enter Try.func53, Try.ntmps53
  go_wp2
  go_loopw [3, 4] (fun nv i wr => ∃ (k : Nat) (z : Int), k ≤ rs.length ∧ i = .int .i64 k ∧ nv = .int .i64 z ∧ z = 2046 - 4 * (rs.length : Int) - (sumL (rs.take k) : Int) ∧ wr = w) (fun _ i _ => rs.length - (intOf i).toNat)
  case atStart => exact ⟨0, _, Nat.zero_le _, rfl, rfl, by simp [sumL], rfl⟩
  case round =>
    obtain ⟨k, z, hk, rfl, rfl, hz, rfl⟩ := hrel
    have hle := sumL_le rs k
    by_cases hlt : k < rs.length
    · rcases HC.out with h0 | ⟨g, rfl, hX⟩
      · rw [h0] at hlt; simp at hlt
      obtain ⟨vo, vc, q, _⟩ := hX k hlt
      have hst := sumL_take rs k hlt
      have hle2 := sumL_le rs (k + 1)
      clear hX
      generalize rs[k].length = m at *
      go_wp2
      go_roundw
      case rel => exact ⟨k + 1, _, by omega, by first | go_num | (congr 1; omega), rfl, by omega, by first | rfl | trivial⟩
      case measure => simp [intOf]; omega
    · obtain rfl : k = rs.length := by omega
      rw [List.take_of_length_le (Nat.le_refl _)] at hz
      go_wp2
      go_ret
      refine ⟨?_, by first | rfl | trivial⟩
      show Ending.returned (.int .i64 z) = _
      unfold roomP
      rw [hz]
/-- What free answers. -/
def freeV (rs : List (List UInt8)) : Int := if freeAt rs < rs.length then (freeAt rs : Int) else -1
set_option maxHeartbeats 1000000 in
theorem refFree_any {w : World} {pv : Value} {rs : List (List UInt8)} (h : Recs w pv rs) (hl : rs.length ≤ 256) :
    Calls Try.prog 52 #[pv] w fun e w' => e = .returned (.int .i64 (freeV rs)) ∧ w' = w := by
  obtain ⟨ao, cap, rfl, hc, hcl⟩ := h
  have HC : Hid (rs = [] ∨ ∃ g, ao = some ⟨g, 0, none⟩ ∧ ∀ i (hi : i < rs.length), ∃ vo vc, w.cell? ⟨g, i, none⟩ = some (.slice vo rs[i].length vc) ∧ Bytes w (.slice vo rs[i].length vc) rs[i]) := hcl
  clear hcl
  go_enter Try.func52, Try.ntmps52
  go_wp2
  go_loopw [3] (fun i wr => ∃ (k : Nat), k ≤ rs.length ∧ i = .int .i64 k ∧ Hid (∀ j (hj : j < rs.length), j < k → rs[j].length ≠ 0) ∧ wr = w) (fun i _ => rs.length - (intOf i).toNat)
  case atStart => exact ⟨0, Nat.zero_le _, rfl, fun j _ h => absurd h (Nat.not_lt_zero _), rfl⟩
  case round =>
    obtain ⟨k, hk, rfl, HN, rfl⟩ := hrel
    by_cases hlt : k < rs.length
    · rcases HC.out with h0 | ⟨g, rfl, hX⟩
      · rw [h0] at hlt; simp at hlt
      obtain ⟨vo, vc, q, _⟩ := hX k hlt
      clear hX
      by_cases hz : rs[k].length = 0
      · have hF : freeAt rs = k := freeAt_eq hlt hz HN.out
        have HF : Hid (Ending.returned (.int .i64 (freeV rs)) = Ending.returned (.int .i64 (k : Int))) := by show _ = _; unfold freeV; rw [hF, if_pos hlt]
        rw [hz] at q
        clear hF hz HN
        go_wp2
        go_ret
        refine ⟨?_, by first | rfl | trivial⟩
        show Ending.returned (.int .i64 (k : Int)) = _
        exact HF.out.symm
      · have HS : Hid (∀ j (hj : j < rs.length), j < k + 1 → rs[j].length ≠ 0) := fun j hj hjk => by
          rcases Nat.lt_succ_iff_lt_or_eq.1 hjk with h | h
          · exact HN.out j hj h
          · subst h; exact hz
        have e1 : ((rs[k].length : Int) == 0) = false := by simp; simpa using hz
        clear HN
        generalize rs[k].length = m at *
        go_wp2
        go_roundw
        case rel => exact ⟨k + 1, by omega, by first | go_num | (congr 1; omega), HS.out, by first | rfl | trivial⟩
        case measure => simp [intOf]; omega
    · obtain rfl : k = rs.length := by omega
      have HF : Hid (freeV rs = -1) := by show _ = _; unfold freeV; rw [freeAt_none (fun j hj => HN.out j hj hj), if_neg (Nat.lt_irrefl _)]
      go_wp2
      go_ret
      refine ⟨?_, by first | rfl | trivial⟩
      show Ending.returned (.int .i64 (-1)) = _
      rw [HF.out]

set_option maxHeartbeats 1000000 in
theorem ref_own (base : Nat) (v : Value) (xs : List UInt8) (w : World) (h : Bytes w v xs) (hx : 0 < xs.length) (hl : xs.length ≤ 1000000) (hb : base ≤ w.heap.size) :
    Calls Try.prog 37 #[v] w fun e w' => ∃ v', e = .returned v' ∧ OwnB base w' v' xs ∧ (∀ k, v'.ownBlock = some k → w.heap.size ≤ k) ∧ Below w.heap.size w w' := by
  obtain ⟨ao, cap, rfl, hc, hcells⟩ := h.form
  obtain ⟨a, rfl, _⟩ := hcells hx
  clear hcells
  have h0 : Below w.heap.size w (w.alloc (.cells #[] 5)) := (Below.refl _ _).alloc (Nat.le_refl _) _
  have h1 := h.keep h0
  have HC : Hid (∀ j (hj : j < xs.length), (w.alloc (.cells #[] 5)).cell? (a.add j) = some (bv xs[j])) := by
    rcases h1 with ⟨h, _⟩ | ⟨a', cap', h, _, h2⟩
    · cases h
    · cases h; exact h2
  have HO : Hid (OwnB base (w.alloc (.cells #[] 5)) (.slice (some ⟨w.heap.size, 0, none⟩) 0 0) []) := own_empty base w hb
  have hbe := build_empty w
  clear h1 h
  go_enter Try.func37, Try.ntmps37
  go_wp2_with (first | (at_builtin; refine wp_appA _ rfl _ _ rfl base _ [] rfl HO.out a xs.length cap xs rfl HC.out rfl hx (by simp; omega) (by simp; omega) ?_))
  intro v' w2 ho hg
  have hb2 : Below w.heap.size w w2 := h0.grown hg.grown (by simp) (by intro k hk; simp [Value.ownBlock] at hk; omega)
  have hn : ∀ k, v'.ownBlock = some k → w.heap.size ≤ k := fun k hk => by
    rcases hg.own with e | e
    · rw [e] at hk; simp [Value.ownBlock] at hk; omega
    · have := e k hk; simp at this; omega
  clear hg
  go_wp2
  go_ret
  exact ⟨v', rfl, by simpa using ho, hn, hb2⟩

/-- The document's heap as it is read: its pages, the records of each. -/
def Pages (w : World) (rv : Value) (n : Nat) (R : Nat → List (List UInt8)) : Prop :=
  ∃ (rg gp cap : Nat) (PV : Nat → Value), rv = .pointer (some ⟨rg, 0, none⟩) ∧ w.cell? ⟨rg, 0, none⟩ = some (.slice (some ⟨gp, 0, none⟩) n cap) ∧ n ≤ cap ∧ ∀ j, j < n → w.cell? ⟨gp, j, none⟩ = some (PV j) ∧ Recs w (PV j) (R j)
open Classical in
noncomputable def thereB (n : Nat) (R : Nat → List (List UInt8)) (id : Int) : Bool := decide (ThereR n R id)
set_option maxHeartbeats 2000000 in
theorem refThere_any {w : World} {rv : Value} {n : Nat} {R : Nat → List (List UInt8)} (h : Pages w rv n R) (hn : n ≤ 256) (hf : ∀ j, j < n → (R j).length ≤ 256) (id : Int) (hid : -9223372036854775808 ≤ id ∧ id ≤ 9223372036854775807) :
    Calls Try.prog 36 #[rv, .int .i64 id] w fun e w' => e = .returned (.bool (thereB n R id)) ∧ w' = w := by
  obtain ⟨rg, gp, cap, PV, rfl, c0, hc, hp⟩ := h
  by_cases h0 : 0 ≤ id
  · obtain ⟨k, hk⟩ : ∃ k : Nat, id.tdiv 256 = (k : Int) := ⟨(id / 256).toNat, by rw [Int.tdiv_eq_ediv_of_nonneg h0]; omega⟩
    obtain ⟨s, hs⟩ : ∃ s : Nat, id.tmod 256 = (s : Int) := ⟨(id % 256).toNat, by rw [Int.tmod_eq_emod_of_nonneg h0]; omega⟩
    have hid' : id = 256 * (k : Int) + (s : Int) ∧ s < 256 := by
      rw [Int.tdiv_eq_ediv_of_nonneg h0] at hk
      rw [Int.tmod_eq_emod_of_nonneg h0] at hs
      omega
    have HT : Hid (thereB n R id = decide (k < n ∧ s < (R k).length ∧ 0 < ((R k).getD s []).length)) := by
      show _ = _
      unfold thereB
      congr 1
      apply propext
      constructor
      · rintro ⟨k', s', h1, h2, h3, h4⟩
        obtain rfl : k' = k := by omega
        obtain rfl : s' = s := by omega
        exact ⟨h1, h4⟩
      · rintro ⟨h1, h2⟩
        exact ⟨k, s, h1, hid'.2, hid'.1, h2⟩
    have t0 : decide (id ≥ 0) = true := decide_eq_true h0
    have hkb : (k : Int) ≤ 9223372036854775807 := by omega
    clear hid'
    by_cases hkn : k < n
    · obtain ⟨c1, pa, pcap, hpv, hpc, hcl⟩ := hp k hkn
      rw [hpv] at c1
      have t1 : decide ((k : Int) < (n : Int)) = true := decide_eq_true (by omega)
      clear hp hpv
      have hfk := hf k hkn
      by_cases hsl : s < (R k).length
      · have t2 : decide ((s : Int) < ((R k).length : Int)) = true := decide_eq_true (by omega)
        rcases hcl with e | ⟨g, rfl, hX⟩
        · rw [e] at hsl; simp at hsl
        obtain ⟨vo, vc, c2, _⟩ := hX s hsl
        have HT2 : Hid (thereB n R id = decide (0 < (R k)[s].length)) := by
          show _ = _
          rw [HT.out, getD_lt hsl]
          simp [hkn, hsl]
        clear hX HT
        generalize (R k)[s].length = m at *
        by_cases hm : 0 < m
        · have t3 : decide ((m : Int) > 0) = true := decide_eq_true (by omega)
          have hE := HT2.out
          rw [decide_eq_true hm] at hE
          rw [hE]
          clear hE HT2
          go_enter Try.func36, Try.ntmps36
          go_wp2
          go_ret
          exact ⟨rfl, rfl⟩
        · have hE := HT2.out
          rw [decide_eq_false hm] at hE
          rw [hE]
          obtain rfl : m = 0 := by omega
          clear hE HT2 hm
          go_enter Try.func36, Try.ntmps36
          go_wp2
          go_ret
          exact ⟨rfl, rfl⟩
      · have t2 : decide ((s : Int) < ((R k).length : Int)) = false := decide_eq_false (by omega)
        have hE := HT.out
        rw [decide_eq_false (fun h => hsl h.2.1)] at hE
        rw [hE]
        clear hE HT hcl
        generalize (R k).length = m at *
        go_enter Try.func36, Try.ntmps36
        go_wp2
        go_ret
        exact ⟨rfl, rfl⟩
    · have t1 : decide ((k : Int) < (n : Int)) = false := decide_eq_false (by omega)
      have t1' : decide (k < n) = false := decide_eq_false hkn
      have hE := HT.out
      rw [decide_eq_false (fun h => hkn h.1)] at hE
      rw [hE]
      clear hE HT hp hf
      go_enter Try.func36, Try.ntmps36
      go_wp2
      go_ret
      exact ⟨rfl, rfl⟩
  · have t0 : decide (id ≥ 0) = false := decide_eq_false h0
    have hE : thereB n R id = false := by
      simp only [thereB, decide_eq_false_iff_not]
      exact fun h => h0 (HeapAt.there_lt h).1
    rw [hE]
    clear hE hp hf
    go_enter Try.func36, Try.ntmps36
    go_wp2
    go_ret
    exact ⟨rfl, rfl⟩
end Go.Proofs.Ytkmgahembhgloaa

/- The walks of value.Right, of the document's own Right, of rowcode's questions of a row, of rowcode.Encode at every row. -/
import Derived.Test.YtfmnlgepllgpnaaR4B
namespace Go.Proofs.Ytfmnlgepllgpnaa
open Go.RowKit
set_option linter.unusedVariables false

theorem ret_bool {a b : Bool} (h : a = b) : Ending.returned (.bool a) = .returned (.bool b) := by rw [h]
def rightB (K N : Int) (S : List UInt8) (B : Bool) : Bool := if K == 0 then (N == 0 && (S.isEmpty && !B)) else if K == 1 then (S.isEmpty && !B) else if K == 2 then (N == 0 && !B) else if K == 3 then (N == 0 && S.isEmpty) else false

set_option maxHeartbeats 1000000 in
theorem right_any (K N : Int) (S : ByteArray) (B : Bool) (w : World) :
    Calls Try.prog 27 #[val K N S B] w fun e w' => e = .returned (.bool (rightB K N S.toList B)) ∧ Below w.heap.size w w' := by
  cases z0 : (K == 0)
  · cases z1 : (K == 1)
    · cases z2 : (K == 2)
      · cases z3 : (K == 3)
        all_goals
          go_enter Try.func27, Try.ntmps27
          go_wp2
          all_goals
            go_ret
            exact ⟨ret_bool (by simp [rightB, *]), (by repeat (first | exact Below.refl _ _ | assumption | refine Below.alloc ?_ (by first | (simp; done) | (simp; omega)) _ | refine Below.setCell ?_ (by first | (simp; done) | (simp; omega)) _ | refine Below.drew ?_ | refine below_drewN ?_ _))⟩
      · go_enter Try.func27, Try.ntmps27
        go_wp2
        all_goals
          go_ret
          exact ⟨ret_bool (by simp [rightB, *]), (by repeat (first | exact Below.refl _ _ | assumption | refine Below.alloc ?_ (by first | (simp; done) | (simp; omega)) _ | refine Below.setCell ?_ (by first | (simp; done) | (simp; omega)) _ | refine Below.drew ?_ | refine below_drewN ?_ _))⟩
    · go_enter Try.func27, Try.ntmps27
      go_wp2
      all_goals
        go_ret
        exact ⟨ret_bool (by simp [rightB, *]), (by repeat (first | exact Below.refl _ _ | assumption | refine Below.alloc ?_ (by first | (simp; done) | (simp; omega)) _ | refine Below.setCell ?_ (by first | (simp; done) | (simp; omega)) _ | refine Below.drew ?_ | refine below_drewN ?_ _))⟩
  · go_enter Try.func27, Try.ntmps27
    go_wp2
    all_goals
      go_ret
      exact ⟨ret_bool (by simp [rightB, *]), (by repeat (first | exact Below.refl _ _ | assumption | refine Below.alloc ?_ (by first | (simp; done) | (simp; omega)) _ | refine Below.setCell ?_ (by first | (simp; done) | (simp; omega)) _ | refine Below.drew ?_ | refine below_drewN ?_ _))⟩

set_option maxHeartbeats 1000000 in
theorem refRight_any (K N : Int) (S : ByteArray) (B : Bool) (w : World) :
    Calls Try.prog 20 #[val K N S B] w fun e w' => e = .returned (.bool (rightB K N S.toList B)) ∧ Below w.heap.size w w' := by
  cases z0 : (K == 0)
  · cases z1 : (K == 1)
    · cases z2 : (K == 2)
      · cases z3 : (K == 3)
        all_goals
          go_enter Try.func20, Try.ntmps20
          go_wp2
          all_goals
            go_ret
            exact ⟨ret_bool (by simp [rightB, *]), (by repeat (first | exact Below.refl _ _ | assumption | refine Below.alloc ?_ (by first | (simp; done) | (simp; omega)) _ | refine Below.setCell ?_ (by first | (simp; done) | (simp; omega)) _ | refine Below.drew ?_ | refine below_drewN ?_ _))⟩
      · go_enter Try.func20, Try.ntmps20
        go_wp2
        all_goals
          go_ret
          exact ⟨ret_bool (by simp [rightB, *]), (by repeat (first | exact Below.refl _ _ | assumption | refine Below.alloc ?_ (by first | (simp; done) | (simp; omega)) _ | refine Below.setCell ?_ (by first | (simp; done) | (simp; omega)) _ | refine Below.drew ?_ | refine below_drewN ?_ _))⟩
    · go_enter Try.func20, Try.ntmps20
      go_wp2
      all_goals
        go_ret
        exact ⟨ret_bool (by simp [rightB, *]), (by repeat (first | exact Below.refl _ _ | assumption | refine Below.alloc ?_ (by first | (simp; done) | (simp; omega)) _ | refine Below.setCell ?_ (by first | (simp; done) | (simp; omega)) _ | refine Below.drew ?_ | refine below_drewN ?_ _))⟩
  · go_enter Try.func20, Try.ntmps20
    go_wp2
    all_goals
      go_ret
      exact ⟨ret_bool (by simp [rightB, *]), (by repeat (first | exact Below.refl _ _ | assumption | refine Below.alloc ?_ (by first | (simp; done) | (simp; omega)) _ | refine Below.setCell ?_ (by first | (simp; done) | (simp; omega)) _ | refine Below.drew ?_ | refine below_drewN ?_ _))⟩


def rightV (v : V4) : Bool := rightB v.1 v.2.1 v.2.2.1 v.2.2.2
/-- A number of 64 bits. -/
def In64 (v : V4) : Prop := -9223372036854775808 ≤ v.2.1 ∧ v.2.1 ≤ 9223372036854775807
theorem rightV_iff {v : V4} (h : In64 v) : rightV v = true ↔ RightQ v := by
  obtain ⟨k, n, t, b⟩ := v
  unfold In64 at h
  simp only at h
  unfold rightV rightB RightQ
  simp only
  by_cases k0 : k = 0
  · subst k0; simp
  by_cases k1 : k = 1
  · subst k1; simp [h]
  by_cases k2 : k = 2
  · subst k2; simp
  by_cases k3 : k = 3
  · subst k3; simp
  simp [k0, k1, k2, k3]
def longV (v : V4) : Bool := v.1 == 2 && decide (400 < v.2.2.1.length)
def longR (l : List V4) : Bool := decide (12 < l.length) || l.any longV
def rightR (l : List V4) : Bool := l.all rightV
theorem okR_of {l : List V4} (h1 : longR l = false) (h2 : rightR l = true) (h : ∀ v ∈ l, In64 v) : OkR l := by
  unfold longR at h1
  rw [Bool.or_eq_false_iff] at h1
  refine ⟨by have := h1.1; simp at this; omega, fun v hv => ?_⟩
  have hR := (rightV_iff (h v hv)).1 (List.all_eq_true.1 h2 v hv)
  refine ⟨hR, ?_⟩
  have hl := List.any_eq_false.1 h1.2 v hv
  rcases right_kind hR with e | e | e | e
  · rcases hR with g | g | g | g
    · rw [g.2.2.1]; simp
    all_goals exact absurd (g.1.symm.trans e) (by decide)
  · rcases hR with g | g | g | g
    · exact absurd (g.1.symm.trans e) (by decide)
    · rw [g.2.2.1]; simp
    all_goals exact absurd (g.1.symm.trans e) (by decide)
  · simp [longV, e] at hl; exact hl
  · rcases hR with g | g | g | g
    · exact absurd (g.1.symm.trans e) (by decide)
    · exact absurd (g.1.symm.trans e) (by decide)
    · exact absurd (g.1.symm.trans e) (by decide)
    · rw [g.2.2]; simp
theorem ok_not_long {l : List V4} (h : OkR l) : longR l = false := by
  unfold longR
  rw [Bool.or_eq_false_iff]
  refine ⟨by have := h.1; simp; omega, List.any_eq_false.2 fun v hv => ?_⟩
  have := (h.2 v hv).2
  simp [longV]; omega
theorem right_in {v : V4} (h : RightQ v) : In64 v := by
  unfold In64
  rcases h with h | h | h | h
  · omega
  · omega
  · omega
  · omega
theorem ok_right {l : List V4} (h : OkR l) : rightR l = true := List.all_eq_true.2 fun v hv => (rightV_iff (right_in (h.2 v hv).1)).2 (h.2 v hv).1

/-- The value at place k of a row, in memory. -/
theorem row_cell {w : World} {ao : Option Addr} {l : List V4} {k : Nat} (hk : k < l.length) (h : l = [] ∨ ∃ g o, ao = some ⟨g, o, none⟩ ∧ ∀ k (h : k < l.length), w.rangeAt g (o + k * 4) (cellsV l[k])) :
    ∃ (g o : Nat) (K N : Int) (S : ByteArray) (B : Bool), ao = some ⟨g, o, none⟩ ∧ l[k] = (K, N, S.data.toList, B) ∧ w.rangeAt g (o + k * 4) [.int .i64 K, .int .i64 N, .string S, .bool B] := by
  rcases h with h | ⟨g, o, hg, h⟩
  · subst h; simp at hk
  · have h1 := h k hk
    obtain ⟨K, N, S0, B, hx⟩ : ∃ K N S0 B, l[k] = (K, N, S0, B) := ⟨_, _, _, _, rfl⟩
    refine ⟨g, o, K, N, ⟨S0.toArray⟩, B, hg, by rw [hx], ?_⟩
    rw [hx] at h1
    exact h1
theorem toList_is (S : ByteArray) : S.toList = S.data.toList := Lib.toList_data S
theorem any_take_succ (p : V4 → Bool) (l : List V4) (k : Nat) (h : k < l.length) : (l.take (k + 1)).any p = ((l.take k).any p || p l[k]) := by
  rw [List.take_succ_eq_append_getElem h, List.any_append, List.any_cons, List.any_nil, Bool.or_false]
theorem all_take_succ (p : V4 → Bool) (l : List V4) (k : Nat) (h : k < l.length) : (l.take (k + 1)).all p = ((l.take k).all p && p l[k]) := by
  rw [List.take_succ_eq_append_getElem h, List.all_append, List.all_cons, List.all_nil, Bool.and_true]
theorem any_found (p : V4 → Bool) (l : List V4) (k : Nat) (h : k < l.length) (hp : p l[k] = true) : l.any p = true := List.any_eq_true.2 ⟨l[k], List.getElem_mem h, hp⟩
theorem all_found (p : V4 → Bool) (l : List V4) (k : Nat) (h : k < l.length) (hp : p l[k] = false) : l.all p = false := List.all_eq_false.2 ⟨l[k], List.getElem_mem h, by simp [hp]⟩

set_option maxHeartbeats 1000000 in
theorem isLong_any (v : Value) (l : List V4) (w : World) (hrow : RowAt w v l) (hs : ∀ x ∈ l, x.2.2.1.length ≤ 140737488355328) (hl : l.length ≤ 140737488355328) :
    Calls Try.prog 17 #[v] w fun e w' => e = .returned (.bool (longR l)) ∧ Below w.heap.size w w' := by
  obtain ⟨ao, cap, rfl, hcap, hcells⟩ := hrow
  by_cases h12 : 12 < l.length
  · go_enter Try.func17, Try.ntmps17
    go_wp2
    go_ret
    exact ⟨ret_bool (by simp [longR, h12]), (by repeat (first | exact Below.refl _ _ | assumption | refine Below.alloc ?_ (by first | (simp; done) | (simp; omega)) _ | refine Below.setCell ?_ (by first | (simp; done) | (simp; omega)) _ | refine Below.drew ?_ | refine below_drewN ?_ _))⟩
  · go_enter Try.func17, Try.ntmps17
    go_wp2
    go_loopw [10] (fun i wr => ∃ k : Nat, k ≤ l.length ∧ i = .int .i64 k ∧ Hid ((l.take k).any longV = false) ∧ Below w.heap.size w wr) (fun i _ => l.length - (intOf i).toNat)
    case atStart => exact ⟨0, Nat.zero_le _, rfl, rfl, Below.refl _ _⟩
    case round =>
      obtain ⟨k, hk, rfl, HN, hnx⟩ := hrel
      by_cases hlt : k < l.length
      · obtain ⟨g, o, K, N, S, B, rfl, hx, hr0⟩ := row_cell hlt hcells
        have hr : wr.rangeAt g (o + k * 4) [.int .i64 K, .int .i64 N, .string S, .bool B] := rangeAt_keep hnx hr0
        have hsz := hs _ (List.getElem_mem hlt)
        have HF := any_found longV l k hlt
        have HT := any_take_succ longV l k hlt
        rw [hx] at HF HT hsz
        simp only [len_str] at hsz
        have hbs := hnx.size
        clear hx hcells hr0 hs
        by_cases hK : K = 2
        · subst hK
          by_cases h400 : 400 < S.size
          · have HX : Hid (longR l = true) := by
              show _ = _
              unfold longR
              rw [HF (by simp [longV, h400])]; simp
            clear HF HT HN
            go_wp2_with (refine wpList_load_mid rfl _ _ rfl g (o + k * 4) (by rfl) [.int .i64 2, .int .i64 N, .string S, .bool B] _ hr Try.underlying40 rfl infoV ?_)
            go_ret
            exact ⟨ret_bool HX.out.symm, hnx.alloc hbs _⟩
          · have HX : Hid ((l.take (k + 1)).any longV = false) := by
              show _ = _
              rw [HT, HN.out]
              simp [longV]; omega
            clear HF HT HN
            go_wp2_with (refine wpList_load_mid rfl _ _ rfl g (o + k * 4) (by rfl) [.int .i64 2, .int .i64 N, .string S, .bool B] _ hr Try.underlying40 rfl infoV ?_)
            go_roundw
            case rel => exact ⟨k + 1, by omega, by go_num, HX, hnx.alloc hbs _⟩
            case measure => simp [intOf]; omega
        · have hK2 : (K == 2) = false := by simp [hK]
          have HX : Hid ((l.take (k + 1)).any longV = false) := by
            show _ = _
            rw [HT, HN.out]
            simp [longV, hK2]
          clear HF HT HN hK
          go_wp2_with (refine wpList_load_mid rfl _ _ rfl g (o + k * 4) (by rfl) [.int .i64 K, .int .i64 N, .string S, .bool B] _ hr Try.underlying40 rfl infoV ?_)
          go_roundw
          case rel => exact ⟨k + 1, by omega, by go_num, HX, hnx.alloc hbs _⟩
          case measure => simp [intOf]; omega
      · obtain rfl : k = l.length := by omega
        have HX : Hid (longR l = false) := by
          show _ = _
          have := HN.out
          rw [List.take_length] at this
          simp [longR, this, h12]
        clear HN
        go_wp2
        go_ret
        exact ⟨ret_bool HX.out.symm, hnx⟩
end Go.Proofs.Ytfmnlgepllgpnaa

/- A page's slots, gone over by a function. -/
import Derived.Test.YtkmgahembhgloaaH8B
import Derived.RangeFuncNested
import Derived.RangeFuncBound
import Derived.RangeFuncCalls
import Derived.RangeFuncLeaves
import Derived.RangeFuncBox
import Derived.Shelf.Abstract
import Derived.Shelf.RegionOpen
import Derived.OwnWalkIn
import Derived.TacticsInMore
import Derived.LoopNIn
import Derived.LoopIn
import Derived.Maps.AppendAt
import Derived.Sort.AtCallIn
namespace Go.Proofs.Ytkmgahembhgloaa
open Go.RowKit Go.Maps Go.Shelf
set_option linter.unusedVariables false
set_option linter.unusedSimpArgs false
attribute [local go_sem] Oper.semAt_some

/-- All slots that may be. -/
def fins : List (Fin 256) := List.ofFn (fun i => i)
theorem fins_len : fins.length = 256 := List.length_ofFn
theorem fins_take (k : Nat) (hk : k < 256) : fins.take (k + 1) = fins.take k ++ [⟨k, hk⟩] := by
  have h : k < fins.length := by rw [fins_len]; exact hk
  have e : fins[k] = ⟨k, hk⟩ := by
    exact List.getElem_ofFn (f := fun i : Fin 256 => i) h
  rw [List.take_succ_eq_append_getElem h, e]
/-- What is handed on of a slot. -/
def slotV (a : Addr) (cap : Nat) (c : List UInt8) (s : Fin 256) : Array Value := #[.int .i64 (s.val : Int), pieceV a cap (numP c (2 + 4 * s.val)) (numP c (2 + 4 * s.val + 2))]
theorem slots_any (ao : Option Addr) (n cap : Nat) (w : World) : Calls Try.prog 31 #[.slice ao n cap] w fun e w' => e = .returned (.func (.func 57) #[] #[.pointer (some ⟨w.heap.size, 0, none⟩)]) ∧ w' = w.alloc (.cells #[.slice ao n cap] 30) := by
  have hmf : ∀ (fn : Fn) (first cap : Array Value) (w : World), (Instr.makeFunc fn first cap).run Try.prog w = .ok (.func fn first cap) w := fun _ _ _ _ => rfl
  go_enter Try.func31, Try.ntmps31
  go_wp2
  go_ret
  exact ⟨rfl, rfl⟩
theorem drew_abides {β : Type} {B : Nat} {J : β → World → Prop} (hJ : AbidesFrom B J) {s : β} {W : World} (h : J s W) (nq : Nat) : J s (W.drewN nq) :=
  hJ s W _ none h ⟨rfl, rfl, rfl, Nat.le_refl _, fun _ _ _ => rfl⟩ (fun r e => by cases e)
theorem yield_bool {e : Ending} {A C : Prop} (h : (e = .returned (.bool true) ∧ A) ∨ (e = .returned (.bool false) ∧ C)) : ∃ bb : Bool, e = .returned (.bool bb) ∧ Hid ((bb = true ∧ A) ∨ (bb = false ∧ C)) := by
  rcases h with ⟨h, a⟩ | ⟨h, c⟩
  · exact ⟨true, h, Or.inl ⟨rfl, a⟩⟩
  · exact ⟨false, h, Or.inr ⟨rfl, c⟩⟩
/-- Two blocks lie as they lay. -/
def Kc (b1 b2 : Nat) (W W' : World) : Prop := W'.heap[b1]? = W.heap[b1]? ∧ W'.heap[b2]? = W.heap[b2]?
theorem Kc.refl (b1 b2 : Nat) (W : World) : Kc b1 b2 W W := ⟨rfl, rfl⟩
theorem Kc.trans {b1 b2 : Nat} {A B C : World} (h : Kc b1 b2 A B) (k : Kc b1 b2 B C) : Kc b1 b2 A C := ⟨k.1.trans h.1, k.2.trans h.2⟩
theorem Kc.drewN {b1 b2 : Nat} {A B : World} (h : Kc b1 b2 A B) (m : Nat) : Kc b1 b2 A (B.drewN m) := h
theorem Kc.cell1 {b1 b2 : Nat} {A B : World} (h : Kc b1 b2 A B) (o : Nat) : B.cell? ⟨b1, o, none⟩ = A.cell? ⟨b1, o, none⟩ := World.cell?_of_block h.1
theorem Kc.cont {b1 : Nat} {A B : World} {a : Addr} {cap : Nat} {c : List UInt8} (h : Kc b1 a.block A B) (hC : Cont A a cap c) : Cont B a cap c :=
  ⟨hC.len, hC.cap, fun j hj => (World.cell?_of_block (w := A) (w' := B) (a := a.add j) (by rw [add_block]; exact h.2)).trans (hC.by_ j hj)⟩
set_option maxRecDepth 100000 in
set_option maxHeartbeats 2000000 in
/-- slots's closure. -/
theorem slots1_in (n : Nat) (hn : 2 ≤ n) (l Bc : Nat) (a : Addr) (cap : Nat) (c : List UInt8) (B : Nat) (J Jx : List (Fin 256) → World → Prop) (hJ : AbidesFrom B J)
    (hY : ∀ pre x W, J pre W → pre.length < 256 → YieldAt Fence.wide (n - 1) Try.prog l (slotV a cap c x) W fun e W' =>
      (e = .returned (.bool true) ∧ J (pre ++ [x]) W' ∧ Kc Bc a.block W W') ∨ (e = .returned (.bool false) ∧ Jx (pre ++ [x]) W'))
    (W : World) (hBc : W.cell? ⟨Bc, 0, none⟩ = some (.slice (some a) 2048 cap)) (hC : Cont W a cap c) (h0 : J [] W) :
    CallsIn Fence.wide n Try.prog 57 #[.func (.yield l) #[] #[], .pointer (some ⟨Bc, 0, none⟩)] W fun e W' => (∃ v, e = .returned v) ∧
      ((∃ ys, ys = fins.take (cntP c) ∧ J ys W') ∨ (∃ pre, (∃ k, k ≤ cntP c ∧ pre = fins.take k) ∧ Jx pre W')) := by
  refine callsIn_of_wp Try.func57 rfl trivial ?_ rfl
  simp only [Try.ntmps57, List.size_toArray, List.length_cons, List.length_nil, Nat.reduceAdd, Nat.reduceSub, Array.replicate_succ, Array.replicate_zero, List.push_toArray, List.append_toArray, List.nil_append, List.cons_append]
  have hcnt : cntP c = min (numP c 0) 256 := rfl
  obtain ⟨M, hM⟩ : ∃ M, numP c 0 = M := ⟨_, rfl⟩
  have hn0 := fun w (h : Cont w a cap c) => number_any h 0 (by omega)
  rw [hM] at hcnt hn0
  have hMl : M ≤ 65535 := hM ▸ numP_le c 0
  have HM : Hid (M ≤ 256 ∧ cntP c = M ∨ ¬ M ≤ 256 ∧ cntP c = 256) := (by omega : M ≤ 256 ∧ cntP c = M ∨ ¬ M ≤ 256 ∧ cntP c = 256)
  have hN2 : cntP c ≤ 256 := cntP_le c
  clear hcnt hM
  generalize cntP c = N at *
  rcases HM.out with ⟨hm, hN⟩ | ⟨hm, hN⟩
  all_goals (first | have HN : Hid (N = M) := hN | have HN : Hid (N = 256) := hN)
  all_goals clear hN HM
  all_goals (first | have hm' : (M : Int) ≤ 256 := (by omega) | have hm' : ¬ (M : Int) ≤ 256 := (by omega))
  all_goals
    gi_wp2_with (first
      | (refine ⟨trivial, fun _ => by omega, ?_⟩; gi_at_call 58; refine (callsIn_wide.2 (hn0 _ hC)).mono ?_; rintro e w1 ⟨rfl, nq, rfl⟩))
    gi_loopw [8] (fun i wr => ∃ k : Nat, k ≤ N ∧ i = .int .i64 k ∧ J (fins.take k) wr ∧ Kc Bc a.block W wr) (fun i _ => N - (intOf i).toNat)
    case atStart => exact ⟨0, Nat.zero_le _, rfl, drew_abides hJ h0 _, (Kc.refl _ _ _).drewN _⟩
    case round =>
      obtain ⟨k, hk, rfl, hJs, hbr⟩ := hrel
      by_cases hlt : k < N
      · have hlt2 := hlt
        rw [HN.out] at hlt2
        have hsl := fun w => slotAt_any k (by omega) w
        have hBc' := (hbr.cell1 0).trans hBc
        gi_wp2_with (first
          | (refine ⟨trivial, fun _ => by omega, ?_⟩; gi_at_call 59; refine (callsIn_wide.2 (hsl _)).mono ?_; rintro e wx ⟨rfl, hwx⟩; rw [hwx]; clear hwx wx))
        obtain ⟨q, hq, hq'⟩ : ∃ q : Nat, 2 + 4 * (k : Int) = (q : Int) ∧ 2 + 4 * k = q := ⟨2 + 4 * k, by omega, rfl⟩
        obtain ⟨q2, hq2, hq2'⟩ : ∃ q2 : Nat, (q : Int) + 2 = (q2 : Int) ∧ q + 2 = q2 := ⟨q + 2, by omega, rfl⟩
        have hw2 : IntKind.i64.wrap (q2 : Int) = (q2 : Int) := by rw [IntKind.wrap_i64]; omega
        have HC : Hid (Cont wr a cap c) := hbr.cont hC
        have hn1 := fun w (h : Cont w a cap c) => number_any h q (by omega)
        have hn2 := fun w (h : Cont w a cap c) => number_any h q2 (by omega)
        have hp3 := fun w => piece_any (w := w) (a := a) hC.cap (numP c q) (numP c q2) (numP_le _ _) (numP_le _ _)
        have hsv : slotV a cap c ⟨k, by omega⟩ = #[.int .i64 k, pieceV a cap (numP c q) (numP c q2)] := by unfold slotV; simp only [hq', hq2']
        rw [hq]
        generalize numP c q = P1 at *
        generalize numP c q2 = P2 at *
        obtain ⟨pv, hpv⟩ : ∃ pv, pieceV a cap P1 P2 = pv := ⟨_, rfl⟩
        rw [hpv] at hsv hp3
        have HV : Hid (∃ ao n c, pv = .slice ao n c) := by rw [← hpv]; unfold pieceV; split <;> exact ⟨_, _, _, rfl⟩
        clear hpv hq hq'
        have hY' := fun W1 (h : J (fins.take k) W1) => hY (fins.take k) ⟨k, by omega⟩ W1 h (by rw [List.length_take, fins_len]; omega)
        rw [hsv] at hY'
        have hY2 := fun m => hY' (wr.drewN m) (drew_abides hJ hJs m)
        unfold YieldAt at hY2
        obtain ⟨fn, hY2⟩ := Classical.axiomOfChoice hY2
        obtain ⟨tmps, hY2⟩ := Classical.axiomOfChoice hY2
        obtain ⟨assign, hY2⟩ := Classical.axiomOfChoice hY2
        obtain ⟨body, hY2⟩ := Classical.axiomOfChoice hY2
        have hy := fun m => (hY2 m).1
        have hR := fun m => (hY2 m).2
        clear hY2
        clear hY hsv hsl hn0 hC hBc hY'
        gi_region_with (first
          | (refine ⟨trivial, fun _ => by omega, ?_⟩; gi_at_call_has 58 (Value.int .i64 (q : Int)); refine (callsIn_wide.2 (hn1 _ (HC.out.keep (by repeat (first | exact Below.refl _ _ | refine Below.drew ?_ | refine below_drewN ?_ _))))).mono ?_; rintro e w1 ⟨rfl, nq1, rfl⟩)
          | (refine ⟨trivial, fun _ => by omega, ?_⟩; gi_at_call_has 58 (Value.int .i64 (q2 : Int)); refine (callsIn_wide.2 (hn2 _ (HC.out.keep (by repeat (first | exact Below.refl _ _ | refine Below.drew ?_ | refine below_drewN ?_ _))))).mono ?_; rintro e w1 ⟨rfl, nq1, rfl⟩)
          | (refine ⟨trivial, fun _ => by omega, ?_⟩; gi_at_call 60; refine (callsIn_wide.2 (hp3 _)).mono ?_; rintro e w1 ⟨rfl, rfl⟩)
          | (refine ⟨fun _ => by omega, ?_⟩; refine (hR _).mono ?_; rintro e W3 hor; obtain ⟨bb, rfl, hb3⟩ := yield_bool hor; clear hor))
        all_goals
          go_simp
          rcases hb3.out with ⟨rfl, hJ3, hk3⟩ | ⟨rfl, hJx3⟩
          · gi_wp2
            go_roundw
            case rel => exact ⟨k + 1, by omega, by first | go_num | (congr 1; omega), by rw [fins_take k (by omega)]; exact hJ3, hbr.trans (((Kc.refl Bc a.block wr).drewN _).trans hk3)⟩
            case measure => simp [intOf]; omega
          · gi_wp2
            refine bodyPost_ret (results_none rfl _ _ _) rfl ?_
            exact ⟨⟨_, rfl⟩, .inr ⟨_, ⟨k + 1, by omega, (fins_take k (by omega)).symm⟩, hJx3⟩⟩
      · have hlt2 := hlt
        rw [HN.out] at hlt2
        obtain rfl : k = N := by omega
        gi_wp2
        go_end0
        exact ⟨⟨_, rfl⟩, .inl ⟨_, rfl, hJs⟩⟩
/-- slots(content): each slot, and its piece. -/
theorem slots_stops (n : Nat) (hn : 2 ≤ n) (Bc : Nat) (a : Addr) (cap : Nat) (c : List UInt8) (w : World) (hBn : Bc < w.heap.size) (hBc : w.cell? ⟨Bc, 0, none⟩ = some (.slice (some a) 2048 cap)) (hC : Cont w a cap c) :
    SeqStopsK Fence.wide n Try.prog 57 #[.pointer (some ⟨Bc, 0, none⟩)] (slotV a cap c) (Kc Bc a.block) (fun ys => ys = fins.take (cntP c)) (fun pre => ∃ k, k ≤ cntP c ∧ pre = fins.take k) 256 w := fun l J Jx W hW hJ hJx hY h0 =>
  slots1_in n hn l Bc a cap c _ J Jx hJ hY W ((hW.cell (p := ⟨Bc, 0, none⟩) hBn).trans hBc) (hC.keep hW) h0
theorem kc_b {w : World} {b1 b2 : Nat} (h1 : b1 < w.heap.size) (h2 : b2 < w.heap.size) (W : World) (l : Nat) (o o' : Obj) (hl : w.heap.size ≤ l) (_ : W.heap[l]? = some o) (_ : o.isCells = false) (_ : o.isWalk = false) : Kc b1 b2 W (W.putObj l o') :=
  ⟨World.putObj_heap_other (by omega), World.putObj_heap_other (by omega)⟩
theorem Cont.lt {w : World} {a : Addr} {cap : Nat} {c : List UInt8} (h : Cont w a cap c) : a.block < w.heap.size := by
  have := World.block_lt_of_cell? w _ (h.by_ 0 (by rw [h.len]; omega))
  rwa [add_block] at this
theorem fins_mem (k : Nat) (x : Fin 256) : x ∈ fins.take k ↔ x.val < k := by
  induction k with
  | zero => simp
  | succ k ih =>
    by_cases hk : k < 256
    · rw [fins_take k hk, List.mem_append, ih, List.mem_singleton, Fin.ext_iff]
      show x.val < k ∨ x.val = k ↔ _
      omega
    · rw [List.take_of_length_le (by rw [fins_len]; omega), ← List.take_of_length_le (l := fins) (i := k) (by rw [fins_len]; omega), ih]
      have := x.isLt
      omega
theorem fins_map {β : Type} (f : Nat → β) (k : Nat) (hk : k ≤ 256) : (fins.take k).map (fun x => f x.val) = (List.range k).map f := by
  induction k with
  | zero => simp
  | succ k ih => rw [fins_take k (by omega), List.map_append, ih (by omega), List.range_succ, List.map_append]; rfl
end Go.Proofs.Ytkmgahembhgloaa

/- The requests of some kind, one by one: those, some. -/
import Derived.Test.YtmldpbgdjlblmaaDoorL11A
import Derived.Test.YtmldpbgdjlblmaaDoorL11B
import Derived.Test.YtmldpbgdjlblmaaDoorL11U
namespace Go.Proofs.YtmldpbgdjlblmaaDoor
open Go.RowKit Go.Maps Go.Shelf
set_option linter.unusedVariables false
set_option linter.unusedSimpArgs false
attribute [local go_sem] Oper.semAt_some

theorem those_any (tp : Option Addr) (fn : Fn) (lbw : Array Value) (w : World) : Calls Tryd.prog 44 #[.pointer tp, .func fn #[] lbw] w fun e w' => e = .returned (.func (.func 60) #[] #[.pointer (some ⟨w.heap.size, 0, none⟩), .pointer (some ⟨w.heap.size + 1, 0, none⟩)]) ∧ w' = (w.alloc (.cells #[.pointer tp] 23)).alloc (.cells #[.func fn #[] lbw] 69) := by
  have hmf : ∀ (fn : Fn) (first cap : Array Value) (w : World), (Instr.makeFunc fn first cap).run Tryd.prog w = .ok (.func fn first cap) w := fun _ _ _ _ => rfl
  go_enter Tryd.func44, Tryd.ntmps44
  go_wp2
  go_ret
  exact ⟨rfl, rfl⟩
/-- The request at a place. -/
def dq : Rq := ⟨0, ⟨0, ByteArray.empty, ByteArray.empty, ByteArray.empty, false⟩, 0, false, false⟩
def atR (L : List Rq) (k : Nat) : Rq := L.getD k dq
theorem atR_lt {L : List Rq} {k : Nat} (h : k < L.length) : atR L k = L[k] := by simp [atR, List.getD, h]
theorem atR_some {L : List Rq} {k : Nat} (h : k < L.length) : L[k]? = some (atR L k) := by rw [atR_lt h]; exact List.getElem?_eq_getElem h
/-- What is handed on of a place. -/
def encR (L : List Rq) (k : Nat) : Array Value := #[.int .i64 (k : Int), (atR L k).v]
/-- The places, up to one, of the requests of some kind. -/
def fil (p : Rq → Bool) (L : List Rq) (k : Nat) : List Nat := (List.range k).filter fun j => p (atR L j)
theorem fil_yes {p : Rq → Bool} {L : List Rq} {k : Nat} (h : p (atR L k) = true) : fil p L (k + 1) = fil p L k ++ [k] := by simp [fil, List.range_succ, List.filter_append, h]
theorem fil_no {p : Rq → Bool} {L : List Rq} {k : Nat} (h : p (atR L k) = false) : fil p L (k + 1) = fil p L k := by simp [fil, List.range_succ, List.filter_append, h]
theorem fil_lt {p : Rq → Bool} {L : List Rq} {k j : Nat} (h : j ∈ fil p L k) : j < k ∧ p (atR L j) = true := by
  unfold fil at h
  rw [List.mem_filter, List.mem_range] at h
  exact h
theorem fil_len (p : Rq → Bool) (L : List Rq) (k : Nat) : (fil p L k).length ≤ k := by
  unfold fil
  have := List.length_filter_le (fun j => p (atR L j)) (List.range k)
  simpa using this
/-- What the iterator reads, wherever it goes on. -/
structure ThRd (W : World) (Bt Bw t : Nat) (ao : Option Addr) (L : List Rq) (p : Rq → Bool) (gp : Nat) (lbp : Array Value) (pre : List Nat) : Prop where
  bt : W.cell? ⟨Bt, 0, none⟩ = some (.pointer (some ⟨t, 0, none⟩))
  bw : W.cell? ⟨Bw, 0, none⟩ = some (.func (.func gp) #[] lbp)
  rd : ∀ k, k < L.length → (∀ j ∈ pre, j < k) → ∃ g, ao = some ⟨g, 0, none⟩ ∧ RqAt W g k (atR L k)
  call : ∀ r : Rq, Calls Tryd.prog gp (#[r.v] ++ lbp) W fun e W' => e = .returned (.bool (p r)) ∧ Below W.heap.size W W'
/-- What is handed on is of that kind, and stands behind what came. -/
def ThDm (p : Rq → Bool) (L : List Rq) (pre : List Nat) (k : Nat) : Prop := k < L.length ∧ p (atR L k) = true ∧ ∀ j ∈ pre, j < k
theorem below_grown {W W' : World} (h : Below W.heap.size W W') : W.grownBy W' none := ⟨h.os, h.tape, h.output, h.size, fun k hk _ => h.block k hk⟩
theorem abides_below {β : Type} {B : Nat} {J : β → World → Prop} (hJ : AbidesFrom B J) {s : β} {W W' : World} (h : J s W) (hb : Below W.heap.size W W') : J s W' := hJ s W W' none h (below_grown hb) (fun r e => by cases e)
theorem drew_abides {β : Type} {B : Nat} {J : β → World → Prop} (hJ : AbidesFrom B J) {s : β} {W : World} (h : J s W) (nq : Nat) : J s (W.drewN nq) :=
  hJ s W _ none h ⟨rfl, rfl, rfl, Nat.le_refl _, fun _ _ _ => rfl⟩ (fun r e => by cases e)
theorem yield_bool {e : Ending} {A C : Prop} (h : (e = .returned (.bool true) ∧ A) ∨ (e = .returned (.bool false) ∧ C)) : ∃ bb : Bool, e = .returned (.bool bb) ∧ Hid ((bb = true ∧ A) ∨ (bb = false ∧ C)) := by
  rcases h with ⟨h, a⟩ | ⟨h, c⟩
  · exact ⟨true, h, Or.inl ⟨rfl, a⟩⟩
  · exact ⟨false, h, Or.inr ⟨rfl, c⟩⟩
theorem boxq_b (w : World) (r : Rq) : Below w.heap.size w (w.alloc r.box) := (Below.refl _ _).alloc (Nat.le_refl _) _
set_option maxRecDepth 100000 in
set_option maxHeartbeats 2000000 in
/-- those's closure. -/
theorem those1_in (n : Nat) (hn : 2 ≤ n) (l Bt Bw t : Nat) (ao : Option Addr) (cap : Nat) (L : List Rq) (hcap : L.length ≤ cap) (hlen : L.length ≤ 100000) (p : Rq → Bool) (gp : Nat) (lbp : Array Value) (eg : Enters Tryd.prog gp) (B : Nat) (J Jx : List Nat → World → Prop) (hJ : AbidesFrom B J)
    (hRd : ∀ pre W, J pre W → ThRd W Bt Bw t ao L p gp lbp pre)
    (hY : ∀ pre x W, ThDm p L pre x → J pre W → pre.length < 100000 → YieldAt Fence.wide (n - 1) Tryd.prog l (encR L x) W fun e W' =>
      (e = .returned (.bool true) ∧ J (pre ++ [x]) W') ∨ (e = .returned (.bool false) ∧ Jx (pre ++ [x]) W'))
    (W : World) (ht : W.cell? ⟨t, 1, none⟩ = some (.slice ao L.length cap)) (h0 : J [] W) :
    CallsIn Fence.wide n Tryd.prog 60 #[.func (.yield l) #[] #[], .pointer (some ⟨Bt, 0, none⟩), .pointer (some ⟨Bw, 0, none⟩)] W fun e W' => (∃ v, e = .returned v) ∧
      ((∃ ys, ys = fil p L L.length ∧ J ys W') ∨ (∃ pre, (∃ k, k ≤ L.length ∧ pre = fil p L k) ∧ Jx pre W')) := by
  refine callsIn_of_wp Tryd.func60 rfl trivial ?_ rfl
  simp only [Tryd.ntmps60, List.size_toArray, List.length_cons, List.length_nil, Nat.reduceAdd, Nat.reduceSub, Array.replicate_succ, Array.replicate_zero, List.push_toArray, List.append_toArray, List.nil_append, List.cons_append]
  have hT := (hRd _ _ h0).bt
  unfold Enters at eg
  gi_wp2
  gi_loopw [13] (fun i wr => ∃ k : Nat, k ≤ L.length ∧ i = .int .i64 k ∧ J (fil p L k) wr) (fun i _ => L.length - (intOf i).toNat)
  case atStart => exact ⟨0, Nat.zero_le _, rfl, h0⟩
  case round =>
    obtain ⟨k, hk, rfl, hJs⟩ := hrel
    by_cases hlt : k < L.length
    · obtain ⟨g, hao, hq⟩ := (hRd _ _ hJs).rd k hlt (fun j hj => (fil_lt hj).1)
      subst hao
      have hlt2 : (k : Int) < (L.length : Int) := by omega
      have hfy := fil_yes (p := p) (L := L) (k := k)
      have hfn := fil_no (p := p) (L := L) (k := k)
      have hfl := fil_len p L k
      have hYk := fun (hp : p (atR L k) = true) W h => hY (fil p L k) k W ⟨hlt, hp, fun j hj => (fil_lt hj).1⟩ h (by omega)
      unfold encR at hYk
      have hJ1 := abides_below hJ hJs (boxq_b wr (atR L k))
      have hbox := BoxQ.new wr (atR L k)
      generalize atR L k = r at *
      have hbw := (hRd _ _ hJ1).bw
      have hc := (hRd _ _ hJ1).call r
      have HB : Hid (BoxQ (wr.alloc r.box) wr.heap.size r) := hbox
      generalize fk1e : fil p L (k + 1) = fk1 at *
      generalize fil p L k = fk at *
      generalize p r = pr at *
      obtain ⟨xt, ⟨sa, ta, la, ua, na⟩, xm, xg, xs⟩ := r
      obtain ⟨q0, q1, q2, q3, q4, q5, q6, q7, q8⟩ := hq
      simp only at q0 q1 q2 q3 q4 q5 q6 q7 q8
      clear hbox hY ht hT h0 hfl
      gi_wp2_with fail
      refine ⟨trivial, fun _ => by omega, (callsIn_wide.2 hc).mono ?_⟩
      rintro e w2 ⟨rfl, hb2⟩
      have hJ2 := abides_below hJ hJ1 hb2
      obtain ⟨r0, r1, r2, r3, r4, r5, r6, r7, r8⟩ := HB.out.keep hb2
      simp only at r0 r1 r2 r3 r4 r5 r6 r7 r8
      clear hJ1 hbw hc HB q0 q1 q2 q3 q4 q5 q6 q7 q8 hb2
      cases pr with
      | false =>
        have hfe := hfn rfl
        clear hYk hfn hfy
        gi_wp2
        refine ⟨fun f e => (by cases e), ?_⟩
        gi_wp2
        go_roundw
        case rel => exact ⟨k + 1, by omega, by go_num, by rw [fk1e, hfe]; exact hJ2⟩
        case measure => simp [intOf]; omega
      | true =>
        have hfe := hfy rfl
        obtain ⟨fn, tmps, assign, body, hy, hR⟩ := hYk rfl w2 hJ2
        clear hfn hfy hYk
        gi_wp2_with fail
        refine ⟨fun _ => by omega, ?_⟩
        refine hR.mono ?_
        rintro e W3 hor
        obtain ⟨bb, rfl, hb3⟩ := yield_bool hor
        clear hor hR hy
        rcases hb3.out with ⟨rfl, hJ3⟩ | ⟨rfl, hJx3⟩
        · gi_wp2
          go_roundw
          case rel => exact ⟨k + 1, by omega, by go_num, by rw [fk1e, hfe]; exact hJ3⟩
          case measure => simp [intOf]; omega
        · gi_wp2
          refine bodyPost_ret (results_none rfl _ _ _) rfl ?_
          exact ⟨⟨_, rfl⟩, .inr ⟨_, ⟨k + 1, by omega, by rw [fk1e, hfe]⟩, hJx3⟩⟩
    · obtain rfl : k = L.length := by omega
      gi_wp2
      go_end0
      exact ⟨⟨_, rfl⟩, .inl ⟨_, rfl, hJs⟩⟩
theorem those_seq (n : Nat) (hn : 2 ≤ n) (Bt Bw t : Nat) {ao : Option Addr} {cap : Nat} {L : List Rq} (hcap : L.length ≤ cap) (hlen : L.length ≤ 100000) (p : Rq → Bool) (gp : Nat) (lbp : Array Value) (eg : Enters Tryd.prog gp) (w : World) (ht : w.cell? ⟨t, 1, none⟩ = some (.slice ao L.length cap)) :
    SeqR Fence.wide n Tryd.prog 60 #[.pointer (some ⟨Bt, 0, none⟩), .pointer (some ⟨Bw, 0, none⟩)] (encR L) (ThDm p L) (fun pre W => ThRd W Bt Bw t ao L p gp lbp pre) (fun ys => ys = fil p L L.length) (fun pre => ∃ k, k ≤ L.length ∧ pre = fil p L k) 100000 w :=
  fun l J Jx W hW hJ hRd hY h0 => those1_in n hn l Bt Bw t ao cap L hcap hlen p gp lbp eg _ J Jx hJ hRd hY W (cell_keep hW ht) h0
set_option maxRecDepth 100000 in
set_option maxHeartbeats 2000000 in
theorem those_nil (n : Nat) (hn : 2 ≤ n) (Bt Bw : Nat) (w : World) :
    SeqR Fence.wide n Tryd.prog 60 #[.pointer (some ⟨Bt, 0, none⟩), .pointer (some ⟨Bw, 0, none⟩)] (encR []) (fun _ _ => True) (fun pre W => W.cell? ⟨Bt, 0, none⟩ = some (.pointer none)) (fun ys => ys = []) (fun _ => False) 100000 w := by
  intro l J Jx W hW hJ hRd hY h0
  refine callsIn_of_wp Tryd.func60 rfl trivial ?_ rfl
  simp only [Tryd.ntmps60, List.size_toArray, List.length_cons, List.length_nil, Nat.reduceAdd, Nat.reduceSub, Array.replicate_succ, Array.replicate_zero, List.push_toArray, List.append_toArray, List.nil_append, List.cons_append]
  have hT := hRd _ _ h0
  gi_wp2
  refine bodyPost_ret (results_none rfl _ _ _) rfl ?_
  exact ⟨⟨_, rfl⟩, h0⟩
theorem fil_none {p : Rq → Bool} {L : List Rq} (h : fil p L L.length = []) : L.any p = false := by
  rw [List.any_eq_false]
  intro r hr hp
  obtain ⟨k, hk, e⟩ := List.getElem_of_mem hr
  have : k ∈ fil p L L.length := by
    unfold fil
    rw [List.mem_filter, List.mem_range]
    exact ⟨hk, by rw [atR_lt hk, e]; exact hp⟩
  rw [h] at this
  cases this
theorem fil_some {p : Rq → Bool} {L : List Rq} {k : Nat} (hk : k ≤ L.length) (h : fil p L k ≠ []) : L.any p = true := by
  obtain ⟨j, hj⟩ := List.exists_mem_of_ne_nil _ h
  obtain ⟨h1, h2⟩ := fil_lt hj
  rw [List.any_eq_true]
  refine ⟨atR L j, ?_, h2⟩
  rw [atR_lt (show j < L.length by omega)]
  exact List.getElem_mem _
theorem cell_new_l (W : World) (v : Value) (t : TypeId) : (W.alloc (.cells #[v] t)).cell? ⟨W.heap.size, 0, none⟩ = some v ∧ (W.alloc (.cells #[v] t)).frozen? ⟨W.heap.size, 0, none⟩ = false := ⟨(Boxed.new W t v).cell, (Boxed.new W t v).frozen⟩
set_option maxRecDepth 100000 in
set_option maxHeartbeats 2000000 in
/-- some: is there one? -/
theorem some_any {w : World} {gf : Nat} {lb : Array Value} (eg : Enters Tryd.prog gf) (u v : Nat → Value) {Dm : List Nat → Nat → Prop} {Rd : List Nat → World → Prop} {S Sp : List Nat → Prop} (hseq : SeqR Fence.wide 8 Tryd.prog gf lb (fun x => #[u x, v x]) Dm Rd S Sp 100000 w) (hRd : ∀ pre W, Below w.heap.size w W → Rd pre W)
    (b : Bool) (hS : S [] → b = false) (hSp : ∀ pre, pre ≠ [] → Sp pre → b = true) :
    Calls Tryd.prog 50 #[.func (.func gf) #[] lb] w fun e w' => e = .returned (.bool b) ∧ Below w.heap.size w w' := by
  refine (callsIn_wide (n := 9)).1 ?_
  refine callsIn_of_wp_marks Tryd.func50 rfl trivial ?_ rfl
  simp only [Tryd.ntmps50, List.size_toArray, List.length_cons, List.length_nil, Nat.reduceAdd, Nat.reduceSub, Array.replicate_succ, Array.replicate_zero, List.push_toArray, List.append_toArray, List.nil_append, List.cons_append]
  gi_wp2
  have c0 := cell_new_l w (.bool false) 4
  have hB0 : Below w.heap.size w (w.alloc (.cells #[.bool false] 4)) := (Below.refl _ w).alloc (Nat.le_refl _) _
  refine wpIn_rangeR (F := Fence.wide) (n := 9) rfl (by omega) (gf := gf) (lb := lb) rfl trivial eg hseq hB0 (fun _ => rfl)
    (fun (pre : List Nat) W => (pre = [] ∧ W.cell? ⟨w.heap.size, 0, none⟩ = some (.bool false) ∧ W.frozen? ⟨w.heap.size, 0, none⟩ = false) ∧ Below w.heap.size w W)
    (fun k (pre : List Nat) W => (k = .ret ∧ pre ≠ [] ∧ W.cell? ⟨w.heap.size, 0, none⟩ = some (.bool true)) ∧ Below w.heap.size w W)
    (OwnFrom.and (Own.from (fun s A B row hs hg hr => ⟨hs.1, cell_kept hs.2.1 hg hr, (frozen_kept hs.2.1 hg hr).trans hs.2.2⟩) _) (ownFrom_below (Nat.le_refl _) (by simp)))
    (fun c => OwnFrom.and (Own.from (fun s A B row hs hg hr => ⟨hs.1, hs.2.1, cell_kept hs.2.2 hg hr⟩) _) (ownFrom_below (Nat.le_refl _) (by simp)))
    (fun pre W h => hRd pre W h.2)
    ⟨⟨rfl, c0.1, c0.2⟩, hB0⟩
    (fun (x : Nat) => { tmps := #[.func (.func gf) #[] lb, undef, .pointer (some ⟨w.heap.size, 0, none⟩), .func (.func gf) #[] lb, u x, v x], defers := [] }) ?assign ?body ?done ?stop
  case assign =>
    intro l x W K hK
    gi_wp2
    simpa using hK
  case body =>
    rintro l pre x W _ ⟨⟨hp, hcr, hfr⟩, hB⟩ _
    gi_wp2
    exact ⟨(KeepsOthers.setCell _ _ _).from _, ⟨rfl, by simp, World.cell?_setCell_same' _ _ _ (by rw [hcr]; rfl)⟩, hB.setCell (p := ⟨w.heap.size, 0, none⟩) (by simp) _⟩
  case done =>
    rintro D ys W hD hSy ⟨⟨rfl, hcr, hfr⟩, hB⟩ hK
    have hb := hS hSy
    subst hb
    gi_wp2
    have hK' := (KeepsOthers.setCell W ⟨w.heap.size, 0, none⟩ (.bool false)).same D _ hK rfl
    refine ⟨by simp, .inl ⟨_, _, rfl, run_takeDeferred hK', ?_⟩⟩
    have hc5 := cell_kept (World.cell?_setCell_same' W ⟨w.heap.size, 0, none⟩ (.bool false) (by rw [hcr]; rfl)) (grownBy_putObj' _ D (.deferred none)) (fun r e => by cases e; exact ⟨_, hK', rfl⟩)
    refine ⟨.bool false, ?_, rfl, (hB.setCell (p := ⟨w.heap.size, 0, none⟩) (by simp) _).trans (belowK_b (w := w) (Nat.le_refl _) _ D _ _ (by simp at hD; omega) hK' rfl rfl)⟩
    simp [results, Tryd.results50, go_sem, hc5]
  case stop =>
    rintro D k pre W hD hSpp ⟨⟨rfl, hne, hcr⟩, hB⟩ hK
    have hb := hSp pre hne hSpp
    subst hb
    gi_wp2
    refine ⟨by simp, .inl ⟨_, _, rfl, run_takeDeferred hK, ?_⟩⟩
    have hc5 := cell_kept hcr (grownBy_putObj' _ D (.deferred none)) (fun r e => by cases e; exact ⟨_, hK, rfl⟩)
    refine ⟨.bool true, ?_, rfl, hB.trans (belowK_b (w := w) (Nat.le_refl _) _ D _ _ (by simp at hD; omega) hK rfl rfl)⟩
    simp [results, Tryd.results50, go_sem, hc5]
theorem enters_those1 : Enters Tryd.prog 60 := enters_of Tryd.func60 (by kernel_rfl) rfl
/-- Is there one of that kind in the table? -/
theorem some_fil {w : World} {Bt Bw t : Nat} {most : Int} {ao : Option Addr} {cap : Nat} {L : List Rq} {p : Rq → Bool} {gp : Nat} {lbp : Array Value} (hQ : QTab w t most ao cap L) (hlen : L.length ≤ 100000) (hbt : w.cell? ⟨Bt, 0, none⟩ = some (.pointer (some ⟨t, 0, none⟩))) (hbw : w.cell? ⟨Bw, 0, none⟩ = some (.func (.func gp) #[] lbp)) (eg : Enters Tryd.prog gp)
    (hcall : ∀ W, Below w.heap.size w W → ∀ r : Rq, Calls Tryd.prog gp (#[r.v] ++ lbp) W fun e W' => e = .returned (.bool (p r)) ∧ Below W.heap.size W W') :
    Calls Tryd.prog 50 #[.func (.func 60) #[] #[.pointer (some ⟨Bt, 0, none⟩), .pointer (some ⟨Bw, 0, none⟩)]] w fun e w' => e = .returned (.bool (L.any p)) ∧ Below w.heap.size w w' :=
  some_any enters_those1 (fun x => .int .i64 (x : Int)) (fun x => (atR L x).v) (those_seq 8 (by omega) Bt Bw t hQ.le hlen p gp lbp eg w hQ.l)
    (fun pre W hb => ⟨cell_keep hb hbt, cell_keep hb hbw, fun k hk _ => by
      obtain ⟨g, e, hq⟩ := hQ.at_ hk
      exact ⟨g, e, by rw [atR_lt hk]; exact hq.keep hb⟩, hcall W hb⟩)
    (L.any p) (fun h => fil_none h.symm) (fun pre hne ⟨k, hk, e⟩ => fil_some hk (e ▸ hne))
theorem some_nil {w : World} {Bt Bw : Nat} (hbt : w.cell? ⟨Bt, 0, none⟩ = some (.pointer none)) :
    Calls Tryd.prog 50 #[.func (.func 60) #[] #[.pointer (some ⟨Bt, 0, none⟩), .pointer (some ⟨Bw, 0, none⟩)]] w fun e w' => e = .returned (.bool false) ∧ Below w.heap.size w w' :=
  some_any enters_those1 (fun x => .int .i64 (x : Int)) (fun x => (atR [] x).v) (those_nil 8 (by omega) Bt Bw w) (fun pre W hb => cell_keep hb hbt) false (fun _ => rfl) (fun _ _ h => h.elim)
end Go.Proofs.YtmldpbgdjlblmaaDoor

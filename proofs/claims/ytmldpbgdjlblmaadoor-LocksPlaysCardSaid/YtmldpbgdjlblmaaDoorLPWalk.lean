/- Both tables side by side: the program's and the document's. The walk of the law LocksPlays. -/
import Derived.Test.YtmldpbgdjlblmaaDoorL11RN
import Derived.Test.YtmldpbgdjlblmaaDoorL11L
import Derived.Test.YtmldpbgdjlblmaaDoorL11PL
import Derived.Test.YtmldpbgdjlblmaaDoorL11EG
import Derived.Lib.QuietBelow
/- Both tables side by side: the program's and the document's. -/
namespace Go.Proofs.YtmldpbgdjlblmaaDoor
open Go.RowKit Go.Joins Go.Maps Go.Shelf
set_option linter.unusedVariables false
set_option linter.unusedSimpArgs false

set_option maxHeartbeats 1000000 in
/-- Two equal lists of numbers are one. -/
theorem sameI_eq {w : World} {a1 a2 : Option Addr} {c1 c2 : Nat} {xs : List Int} (h1 : NList w a1 c1 xs) (h2 : NList w a2 c2 xs) (hl : xs.length ≤ 1000000) :
    Calls Tryd.prog 13 #[.slice a1 xs.length c1, .slice a2 xs.length c2] w fun e w' => e = .returned (.bool true) ∧ Below w.heap.size w w' := by
  have H1 : Hid (NList w a1 c1 xs) := h1
  have H2 : Hid (NList w a2 c2 xs) := h2
  have l1 := h1.le
  have l2 := h2.le
  clear h1 h2
  go_enter Tryd.func13, Tryd.ntmps13
  go_wp2
  go_loopw [5] (fun i wr => ∃ k : Nat, k ≤ xs.length ∧ i = .int .i64 k ∧ Hid (Below w.heap.size w wr)) (fun i _ => xs.length - (intOf i).toNat)
  case atStart => exact ⟨0, Nat.zero_le _, rfl, Below.refl _ _⟩
  case round =>
    rename World => wr
    obtain ⟨k, hk, rfl, HB⟩ := hrel
    by_cases hlt : k < xs.length
    · have tk : (k : Int) < (xs.length : Int) := by omega
      obtain ⟨g1, rfl, q1⟩ := (H1.out.keep HB.out).at_ hlt
      obtain ⟨g2, rfl, q2⟩ := (H2.out.keep HB.out).at_ hlt
      generalize xs[k] = X at *
      go_wp2_with fail
      go_quiet (fail)
      rename Nat => nq
      have HN := Hid.mk' (below_drewN HB.out nq)
      go_wp2
      go_roundw
      case rel => exact ⟨k + 1, by omega, by go_num, HN⟩
      case measure => simp [intOf]; omega
    · have tk : ¬ (k : Int) < (xs.length : Int) := by omega
      go_wp2_with fail
      go_ret
      exact ⟨rfl, HB.out⟩
theorem NList.of_own {base : Nat} {W : World} {v : Value} {zs : List Int} (h : IntsAt base W v zs) : ∃ ao cap, v = .slice ao zs.length cap ∧ NList W ao cap zs := by
  rcases id h.2 with ⟨e, hn⟩ | ⟨g, cap, cur, e, _, hgb, hc, _⟩
  · exact ⟨none, 0, by rw [e, hn], by omega, Or.inl (List.eq_nil_of_length_eq_zero hn)⟩
  · refine ⟨some ⟨g, 0, none⟩, cap, e, hc, Or.inr ⟨g, rfl, fun j hj => ?_⟩⟩
    rw [e] at h
    have := World.ownsRow.cells h (g := g) rfl j (.int .i64 zs[j]) (by rw [List.getElem?_map, List.getElem?_eq_getElem hj]; rfl)
    rwa [Addr.add_mid, Nat.zero_add] at this
/-- The document's Ask. -/
theorem rask_any {base : Nat} {w : World} {t : Nat} {most : Int} {lv : Value} {L : List Rq} (h : QOwn base w t most lv L) (hbw : base ≤ w.heap.size) (hl : L.length ≤ 90000) (tx : Int) (o : Ob) (m : Int) (s : Bool) :
    Calls Tryd.prog 12 #[.pointer (some ⟨t, 0, none⟩), .int .i64 tx, o.v, .int .i64 m, .bool s] w fun e w' => ∃ lv', e = .returned (.tuple #[.bool (askF most L tx o m s).1.1, .int .i64 (askF most L tx o m s).1.2]) ∧ QOwn base w' t most lv' (askF most L tx o m s).2 ∧ Fr w w' (fun b => b = t ∨ lv.ownBlock = some b) ∧ (∀ c, lv'.ownBlock = some c → lv.ownBlock = some c ∨ w.heap.size ≤ c) := by
  obtain ⟨ao, cap, hlv, hQ⟩ := h.tab
  cases hbad : (decide (tx < 1) || !pl o || decide (m < 1) || decide (m > 6) || waitsB L tx) with
  | true =>
    have e1 : askF most L tx o m s = ((false, 114), L) := by unfold askF; rw [if_pos hbad]
    rw [e1]
    refine (rask_form hQ (by omega) tx o m s hbad).mono ?_
    rintro e w' ⟨he, hb⟩
    exact ⟨lv, he, h.keepB hb, Fr.of_below hb, fun c hc => Or.inl hc⟩
  | false =>
    have hb5 : ¬ tx < 1 ∧ pl o = true ∧ ¬ m < 1 ∧ ¬ m > 6 ∧ waitsB L tx = false := by
      simp only [Bool.or_eq_false_iff, decide_eq_false_iff_not, Bool.not_eq_false'] at hbad
      obtain ⟨⟨⟨⟨p1, p2⟩, p3⟩, p4⟩, p5⟩ := hbad
      exact ⟨p1, p2, p3, p4, p5⟩
    obtain ⟨p1, p2, p3, p4, p5⟩ := hb5
    cases hh : hasB L tx o m with
    | true =>
      have e1 : askF most L tx o m s = ((true, 0), L.map (unshort tx o m s)) := by unfold askF; rw [if_neg (by rw [hbad]; simp), if_pos hh]
      rw [e1]
      refine (rask_has h (by omega) tx o m s p1 p2 p3 p4 p5 hh).mono ?_
      rintro e w' ⟨he, hT, hf⟩
      exact ⟨lv, he, hT, hf.mono (fun _ e => Or.inr e), fun c hc => Or.inl hc⟩
    | false =>
      by_cases hf : most ≤ (L.length : Int)
      · have e1 : askF most L tx o m s = ((false, 112), L) := by unfold askF; rw [if_neg (by rw [hbad]; simp), if_neg (by rw [hh]; simp), if_pos hf]
        rw [e1]
        refine (rask_full hQ (by omega) tx o m s p1 p2 p3 p4 p5 hh hf).mono ?_
        rintro e w' ⟨he, hb⟩
        exact ⟨lv, he, h.keepB hb, Fr.of_below hb, fun c hc => Or.inl hc⟩
      · have e1 : askF most L tx o m s = ((mayP L ⟨tx, o, m, false, s⟩ [], 0), L ++ [⟨tx, o, m, mayP L ⟨tx, o, m, false, s⟩ [], s⟩]) := by unfold askF; rw [if_neg (by rw [hbad]; simp), if_neg (by rw [hh]; simp), if_neg hf]
        rw [e1]
        exact rask_new h hbw hl tx o m s p1 p2 p3 p4 p5 hh hf
/-- Both tables, and blocks X of others that stay. -/
structure PQ (w W : World) (t u : Nat) (most : Int) (L M : List Rq) (X : Nat → Prop) : Prop where
  pt : PT w.heap.size W t most L
  ex : ∃ lv qv, TOwn w.heap.size W t most lv L ∧ QOwn w.heap.size W u most qv M ∧ t ≠ u ∧ lv.ownBlock ≠ some u ∧ qv.ownBlock ≠ some t ∧ (∀ c, lv.ownBlock = some c → qv.ownBlock ≠ some c) ∧ ∀ k, X k → k ≠ t ∧ k ≠ u ∧ lv.ownBlock ≠ some k ∧ qv.ownBlock ≠ some k
  xs : ∀ k, X k → k < W.heap.size
  b : Below w.heap.size w W
  ml : M.length ≤ 2000
  m1 : ∀ r ∈ M, 1 ≤ r.tx
def Kp (X : Nat → Prop) (W W' : World) : Prop := ∀ k, X k → W'.heap[k]? = W.heap[k]?
theorem PQ.keep {w W W' : World} {t u : Nat} {most : Int} {L M : List Rq} {X : Nat → Prop} (h : PQ w W t u most L M X) (hb : Below W.heap.size W W') : PQ w W' t u most L M X ∧ Kp X W W' := by
  refine ⟨⟨h.pt.keep hb, ?_, fun k hk => Nat.lt_of_lt_of_le (h.xs k hk) hb.size, keepA h.b hb, h.ml, h.m1⟩, fun k hk => hb.block k (h.xs k hk)⟩
  obtain ⟨lv, qv, h1, h2, h3⟩ := h.ex
  exact ⟨lv, qv, h1.keepB hb, h2.keepB hb, h3⟩
theorem PQ.less {w W : World} {t u : Nat} {most : Int} {L M : List Rq} {X Y : Nat → Prop} (h : PQ w W t u most L M X) (hY : ∀ k, Y k → X k) : PQ w W t u most L M Y := by
  refine ⟨h.pt, ?_, fun k hk => h.xs k (hY k hk), h.b, h.ml, h.m1⟩
  obtain ⟨lv, qv, h1, h2, h3, h4, h5, h6, h7⟩ := h.ex
  exact ⟨lv, qv, h1, h2, h3, h4, h5, h6, fun k hk => h7 k (hY k hk)⟩
/-- A block that comes. -/
theorem PQ.new {w W : World} {t u : Nat} {most : Int} {L M : List Rq} {X : Nat → Prop} (h : PQ w W t u most L M X) (ob : Obj) : PQ w (W.alloc ob) t u most L M (fun k => X k ∨ k = W.heap.size) := by
  have hb : Below W.heap.size W (W.alloc ob) := (Below.refl _ _).alloc (Nat.le_refl _) ob
  obtain ⟨hk, _⟩ := h.keep hb
  obtain ⟨lv, qv, h1, h2, h3, h4, h5, h6, h7⟩ := h.ex
  have ht := (Array.getElem?_eq_some_iff.1 h1.tb).1
  have hu := (Array.getElem?_eq_some_iff.1 h2.tb).1
  refine ⟨hk.pt, ⟨lv, qv, h1.keepB hb, h2.keepB hb, h3, h4, h5, h6, fun k hk => ?_⟩, fun k hk => ?_, hk.b, h.ml, h.m1⟩
  · rcases hk with hk | rfl
    · exact h7 k hk
    · exact ⟨by omega, by omega, fun e => by have := (h1.row.lo _ e).2; omega, fun e => by have := (h2.row.lo _ e).2; omega⟩
  · rcases hk with hk | rfl
    · have := h.xs k hk; simp; omega
    · simp
theorem PQ.askP {w W : World} {t u : Nat} {most : Int} {L M : List Rq} {X : Nat → Prop} (h : PQ w W t u most L M X) (tx : Int) (o : Ob) (m : Int) (s : Bool) :
    Calls Tryd.prog 11 #[.pointer (some ⟨t, 0, none⟩), .int .i64 tx, o.v, .int .i64 m, .bool s] W fun e w' => e = .returned (.tuple #[.bool (askF most L tx o m s).1.1, .int .i64 (askF most L tx o m s).1.2]) ∧ PQ w w' t u most (askF most L tx o m s).2 M X ∧ Kp X W w' := by
  have hlen := h.pt.len
  obtain ⟨lv, qv, h1, h2, h3, h4, h5, h6, h7⟩ := h.ex
  have hu := (Array.getElem?_eq_some_iff.1 h2.tb).1
  refine (pask_any h1 h.pt.lib (by omega) h.pt.last tx o m s).mono ?_
  rintro e w' ⟨lv', he, hT', hf, hlv⟩
  have hb := h1.foot h.pt.lib hf
  have hnS : ∀ k, X k → ¬ (k = t ∨ lv.ownBlock = some k) := fun k hk e => e.elim (h7 k hk).1 (h7 k hk).2.2.1
  refine ⟨he, ⟨⟨⟨lv', hT'⟩, h.pt.lib.keep hb, h.pt.last.ask _ _ _ _ _, h.pt.inv.ask _ _ _ _ _, ask_len h.pt.le _ _ _ _, h.pt.mo⟩, ⟨lv', qv, hT', h2.keep hf (fun e => e.elim (fun e => h3 e.symm) h4) (fun c hc e => e.elim (fun e => h5 (by rw [hc, e])) (fun e => h6 c e hc)), h3, fun e => ?_, h5, fun c hc e => ?_, fun k hk => ⟨(h7 k hk).1, (h7 k hk).2.1, fun e => ?_, (h7 k hk).2.2.2⟩⟩, fun k hk => Nat.lt_of_lt_of_le (h.xs k hk) hf.size, h.b.trans hb, h.ml, h.m1⟩, fun k hk => hf.block k (h.xs k hk) (hnS k hk)⟩
  · rcases hlv _ e with e | e
    · exact h4 e
    · omega
  · rcases hlv _ hc with e' | e'
    · exact h6 c e' e
    · have := (h2.row.lo c e).2; omega
  · rcases hlv _ e with e' | e'
    · exact (h7 k hk).2.2.1 e'
    · have := h.xs k hk; omega
theorem PQ.askQ {w W : World} {t u : Nat} {most : Int} {L M : List Rq} {X : Nat → Prop} (h : PQ w W t u most L M X) (tx : Int) (o : Ob) (m : Int) (s : Bool) (hN : (askF most M tx o m s).2.length ≤ 2000) (hN1 : ∀ r ∈ (askF most M tx o m s).2, 1 ≤ r.tx) :
    Calls Tryd.prog 12 #[.pointer (some ⟨u, 0, none⟩), .int .i64 tx, o.v, .int .i64 m, .bool s] W fun e w' => e = .returned (.tuple #[.bool (askF most M tx o m s).1.1, .int .i64 (askF most M tx o m s).1.2]) ∧ PQ w w' t u most L (askF most M tx o m s).2 X ∧ Kp X W w' := by
  have hml := h.ml
  obtain ⟨lv, qv, h1, h2, h3, h4, h5, h6, h7⟩ := h.ex
  have ht := (Array.getElem?_eq_some_iff.1 h1.tb).1
  refine (rask_any h2 h.pt.lib.le (by omega) tx o m s).mono ?_
  rintro e w' ⟨qv', he, hT', hf, hqv⟩
  have hb : Below w.heap.size W w' := hf.below h.pt.lib.le (fun k e => e.elim (fun e => e ▸ h2.lo) (fun e => (h2.row.lo k e).1))
  have hnS : ∀ k, X k → ¬ (k = u ∨ qv.ownBlock = some k) := fun k hk e => e.elim (h7 k hk).2.1 (h7 k hk).2.2.2
  have hT1 := h1.keep hf (fun e => e.elim h3 h5) (fun c hc e => e.elim (fun e => h4 (by rw [hc, e])) (fun e => h6 c hc e))
  refine ⟨he, ⟨⟨⟨lv, hT1⟩, h.pt.lib.keep hb, h.pt.last, h.pt.inv, h.pt.le, h.pt.mo⟩, ⟨lv, qv', hT1, hT', h3, h4, fun e => ?_, fun c hc e => ?_, fun k hk => ⟨(h7 k hk).1, (h7 k hk).2.1, (h7 k hk).2.2.1, fun e => ?_⟩⟩, fun k hk => Nat.lt_of_lt_of_le (h.xs k hk) hf.size, h.b.trans hb, hN, hN1⟩, fun k hk => hf.block k (h.xs k hk) (hnS k hk)⟩
  · rcases hqv _ e with e | e
    · exact h5 e
    · omega
  · rcases hqv _ e with e' | e'
    · exact h6 c hc e'
    · have := (h1.row.lo c hc).2; omega
  · rcases hqv _ e with e' | e'
    · exact (h7 k hk).2.2.2 e'
    · have := h.xs k hk; omega
/-- What an End comes to. -/
theorem PQ.endTo {w W w' : World} {t u : Nat} {most : Int} {L M : List Rq} {X : Nat → Prop} (h : PQ w W t u most L M X) {lv qv : Value} (h1 : TOwn w.heap.size W t most lv L) (h2 : QOwn w.heap.size W u most qv M) (h3 : t ≠ u) (h4 : lv.ownBlock ≠ some u) (h5 : qv.ownBlock ≠ some t) (h6 : ∀ c, lv.ownBlock = some c → qv.ownBlock ≠ some c) (h7 : ∀ k, X k → k ≠ t ∧ k ≠ u ∧ lv.ownBlock ≠ some k ∧ qv.ownBlock ≠ some k) {tx : Int} {all : Bool} {e : Ending} (hE : EndTo w.heap.size W t most lv (endF L tx all) e w') :
    ∃ v, e = .returned v ∧ IntsAt W.heap.size w' v (endF L tx all).2 ∧ PQ w w' t u most (endF L tx all).1 M (fun k => X k ∨ v.ownBlock = some k) ∧ Kp X W w' := by
  have ht := (Array.getElem?_eq_some_iff.1 h1.tb).1
  have hu := (Array.getElem?_eq_some_iff.1 h2.tb).1
  obtain ⟨_, _, _, _, _, hp4, hb4⟩ := h.pt.endTo h1 hE
  obtain ⟨ao, m, cp, lv', he, hr, hT', hf, hlv⟩ := hE
  have hnS : ∀ k, X k → ¬ (k = t ∨ lv.ownBlock = some k) := fun k hk e => e.elim (h7 k hk).1 (h7 k hk).2.2.1
  refine ⟨_, he, hr, ⟨hp4, ⟨lv', qv, hT', h2.keep hf (fun e => e.elim (fun e => h3 e.symm) h4) (fun c hc e => e.elim (fun e => h5 (by rw [hc, e])) (fun e => h6 c e hc)), h3, by rw [hlv]; exact h4, h5, fun c hc e => h6 c (hlv ▸ hc) e, fun k hk => ?_⟩, fun k hk => ?_, h.b.trans hb4, h.ml, h.m1⟩, fun k hk => hf.block k (h.xs k hk) (hnS k hk)⟩
  · rcases hk with hk | hk
    · exact ⟨(h7 k hk).1, (h7 k hk).2.1, by rw [hlv]; exact (h7 k hk).2.2.1, (h7 k hk).2.2.2⟩
    · have hlo := (World.ownsRow.lt hr k hk).1
      refine ⟨by omega, by omega, fun e => ?_, fun e => ?_⟩
      · rw [hlv] at e
        have := (h1.row.lo k e).2; omega
      · have := (h2.row.lo k e).2; omega
  · rcases hk with hk | hk
    · exact Nat.lt_of_lt_of_le (h.xs k hk) hf.size
    · exact (World.ownsRow.lt hr k hk).2
theorem PQ.endP {w W : World} {t u : Nat} {most : Int} {L M : List Rq} {X : Nat → Prop} (h : PQ w W t u most L M X) (tx : Int) :
    Calls Tryd.prog 14 #[.pointer (some ⟨t, 0, none⟩), .int .i64 tx] W fun e w' => ∃ v, e = .returned v ∧ IntsAt W.heap.size w' v (endF L tx true).2 ∧ PQ w w' t u most (endF L tx true).1 M (fun k => X k ∨ v.ownBlock = some k) ∧ Kp X W w' := by
  have hlen := h.pt.len
  obtain ⟨lv, qv, h1, h2, h3, h4, h5, h6, h7⟩ := h.ex
  exact (pend_any h1 h.pt.lib (by omega) h.pt.last tx).mono (fun e w' hE => h.endTo h1 h2 h3 h4 h5 h6 h7 hE)
theorem PQ.endSP {w W : World} {t u : Nat} {most : Int} {L M : List Rq} {X : Nat → Prop} (h : PQ w W t u most L M X) (tx : Int) :
    Calls Tryd.prog 16 #[.pointer (some ⟨t, 0, none⟩), .int .i64 tx] W fun e w' => ∃ v, e = .returned v ∧ IntsAt W.heap.size w' v (endF L tx false).2 ∧ PQ w w' t u most (endF L tx false).1 M (fun k => X k ∨ v.ownBlock = some k) ∧ Kp X W w' := by
  have hlen := h.pt.len
  obtain ⟨lv, qv, h1, h2, h3, h4, h5, h6, h7⟩ := h.ex
  exact (pends_any h1 h.pt.lib (by omega) h.pt.last tx).mono (fun e w' hE => h.endTo h1 h2 h3 h4 h5 h6 h7 hE)
theorem PQ.endQTo {w W w' : World} {t u : Nat} {most : Int} {L M : List Rq} {X : Nat → Prop} (h : PQ w W t u most L M X) {lv qv : Value} (h1 : TOwn w.heap.size W t most lv L) (h2 : QOwn w.heap.size W u most qv M) (h3 : t ≠ u) (h4 : lv.ownBlock ≠ some u) (h5 : qv.ownBlock ≠ some t) (h6 : ∀ c, lv.ownBlock = some c → qv.ownBlock ≠ some c) (h7 : ∀ k, X k → k ≠ t ∧ k ≠ u ∧ lv.ownBlock ≠ some k ∧ qv.ownBlock ≠ some k) {tx : Int} {all : Bool} {e : Ending}
    (hE : ∃ ao m cp lv', e = .returned (.slice ao m cp) ∧ w'.ownsRow W.heap.size 3 1 (.slice ao m cp) (endF M tx all).2.length ((endF M tx all).2.map (Value.int .i64)) ∧ QOwn w.heap.size w' u most lv' (endF M tx all).1 ∧ Fr W w' (fun i => i = u) ∧ (∀ c, lv'.ownBlock = some c → W.heap.size ≤ c)) :
    ∃ v, e = .returned v ∧ IntsAt W.heap.size w' v (endF M tx all).2 ∧ PQ w w' t u most L (endF M tx all).1 X ∧ Kp X W w' := by
  obtain ⟨ao, m, cp, qv', he, hr, hT', hf, hqv⟩ := hE
  have ht := (Array.getElem?_eq_some_iff.1 h1.tb).1
  have hb : Below w.heap.size W w' := hf.below h.pt.lib.le (fun k e => e ▸ h2.lo)
  have hT1 := h1.keep hf (fun e => h3 e) (fun c hc e => h4 (by rw [hc, e]))
  have hle := end_len M tx all
  have hml := h.ml
  refine ⟨_, he, hr, ⟨⟨⟨lv, hT1⟩, h.pt.lib.keep hb, h.pt.last, h.pt.inv, h.pt.le, h.pt.mo⟩, ⟨lv, qv', hT1, hT', h3, h4, fun e => by have := hqv _ e; omega, fun c hc e => by have := hqv _ e; have := (h1.row.lo c hc).2; omega, fun k hk => ⟨(h7 k hk).1, (h7 k hk).2.1, (h7 k hk).2.2.1, fun e => by have := hqv _ e; have := h.xs k hk; omega⟩⟩, fun k hk => Nat.lt_of_lt_of_le (h.xs k hk) hf.size, h.b.trans hb, by omega, fun r hr => ?_⟩, fun k hk => hf.block k (h.xs k hk) (h7 k hk).2.1⟩
  obtain ⟨q, hq, he⟩ := end_tx hr
  rw [← he]
  exact h.m1 q hq
theorem PQ.endQ {w W : World} {t u : Nat} {most : Int} {L M : List Rq} {X : Nat → Prop} (h : PQ w W t u most L M X) (tx : Int) :
    Calls Tryd.prog 15 #[.pointer (some ⟨u, 0, none⟩), .int .i64 tx] W fun e w' => ∃ v, e = .returned v ∧ IntsAt W.heap.size w' v (endF M tx true).2 ∧ PQ w w' t u most L (endF M tx true).1 X ∧ Kp X W w' := by
  have hml := h.ml
  obtain ⟨lv, qv, h1, h2, h3, h4, h5, h6, h7⟩ := h.ex
  exact (rend_any h2 (by omega) h.pt.lib.le tx).mono (fun e w' hE => h.endQTo h1 h2 h3 h4 h5 h6 h7 hE)
theorem PQ.endSQ {w W : World} {t u : Nat} {most : Int} {L M : List Rq} {X : Nat → Prop} (h : PQ w W t u most L M X) (tx : Int) :
    Calls Tryd.prog 17 #[.pointer (some ⟨u, 0, none⟩), .int .i64 tx] W fun e w' => ∃ v, e = .returned v ∧ IntsAt W.heap.size w' v (endF M tx false).2 ∧ PQ w w' t u most L (endF M tx false).1 X ∧ Kp X W w' := by
  have hml := h.ml
  obtain ⟨lv, qv, h1, h2, h3, h4, h5, h6, h7⟩ := h.ex
  exact (rendS_any h2 (by omega) h.pt.lib.le tx).mono (fun e w' hE => h.endQTo h1 h2 h3 h4 h5 h6 h7 hE)
theorem OpAt.kp {X : Nat → Prop} {W W' : World} {g o : Nat} {x : Op11} (h : OpAt W g o x) (hk : Kp X W W') (hg : X g) : OpAt W' g o x :=
  have f := fun (k : Nat) (v : Value) (hc : W.cell? ⟨g, k, none⟩ = some v) => (World.cell?_of_block (w := W) (w' := W') (a := ⟨g, k, none⟩) (hk g hg)).trans hc
  ⟨f _ _ h.c0, f _ _ h.c1, f _ _ h.c2, f _ _ h.c3, f _ _ h.c4, f _ _ h.c5, f _ _ h.c6, f _ _ h.c7, f _ _ h.c8⟩
theorem IntsAt.kp {X : Nat → Prop} {base : Nat} {W W' : World} {v : Value} {zs : List Int} (h : IntsAt base W v zs) (hk : Kp X W W') (hv : ∀ c, v.ownBlock = some c → X c) : IntsAt base W' v zs :=
  own_of_block h (fun c hc => hk c (hv c hc))
/-- The document's list as it lies, to be read. -/
theorem PQ.qlist {w W : World} {t u : Nat} {most : Int} {L M : List Rq} {X : Nat → Prop} (h : PQ w W t u most L M X) : ∃ ao cap, QTab W u most ao cap M := by
  obtain ⟨lv, qv, h1, h2, _⟩ := h.ex
  obtain ⟨ao, cap, _, hQ⟩ := h2.tab
  exact ⟨ao, cap, hQ⟩
theorem QTab.qlist {w : World} {t : Nat} {most : Int} {ao : Option Addr} {cap : Nat} {L : List Rq} (h : QTab w t most ao cap L) : QList w ao cap L := by
  refine ⟨h.le, ?_⟩
  by_cases h0 : L = []
  · exact Or.inl h0
  · obtain ⟨g, e, _⟩ := h.at_ (List.length_pos_iff.2 h0)
    refine Or.inr ⟨g, e, fun k hk => ?_⟩
    obtain ⟨g', e', hq⟩ := h.at_ hk
    rw [e] at e'
    cases e'
    exact hq
end Go.Proofs.YtmldpbgdjlblmaaDoor

/- The walk of the law LocksPlays. -/
namespace Go.Proofs.YtmldpbgdjlblmaaDoor
open Go.RowKit Go.Joins Go.Maps Go.Shelf Go.Sort
set_option linter.unusedVariables false
set_option linter.unusedSimpArgs false

/-- Both tables and an act in its box. -/
structure PB (w W : World) (t u : Nat) (most : Int) (L M : List Rq) (b : Nat) (x : Op11) : Prop where
  q : PQ w W t u most L M (fun k => k = b)
  o : OpAt W b 0 x
theorem PB.keep {w W W' : World} {t u : Nat} {most : Int} {L M : List Rq} {b : Nat} {x : Op11} (h : PB w W t u most L M b x) (hb : Below W.heap.size W W') : PB w W' t u most L M b x :=
  ⟨(h.q.keep hb).1, h.o.kp (h.q.keep hb).2 rfl⟩
theorem PB.askP {w W : World} {t u : Nat} {most : Int} {L M : List Rq} {b : Nat} {x : Op11} (h : PB w W t u most L M b x) (tx : Int) (o : Ob) (m : Int) (s : Bool) :
    Calls Tryd.prog 11 #[.pointer (some ⟨t, 0, none⟩), .int .i64 tx, o.v, .int .i64 m, .bool s] W fun e w' => e = .returned (.tuple #[.bool (askF most L tx o m s).1.1, .int .i64 (askF most L tx o m s).1.2]) ∧ PB w w' t u most (askF most L tx o m s).2 M b x :=
  (h.q.askP tx o m s).mono (fun e w' ⟨he, hq, hk⟩ => ⟨he, hq, h.o.kp hk rfl⟩)
theorem PB.askQ {w W : World} {t u : Nat} {most : Int} {L M : List Rq} {b : Nat} {x : Op11} (h : PB w W t u most L M b x) (tx : Int) (o : Ob) (m : Int) (s : Bool) (hL : L = (askF most M tx o m s).2) :
    Calls Tryd.prog 12 #[.pointer (some ⟨u, 0, none⟩), .int .i64 tx, o.v, .int .i64 m, .bool s] W fun e w' => e = .returned (.tuple #[.bool (askF most M tx o m s).1.1, .int .i64 (askF most M tx o m s).1.2]) ∧ PB w w' t u most L L b x :=
  (h.q.askQ tx o m s (by rw [← hL]; exact h.q.pt.len) (fun r hr => by rw [← hL] at hr; exact (h.q.pt.inv.right r hr).1)).mono (fun e w' ⟨he, hq, hk⟩ => ⟨he, hL ▸ hq, h.o.kp hk rfl⟩)
/-- Behind the program's End: its answer, and both tables. -/
structure PE (w W : World) (t u : Nat) (most : Int) (L M : List Rq) (b : Nat) (x : Op11) (v : Value) (zs : List Int) : Prop where
  q : PQ w W t u most L M (fun k => k = b ∨ v.ownBlock = some k)
  o : OpAt W b 0 x
  i : ∃ bs, IntsAt bs W v zs
theorem PB.endP {w W : World} {t u : Nat} {most : Int} {L M : List Rq} {b : Nat} {x : Op11} (h : PB w W t u most L M b x) (tx : Int) :
    Calls Tryd.prog 14 #[.pointer (some ⟨t, 0, none⟩), .int .i64 tx] W fun e w' => ∃ ao cp, e = .returned (.slice ao (endF L tx true).2.length cp) ∧ PE w w' t u most (endF L tx true).1 M b x (.slice ao (endF L tx true).2.length cp) (endF L tx true).2 :=
  (h.q.endP tx).mono (fun e w' ⟨v, he, hi, hq, hk⟩ => by
    obtain ⟨ao, cp, rfl⟩ := hi.form
    exact ⟨ao, cp, he, hq, h.o.kp hk rfl, _, hi⟩)
theorem PB.endSP {w W : World} {t u : Nat} {most : Int} {L M : List Rq} {b : Nat} {x : Op11} (h : PB w W t u most L M b x) (tx : Int) :
    Calls Tryd.prog 16 #[.pointer (some ⟨t, 0, none⟩), .int .i64 tx] W fun e w' => ∃ ao cp, e = .returned (.slice ao (endF L tx false).2.length cp) ∧ PE w w' t u most (endF L tx false).1 M b x (.slice ao (endF L tx false).2.length cp) (endF L tx false).2 :=
  (h.q.endSP tx).mono (fun e w' ⟨v, he, hi, hq, hk⟩ => by
    obtain ⟨ao, cp, rfl⟩ := hi.form
    exact ⟨ao, cp, he, hq, h.o.kp hk rfl, _, hi⟩)
/-- Behind both. -/
structure PF (w W : World) (t u : Nat) (most : Int) (L M : List Rq) (b : Nat) (x : Op11) (v v2 : Value) (zs : List Int) : Prop where
  p : PB w W t u most L M b x
  i : ∃ bs, IntsAt bs W v zs
  j : ∃ bs, IntsAt bs W v2 zs
theorem PE.endQ {w W : World} {t u : Nat} {most : Int} {M : List Rq} {b : Nat} {x : Op11} {v : Value} {tx : Int} (h : PE w W t u most (endF M tx true).1 M b x v (endF M tx true).2) :
    Calls Tryd.prog 15 #[.pointer (some ⟨u, 0, none⟩), .int .i64 tx] W fun e w' => ∃ ao cp, e = .returned (.slice ao (endF M tx true).2.length cp) ∧ PF w w' t u most (endF M tx true).1 (endF M tx true).1 b x v (.slice ao (endF M tx true).2.length cp) (endF M tx true).2 :=
  (h.q.endQ tx).mono (fun e w' ⟨v2, he, hi, hq, hk⟩ => by
    obtain ⟨ao, cp, rfl⟩ := hi.form
    obtain ⟨bs, hv⟩ := h.i
    exact ⟨ao, cp, he, ⟨hq.less (fun k hk => Or.inl hk), h.o.kp hk (Or.inl rfl)⟩, ⟨bs, hv.kp hk (fun c hc => Or.inr hc)⟩, ⟨_, hi⟩⟩)
theorem PE.endSQ {w W : World} {t u : Nat} {most : Int} {M : List Rq} {b : Nat} {x : Op11} {v : Value} {tx : Int} (h : PE w W t u most (endF M tx false).1 M b x v (endF M tx false).2) :
    Calls Tryd.prog 17 #[.pointer (some ⟨u, 0, none⟩), .int .i64 tx] W fun e w' => ∃ ao cp, e = .returned (.slice ao (endF M tx false).2.length cp) ∧ PF w w' t u most (endF M tx false).1 (endF M tx false).1 b x v (.slice ao (endF M tx false).2.length cp) (endF M tx false).2 :=
  (h.q.endSQ tx).mono (fun e w' ⟨v2, he, hi, hq, hk⟩ => by
    obtain ⟨ao, cp, rfl⟩ := hi.form
    obtain ⟨bs, hv⟩ := h.i
    exact ⟨ao, cp, he, ⟨hq.less (fun k hk => Or.inl hk), h.o.kp hk (Or.inl rfl)⟩, ⟨bs, hv.kp hk (fun c hc => Or.inr hc)⟩, ⟨_, hi⟩⟩)
theorem wake_len (L : List Rq) : (wake L).2.length ≤ wc L := by
  have : ∀ n L, (wakeN n L).2.length ≤ n := by
    intro n
    induction n with
    | zero => intro L; simp [wakeN]
    | succ n ih =>
      intro L
      unfold wakeN
      split
      · simp
      · simp only [List.length_cons]
        have := ih (grant L ‹_›)
        omega
  exact this _ L
theorem end2_len (L : List Rq) (tx : Int) (all : Bool) : (endF L tx all).2.length ≤ L.length := by
  unfold endF
  have h1 := wake_len (L.filter (stays tx all))
  have h2 : wc (L.filter (stays tx all)) ≤ (L.filter (stays tx all)).length := List.countP_le_length
  have h3 := List.length_filter_le (stays tx all) L
  omega
theorem PF.same {w W : World} {t u : Nat} {most : Int} {L M : List Rq} {b : Nat} {x : Op11} {a1 a2 : Option Addr} {c1 c2 : Nat} {zs : List Int} (h : PF w W t u most L M b x (.slice a1 zs.length c1) (.slice a2 zs.length c2) zs) (hl : zs.length ≤ 2000) :
    Calls Tryd.prog 13 #[.slice a1 zs.length c1, .slice a2 zs.length c2] W fun e w' => e = .returned (.bool true) ∧ PB w w' t u most L M b x := by
  obtain ⟨_, hi⟩ := h.i
  obtain ⟨_, hj⟩ := h.j
  obtain ⟨x1, y1, e1, n1⟩ := NList.of_own hi
  obtain ⟨x2, y2, e2, n2⟩ := NList.of_own hj
  simp only [Value.slice.injEq, true_and] at e1 e2
  obtain ⟨rfl, rfl⟩ := e1
  obtain ⟨rfl, rfl⟩ := e2
  exact (sameI_eq n1 n2 (by omega)).mono (fun e w' ⟨he, hb⟩ => ⟨he, h.p.keep hb⟩)
/-- The tables at the beginning. -/
theorem PQ.first {w w2 : World} {most : Int} (hP : PT w.heap.size w2 w.heap.size most []) (hT : ∃ lv, TOwn w.heap.size w2 w.heap.size most lv []) (hb : Below w.heap.size w w2) : PQ w (w2.alloc (.cells #[.int .i64 most, .slice none 0 0] 31)) w.heap.size w2.heap.size most [] [] (fun _ => False) := by
  have hbA : Below w2.heap.size w2 (w2.alloc (.cells #[.int .i64 most, .slice none 0 0] 31)) := (Below.refl _ _).alloc (Nat.le_refl _) _
  obtain ⟨lv, hT⟩ := hT
  have ht := (Array.getElem?_eq_some_iff.1 hT.tb).1
  refine ⟨hP.keep hbA, ⟨lv, .slice none 0 0, hT.keepB hbA, ⟨World.alloc_heap_new _ _, Row.nil_ _ _ _ _ _, by simp [Value.ownBlock], by omega⟩, by omega, fun e => ?_, by simp [Value.ownBlock], by simp [Value.ownBlock], fun k hk => hk.elim⟩, fun k hk => hk.elim, keepA hb hbA, by simp, fun r hr => by cases hr⟩
  have := (hT.row.lo _ e).2
  omega
set_option maxRecDepth 100000 in
set_option maxHeartbeats 4000000 in
theorem plays_law (most : Int) (v : Value) (rs : List Op11) (w : World) (hx : Ops11 w v rs) (hL : LibW w) :
    Calls Tryd.prog 3 #[.int .i64 most, v] w fun e w' => e = .returned (.bool true) ∧ Below w.heap.size w w' := by
  obtain ⟨ao, cap, rfl, hcap, hrow⟩ := hx
  by_cases hmy : 1 ≤ most ∧ most ≤ 2000
  · obtain ⟨hm1, hm2⟩ := hmy
    have HP : Hid (PT w.heap.size (w.alloc (.cells #[.int .i64 most, .slice none 0 0] 62)) w.heap.size most [] ∧ Below w.heap.size w (w.alloc (.cells #[.int .i64 most, .slice none 0 0] 62)) ∧ LibW w) := ⟨PT.new hL.toB hm1 hm2, (Below.refl _ _).alloc (Nat.le_refl _) _, hL⟩
    have HR : Hid (∀ W, Below w.heap.size w W → ∀ k (h : k < rs.length), ∃ g o, ao = some ⟨g, o, none⟩ ∧ OpAt W g (o + k * 9) rs[k]) := fun W hb k h => by
      rcases hrow with h0 | ⟨g, o, e, hX⟩
      · rw [h0] at h; simp at h
      · have h1 := OpAt.of_range (hX k h)
        exact ⟨g, o, e, h1.below hb (World.block_lt_of_cell? w _ h1.c0)⟩
    clear hL hrow
    go_enter Tryd.func3, Tryd.ntmps3
    go_wp2_with fail
    refine (pnew_ok most hm1 hm2 _).mono ?_
    rintro e w1 ⟨rfl, hw1⟩
    rw [← hw1] at HP
    clear hw1
    go_wp2_with fail
    refine (alive_any _ (HP.out.2.2.keep HP.out.2.1)).mono ?_
    rintro e w2 ⟨rfl, hb2⟩
    have H2 : Hid (PQ w (w2.alloc (.cells #[.int .i64 most, .slice none 0 0] 31)) w.heap.size w2.heap.size most [] [] (fun _ => False)) := PQ.first (HP.out.1.keep hb2) (HP.out.1.keep hb2).tb (keepA HP.out.2.1 hb2)
    clear HP hb2
    go_wp2_with fail
    go_loopw [9] (fun x wr => ∃ i : Nat, x = .int .i64 i ∧ i ≤ rs.length ∧ Hid (∃ L, PQ w wr w.heap.size w2.heap.size most L L (fun _ => False))) (fun x _ => rs.length - (intOf x).toNat)
    case atStart => exact ⟨0, rfl, by omega, ⟨_, H2.out⟩⟩
    case round =>
      rename World => wr
      obtain ⟨i, rfl, hi, HS⟩ := hrel
      clear H2
      obtain ⟨L, hS⟩ := HS.out
      have HL := Hid.mk' hS
      clear HS hS
      by_cases hil : i < rs.length
      · have ti : (i : Int) < (rs.length : Int) := by omega
        by_cases h100 : i < 100
        · have t100 : (i : Int) < 100 := by omega
          obtain ⟨g, o, rfl, hop⟩ := HR.out wr HL.out.b i hil
          have HB : Hid (PB w (wr.alloc (rs[i]).box) w.heap.size w2.heap.size most L L wr.heap.size rs[i]) := ⟨(HL.out.new _).less (fun k hk => Or.inr hk), OpAt.new wr rs[i]⟩
          clear HL HR
          generalize rs[i] = x at *
          obtain ⟨q0, q1, q2, q3, q4, q5, q6, q7, q8⟩ := hop
          obtain ⟨kd, xt, ⟨sa, ta, la, ua, na⟩, xm, xs⟩ := x
          simp only at q0 q1 q2 q3 q4 q5 q6 q7 q8
          go_upto_block 2 with fail
          go_cut [12, 13, 14, 15, 16, 17] (fun _ _ _ _ _ _ wx => Hid (∃ L', PB w wx w.heap.size w2.heap.size most L' L' wr.heap.size ⟨kd, xt, ⟨sa, ta, la, ua, na⟩, xm, xs⟩))
          case first =>
            by_cases e1 : kd = 1
            · subst e1
              have ask := HB.out.askP xt ⟨sa, ta, la, ua, na⟩ xm xs
              simp only [Ob.v] at ask
              clear q0 q1 q2 q3 q4 q5 q6 q7 q8 HB
              go_wp2_with fail
              refine ask.mono ?_
              rintro e w4 ⟨rfl, h4⟩
              have ask2 := h4.askQ xt ⟨sa, ta, la, ua, na⟩ xm xs rfl
              simp only [Ob.v] at ask2
              obtain ⟨p0, p1, p2, p3, p4, p5, p6, p7, p8⟩ := h4.o
              simp only [Nat.zero_add] at p0 p1 p2 p3 p4 p5 p6 p7 p8
              clear ask h4
              generalize askF most L xt ⟨sa, ta, la, ua, na⟩ xm xs = A at *
              obtain ⟨⟨A1, A2⟩, A3⟩ := A
              simp only at ask2
              go_wp2_with fail
              refine ask2.mono ?_
              rintro e w5 ⟨rfl, h5⟩
              have HN := Hid.mk' h5
              clear ask2 h5 p0 p1 p2 p3 p4 p5 p6 p7 p8
              go_wp2_with fail
              go_meet
              case rel => exact ⟨_, HN.out⟩
            · have e1' : (kd == 1) = false := by simpa using e1
              by_cases e2 : kd = 2
              · subst e2
                have HE1 := Hid.mk' ((HB.out.keep ((Below.refl _ _).drew)).endP xt)
                have HC0 : Hid ((wr.alloc (Op11.box ⟨2, xt, ⟨sa, ta, la, ua, na⟩, xm, xs⟩)).drew.cell? ⟨wr.heap.size, 1, none⟩ = some (.int .i64 xt)) := HB.out.o.c1
                have HEL : Hid ((endF L xt true).2.length ≤ 2000) := Nat.le_trans (end2_len L xt true) HB.out.q.pt.len
                clear HB q0 q1 q2 q3 q4 q5 q6 q7 q8
                go_wp2_with fail
                go_region_held3 (fun W' => W'.cell? ⟨wr.heap.size, 1, none⟩ = some (.int .i64 xt))
                  (first | with_reducible assumption | with_reducible exact HC0.out)
                  (first
                    | (go_at_call 14; refine HE1.out.mono ?_; rintro e w4 ⟨a4, c4, rfl, h4⟩; have hS4 : w4.cell? ⟨wr.heap.size, 1, none⟩ = some (.int .i64 xt) := h4.o.c1; have HE2 := Hid.mk' h4.endQ; clear h4)
                    | (go_at_call 15; refine HE2.out.mono ?_; rintro e w5 ⟨a5, c5, rfl, h5⟩; have hS5 : w5.cell? ⟨wr.heap.size, 1, none⟩ = some (.int .i64 xt) := h5.p.o.c1; have HE3 := Hid.mk' (h5.same HEL.out); clear h5)
                    | (go_at_call 13; refine HE3.out.mono ?_; rintro e w6 ⟨rfl, h6⟩; have hS6 : w6.cell? ⟨wr.heap.size, 1, none⟩ = some (.int .i64 xt) := h6.o.c1; have HN := Hid.mk' h6; clear h6))
                all_goals
                  go_wp2
                  go_meet
                  case rel => exact ⟨_, HN.out⟩
              · have e2' : (kd == 2) = false := by simpa using e2
                by_cases e3 : kd = 3
                · subst e3
                  have HE1 := Hid.mk' ((HB.out.keep ((Below.refl _ _).drew)).endSP xt)
                  have HC0 : Hid ((wr.alloc (Op11.box ⟨3, xt, ⟨sa, ta, la, ua, na⟩, xm, xs⟩)).drew.cell? ⟨wr.heap.size, 1, none⟩ = some (.int .i64 xt)) := HB.out.o.c1
                  have HEL : Hid ((endF L xt false).2.length ≤ 2000) := Nat.le_trans (end2_len L xt false) HB.out.q.pt.len
                  clear HB q0 q1 q2 q3 q4 q5 q6 q7 q8
                  go_wp2_with fail
                  go_region_held3 (fun W' => W'.cell? ⟨wr.heap.size, 1, none⟩ = some (.int .i64 xt))
                    (first | with_reducible assumption | with_reducible exact HC0.out)
                    (first
                      | (go_at_call 16; refine HE1.out.mono ?_; rintro e w4 ⟨a4, c4, rfl, h4⟩; have hS4 : w4.cell? ⟨wr.heap.size, 1, none⟩ = some (.int .i64 xt) := h4.o.c1; have HE2 := Hid.mk' h4.endSQ; clear h4)
                      | (go_at_call 17; refine HE2.out.mono ?_; rintro e w5 ⟨a5, c5, rfl, h5⟩; have hS5 : w5.cell? ⟨wr.heap.size, 1, none⟩ = some (.int .i64 xt) := h5.p.o.c1; have HE3 := Hid.mk' (h5.same HEL.out); clear h5)
                      | (go_at_call 13; refine HE3.out.mono ?_; rintro e w6 ⟨rfl, h6⟩; have hS6 : w6.cell? ⟨wr.heap.size, 1, none⟩ = some (.int .i64 xt) := h6.o.c1; have HN := Hid.mk' h6; clear h6))
                  all_goals
                    go_wp2
                    go_meet
                    case rel => exact ⟨_, HN.out⟩
                · have e3' : (kd == 3) = false := by simpa using e3
                  have HN : Hid (∃ L', PB w (wr.alloc (Op11.box ⟨kd, xt, ⟨sa, ta, la, ua, na⟩, xm, xs⟩)) w.heap.size w2.heap.size most L' L' wr.heap.size ⟨kd, xt, ⟨sa, ta, la, ua, na⟩, xm, xs⟩) := ⟨L, HB.out⟩
                  clear HB
                  go_wp2_with fail
                  go_meet
                  case rel => exact HN
          case rest =>
            obtain ⟨L2, h2⟩ := hcut.out
            have HB2 := Hid.mk' h2
            have hL2 := h2.q.pt.len
            obtain ⟨a2, c2, hQ2⟩ := h2.q.qlist
            have hq2 := hQ2.l
            have hc2 := hQ2.le
            have HQ2 := Hid.mk' hQ2
            have HLS : Hid (∀ W', Below wc.heap.size wc W' → Calls Tryd.prog 19 #[.pointer (some ⟨w.heap.size, 0, none⟩)] W' fun e w' => ∃ a3 c3, e = .returned (.slice a3 L2.length c3) ∧ QList w' a3 c3 L2 ∧ Below W'.heap.size W' w') := fun W' hb => by
              obtain ⟨lv, hT⟩ := (HB2.out.keep hb).q.pt.tb
              refine (plist_any hT (by omega)).mono ?_
              rintro e w' ⟨v3, rfl, ho3, hb3⟩
              obtain ⟨a3, c3, rfl, hq3⟩ := CloneTo.list ho3
              exact ⟨a3, c3, rfl, hq3, hb3⟩
            have HKK : Hid (∀ W', Below wc.heap.size wc W' → Below wc.heap.size wc W' ∧ W'.cell? ⟨w2.heap.size, 1, none⟩ = some (.slice a2 L2.length c2)) := fun W' hb => ⟨hb, cell_keep hb hq2⟩
            clear hcut h2 hQ2 q0 q1 q2 q3 q4 q5 q6 q7 q8 HB
            go_wp2_with fail
            go_region_held3 (fun W' => Below wc.heap.size wc W' ∧ W'.cell? ⟨w2.heap.size, 1, none⟩ = some (.slice a2 L2.length c2))
              ((refine HKK.out _ ?_; first | with_reducible assumption | with_reducible exact (Below.refl _ _).drew | with_reducible exact Below.refl _ _))
              (first
                | (go_at_call 19; refine (HLS.out _ (keepW (by with_reducible assumption))).mono ?_; rintro e w7 ⟨a3, c3, rfl, hq3, hb7⟩; have hk7 := keepF11 (by with_reducible assumption) hb7; have HSM := Hid.mk' (sameQ_eq hq3 ((HQ2.out.keep hk7).qlist) (by omega)); clear hb7 hq3)
                | (go_at_call 18; refine HSM.out.mono ?_; rintro e w8 ⟨rfl, q8, hw8⟩; have hk8 : Below wc.heap.size wc w8 := hw8 ▸ below_drewN hk7 q8; clear hw8))
            all_goals
              have HB8 := Hid.mk' (HB2.out.keep hk8)
              have HQ8 := Hid.mk' (HQ2.out.keep hk8)
              clear HLS HKK HSM hk7 hk8 hq2 HB2 HQ2
              have hed := HB8.out.q.pt.edges
              have hel : (edgesF L2).length ≤ 100000000 := Nat.le_trans (edges_lenE HB8.out.q.pt.last) (Nat.le_trans (Nat.mul_le_mul hL2 hL2) (by omega))
              go_wp2_with fail
              refine hed.mono ?_
              rintro e w9 ⟨v9, rfl, ho9, hb9⟩
              obtain ⟨a9, c9, rfl, hp9⟩ := PList.of_own ho9
              have hed2 := redges_any (HQ8.out.keep hb9) (by omega) (fun r hr => (HB8.out.q.pt.inv.right r hr).1)
              have HP9 := Hid.mk' hp9
              have HB9 := Hid.mk' (HB8.out.keep hb9)
              clear hed ho9 hb9 hp9 HB8 HQ8
              go_wp2_with fail
              refine hed2.mono ?_
              rintro e w10 ⟨so, sm, sp, rfl, ho10, hb10⟩
              obtain ⟨a10, c10, e10, hp10⟩ := PList.of_own ho10
              simp only [Value.slice.injEq] at e10
              obtain ⟨rfl, rfl, rfl⟩ := e10
              have hse := sameE_eq (HP9.out.keep hb10) hp10 hel
              have HB10 := Hid.mk' (HB9.out.keep hb10)
              clear hed2 ho10 hb10 hp10 HP9 HB9 hel
              generalize (edgesF L2).length = el at *
              go_wp2_with fail
              refine hse.mono ?_
              rintro e w11 ⟨rfl, qd, hw11⟩
              have HB11 : Hid (PB w w11 w.heap.size w2.heap.size most L2 L2 wr.heap.size ⟨kd, xt, ⟨sa, ta, la, ua, na⟩, xm, xs⟩) := HB10.out.keep (hw11 ▸ below_drewN (Below.refl _ _) qd)
              clear hse hw11 HB10
              have hw1 : ∀ (d : Nat) (os : Array Obj), Calls Tryd.prog 23 #[.pointer (some ⟨w.heap.size, 0, none⟩), .int .i64 xt] (grow (redrawn w11 d) os) fun e w' => e = .returned (.bool (waitsB L2 xt)) ∧ Below (grow (redrawn w11 d) os).heap.size (grow (redrawn w11 d) os) w' := fun d os => ((HB11.out.keep (below_regrown w11 d os)).q.pt.waits xt).mono (fun e w' ⟨h1, _, h3⟩ => ⟨h1, h3⟩)
              have hh1 : ∀ (d : Nat) (os : Array Obj), Calls Tryd.prog 25 #[.pointer (some ⟨w.heap.size, 0, none⟩), .int .i64 xt, Ob.v ⟨sa, ta, la, ua, na⟩, .int .i64 xm] (grow (redrawn w11 d) os) fun e w' => e = .returned (.bool (hasB L2 xt ⟨sa, ta, la, ua, na⟩ xm)) ∧ Below (grow (redrawn w11 d) os).heap.size (grow (redrawn w11 d) os) w' := fun d os => ((HB11.out.keep (below_regrown w11 d os)).q.pt.has xt ⟨sa, ta, la, ua, na⟩ xm).mono (fun e w' ⟨h1, _, h3⟩ => ⟨h1, h3⟩)
              have hw2 : ∀ (d : Nat) (os : Array Obj), Calls Tryd.prog 24 #[.pointer (some ⟨w2.heap.size, 0, none⟩), .int .i64 xt] (grow (redrawn w11 d) os) fun e w' => e = .returned (.bool (waitsB L2 xt)) ∧ Below (grow (redrawn w11 d) os).heap.size (grow (redrawn w11 d) os) w' := fun d os => by
                obtain ⟨a, c, hQ⟩ := (HB11.out.keep (below_regrown w11 d os)).q.qlist
                exact (rwaits_any hQ (by omega) xt).mono (fun e w' ⟨h1, h2⟩ => ⟨h1, h2 ▸ Below.refl _ _⟩)
              have hh2 : ∀ (d : Nat) (os : Array Obj), Calls Tryd.prog 26 #[.pointer (some ⟨w2.heap.size, 0, none⟩), .int .i64 xt, Ob.v ⟨sa, ta, la, ua, na⟩, .int .i64 xm] (grow (redrawn w11 d) os) fun e w' => e = .returned (.bool (hasB L2 xt ⟨sa, ta, la, ua, na⟩ xm)) ∧ Below (grow (redrawn w11 d) os).heap.size (grow (redrawn w11 d) os) w' := fun d os => by
                obtain ⟨a, c, hQ⟩ := (HB11.out.keep (below_regrown w11 d os)).q.qlist
                exact rhas_any hQ (by omega) xt ⟨sa, ta, la, ua, na⟩ xm
              simp only [Ob.v] at hh1 hh2
              obtain ⟨p0, p1, p2, p3, p4, p5, p6, p7, p8⟩ := HB11.out.o
              simp only [Nat.zero_add] at p0 p1 p2 p3 p4 p5 p6 p7 p8
              have y1 := fun (d : Nat) (os : Array Obj) => cell_regrown p1 d os
              have y2 := fun (d : Nat) (os : Array Obj) => cell_regrown p2 d os
              have y3 := fun (d : Nat) (os : Array Obj) => cell_regrown p3 d os
              have y4 := fun (d : Nat) (os : Array Obj) => cell_regrown p4 d os
              have y5 := fun (d : Nat) (os : Array Obj) => cell_regrown p5 d os
              have y6 := fun (d : Nat) (os : Array Obj) => cell_regrown p6 d os
              generalize waitsB L2 xt = wb at *
              generalize hasB L2 xt ⟨sa, ta, la, ua, na⟩ xm = hb at *
              clear p0 p1 p2 p3 p4 p5 p6 p7 p8
              go_wp2_with fail
              cases wb <;> cases hb
              all_goals
                refine wp_region_quiet_below (by kernel_rfl) (by kernel_rfl) ?_
                repeat (go_big_quiet_step (first | with_reducible exact Calls.regrown_of (hw1 _ _) | with_reducible exact Calls.regrown_of (hw2 _ _) | with_reducible exact Calls.regrown_of (hh1 _ _) | with_reducible exact Calls.regrown_of (hh2 _ _)))
                refine wpQuiet_nil ?_
                intro _ hw'
                obtain ⟨⟨dq, osq⟩, hw''⟩ := hw'
                subst hw''
                have HN : Hid (∃ L, PQ w (grow (redrawn w11 dq) osq) w.heap.size w2.heap.size most L L (fun _ => False)) := ⟨L2, (HB11.out.keep (below_regrown w11 dq osq)).q.less (fun k hk => hk.elim)⟩
                clear hw1 hw2 hh1 hh2 y1 y2 y3 y4 y5 y6 HB11
                generalize grow (redrawn w11 dq) osq = wz at *
                go_wp2
                go_roundw
                case rel => exact ⟨i + 1, by go_num, by omega, HN⟩
                case measure => simp [intOf]; omega
        · have t100 : ¬ (i : Int) < 100 := by omega
          have HE := Hid.mk' HL.out.b
          clear HL HR
          go_wp2_with fail
          go_ret
          exact ⟨rfl, HE.out⟩
      · have ti : ¬ (i : Int) < (rs.length : Int) := by omega
        have HE := Hid.mk' HL.out.b
        clear HL HR
        go_wp2_with fail
        go_ret
        exact ⟨rfl, HE.out⟩
  · have HL := Hid.mk' hL
    have hno : most < 1 ∨ 2000 < most := by omega
    clear hL hrow
    have hcc : (1 ≤ most ∧ ¬ most ≤ 2000) ∨ (¬ 1 ≤ most ∧ ¬ 1 ≤ most) := by omega
    clear hmy
    rcases hcc with ⟨h1, h2⟩ | ⟨h1, h2⟩
    all_goals
      go_enter Tryd.func3, Tryd.ntmps3
      go_wp2_with fail
      refine (pnew_no most hno _).mono ?_
      rintro e w1 ⟨rfl, rfl⟩
      go_wp2_with fail
      refine (alive_any _ HL.out).mono ?_
      rintro e w2 ⟨rfl, hb2⟩
      have HB : Hid (Below w1.heap.size w1 (w2.alloc (.cells #[.int .i64 most, .slice none 0 0] 31))) := keepA hb2 ((Below.refl _ _).alloc (Nat.le_refl _) _)
      clear hb2
      go_wp2_with fail
      go_loopw [9] (fun x wr => x = .int .i64 0 ∧ Hid (Below w1.heap.size w1 wr)) (fun _ _ => 0)
      case atStart => exact ⟨rfl, HB⟩
      case round =>
        rename World => wr
        obtain ⟨rfl, HBr⟩ := hrel
        by_cases h0 : 0 < rs.length
        · have t0 : (0 : Int) < (rs.length : Int) := by omega
          go_wp2_with fail
          go_ret
          exact ⟨rfl, HBr.out⟩
        · have t0 : ¬ (0 : Int) < (rs.length : Int) := by omega
          go_wp2_with fail
          go_ret
          exact ⟨rfl, HBr.out⟩
end Go.Proofs.YtmldpbgdjlblmaaDoor

/- The program's table from call to call. -/
import Derived.Test.YtmldpbgdjlblmaaDoorL11EO
import Derived.Test.YtmldpbgdjlblmaaDoorL11S
namespace Go.Proofs.YtmldpbgdjlblmaaDoor
open Go.RowKit Go.Joins Go.Maps Go.Shelf
set_option linter.unusedVariables false
set_option linter.unusedSimpArgs false

/-- What Ask comes to. -/
def AskTo (base : Nat) (w : World) (t : Nat) (most : Int) (lv : Value) (A : (Bool × Int) × List Rq) (e : Ending) (w' : World) : Prop :=
  ∃ lv', e = .returned (.tuple #[.bool A.1.1, .int .i64 A.1.2]) ∧ TOwn base w' t most lv' A.2 ∧ Fr w w' (fun b => b = t ∨ lv.ownBlock = some b) ∧ (∀ c, lv'.ownBlock = some c → lv.ownBlock = some c ∨ w.heap.size ≤ c)
theorem pask_any {base : Nat} {w : World} {t : Nat} {most : Int} {lv : Value} {L : List Rq} (h : TOwn base w t most lv L) (hL : LibB base w) (hl : L.length ≤ 90000) (hlast : LastI L) (tx : Int) (o : Ob) (m : Int) (s : Bool) :
    Calls Tryd.prog 11 #[.pointer (some ⟨t, 0, none⟩), .int .i64 tx, o.v, .int .i64 m, .bool s] w fun e w' => AskTo base w t most lv (askF most L tx o m s) e w' := by
  cases hbad : (decide (tx < 1) || !pl o || decide (m < 1) || decide (m > 6) || waitsB L tx) with
  | true =>
    refine (pask_form h hL (by omega) tx o m s hbad).mono ?_
    rintro e w' ⟨rfl, hT, hb⟩
    have e1 : askF most L tx o m s = ((false, 114), L) := by unfold askF; rw [if_pos hbad]
    rw [e1]
    exact ⟨lv, rfl, hT, Fr.of_below hb, fun c hc => Or.inl hc⟩
  | false =>
    have hok : (decide (tx < 1) || !pl o || !mbA m || waitsB L tx) = false := by
      rw [mbA_iff]
      revert hbad
      cases decide (tx < 1) <;> cases pl o <;> cases decide (m < 1) <;> cases decide (m > 6) <;> cases waitsB L tx <;> simp
    cases hh : hasB L tx o m with
    | true =>
      refine (pask_has h hL (by omega) tx o m s hok hh).mono ?_
      rintro e w' ⟨rfl, hT, hf⟩
      have e1 : askF most L tx o m s = ((true, 0), L.map (unshort tx o m s)) := by unfold askF; rw [if_neg (by rw [hbad]; simp), if_pos hh]
      rw [e1]
      exact ⟨lv, rfl, hT, hf.mono (fun _ e => Or.inr e), fun c hc => Or.inl hc⟩
    | false =>
      by_cases hf : most ≤ (L.length : Int)
      · refine (pask_full h hL (by omega) tx o m s hok hh hf).mono ?_
        rintro e w' ⟨rfl, hT, hb⟩
        have e1 : askF most L tx o m s = ((false, 112), L) := by unfold askF; rw [if_neg (by rw [hbad]; simp), if_neg (by rw [hh]; simp), if_pos hf]
        rw [e1]
        exact ⟨lv, rfl, hT, Fr.of_below hb, fun c hc => Or.inl hc⟩
      · refine (pask_new h hL hl hlast tx o m s hok hh (by omega)).mono ?_
        rintro e w' ⟨lv', rfl, hT, hfr, hn⟩
        have e1 : askF most L tx o m s = ((mayP L ⟨tx, o, m, false, s⟩ [], 0), L ++ [⟨tx, o, m, mayP L ⟨tx, o, m, false, s⟩ [], s⟩]) := by unfold askF; rw [if_neg (by rw [hbad]; simp), if_neg (by rw [hh]; simp), if_neg hf]
        rw [e1]
        exact ⟨lv', rfl, hT, hfr, hn⟩
/-- The program's table, whole. -/
structure PT (base : Nat) (w : World) (t : Nat) (most : Int) (L : List Rq) : Prop where
  tb : ∃ lv, TOwn base w t most lv L
  lib : LibB base w
  last : LastI L
  inv : TInv L
  le : (L.length : Int) ≤ most
  mo : most ≤ 2000
theorem PT.len {base : Nat} {w : World} {t : Nat} {most : Int} {L : List Rq} (h : PT base w t most L) : L.length ≤ 2000 := by have := h.le; have := h.mo; omega
theorem PT.keep {base : Nat} {w w' : World} {t : Nat} {most : Int} {L : List Rq} (h : PT base w t most L) (hb : Below w.heap.size w w') : PT base w' t most L :=
  ⟨h.tb.imp fun _ h => h.keepB hb, h.lib.keepB hb, h.last, h.inv, h.le, h.mo⟩
theorem TOwn.foot {base : Nat} {w w' : World} {t : Nat} {most : Int} {lv : Value} {L : List Rq} (h : TOwn base w t most lv L) (hL : LibB base w) (hf : Fr w w' (fun b => b = t ∨ lv.ownBlock = some b)) : Below base w w' :=
  hf.below hL.le (fun k e => e.elim (fun e => e ▸ h.lo) (fun e => (h.row.lo k e).1))
theorem ask_len {most : Int} {L : List Rq} (h : (L.length : Int) ≤ most) (tx : Int) (o : Ob) (m : Int) (s : Bool) : ((askF most L tx o m s).2.length : Int) ≤ most := by
  unfold askF
  split
  · exact h
  · split
    · simpa using h
    · split
      · exact h
      · simp; omega
theorem grow_len {A B : List Rq} (h : GrowL A B) : A.length = B.length := by
  induction h with
  | nil => rfl
  | cons _ _ ih => simp [ih]
theorem end_len (L : List Rq) (tx : Int) (all : Bool) : (endF L tx all).1.length ≤ L.length := by
  unfold endF
  rw [← grow_len (wake_grow _)]
  exact List.length_filter_le _ _
theorem PT.ask {base : Nat} {w : World} {t : Nat} {most : Int} {L : List Rq} (h : PT base w t most L) (tx : Int) (o : Ob) (m : Int) (s : Bool) :
    Calls Tryd.prog 11 #[.pointer (some ⟨t, 0, none⟩), .int .i64 tx, o.v, .int .i64 m, .bool s] w fun e w' => e = .returned (.tuple #[.bool (askF most L tx o m s).1.1, .int .i64 (askF most L tx o m s).1.2]) ∧ PT base w' t most (askF most L tx o m s).2 ∧ Below base w w' := by
  have hlen := h.len
  obtain ⟨lv, hT⟩ := h.tb
  refine (pask_any hT h.lib (by omega) h.last tx o m s).mono ?_
  rintro e w' ⟨lv', rfl, hT', hf, _⟩
  have hb := hT.foot h.lib hf
  exact ⟨rfl, ⟨⟨lv', hT'⟩, h.lib.keep hb, h.last.ask _ _ _ _ _, h.inv.ask _ _ _ _ _, ask_len h.le _ _ _ _, h.mo⟩, hb⟩
theorem PT.endTo {base : Nat} {w w' : World} {t : Nat} {most : Int} {lv : Value} {L : List Rq} (h : PT base w t most L) (hT : TOwn base w t most lv L) {tx : Int} {all : Bool} {e : Ending} (hE : EndTo base w t most lv (endF L tx all) e w') :
    ∃ ao m cp, e = .returned (.slice ao m cp) ∧ w'.ownsRow w.heap.size 3 1 (.slice ao m cp) (endF L tx all).2.length ((endF L tx all).2.map (Value.int .i64)) ∧ PT base w' t most (endF L tx all).1 ∧ Below base w w' := by
  obtain ⟨ao, m, cp, lv', he, hr, hT', hf, _⟩ := hE
  have hb := hT.foot h.lib hf
  have hl := end_len L tx all
  have := h.le
  exact ⟨ao, m, cp, he, hr, ⟨⟨lv', hT'⟩, h.lib.keep hb, h.last.end_ _ _, h.inv.end_ _ _, by omega, h.mo⟩, hb⟩
theorem PT.end_ {base : Nat} {w : World} {t : Nat} {most : Int} {L : List Rq} (h : PT base w t most L) (tx : Int) :
    Calls Tryd.prog 14 #[.pointer (some ⟨t, 0, none⟩), .int .i64 tx] w fun e w' => ∃ ao m cp, e = .returned (.slice ao m cp) ∧ w'.ownsRow w.heap.size 3 1 (.slice ao m cp) (endF L tx true).2.length ((endF L tx true).2.map (Value.int .i64)) ∧ PT base w' t most (endF L tx true).1 ∧ Below base w w' := by
  have hlen := h.len
  obtain ⟨lv, hT⟩ := h.tb
  exact (pend_any hT h.lib (by omega) h.last tx).mono (fun e w' hE => h.endTo hT hE)
theorem PT.endS {base : Nat} {w : World} {t : Nat} {most : Int} {L : List Rq} (h : PT base w t most L) (tx : Int) :
    Calls Tryd.prog 16 #[.pointer (some ⟨t, 0, none⟩), .int .i64 tx] w fun e w' => ∃ ao m cp, e = .returned (.slice ao m cp) ∧ w'.ownsRow w.heap.size 3 1 (.slice ao m cp) (endF L tx false).2.length ((endF L tx false).2.map (Value.int .i64)) ∧ PT base w' t most (endF L tx false).1 ∧ Below base w w' := by
  have hlen := h.len
  obtain ⟨lv, hT⟩ := h.tb
  exact (pends_any hT h.lib (by omega) h.last tx).mono (fun e w' hE => h.endTo hT hE)
theorem PT.waits {base : Nat} {w : World} {t : Nat} {most : Int} {L : List Rq} (h : PT base w t most L) (tx : Int) :
    Calls Tryd.prog 23 #[.pointer (some ⟨t, 0, none⟩), .int .i64 tx] w fun e w' => e = .returned (.bool (waitsB L tx)) ∧ PT base w' t most L ∧ Below w.heap.size w w' := by
  have hlen := h.len
  obtain ⟨lv, hT⟩ := h.tb
  obtain ⟨ao, cap, _, hQ⟩ := hT.tab
  exact (pwaits_any hQ (by omega) tx).mono (fun e w' ⟨he, hb⟩ => ⟨he, h.keep hb, hb⟩)
theorem PT.has {base : Nat} {w : World} {t : Nat} {most : Int} {L : List Rq} (h : PT base w t most L) (tx : Int) (o : Ob) (m : Int) :
    Calls Tryd.prog 25 #[.pointer (some ⟨t, 0, none⟩), .int .i64 tx, o.v, .int .i64 m] w fun e w' => e = .returned (.bool (hasB L tx o m)) ∧ PT base w' t most L ∧ Below w.heap.size w w' := by
  have hlen := h.len
  obtain ⟨lv, hT⟩ := h.tb
  obtain ⟨ao, cap, _, hQ⟩ := hT.tab
  exact (phas_any hQ h.lib.lib (by omega) tx o m).mono (fun e w' ⟨he, hb⟩ => ⟨he, h.keep hb, hb⟩)
theorem PT.new {base : Nat} {w : World} (hL : LibB base w) {most : Int} (h1 : 1 ≤ most) (h2 : most ≤ 2000) : PT base (w.alloc (.cells #[.int .i64 most, .slice none 0 0] 62)) w.heap.size most [] :=
  ⟨⟨_, TOwn.new w most hL.le⟩, hL.keepB ((Below.refl _ _).alloc (Nat.le_refl _) _), LastI.nil, TInv.nil, by simp; omega, h2⟩
end Go.Proofs.YtmldpbgdjlblmaaDoor

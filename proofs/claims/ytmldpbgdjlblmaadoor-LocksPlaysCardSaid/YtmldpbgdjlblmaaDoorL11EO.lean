/- End, EndShort, New. -/
import Derived.Test.YtmldpbgdjlblmaaDoorL11EN
namespace Go.Proofs.YtmldpbgdjlblmaaDoor
open Go.RowKit Go.Joins Go.Maps Go.Shelf
set_option linter.unusedVariables false
set_option linter.unusedSimpArgs false

theorem enters_e1 : Enters Tryd.prog 40 := enters_of Tryd.func40 (by kernel_rfl) rfl
theorem enters_es1 : Enters Tryd.prog 42 := enters_of Tryd.func42 (by kernel_rfl) rfl
theorem stays_all (tx : Int) (L : List Rq) : (L.filter fun r => !decide (r.tx = tx)) = L.filter (stays tx true) := by
  congr 1
  funext r
  unfold stays
  by_cases h : r.tx = tx <;> simp [h]
theorem stays_short (tx : Int) (L : List Rq) : (L.filter fun r => !(decide (r.tx = tx) && r.gr && r.sh)) = L.filter (stays tx false) := by
  congr 1
  funext r
  unfold stays
  by_cases h : r.tx = tx <;> cases r.gr <;> cases r.sh <;> simp [h]
/-- What End and EndShort come to. -/
def EndTo (base : Nat) (w : World) (t : Nat) (most : Int) (lv : Value) (W : List Rq × List Int) (e : Ending) (w' : World) : Prop :=
  ∃ ao m cp lv', e = .returned (.slice ao m cp) ∧ w'.ownsRow w.heap.size 3 1 (.slice ao m cp) W.2.length (W.2.map (Value.int .i64)) ∧ TOwn base w' t most lv' W.1 ∧ Fr w w' (fun b => b = t ∨ lv.ownBlock = some b) ∧ lv'.ownBlock = lv.ownBlock
theorem endTo_up {base : Nat} {w w1 : World} {t : Nat} {most : Int} {lv : Value} {W : List Rq × List Int} {e : Ending} {w' : World} (hb : Below w.heap.size w w1) (h : EndTo base w1 t most lv W e w') : EndTo base w t most lv W e w' := by
  obtain ⟨ao, m, cp, lv', h1, h2, h3, h4, h5⟩ := h
  exact ⟨ao, m, cp, lv', h1, own_base h2 hb.size, h3, (Fr.of_below hb).trans h4 (fun k e => Or.inl e), h5⟩
set_option maxHeartbeats 2000000 in
theorem pend_any {base : Nat} {w : World} {t : Nat} {most : Int} {lv : Value} {L : List Rq} (h : TOwn base w t most lv L) (hL : LibB base w) (hlen : L.length ≤ 100000) (hlast : LastI L) (tx : Int) :
    Calls Tryd.prog 14 #[.pointer (some ⟨t, 0, none⟩), .int .i64 tx] w fun e w' => EndTo base w t most lv (endF L tx true) e w' := by
  have hmf : ∀ (fn : Fn) (first cap : Array Value) (w : World), (Instr.makeFunc fn first cap).run Tryd.prog w = .ok (.func fn first cap) w := fun _ _ _ _ => rfl
  have c0 := (cell_new_l w (.int .i64 tx) 3).1
  have hb0 : Below w.heap.size w (w.alloc (.cells #[.int .i64 tx] 3)) := (Below.refl _ _).alloc (Nat.le_refl _) _
  have htw : t < w.heap.size := (Array.getElem?_eq_some_iff.1 h.tb).1
  have hrow : ∀ c, lv.ownBlock = some c → c < w.heap.size := fun c hc => (h.row.lo c hc).2
  have hE := endThose_fn (h.keepB hb0) (hL.keepB hb0) hlen hlast (fun r => decide (r.tx = tx)) 40 #[.pointer (some ⟨w.heap.size, 0, none⟩)] enters_e1 (fun W hf r => end1_fn r (fr_cell hf (fun e => e.elim (fun e => by omega) (fun e => by have := hrow _ e; omega)) c0))
  rw [stays_all] at hE
  have HE := Hid.mk' hE
  clear hE h hL hrow c0
  have hU : ∀ {e w'}, _ → EndTo base w t most lv (endF L tx true) e w' := fun {e w'} => endTo_up hb0 (e := e) (w' := w')
  go_enter Tryd.func14, Tryd.ntmps14
  go_wp2_with fail
  refine HE.out.mono ?_
  rintro e w2 hq
  have hq2 := hU hq
  obtain ⟨ao, m, cp, lv', rfl, h2⟩ := hq2
  clear hq hU HE
  go_wp2_with fail
  go_ret
  exact ⟨ao, m, cp, lv', rfl, h2⟩
set_option maxHeartbeats 2000000 in
theorem pends_any {base : Nat} {w : World} {t : Nat} {most : Int} {lv : Value} {L : List Rq} (h : TOwn base w t most lv L) (hL : LibB base w) (hlen : L.length ≤ 100000) (hlast : LastI L) (tx : Int) :
    Calls Tryd.prog 16 #[.pointer (some ⟨t, 0, none⟩), .int .i64 tx] w fun e w' => EndTo base w t most lv (endF L tx false) e w' := by
  have hmf : ∀ (fn : Fn) (first cap : Array Value) (w : World), (Instr.makeFunc fn first cap).run Tryd.prog w = .ok (.func fn first cap) w := fun _ _ _ _ => rfl
  have c0 := (cell_new_l w (.int .i64 tx) 3).1
  have hb0 : Below w.heap.size w (w.alloc (.cells #[.int .i64 tx] 3)) := (Below.refl _ _).alloc (Nat.le_refl _) _
  have htw : t < w.heap.size := (Array.getElem?_eq_some_iff.1 h.tb).1
  have hrow : ∀ c, lv.ownBlock = some c → c < w.heap.size := fun c hc => (h.row.lo c hc).2
  have hE := endThose_fn (h.keepB hb0) (hL.keepB hb0) hlen hlast (fun r => decide (r.tx = tx) && r.gr && r.sh) 42 #[.pointer (some ⟨w.heap.size, 0, none⟩)] enters_es1 (fun W hf r => ends1_fn r (fr_cell hf (fun e => e.elim (fun e => by omega) (fun e => by have := hrow _ e; omega)) c0))
  rw [stays_short] at hE
  have HE := Hid.mk' hE
  clear hE h hL hrow c0
  have hU : ∀ {e w'}, _ → EndTo base w t most lv (endF L tx false) e w' := fun {e w'} => endTo_up hb0 (e := e) (w' := w')
  go_enter Tryd.func16, Tryd.ntmps16
  go_wp2_with fail
  refine HE.out.mono ?_
  rintro e w2 hq
  have hq2 := hU hq
  obtain ⟨ao, m, cp, lv', rfl, h2⟩ := hq2
  clear hq hU HE
  go_wp2_with fail
  go_ret
  exact ⟨ao, m, cp, lv', rfl, h2⟩
theorem pnew_ok (most : Int) (h1 : 1 ≤ most) (h2 : most ≤ 2000) (w : World) : Calls Tryd.prog 9 #[.int .i64 most] w fun e w' => e = .returned (.tuple #[.pointer (some ⟨w.heap.size, 0, none⟩), .int .i64 0]) ∧ w' = w.alloc (.cells #[.int .i64 most, .slice none 0 0] 62) := by
  have d1 : ¬ most < 1 := by omega
  have d2 : ¬ most > 2000 := by omega
  have d1' : decide (most < 1) = false := decide_eq_false d1
  have d2' : decide (most > 2000) = false := decide_eq_false d2
  have d2'' : decide (2000 < most) = false := d2'
  clear h1 h2 d1 d2
  go_enter Tryd.func9, Tryd.ntmps9
  go_wp2_with fail
  exact bodyPost_ret (v := .tuple #[.pointer (some ⟨w.heap.size, 0, none⟩), .int .i64 0]) (by simp [results, Tryd.results9, go_sem]) rfl ⟨rfl, rfl⟩
theorem pnew_no (most : Int) (h : most < 1 ∨ 2000 < most) (w : World) : Calls Tryd.prog 9 #[.int .i64 most] w fun e w' => e = .returned (.tuple #[.pointer none, .int .i64 1]) ∧ w' = w := by
  by_cases h1 : most < 1
  · have d1' : decide (most < 1) = true := decide_eq_true h1
    clear h
    go_enter Tryd.func9, Tryd.ntmps9
    go_wp2_with fail
    exact bodyPost_ret (v := .tuple #[.pointer none, .int .i64 1]) (by simp [results, Tryd.results9, go_sem]) rfl ⟨rfl, rfl⟩
  · have d1' : decide (most < 1) = false := decide_eq_false h1
    have h2 : 2000 < most := by omega
    have d2' : decide (most > 2000) = true := decide_eq_true h2
    have d2'' : decide (2000 < most) = true := d2'
    clear h
    go_enter Tryd.func9, Tryd.ntmps9
    go_wp2_with fail
    exact bodyPost_ret (v := .tuple #[.pointer none, .int .i64 1]) (by simp [results, Tryd.results9, go_sem]) rfl ⟨rfl, rfl⟩
theorem TOwn.new {base : Nat} (w : World) (most : Int) (hb : base ≤ w.heap.size) : TOwn base (w.alloc (.cells #[.int .i64 most, .slice none 0 0] 62)) w.heap.size most (.slice none 0 0) [] :=
  ⟨World.alloc_heap_new w _, Row.nil_ _ _ _ _ _, by simp [Value.ownBlock], hb⟩
end Go.Proofs.YtmldpbgdjlblmaaDoor

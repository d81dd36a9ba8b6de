/- The program's Ask. -/
import Derived.Test.YtmldpbgdjlblmaaDoorL11KP
namespace Go.Proofs.YtmldpbgdjlblmaaDoor
open Go.RowKit Go.Joins Go.Maps Go.Shelf
set_option linter.unusedVariables false
set_option linter.unusedSimpArgs false

def mbA (m : Int) : Bool := rt m && decide (m ≠ 0)
theorem mbA_iff (m : Int) : mbA m = (!decide (m < 1) && !decide (m > 6)) := by
  unfold mbA rt
  by_cases h0 : 0 ≤ m <;> by_cases h6 : m ≤ 6 <;> by_cases hz : m = 0 <;> simp [h0, h6, hz] <;> omega
theorem mayBe_any (m : Int) (w : World) : Calls Tryd.prog 33 #[.int .i64 m] w fun e w' => e = .returned (.bool (mbA m)) ∧ w' = w := by
  unfold mbA
  cases hr : rt m with
  | false =>
    go_enter Tryd.func33, Tryd.ntmps33
    go_wp2_with fail
    refine (right_is hr _).mono ?_
    rintro e w1 ⟨rfl, rfl⟩
    go_wp2_with fail
    go_ret
    exact ⟨by simp, rfl⟩
  | true =>
    by_cases hz : m = 0
    · subst hz
      go_enter Tryd.func33, Tryd.ntmps33
      go_wp2_with fail
      refine (right_is hr _).mono ?_
      rintro e w1 ⟨rfl, rfl⟩
      go_wp2_with fail
      go_ret
      exact ⟨by simp, rfl⟩
    · have hz2 : (m == 0) = false := by simpa using hz
      go_enter Tryd.func33, Tryd.ntmps33
      go_wp2_with fail
      refine (right_is hr _).mono ?_
      rintro e w1 ⟨rfl, rfl⟩
      go_wp2_with fail
      go_ret
      exact ⟨by simp [hz], rfl⟩
theorem pask_nil (tx : Int) (o : Ob) (m : Int) (s : Bool) (w : World) : Calls Tryd.prog 11 #[.pointer none, .int .i64 tx, o.v, .int .i64 m, .bool s] w fun e w' => e = .returned (.tuple #[.bool false, .int .i64 1]) ∧ Below w.heap.size w w' := by
  have hB0 : Below w.heap.size w (w.alloc o.box) := (Below.refl _ _).alloc (Nat.le_refl _) _
  obtain ⟨sb, tb, lb', ub, nb⟩ := o
  go_enter Tryd.func11, Tryd.ntmps11
  go_wp2_with fail
  exact bodyPost_ret (v := .tuple #[.bool false, .int .i64 1]) (by simp [results, Tryd.results11, go_sem]) rfl ⟨rfl, hB0⟩
/-- What Ask has looked at: its object's box, and the table. -/
structure AkW (base : Nat) (w W : World) (t : Nat) (most : Int) (lv : Value) (L : List Rq) (o : Ob) : Prop where
  ob : BoxO W w.heap.size o
  tb : TOwn base W t most lv L
  lib : LibB base W
  b : Below w.heap.size w W
theorem AkW.keep {base : Nat} {w W W' : World} {t : Nat} {most : Int} {lv : Value} {L : List Rq} {o : Ob} (h : AkW base w W t most lv L o) (hb : Below W.heap.size W W') : AkW base w W' t most lv L o :=
  ⟨h.ob.keep hb, h.tb.keepB hb, h.lib.keepB hb, keepA h.b hb⟩
theorem AkW.new {base : Nat} {w : World} {t : Nat} {most : Int} {lv : Value} {L : List Rq} (h : TOwn base w t most lv L) (hL : LibB base w) (o : Ob) : AkW base w (w.alloc o.box) t most lv L o :=
  have hB0 : Below w.heap.size w (w.alloc o.box) := (Below.refl _ _).alloc (Nat.le_refl _) _
  ⟨BoxO.new w o, h.keepB hB0, hL.keepB hB0, hB0⟩
set_option maxRecDepth 100000 in
set_option maxHeartbeats 8000000 in
theorem pask_form {base : Nat} {w : World} {t : Nat} {most : Int} {lv : Value} {L : List Rq} (h : TOwn base w t most lv L) (hL : LibB base w) (hl : L.length ≤ 100000) (tx : Int) (o : Ob) (m : Int) (s : Bool) (hbad : (decide (tx < 1) || !pl o || decide (m < 1) || decide (m > 6) || waitsB L tx) = true) :
    Calls Tryd.prog 11 #[.pointer (some ⟨t, 0, none⟩), .int .i64 tx, o.v, .int .i64 m, .bool s] w fun e w' => e = .returned (.tuple #[.bool false, .int .i64 114]) ∧ TOwn base w' t most lv L ∧ Below w.heap.size w w' := by
  have A0 := AkW.new h hL o
  have HA : Hid (AkW base w (w.alloc o.box) t most lv L o) := A0
  have hpl := fun w => place_is (o := o) rfl w
  have hmb := fun w => mayBe_any m w
  have hwt : ∀ W, AkW base w W t most lv L o → Calls Tryd.prog 23 #[.pointer (some ⟨t, 0, none⟩), .int .i64 tx] W fun e w' => e = .returned (.bool (waitsB L tx)) ∧ Below W.heap.size W w' := fun W hA => by
    obtain ⟨ao, cap, _, hQ⟩ := hA.tb.tab
    exact pwaits_any hQ hl tx
  have HW := Hid.mk' hwt
  rw [show (decide (tx < 1) || !pl o || decide (m < 1) || decide (m > 6) || waitsB L tx) = (decide (tx < 1) || !pl o || !mbA m || waitsB L tx) by rw [mbA_iff]; cases decide (tx < 1) <;> cases pl o <;> cases decide (m < 1) <;> cases decide (m > 6) <;> cases waitsB L tx <;> rfl] at hbad
  clear h hL A0 hwt
  generalize pl o = p at *
  generalize mbA m = mb at *
  generalize waitsB L tx = wt at *
  obtain ⟨sb, tb, lb', ub, nb⟩ := o
  simp only [Ob.v] at hpl ⊢
  by_cases h1 : tx < 1
  · go_enter Tryd.func11, Tryd.ntmps11
    go_wp2_with fail
    exact bodyPost_ret (v := .tuple #[.bool false, .int .i64 114]) (by simp [results, Tryd.results11, go_sem]) rfl ⟨rfl, HA.out.tb, HA.out.b⟩
  · cases p with
    | false =>
      go_enter Tryd.func11, Tryd.ntmps11
      go_wp2_with fail
      refine (hpl _).mono ?_
      rintro e w1 ⟨rfl, hb1⟩
      have A1 := Hid.mk' (HA.out.keep hb1)
      clear hb1 HA
      go_wp2_with fail
      exact bodyPost_ret (v := .tuple #[.bool false, .int .i64 114]) (by simp [results, Tryd.results11, go_sem]) rfl ⟨rfl, A1.out.tb, A1.out.b⟩
    | true =>
      cases mb with
      | false =>
        go_enter Tryd.func11, Tryd.ntmps11
        go_wp2_with fail
        refine (hpl _).mono ?_
        rintro e w1 ⟨rfl, hb1⟩
        have A1 := Hid.mk' (HA.out.keep hb1)
        clear hb1 HA
        go_wp2_with fail
        refine (hmb _).mono ?_
        rintro e w2 ⟨rfl, rfl⟩
        go_wp2_with fail
        exact bodyPost_ret (v := .tuple #[.bool false, .int .i64 114]) (by simp [results, Tryd.results11, go_sem]) rfl ⟨rfl, A1.out.tb, A1.out.b⟩
      | true =>
        have hw : wt = true := by simpa [h1] using hbad
        subst hw
        go_enter Tryd.func11, Tryd.ntmps11
        go_wp2_with fail
        refine (hpl _).mono ?_
        rintro e w1 ⟨rfl, hb1⟩
        have A1 := Hid.mk' (HA.out.keep hb1)
        clear hb1 HA
        go_wp2_with fail
        refine (hmb _).mono ?_
        rintro e w2 ⟨rfl, rfl⟩
        go_wp2_with fail
        refine (HW.out _ A1.out).mono ?_
        rintro e w3 ⟨rfl, hb3⟩
        have A3 := Hid.mk' (A1.out.keep hb3)
        clear hb3 A1
        go_wp2_with fail
        exact bodyPost_ret (v := .tuple #[.bool false, .int .i64 114]) (by simp [results, Tryd.results11, go_sem]) rfl ⟨rfl, A3.out.tb, A3.out.b⟩
end Go.Proofs.YtmldpbgdjlblmaaDoor

/- The live question of layer 11. -/
import Derived.Test.YtmldpbgdjlblmaaDoorL11ER
namespace Go.Proofs.YtmldpbgdjlblmaaDoor
open Go.RowKit Go.Joins Go.Maps Go.Shelf
set_option linter.unusedVariables false
set_option linter.unusedSimpArgs false

theorem LibW.toB {w : World} (h : LibW w) : LibB w.heap.size w := by
  have lt : ∀ {g : Nat} {n : String} {cs : Array Value}, Tryd.prog.globalNamed n = some g → w.var? Tryd.prog n = some cs → g < w.heap.size := by
    intro g n cs hg hv
    unfold World.var? at hv
    rw [hg] at hv
    simp only [Option.bind_some] at hv
    rcases Nat.lt_or_ge g w.heap.size with h' | h'
    · exact h'
    · rw [Array.getElem?_eq_none h'] at hv; cases hv
  exact ⟨h, lt gFits h.fits, lt gCov h.cov, Nat.le_refl _⟩
/-- A table as a whole. -/
abbrev tX : Ob := ⟨1, ⟨#[116]⟩, ⟨#[]⟩, ⟨#[]⟩, false⟩
theorem tX_pl : pl tX = true := by simp [pl, em]
theorem tX_mt : mt tX tX = true := (self_all tX_pl).1
theorem tX_wi : wi tX tX = true := (self_all tX_pl).2
def q1 : Rq := ⟨1, tX, 3, true, false⟩
def q2 (g : Bool) : Rq := ⟨2, tX, 2, g, false⟩
def q3 : Rq := ⟨3, tX, 1, true, false⟩
def q4 : Rq := ⟨4, tX, 3, false, false⟩
theorem lv_1 : askF 9 [] 1 tX 3 false = ((true, 0), [q1]) := by
  simp [askF, waitsB, hasB, tX_pl, mayP, gb, wb, cvn, q1]
theorem lv_2 : askF 9 [q1] 2 tX 2 false = ((false, 0), [q1, q2 false]) := by
  have f : fi 3 2 = false := rfl
  simp [askF, waitsB, hasB, heldB, tX_pl, tX_mt, tX_wi, mayP, gb, wb, cvn, cg, ag, q1, q2, f]
theorem lv_3 : askF 9 [q1, q2 false] 3 tX 1 false = ((true, 0), [q1, q2 false, q3]) := by
  have f1 : fi 3 1 = true := rfl
  have f2 : fi 2 1 = true := rfl
  have f3 : fi 1 2 = true := rfl
  simp [askF, waitsB, hasB, heldB, tX_pl, tX_mt, tX_wi, mayP, gb, wb, cvn, cg, ag, q1, q2, q3, f1, f2, f3]
theorem lv_4 : askF 9 [q1, q2 false, q3] 4 tX 3 false = ((false, 0), [q1, q2 false, q3, q4]) := by
  have f1 : fi 3 3 = true := rfl
  have f2 : fi 2 3 = false := rfl
  have f3 : fi 1 3 = true := rfl
  simp [askF, waitsB, hasB, heldB, tX_pl, tX_mt, tX_wi, mayP, gb, wb, cvn, cg, ag, q1, q2, q3, q4, f1, f2, f3]
theorem lv_5 : endF [q1, q2 false, q3, q4] 1 true = ([q2 true, q3, q4], [2]) := by
  have f1 : fi 1 2 = true := rfl
  have f2 : fi 2 3 = false := rfl
  have f3 : fi 1 3 = true := rfl
  have e : [q1, q2 false, q3, q4].filter (stays 1 true) = [q2 false, q3, q4] := by simp [stays, q1, q2, q3, q4]
  unfold endF
  rw [e, ← pass_wake]
  simp [passN, isMay, grant, gset, txAt, tX_mt, mayP, gb, wb, cvn, cg, ag, q2, q3, q4, f1, f2, f3]
theorem lv_6 : waitsB [q2 true, q3, q4] 4 = true := by simp [waitsB, q2, q3, q4]
theorem lv_7 : hasB [q2 true, q3, q4] 2 tX 1 = true := by
  have f : cv 2 1 = true := rfl
  simp [hasB, heldB, q2, tX_wi, f]
theorem table_fn (n : ByteArray) (w : World) : Calls Tryd.prog 31 #[.string n] w fun e w' => e = .returned (.agg #[.int .i64 1, .string n, .string ⟨#[]⟩, .string ⟨#[]⟩, .bool false]) ∧ Below w.heap.size w w' := by
  have hb : Below w.heap.size w (w.alloc (.cells #[.int .i64 1, .string n, .string ⟨#[]⟩, .string ⟨#[]⟩, .bool false] 33)) := (Below.refl _ _).alloc (Nat.le_refl _) _
  go_enter Tryd.func31, Tryd.ntmps31
  go_wp2
  refine bodyPost_ret (v := .agg #[.int .i64 1, .string n, .string ⟨#[]⟩, .string ⟨#[]⟩, .bool false]) ?_ rfl ⟨rfl, hb⟩
  simp [results, Tryd.results31, go_sem]
set_option maxRecDepth 100000 in
set_option maxHeartbeats 4000000 in
theorem alive_any (w : World) (hL : LibW w) :
    Calls Tryd.prog 10 #[] w fun e w' => e = .returned (.bool true) ∧ Below w.heap.size w w' := by
  have hB := hL.toB
  have HP : Hid (PT w.heap.size (w.alloc (.cells #[.int .i64 9, .slice none 0 0] 62)) w.heap.size 9 [] ∧ Below w.heap.size w (w.alloc (.cells #[.int .i64 9, .slice none 0 0] 62))) := ⟨PT.new hB (by omega) (by omega), (Below.refl _ _).alloc (Nat.le_refl _) _⟩
  clear hB hL
  go_enter Tryd.func10, Tryd.ntmps10
  go_wp2_with fail
  refine (pnew_ok 9 (by omega) (by omega) _).mono ?_
  rintro e w1 ⟨rfl, hw1⟩
  rw [← hw1] at HP
  clear hw1
  go_wp2_with fail
  refine (table_fn _ _).mono ?_
  rintro e w2 ⟨rfl, hb⟩
  have H2 := Hid.mk' (And.intro (HP.out.1.keep hb) (keepA HP.out.2 hb))
  clear HP hb
  have a1 := H2.out.1.ask 1 tX 3 false
  rw [lv_1] at a1
  go_wp2_with fail
  refine a1.mono ?_
  rintro e w3 ⟨rfl, hp, hb⟩
  have H3 := Hid.mk' (And.intro hp (H2.out.2.trans hb))
  clear H2 hp hb a1
  go_wp2_with fail
  refine (table_fn _ _).mono ?_
  rintro e w4 ⟨rfl, hb⟩
  have H4 := Hid.mk' (And.intro (H3.out.1.keep hb) (keepA H3.out.2 hb))
  clear H3 hb
  have a2 := H4.out.1.ask 2 tX 2 false
  rw [lv_2] at a2
  go_wp2_with fail
  refine a2.mono ?_
  rintro e w5 ⟨rfl, hp, hb⟩
  have H5 := Hid.mk' (And.intro hp (H4.out.2.trans hb))
  clear H4 hp hb a2
  go_wp2_with fail
  refine (table_fn _ _).mono ?_
  rintro e w6 ⟨rfl, hb⟩
  have H6 := Hid.mk' (And.intro (H5.out.1.keep hb) (keepA H5.out.2 hb))
  clear H5 hb
  have a3 := H6.out.1.ask 3 tX 1 false
  rw [lv_3] at a3
  go_wp2_with fail
  refine a3.mono ?_
  rintro e w7 ⟨rfl, hp, hb⟩
  have H7 := Hid.mk' (And.intro hp (H6.out.2.trans hb))
  clear H6 hp hb a3
  go_wp2_with fail
  refine (table_fn _ _).mono ?_
  rintro e w8 ⟨rfl, hb⟩
  have H8 := Hid.mk' (And.intro (H7.out.1.keep hb) (keepA H7.out.2 hb))
  clear H7 hb
  have a4 := H8.out.1.ask 4 tX 3 false
  rw [lv_4] at a4
  go_wp2_with fail
  refine a4.mono ?_
  rintro e w9 ⟨rfl, hp, hb⟩
  have H9 := Hid.mk' (And.intro hp (H8.out.2.trans hb))
  clear H8 hp hb a4
  have a5 := H9.out.1.end_ 1
  rw [lv_5] at a5
  go_wp2_with fail
  refine a5.mono ?_
  rintro e w10 ⟨ao, m, cp, rfl, hrow, hp, hb⟩
  have H10 := Hid.mk' (And.intro hp (H9.out.2.trans hb))
  obtain ⟨g, cap, hgv⟩ := ownsRow_succ hrow
  simp only [Value.slice.injEq] at hgv
  obtain ⟨rfl, rfl, rfl⟩ := hgv
  have hc0 : w10.cell? ⟨g, 0, none⟩ = some (.int .i64 2) := World.ownsRow.cells hrow (g := g) rfl 0 (.int .i64 2) rfl
  have a6 := H10.out.1.waits 4
  rw [lv_6] at a6
  clear H9 hp hb a5 hrow
  go_wp2_with fail
  refine a6.mono ?_
  rintro e w11 ⟨rfl, hp, hb⟩
  have H11 := Hid.mk' (And.intro hp (keepA H10.out.2 hb))
  clear H10 hp hb a6 hc0
  go_wp2_with fail
  refine (table_fn _ _).mono ?_
  rintro e w12 ⟨rfl, hb⟩
  have H12 := Hid.mk' (And.intro (H11.out.1.keep hb) (keepA H11.out.2 hb))
  clear H11 hb
  have a7 := H12.out.1.has 2 tX 1
  rw [lv_7] at a7
  go_wp2_with fail
  refine a7.mono ?_
  rintro e w13 ⟨rfl, hp, hb⟩
  have H13 := Hid.mk' (keepA H12.out.2 hb)
  clear H12 hp hb a7
  go_wp2_with fail
  go_ret
  exact ⟨rfl, H13.out⟩
end Go.Proofs.YtmldpbgdjlblmaaDoor

/- A script on a new table: play. -/
import Derived.Test.YtmldpbgdjlblmaaDoorL11LS
import Derived.Test.YtmldpbgdjlblmaaDoorL11AV
import Derived.Test.YtmldpbgdjlblmaaDoorL11OP
namespace Go.Proofs.YtmldpbgdjlblmaaDoor
open Go.RowKit Go.Joins Go.Maps Go.Shelf
set_option linter.unusedVariables false
set_option linter.unusedSimpArgs false

/-- What one act does to the table. -/
def opF (most : Int) (L : List Rq) (x : Op11) : List Rq := if x.kind = 1 then (askF most L x.tx x.ob x.md x.sh).2 else if x.kind = 2 then (endF L x.tx true).1 else if x.kind = 3 then (endF L x.tx false).1 else L
def runF (most : Int) (rs : List Op11) : List Rq := rs.foldl (opF most) []
theorem runF_succ (most : Int) (rs : List Op11) {k : Nat} (h : k < rs.length) : runF most (rs.take (k + 1)) = opF most (runF most (rs.take k)) rs[k] := by
  rw [List.take_succ_eq_append_getElem h, runF, List.foldl_append]
  rfl
/-- An act as it is read. -/
structure OpAt (w : World) (g o : Nat) (x : Op11) : Prop where
  c0 : w.cell? ⟨g, o, none⟩ = some (.int .i64 x.kind)
  c1 : w.cell? ⟨g, o + 1, none⟩ = some (.int .i64 x.tx)
  c2 : w.cell? ⟨g, o + 2, none⟩ = some (.int .i64 x.ob.sp)
  c3 : w.cell? ⟨g, o + 3, none⟩ = some (.string x.ob.tb)
  c4 : w.cell? ⟨g, o + 4, none⟩ = some (.string x.ob.lo)
  c5 : w.cell? ⟨g, o + 5, none⟩ = some (.string x.ob.hi)
  c6 : w.cell? ⟨g, o + 6, none⟩ = some (.bool x.ob.en)
  c7 : w.cell? ⟨g, o + 7, none⟩ = some (.int .i64 x.md)
  c8 : w.cell? ⟨g, o + 8, none⟩ = some (.bool x.sh)
theorem OpAt.of_range {w : World} {g o : Nat} {x : Op11} (h : w.rangeAt g o (cells11 x)) : OpAt w g o x :=
  ⟨h 0 _ rfl, h 1 _ rfl, h 2 _ rfl, h 3 _ rfl, h 4 _ rfl, h 5 _ rfl, h 6 _ rfl, h 7 _ rfl, h 8 _ rfl⟩
theorem OpAt.below {B : Nat} {w w' : World} {g o : Nat} {x : Op11} (h : OpAt w g o x) (hb : Below B w w') (hg : g < B) : OpAt w' g o x :=
  have f := fun (k : Nat) (v : Value) (hc : w.cell? ⟨g, k, none⟩ = some v) => (hb.cell (p := ⟨g, k, none⟩) hg).trans hc
  ⟨f _ _ h.c0, f _ _ h.c1, f _ _ h.c2, f _ _ h.c3, f _ _ h.c4, f _ _ h.c5, f _ _ h.c6, f _ _ h.c7, f _ _ h.c8⟩
abbrev Op11.box (x : Op11) : Obj := .cells #[.int .i64 x.kind, .int .i64 x.tx, .int .i64 x.ob.sp, .string x.ob.tb, .string x.ob.lo, .string x.ob.hi, .bool x.ob.en, .int .i64 x.md, .bool x.sh] 35
theorem OpAt.new (W : World) (x : Op11) : OpAt (W.alloc x.box) W.heap.size 0 x :=
  ⟨by go_simp, by go_simp, by go_simp, by go_simp, by go_simp, by go_simp, by go_simp, by go_simp, by go_simp⟩
set_option maxRecDepth 100000 in
set_option maxHeartbeats 4000000 in
theorem play_any {w : World} {v : Value} {rs : List Op11} (hx : Ops11 w v rs) (hL : LibW w) (n : Int) (hn : 0 ≤ n) (hn2 : n ≤ 1000000) :
    Calls Tryd.prog 27 #[v, .int .i64 n] w fun e w' => ∃ t, e = .returned (.pointer (some ⟨t, 0, none⟩)) ∧ PT w.heap.size w' t 500 (runF 500 (rs.take n.toNat)) ∧ Below w.heap.size w w' := by
  obtain ⟨ao, cap, rfl, hcap, hrow⟩ := hx
  have HP : Hid (PT w.heap.size (w.alloc (.cells #[.int .i64 500, .slice none 0 0] 62)) w.heap.size 500 [] ∧ Below w.heap.size w (w.alloc (.cells #[.int .i64 500, .slice none 0 0] 62))) := ⟨PT.new hL.toB (by omega) (by omega), (Below.refl _ _).alloc (Nat.le_refl _) _⟩
  clear hL
  go_enter Tryd.func27, Tryd.ntmps27
  go_wp2_with fail
  refine (pnew_ok 500 (by omega) (by omega) _).mono ?_
  rintro e w1 ⟨rfl, hw1⟩
  rw [← hw1] at HP
  clear hw1
  go_wp2_with fail
  go_loopw [7] (fun x wr => ∃ k : Nat, x = .int .i64 k ∧ k ≤ rs.length ∧ (k : Int) ≤ n ∧ Hid (PT w.heap.size wr w.heap.size 500 (runF 500 (rs.take k)) ∧ Below w.heap.size w wr)) (fun x _ => rs.length - (intOf x).toNat)
  case atStart => exact ⟨0, rfl, Nat.zero_le _, hn, HP⟩
  case round =>
    obtain ⟨k, rfl, hk, hkn, HS⟩ := hrel
    by_cases hlt : k < rs.length
    · have tk : (k : Int) < (rs.length : Int) := by omega
      by_cases hkn2 : (k : Int) < n
      · rcases hrow with h0 | ⟨g, o, rfl, hX⟩
        · rw [h0] at hlt; simp at hlt
        have hop0 := OpAt.of_range (hX k hlt)
        have hgl : g < w.heap.size := World.block_lt_of_cell? w _ hop0.c0
        have hop := hop0.below HS.out.2 hgl
        have hbx : Below wr.heap.size wr (wr.alloc (rs[k]).box) := (Below.refl _ _).alloc (Nat.le_refl _) _
        have HB : Hid (OpAt (wr.alloc (rs[k]).box) wr.heap.size 0 rs[k] ∧ PT w.heap.size (wr.alloc (rs[k]).box) w.heap.size 500 (runF 500 (rs.take k)) ∧ Below w.heap.size w (wr.alloc (rs[k]).box)) := ⟨OpAt.new wr rs[k], HS.out.1.keep hbx, keepA HS.out.2 hbx⟩
        have HR := Hid.mk' (runF_succ 500 rs hlt)
        clear hop0 hbx HS HP
        generalize hL1 : runF 500 (rs.take (k + 1)) = L1 at *
        generalize runF 500 (rs.take k) = L at *
        generalize rs[k] = x at *
        obtain ⟨q0, q1, q2, q3, q4, q5, q6, q7, q8⟩ := hop
        have ask := HB.out.2.1.ask x.tx x.ob x.md x.sh
        have en := HB.out.2.1.end_ x.tx
        have ens := HB.out.2.1.endS x.tx
        unfold opF at HR
        obtain ⟨kd, xt, ⟨sa, ta, la, ua, na⟩, xm, xs⟩ := x
        simp only at q0 q1 q2 q3 q4 q5 q6 q7 q8 ask en ens HR
        by_cases e1 : kd = 1
        · subst e1
          rw [if_pos rfl] at HR
          go_wp2_with fail
          refine ask.mono ?_
          rintro e w2 ⟨rfl, hp, hb⟩
          have HN := Hid.mk' (And.intro (HR.out ▸ hp) (HB.out.2.2.trans hb))
          clear ask en ens hp hb HB
          go_wp2_with fail
          go_roundw
          case rel => exact ⟨k + 1, by go_num, by omega, by omega, by rw [hL1]; exact HN⟩
          case measure => simp [intOf]; omega
        · rw [if_neg e1] at HR
          have e1' : (kd == 1) = false := by simpa using e1
          by_cases e2 : kd = 2
          · subst e2
            rw [if_pos rfl] at HR
            go_wp2_with fail
            refine en.mono ?_
            rintro e w2 ⟨ao2, m2, cp2, rfl, _, hp, hb⟩
            have HN := Hid.mk' (And.intro (HR.out ▸ hp) (HB.out.2.2.trans hb))
            clear ask en ens hp hb HB
            go_wp2_with fail
            go_roundw
            case rel => exact ⟨k + 1, by go_num, by omega, by omega, by rw [hL1]; exact HN⟩
            case measure => simp [intOf]; omega
          · rw [if_neg e2] at HR
            have e2' : (kd == 2) = false := by simpa using e2
            by_cases e3 : kd = 3
            · subst e3
              rw [if_pos rfl] at HR
              go_wp2_with fail
              refine ens.mono ?_
              rintro e w2 ⟨ao2, m2, cp2, rfl, _, hp, hb⟩
              have HN := Hid.mk' (And.intro (HR.out ▸ hp) (HB.out.2.2.trans hb))
              clear ask en ens hp hb HB
              go_wp2_with fail
              go_roundw
              case rel => exact ⟨k + 1, by go_num, by omega, by omega, by rw [hL1]; exact HN⟩
              case measure => simp [intOf]; omega
            · rw [if_neg e3] at HR
              have e3' : (kd == 3) = false := by simpa using e3
              have HN := Hid.mk' (And.intro (HR.out ▸ HB.out.2.1) HB.out.2.2)
              clear ask en ens HB
              go_wp2_with fail
              go_roundw
              case rel => exact ⟨k + 1, by go_num, by omega, by omega, by rw [hL1]; exact HN⟩
              case measure => simp [intOf]; omega
      · have hkn3 : n.toNat = k := by omega
        have HE : Hid (PT w.heap.size wr w.heap.size 500 (runF 500 (rs.take n.toNat)) ∧ Below w.heap.size w wr) := by rw [hkn3]; exact HS
        clear HS HP hkn3
        go_wp2_with fail
        go_ret
        exact ⟨_, rfl, HE.out⟩
    · have tk : ¬ (k : Int) < (rs.length : Int) := by omega
      have hkr : k = rs.length := by omega
      have HE : Hid (PT w.heap.size wr w.heap.size 500 (runF 500 (rs.take n.toNat)) ∧ Below w.heap.size w wr) := by
        rw [List.take_of_length_le (by omega)]
        have := HS.out
        rw [hkr, List.take_of_length_le (Nat.le_refl _)] at this
        exact this
      clear HS HP
      go_wp2_with fail
      go_ret
      exact ⟨_, rfl, HE.out⟩
end Go.Proofs.YtmldpbgdjlblmaaDoor

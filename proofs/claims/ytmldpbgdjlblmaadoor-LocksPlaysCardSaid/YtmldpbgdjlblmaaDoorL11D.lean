/- The document's table of locks: either, blocks, may. -/
import Derived.Test.YtmldpbgdjlblmaaDoorL11A
import Derived.Test.YtmldpbgdjlblmaaDoorL11C
import Derived.Deep.RegionHeld3
import Derived.Deep.RegionHeldLaw
namespace Go.Proofs.YtmldpbgdjlblmaaDoor
open Go.RowKit Go.Joins
set_option linter.unusedVariables false
set_option linter.unusedSimpArgs false

theorem against_is {g r : Rq} {t : Bool} (h : ag g r = t) (w : World) :
    Calls Tryd.prog 53 #[g.v, r.v] w fun e w' => e = .returned (.bool t) ∧ Below w.heap.size w w' := h ▸ against_ref g r w
set_option maxHeartbeats 4000000 in
theorem either_ref (g r : Rq) (w : World) :
    Calls Tryd.prog 67 #[g.v, r.v] w fun e w' => e = .returned (.bool (ag g r || ag r g)) ∧ Below w.heap.size w w' := by
  obtain ⟨xt, ⟨sa, ta, la, ua, na⟩, xm, xg, xs⟩ := g
  obtain ⟨yt, ⟨sb, tb, lb', ub, nb⟩, ym, yg, ys⟩ := r
  have h1 := fun w => against_ref ⟨xt, ⟨sa, ta, la, ua, na⟩, xm, xg, xs⟩ ⟨yt, ⟨sb, tb, lb', ub, nb⟩, ym, yg, ys⟩ w
  have h2 := fun w => against_ref ⟨yt, ⟨sb, tb, lb', ub, nb⟩, ym, yg, ys⟩ ⟨xt, ⟨sa, ta, la, ua, na⟩, xm, xg, xs⟩ w
  simp only [Rq.v] at h1 h2 ⊢
  generalize ag ⟨xt, ⟨sa, ta, la, ua, na⟩, xm, xg, xs⟩ ⟨yt, ⟨sb, tb, lb', ub, nb⟩, ym, yg, ys⟩ = p at *
  generalize ag ⟨yt, ⟨sb, tb, lb', ub, nb⟩, ym, yg, ys⟩ ⟨xt, ⟨sa, ta, la, ua, na⟩, xm, xg, xs⟩ = q at *
  go_enter Tryd.func67, Tryd.ntmps67
  go_wp2_with fail
  refine (h1 _).mono ?_
  rintro e w1 ⟨rfl, hb⟩
  have T := twoq_first (a := ⟨xt, ⟨sa, ta, la, ua, na⟩, xm, xg, xs⟩) (b := ⟨yt, ⟨sb, tb, lb', ub, nb⟩, ym, yg, ys⟩) hb
  clear hb h1
  obtain ⟨b0, b1, b2, b3, b4, b5, b6, b7, b8⟩ := T.b
  obtain ⟨a0, a1, a2, a3, a4, a5, a6, a7, a8⟩ := T.a
  simp only at b0 b1 b2 b3 b4 b5 b6 b7 b8 a0 a1 a2 a3 a4 a5 a6 a7 a8
  go_wp2_with fail
  refine (h2 _).mono ?_
  rintro e w2 ⟨rfl, hb⟩
  replace T := T.keep hb
  clear b0 b1 b2 b3 b4 b5 b6 b7 b8 a0 a1 a2 a3 a4 a5 a6 a7 a8 hb h2
  cases p
  · go_wp2_with fail
    go_ret
    exact ⟨by simp, T.below⟩
  · go_wp2_with fail
    go_ret
    exact ⟨by simp, T.below⟩
theorem keepKI {w w' : World} {t g cap k i : Nat} {most : Int} {L : List Rq} {xt yt sa sb xm ym : Int} {ta la ua tb lb' ub : ByteArray} {na nb xg xs yg ys : Bool} (h : QTab w t most (some ⟨g, 0, none⟩) cap L) (hx : RqAt w g k ⟨xt, ⟨sa, ta, la, ua, na⟩, xm, xg, xs⟩) (hy : RqAt w g i ⟨yt, ⟨sb, tb, lb', ub, nb⟩, ym, yg, ys⟩) (hb : Below w.heap.size w w') : Below w.heap.size w w' ∧ w'.cell? ⟨t, 1, none⟩ = some (.slice (some ⟨g, 0, none⟩) L.length cap) ∧ w'.cell? ⟨g, k * 9, none⟩ = some (.int .i64 xt) ∧ w'.cell? ⟨g, k * 9 + 1, none⟩ = some (.int .i64 sa) ∧ w'.cell? ⟨g, k * 9 + 2, none⟩ = some (.string ta) ∧ w'.cell? ⟨g, k * 9 + 3, none⟩ = some (.string la) ∧ w'.cell? ⟨g, k * 9 + 4, none⟩ = some (.string ua) ∧ w'.cell? ⟨g, k * 9 + 5, none⟩ = some (.bool na) ∧ w'.cell? ⟨g, k * 9 + 6, none⟩ = some (.int .i64 xm) ∧ w'.cell? ⟨g, k * 9 + 7, none⟩ = some (.bool xg) ∧ w'.cell? ⟨g, k * 9 + 8, none⟩ = some (.bool xs) ∧ w'.cell? ⟨g, i * 9, none⟩ = some (.int .i64 yt) ∧ w'.cell? ⟨g, i * 9 + 1, none⟩ = some (.int .i64 sb) ∧ w'.cell? ⟨g, i * 9 + 2, none⟩ = some (.string tb) ∧ w'.cell? ⟨g, i * 9 + 3, none⟩ = some (.string lb') ∧ w'.cell? ⟨g, i * 9 + 4, none⟩ = some (.string ub) ∧ w'.cell? ⟨g, i * 9 + 5, none⟩ = some (.bool nb) ∧ w'.cell? ⟨g, i * 9 + 6, none⟩ = some (.int .i64 ym) ∧ w'.cell? ⟨g, i * 9 + 7, none⟩ = some (.bool yg) ∧ w'.cell? ⟨g, i * 9 + 8, none⟩ = some (.bool ys) :=
  have X := hx.keep hb
  have Y := hy.keep hb
  ⟨hb, (h.keep hb).l, X.c0, X.c1, X.c2, X.c3, X.c4, X.c5, X.c6, X.c7, X.c8, Y.c0, Y.c1, Y.c2, Y.c3, Y.c4, Y.c5, Y.c6, Y.c7, Y.c8⟩
theorem keepF11 {P : Prop} {W0 W w' : World} (h : Below W0.heap.size W0 W ∧ P) (hb : Below W.heap.size W w') : Below W0.heap.size W0 w' := keepA h.1 hb
set_option maxRecDepth 100000 in
set_option maxHeartbeats 8000000 in
theorem rblocks_any {w : World} {t : Nat} {most : Int} {ao : Option Addr} {cap : Nat} {L : List Rq} (h : QTab w t most ao cap L) (hl : L.length ≤ 1000000) {k i : Nat} (hk : k < L.length) (hi : i < L.length) :
    Calls Tryd.prog 49 #[.pointer (some ⟨t, 0, none⟩), .int .i64 k, .int .i64 i] w fun e w' => e = .returned (.bool (blk L k i)) ∧ Below w.heap.size w w' := by
  have hb0 : blk L k i = (!(decide (k = i)) && (if L[k].gr then ag L[k] L[i] else decide (k < i) && (ag L[k] L[i] || ag L[i] L[k]) && !cvn (L.take i) L[i])) := by
    simp only [blk, List.getElem?_eq_getElem hk, List.getElem?_eq_getElem hi]
  by_cases hki : k = i
  · subst hki
    rw [hb0]
    go_enter Tryd.func49, Tryd.ntmps49
    go_wp2_with fail
    go_ret
    exact ⟨by simp, Below.refl _ _⟩
  · have hne : ((k : Int) == (i : Int)) = false := by rw [beq_eq_false_iff_ne]; omega
    have hcv := fun w' (hb : Below w.heap.size w w') => rconv_any (h.keep hb) hl hi
    obtain ⟨g, rfl, hqk⟩ := h.at_ hk
    obtain ⟨g', e', hqi⟩ := h.at_ hi
    cases e'
    have c1 := h.l
    have q7 := hqk.c7
    have hk2 : (k : Int) < (L.length : Int) := by omega
    have hi2 : (i : Int) < (L.length : Int) := by omega
    have hle := h.le
    have HT := h
    generalize L[k] = x at *
    generalize L[i] = y at *
    obtain ⟨xt, ⟨sa, ta, la, ua, na⟩, xm, xg, xs⟩ := x
    obtain ⟨yt, ⟨sb, tb, lb', ub, nb⟩, ym, yg, ys⟩ := y
    cases xg with
    | true =>
      have e1 : blk L k i = ag ⟨xt, ⟨sa, ta, la, ua, na⟩, xm, true, xs⟩ ⟨yt, ⟨sb, tb, lb', ub, nb⟩, ym, yg, ys⟩ := by rw [hb0]; simp [hki]
      rw [e1]
      have hag := fun w => against_ref ⟨xt, ⟨sa, ta, la, ua, na⟩, xm, true, xs⟩ ⟨yt, ⟨sb, tb, lb', ub, nb⟩, ym, yg, ys⟩ w
      simp only [Rq.v] at hag q7
      generalize ag ⟨xt, ⟨sa, ta, la, ua, na⟩, xm, true, xs⟩ ⟨yt, ⟨sb, tb, lb', ub, nb⟩, ym, yg, ys⟩ = p at *
      clear hb0 e1 hcv
      go_enter Tryd.func49, Tryd.ntmps49
      go_wp2_with fail
      go_region_held3 (fun w' => Below w.heap.size w w' ∧ w'.cell? ⟨t, 1, none⟩ = some (.slice (some ⟨g, 0, none⟩) L.length cap) ∧ w'.cell? ⟨g, k * 9, none⟩ = some (.int .i64 xt) ∧ w'.cell? ⟨g, k * 9 + 1, none⟩ = some (.int .i64 sa) ∧ w'.cell? ⟨g, k * 9 + 2, none⟩ = some (.string ta) ∧ w'.cell? ⟨g, k * 9 + 3, none⟩ = some (.string la) ∧ w'.cell? ⟨g, k * 9 + 4, none⟩ = some (.string ua) ∧ w'.cell? ⟨g, k * 9 + 5, none⟩ = some (.bool na) ∧ w'.cell? ⟨g, k * 9 + 6, none⟩ = some (.int .i64 xm) ∧ w'.cell? ⟨g, k * 9 + 7, none⟩ = some (.bool true) ∧ w'.cell? ⟨g, k * 9 + 8, none⟩ = some (.bool xs) ∧ w'.cell? ⟨g, i * 9, none⟩ = some (.int .i64 yt) ∧ w'.cell? ⟨g, i * 9 + 1, none⟩ = some (.int .i64 sb) ∧ w'.cell? ⟨g, i * 9 + 2, none⟩ = some (.string tb) ∧ w'.cell? ⟨g, i * 9 + 3, none⟩ = some (.string lb') ∧ w'.cell? ⟨g, i * 9 + 4, none⟩ = some (.string ub) ∧ w'.cell? ⟨g, i * 9 + 5, none⟩ = some (.bool nb) ∧ w'.cell? ⟨g, i * 9 + 6, none⟩ = some (.int .i64 ym) ∧ w'.cell? ⟨g, i * 9 + 7, none⟩ = some (.bool yg) ∧ w'.cell? ⟨g, i * 9 + 8, none⟩ = some (.bool ys)) (first | exact keepKI HT hqk hqi (by assumption) | exact keepKI HT hqk hqi (Below.refl _ _).drew | exact keepKI HT hqk hqi (Below.refl _ _))
        ((go_at_call 53; refine (hag _).mono ?_; rintro e w' ⟨rfl, hb⟩; have hk' := keepF11 (by assumption) hb; clear hb))
      all_goals go_wp2
      all_goals
        go_ret
        exact ⟨rfl, by assumption⟩
    | false =>
      have e1 : blk L k i = (decide (k < i) && (ag ⟨xt, ⟨sa, ta, la, ua, na⟩, xm, false, xs⟩ ⟨yt, ⟨sb, tb, lb', ub, nb⟩, ym, yg, ys⟩ || ag ⟨yt, ⟨sb, tb, lb', ub, nb⟩, ym, yg, ys⟩ ⟨xt, ⟨sa, ta, la, ua, na⟩, xm, false, xs⟩) && !cvn (L.take i) ⟨yt, ⟨sb, tb, lb', ub, nb⟩, ym, yg, ys⟩) := by rw [hb0]; simp [hki]
      rw [e1]
      have hei := fun w => either_ref ⟨xt, ⟨sa, ta, la, ua, na⟩, xm, false, xs⟩ ⟨yt, ⟨sb, tb, lb', ub, nb⟩, ym, yg, ys⟩ w
      simp only [Rq.v] at hei q7
      generalize (ag ⟨xt, ⟨sa, ta, la, ua, na⟩, xm, false, xs⟩ ⟨yt, ⟨sb, tb, lb', ub, nb⟩, ym, yg, ys⟩ || ag ⟨yt, ⟨sb, tb, lb', ub, nb⟩, ym, yg, ys⟩ ⟨xt, ⟨sa, ta, la, ua, na⟩, xm, false, xs⟩) = z at *
      generalize cvn (L.take i) ⟨yt, ⟨sb, tb, lb', ub, nb⟩, ym, yg, ys⟩ = c at *
      clear hb0 e1
      by_cases hlt : k < i
      · have tlt : decide ((k : Int) < (i : Int)) = true := decide_eq_true (by omega)
        cases z <;> cases c
        all_goals (
          go_enter Tryd.func49, Tryd.ntmps49
          go_wp2_with fail
          go_region_held3 (fun w' => Below w.heap.size w w' ∧ w'.cell? ⟨t, 1, none⟩ = some (.slice (some ⟨g, 0, none⟩) L.length cap) ∧ w'.cell? ⟨g, k * 9, none⟩ = some (.int .i64 xt) ∧ w'.cell? ⟨g, k * 9 + 1, none⟩ = some (.int .i64 sa) ∧ w'.cell? ⟨g, k * 9 + 2, none⟩ = some (.string ta) ∧ w'.cell? ⟨g, k * 9 + 3, none⟩ = some (.string la) ∧ w'.cell? ⟨g, k * 9 + 4, none⟩ = some (.string ua) ∧ w'.cell? ⟨g, k * 9 + 5, none⟩ = some (.bool na) ∧ w'.cell? ⟨g, k * 9 + 6, none⟩ = some (.int .i64 xm) ∧ w'.cell? ⟨g, k * 9 + 7, none⟩ = some (.bool false) ∧ w'.cell? ⟨g, k * 9 + 8, none⟩ = some (.bool xs) ∧ w'.cell? ⟨g, i * 9, none⟩ = some (.int .i64 yt) ∧ w'.cell? ⟨g, i * 9 + 1, none⟩ = some (.int .i64 sb) ∧ w'.cell? ⟨g, i * 9 + 2, none⟩ = some (.string tb) ∧ w'.cell? ⟨g, i * 9 + 3, none⟩ = some (.string lb') ∧ w'.cell? ⟨g, i * 9 + 4, none⟩ = some (.string ub) ∧ w'.cell? ⟨g, i * 9 + 5, none⟩ = some (.bool nb) ∧ w'.cell? ⟨g, i * 9 + 6, none⟩ = some (.int .i64 ym) ∧ w'.cell? ⟨g, i * 9 + 7, none⟩ = some (.bool yg) ∧ w'.cell? ⟨g, i * 9 + 8, none⟩ = some (.bool ys)) (first | exact keepKI HT hqk hqi (by assumption) | exact keepKI HT hqk hqi (Below.refl _ _).drew | exact keepKI HT hqk hqi (Below.refl _ _))
            ((go_at_call 67; refine (hei _).mono ?_; rintro e w' ⟨rfl, hb⟩; have hk' := keepF11 (by assumption) hb; clear hb))
          all_goals (
            go_wp2_with (go_at_call 68; refine (hcv _ hk').mono ?_; rintro e w2 ⟨rfl, q, hw2⟩)
            subst hw2
            go_ret
            exact ⟨by simp [hlt], below_drewN hk' q⟩))
      · have tlt : decide ((k : Int) < (i : Int)) = false := decide_eq_false (by omega)
        go_enter Tryd.func49, Tryd.ntmps49
        go_wp2_with fail
        go_region_held3 (fun w' => Below w.heap.size w w' ∧ w'.cell? ⟨t, 1, none⟩ = some (.slice (some ⟨g, 0, none⟩) L.length cap) ∧ w'.cell? ⟨g, k * 9, none⟩ = some (.int .i64 xt) ∧ w'.cell? ⟨g, k * 9 + 1, none⟩ = some (.int .i64 sa) ∧ w'.cell? ⟨g, k * 9 + 2, none⟩ = some (.string ta) ∧ w'.cell? ⟨g, k * 9 + 3, none⟩ = some (.string la) ∧ w'.cell? ⟨g, k * 9 + 4, none⟩ = some (.string ua) ∧ w'.cell? ⟨g, k * 9 + 5, none⟩ = some (.bool na) ∧ w'.cell? ⟨g, k * 9 + 6, none⟩ = some (.int .i64 xm) ∧ w'.cell? ⟨g, k * 9 + 7, none⟩ = some (.bool false) ∧ w'.cell? ⟨g, k * 9 + 8, none⟩ = some (.bool xs) ∧ w'.cell? ⟨g, i * 9, none⟩ = some (.int .i64 yt) ∧ w'.cell? ⟨g, i * 9 + 1, none⟩ = some (.int .i64 sb) ∧ w'.cell? ⟨g, i * 9 + 2, none⟩ = some (.string tb) ∧ w'.cell? ⟨g, i * 9 + 3, none⟩ = some (.string lb') ∧ w'.cell? ⟨g, i * 9 + 4, none⟩ = some (.string ub) ∧ w'.cell? ⟨g, i * 9 + 5, none⟩ = some (.bool nb) ∧ w'.cell? ⟨g, i * 9 + 6, none⟩ = some (.int .i64 ym) ∧ w'.cell? ⟨g, i * 9 + 7, none⟩ = some (.bool yg) ∧ w'.cell? ⟨g, i * 9 + 8, none⟩ = some (.bool ys)) (first | exact keepKI HT hqk hqi (by assumption) | exact keepKI HT hqk hqi (Below.refl _ _).drew | exact keepKI HT hqk hqi (Below.refl _ _))
          ((go_at_call 67; refine (hei _).mono ?_; rintro e w' ⟨rfl, hb⟩; have hk' := keepF11 (by assumption) hb; clear hb))
        all_goals (
          go_wp2_with (go_at_call 68; refine (hcv _ hk').mono ?_; rintro e w2 ⟨rfl, q, hw2⟩)
          subst hw2
          go_ret
          exact ⟨by simp [hlt], below_drewN hk' q⟩)
set_option maxRecDepth 100000 in
set_option maxHeartbeats 4000000 in
theorem rmay_any {w : World} {t : Nat} {most : Int} {ao : Option Addr} {cap : Nat} {L : List Rq} (h : QTab w t most ao cap L) (hl : L.length ≤ 1000000) {i : Nat} (hi : i < L.length) :
    Calls Tryd.prog 38 #[.pointer (some ⟨t, 0, none⟩), .int .i64 i] w fun e w' => e = .returned (.bool ((List.range L.length).all fun k => !blk L k i)) ∧ Below w.heap.size w w' := by
  have HT : Hid (QTab w t most ao cap L) := h
  have hle := h.le
  clear h
  go_enter Tryd.func38, Tryd.ntmps38
  go_wp2_with fail
  go_loopw [5] (fun x wr => ∃ k : Nat, x = .int .i64 k ∧ k ≤ L.length ∧ Hid (∀ j, j < k → blk L j i = false) ∧ Hid (Below w.heap.size w wr)) (fun x _ => L.length - (intOf x).toNat)
  case atStart => exact ⟨0, rfl, Nat.zero_le _, fun j hj => by omega, Below.refl _ _⟩
  case round =>
    rename World => wr
    obtain ⟨k, rfl, hk, HN, HB⟩ := hrel
    have hT := HT.out.keep HB.out
    have c1 := hT.l
    by_cases hlt : k < L.length
    · have tk : decide ((k : Int) < (L.length : Int)) = true := decide_eq_true (by omega)
      have hbl := rblocks_any hT hl hlt hi
      clear hT
      cases hb : blk L k i with
      | true =>
        rw [hb] at hbl
        have HF : Hid (((List.range L.length).all fun k => !blk L k i) = false) := by
          show _ = _
          rw [List.all_eq_false]
          exact ⟨k, by rw [List.mem_range]; exact hlt, by simp [hb]⟩
        clear HN hb
        go_wp2_with fail
        refine hbl.mono ?_
        clear hbl
        rintro e w2 ⟨rfl, hb2⟩
        go_wp2_with fail
        go_ret
        exact ⟨by rw [HF.out]; rfl, keepA HB.out hb2⟩
      | false =>
        rw [hb] at hbl
        have HS : Hid (∀ j, j < k + 1 → blk L j i = false) := fun j hj => by
          by_cases e : j = k
          · subst e; exact hb
          · exact HN.out j (by omega)
        clear HN hb
        go_wp2_with fail
        refine hbl.mono ?_
        clear hbl
        rintro e w2 ⟨rfl, hb2⟩
        go_wp2_with fail
        go_roundw
        case rel => exact ⟨k + 1, by go_num, by omega, HS, keepA HB.out hb2⟩
        case measure => simp [intOf]; omega
    · have tk : decide ((k : Int) < (L.length : Int)) = false := decide_eq_false (by omega)
      have HF : Hid (((List.range L.length).all fun k => !blk L k i) = true) := by
        show _ = _
        rw [List.all_eq_true]
        intro j hj
        rw [List.mem_range] at hj
        simp [HN.out j (by omega)]
      clear HN hT
      go_wp2_with fail
      go_ret
      exact ⟨by rw [HF.out]; rfl, HB.out⟩
end Go.Proofs.YtmldpbgdjlblmaaDoor

/- The document's table of locks: held, Has; may as the list's. -/
import Derived.Test.YtmldpbgdjlblmaaDoorL11D
import Derived.Test.YtmldpbgdjlblmaaDoorL11S
namespace Go.Proofs.YtmldpbgdjlblmaaDoor
open Go.RowKit Go.Joins
set_option linter.unusedVariables false
set_option linter.unusedSimpArgs false

theorem blk_not {L : List Rq} {k i : Nat} {r : Rq} (hr : L[i]? = some r) (h : blk L k i = true) : mayP (L.take i) r (L.drop (i + 1)) = false := by
  unfold blk at h
  split at h
  · rename_i g r' hg hr'
    rw [hr] at hr'
    cases hr'
    obtain ⟨hk, e⟩ := List.getElem?_eq_some_iff.1 hg
    simp only [Bool.and_eq_true, Bool.not_eq_true', decide_eq_false_iff_not] at h
    obtain ⟨hne, h2⟩ := h
    by_cases hlt : k < i
    · have hm : g ∈ L.take i := by rw [List.mem_take_iff_getElem]; exact ⟨k, by omega, e⟩
      split at h2
      · rename_i hgr
        have : gb (L.take i) r = true := by unfold gb; rw [List.any_eq_true]; exact ⟨g, hm, by simp [hgr, h2]⟩
        simp [mayP, this]
      · rename_i hgr
        simp only [Bool.and_eq_true, Bool.not_eq_true'] at h2
        have : wb (L.take i) r = true := by unfold wb; rw [List.any_eq_true]; exact ⟨g, hm, by simp only [Bool.not_eq_true] at hgr; simp [hgr]; simpa using h2.1.2⟩
        simp [mayP, this, h2.2]
    · split at h2
      · rename_i hgr
        have hm : g ∈ L.drop (i + 1) := by rw [List.mem_drop_iff_getElem]; exact ⟨k - (i + 1), by omega, by rw [← e]; congr 1; omega⟩
        have : gb (L.drop (i + 1)) r = true := by unfold gb; rw [List.any_eq_true]; exact ⟨g, hm, by simp [hgr, h2]⟩
        simp [mayP, this]
      · simp [hlt] at h2
  · cases h
theorem blk_like {L : List Rq} {i : Nat} {r : Rq} (hr : L[i]? = some r) (h : mayP (L.take i) r (L.drop (i + 1)) = false) : ∃ k, k < L.length ∧ blk L k i = true := by
  obtain ⟨hi, e⟩ := List.getElem?_eq_some_iff.1 hr
  have three : gb (L.take i) r = true ∨ gb (L.drop (i + 1)) r = true ∨ (cvn (L.take i) r = false ∧ wb (L.take i) r = true) := by
    unfold mayP at h
    cases h1 : gb (L.take i) r <;> cases h2 : gb (L.drop (i + 1)) r <;> cases h3 : cvn (L.take i) r <;> cases h4 : wb (L.take i) r <;> simp_all
  rcases three with h1 | h1 | ⟨h3, h1⟩
  · unfold gb at h1
    rw [List.any_eq_true] at h1
    obtain ⟨g, g1, g2⟩ := h1
    rw [List.mem_take_iff_getElem] at g1
    obtain ⟨k, hk, e1⟩ := g1
    refine ⟨k, by omega, ?_⟩
    simp only [Bool.and_eq_true] at g2
    simp only [blk, List.getElem?_eq_getElem (show k < L.length by omega), e1, hr, g2.1, g2.2]
    simp; omega
  · unfold gb at h1
    rw [List.any_eq_true] at h1
    obtain ⟨g, g1, g2⟩ := h1
    rw [List.mem_drop_iff_getElem] at g1
    obtain ⟨k, hk, e1⟩ := g1
    refine ⟨i + 1 + k, by omega, ?_⟩
    simp only [Bool.and_eq_true] at g2
    simp only [blk, List.getElem?_eq_getElem (show i + 1 + k < L.length by omega), e1, hr, g2.1, g2.2]
    simp; omega
  · unfold wb at h1
    rw [List.any_eq_true] at h1
    obtain ⟨g, g1, g2⟩ := h1
    rw [List.mem_take_iff_getElem] at g1
    obtain ⟨k, hk, e1⟩ := g1
    refine ⟨k, by omega, ?_⟩
    simp only [Bool.and_eq_true, Bool.not_eq_true'] at g2
    simp only [blk, List.getElem?_eq_getElem (show k < L.length by omega), e1, hr, g2.1, g2.2, h3]
    simp; omega
theorem may_all {L : List Rq} {i : Nat} {r : Rq} (hr : L[i]? = some r) : ((List.range L.length).all fun k => !blk L k i) = mayP (L.take i) r (L.drop (i + 1)) := by
  cases h : mayP (L.take i) r (L.drop (i + 1)) with
  | false =>
    obtain ⟨k, hk, hb⟩ := blk_like hr h
    rw [List.all_eq_false]
    exact ⟨k, by rw [List.mem_range]; exact hk, by simp [hb]⟩
  | true =>
    rw [List.all_eq_true]
    intro k _
    cases hb : blk L k i with
    | false => rfl
    | true => rw [blk_not hr hb] at h; cases h
set_option maxHeartbeats 4000000 in
theorem held_w {xt sa sb xm tx m : Int} {ta la ua tb lb' ub : ByteArray} {na nb xg xs : Bool} {p c : Bool} (w : World) (hp : wi ⟨sb, tb, lb', ub, nb⟩ ⟨sa, ta, la, ua, na⟩ = p) (hc : cv xm m = c) :
    Calls Tryd.prog 37 #[.agg #[.int .i64 xt, .int .i64 sa, .string ta, .string la, .string ua, .bool na, .int .i64 xm, .bool xg, .bool xs], .int .i64 tx, .agg #[.int .i64 sb, .string tb, .string lb', .string ub, .bool nb], .int .i64 m] w fun e w' => e = .returned (.bool (xg && decide (xt = tx) && p && c)) ∧ Below w.heap.size w w' := by
  have hwi := fun w => rwithin_is hp w
  simp only [Ob.v] at hwi
  have T0 : Below w.heap.size w ((w.alloc (Rq.box ⟨xt, ⟨sa, ta, la, ua, na⟩, xm, xg, xs⟩)).alloc (Ob.box ⟨sb, tb, lb', ub, nb⟩)) := ((Below.refl _ _).alloc (Nat.le_refl _) _).alloc (by simp) _
  have A0 : BoxQ ((w.alloc (Rq.box ⟨xt, ⟨sa, ta, la, ua, na⟩, xm, xg, xs⟩)).alloc (Ob.box ⟨sb, tb, lb', ub, nb⟩)) w.heap.size ⟨xt, ⟨sa, ta, la, ua, na⟩, xm, xg, xs⟩ := (BoxQ.new w ⟨xt, ⟨sa, ta, la, ua, na⟩, xm, xg, xs⟩).keep ((Below.refl _ _).alloc (Nat.le_refl _) _)
  go_enter Tryd.func37, Tryd.ntmps37
  go_wp2_with fail
  refine (hwi _).mono ?_
  rintro e w1 ⟨rfl, hb⟩
  have A1 := A0.keep hb
  have T1 := keepA T0 hb
  clear A0 T0 hb hwi
  obtain ⟨a0, a1, a2, a3, a4, a5, a6, a7, a8⟩ := A1
  simp only at a0 a6 a7
  go_wp2_with fail
  refine (cref_is hc _).mono ?_
  rintro e w2 ⟨rfl, hb⟩
  replace a0 := cell_keep hb a0
  replace a7 := cell_keep hb a7
  have T2 := keepA T1 hb
  clear a1 a2 a3 a4 a5 a6 a8 hb T1
  cases xg
  · go_wp2_with fail
    go_ret
    exact ⟨by simp, T2⟩
  · by_cases ht : xt = tx
    · subst ht
      cases p
      · go_wp2_with fail
        go_ret
        exact ⟨by simp, T2⟩
      · go_wp2_with fail
        go_ret
        exact ⟨by simp, T2⟩
    · have ht2 : (xt == tx) = false := by simpa using ht
      go_wp2_with fail
      go_ret
      exact ⟨by simp [ht], T2⟩
theorem held_ref (g : Rq) (tx : Int) (o : Ob) (m : Int) (w : World) :
    Calls Tryd.prog 37 #[g.v, .int .i64 tx, o.v, .int .i64 m] w fun e w' => e = .returned (.bool (heldB g tx o m)) ∧ Below w.heap.size w w' := by
  obtain ⟨xt, ⟨sa, ta, la, ua, na⟩, xm, xg, xs⟩ := g
  obtain ⟨sb, tb, lb', ub, nb⟩ := o
  exact held_w w rfl rfl
theorem keepKO {w w' W : World} {t g cap k : Nat} {most : Int} {L : List Rq} {xt sa sb xm : Int} {ta la ua tb lb' ub : ByteArray} {na nb xg xs : Bool} (h : QTab W t most (some ⟨g, 0, none⟩) cap L) (hx : RqAt W g k ⟨xt, ⟨sa, ta, la, ua, na⟩, xm, xg, xs⟩) (ho : BoxO W w.heap.size ⟨sb, tb, lb', ub, nb⟩) (hb : Below W.heap.size W w') : Below W.heap.size W w' ∧ w'.cell? ⟨t, 1, none⟩ = some (.slice (some ⟨g, 0, none⟩) L.length cap) ∧ w'.cell? ⟨g, k * 9, none⟩ = some (.int .i64 xt) ∧ w'.cell? ⟨g, k * 9 + 1, none⟩ = some (.int .i64 sa) ∧ w'.cell? ⟨g, k * 9 + 2, none⟩ = some (.string ta) ∧ w'.cell? ⟨g, k * 9 + 3, none⟩ = some (.string la) ∧ w'.cell? ⟨g, k * 9 + 4, none⟩ = some (.string ua) ∧ w'.cell? ⟨g, k * 9 + 5, none⟩ = some (.bool na) ∧ w'.cell? ⟨g, k * 9 + 6, none⟩ = some (.int .i64 xm) ∧ w'.cell? ⟨g, k * 9 + 7, none⟩ = some (.bool xg) ∧ w'.cell? ⟨g, k * 9 + 8, none⟩ = some (.bool xs) ∧ w'.cell? ⟨w.heap.size, 0, none⟩ = some (.int .i64 sb) ∧ w'.cell? ⟨w.heap.size, 1, none⟩ = some (.string tb) ∧ w'.cell? ⟨w.heap.size, 2, none⟩ = some (.string lb') ∧ w'.cell? ⟨w.heap.size, 3, none⟩ = some (.string ub) ∧ w'.cell? ⟨w.heap.size, 4, none⟩ = some (.bool nb) :=
  have X := hx.keep hb
  have Y := ho.keep hb
  ⟨hb, (h.keep hb).l, X.c0, X.c1, X.c2, X.c3, X.c4, X.c5, X.c6, X.c7, X.c8, Y.c0, Y.c1, Y.c2, Y.c3, Y.c4⟩
def hB (tx : Int) (o : Ob) (m : Int) (g : Rq) : Bool := heldB g tx o m
set_option maxRecDepth 100000 in
set_option maxHeartbeats 8000000 in
theorem rhas_any {w : World} {t : Nat} {most : Int} {ao : Option Addr} {cap : Nat} {L : List Rq} (h : QTab w t most ao cap L) (hl : L.length ≤ 1000000) (tx : Int) (o : Ob) (m : Int) :
    Calls Tryd.prog 26 #[.pointer (some ⟨t, 0, none⟩), .int .i64 tx, o.v, .int .i64 m] w fun e w' => e = .returned (.bool (hasB L tx o m)) ∧ Below w.heap.size w w' := by
  obtain ⟨sb, tb, lb', ub, nb⟩ := o
  have HT : Hid (QTab w t most ao cap L) := h
  have hle := h.le
  have hB0 : Below w.heap.size w (w.alloc (Ob.box ⟨sb, tb, lb', ub, nb⟩)) := (Below.refl _ _).alloc (Nat.le_refl _) _
  have HO : Hid (BoxO (w.alloc (Ob.box ⟨sb, tb, lb', ub, nb⟩)) w.heap.size ⟨sb, tb, lb', ub, nb⟩) := BoxO.new w ⟨sb, tb, lb', ub, nb⟩
  clear h
  go_enter Tryd.func26, Tryd.ntmps26
  go_wp2_with fail
  go_loopw [9] (fun x wr => ∃ k : Nat, x = .int .i64 k ∧ k ≤ L.length ∧ Hid (∀ j (hj : j < L.length), j < k → hB tx ⟨sb, tb, lb', ub, nb⟩ m L[j] = false) ∧ Hid (Below w.heap.size w wr) ∧ Hid (BoxO wr w.heap.size ⟨sb, tb, lb', ub, nb⟩)) (fun x _ => L.length - (intOf x).toNat)
  case atStart => exact ⟨0, rfl, Nat.zero_le _, fun j _ hj => by omega, hB0, HO⟩
  case round =>
    rename World => wr
    obtain ⟨k, rfl, hk, HN, HB, HBO⟩ := hrel
    clear HO hB0
    have hT := HT.out.keep HB.out
    have c1 := hT.l
    by_cases hlt : k < L.length
    · have tk : decide ((k : Int) < (L.length : Int)) = true := decide_eq_true (by omega)
      have hk2 : (k : Int) < (L.length : Int) := by omega
      obtain ⟨g, rfl, hq⟩ := hT.at_ hlt
      have hbo := HBO.out
      have HS : Hid (hB tx ⟨sb, tb, lb', ub, nb⟩ m L[k] = false → ∀ j (hj : j < L.length), j < k + 1 → hB tx ⟨sb, tb, lb', ub, nb⟩ m L[j] = false) := fun h => miss_succ (p := hB tx ⟨sb, tb, lb', ub, nb⟩ m) hlt HN.out h
      have HF : Hid (hB tx ⟨sb, tb, lb', ub, nb⟩ m L[k] = true → hasB L tx ⟨sb, tb, lb', ub, nb⟩ m = true) := fun h => any_hit (p := hB tx ⟨sb, tb, lb', ub, nb⟩ m) hlt h
      have hh := fun w => held_ref L[k] tx ⟨sb, tb, lb', ub, nb⟩ m w
      have e0 : hB tx ⟨sb, tb, lb', ub, nb⟩ m L[k] = heldB L[k] tx ⟨sb, tb, lb', ub, nb⟩ m := rfl
      generalize hB tx ⟨sb, tb, lb', ub, nb⟩ m L[k] = z at *
      rw [← e0] at hh
      clear HN e0
      generalize L[k] = x at *
      obtain ⟨xt, ⟨sa, ta, la, ua, na⟩, xm, xg, xs⟩ := x
      simp only [Rq.v, Ob.v] at hh
      cases z with
      | true =>
        have HF2 : Hid (hasB L tx ⟨sb, tb, lb', ub, nb⟩ m = true) := HF.out rfl
        clear HF HS
        go_wp2_with fail
        go_region_held3 (fun w' => Below wr.heap.size wr w' ∧ w'.cell? ⟨t, 1, none⟩ = some (.slice (some ⟨g, 0, none⟩) L.length cap) ∧ w'.cell? ⟨g, k * 9, none⟩ = some (.int .i64 xt) ∧ w'.cell? ⟨g, k * 9 + 1, none⟩ = some (.int .i64 sa) ∧ w'.cell? ⟨g, k * 9 + 2, none⟩ = some (.string ta) ∧ w'.cell? ⟨g, k * 9 + 3, none⟩ = some (.string la) ∧ w'.cell? ⟨g, k * 9 + 4, none⟩ = some (.string ua) ∧ w'.cell? ⟨g, k * 9 + 5, none⟩ = some (.bool na) ∧ w'.cell? ⟨g, k * 9 + 6, none⟩ = some (.int .i64 xm) ∧ w'.cell? ⟨g, k * 9 + 7, none⟩ = some (.bool xg) ∧ w'.cell? ⟨g, k * 9 + 8, none⟩ = some (.bool xs) ∧ w'.cell? ⟨w.heap.size, 0, none⟩ = some (.int .i64 sb) ∧ w'.cell? ⟨w.heap.size, 1, none⟩ = some (.string tb) ∧ w'.cell? ⟨w.heap.size, 2, none⟩ = some (.string lb') ∧ w'.cell? ⟨w.heap.size, 3, none⟩ = some (.string ub) ∧ w'.cell? ⟨w.heap.size, 4, none⟩ = some (.bool nb)) (first | exact keepKO hT hq hbo (by assumption) | exact keepKO hT hq hbo (Below.refl _ _).drew | exact keepKO hT hq hbo (Below.refl _ _))
          ((go_at_call 37; refine (hh _).mono ?_; rintro e w' ⟨rfl, hb⟩; have hk' := keepF11 (by assumption) hb; clear hb))
        all_goals go_wp2
        all_goals
          go_ret
          exact ⟨by rw [HF2.out]; rfl, keepA HB.out (by assumption)⟩
      | false =>
        have HS2 := HS.out rfl
        have HS3 : Hid (∀ j (hj : j < L.length), j < k + 1 → hB tx ⟨sb, tb, lb', ub, nb⟩ m L[j] = false) := HS2
        clear HF HS HS2
        go_wp2_with fail
        go_region_held3 (fun w' => Below wr.heap.size wr w' ∧ w'.cell? ⟨t, 1, none⟩ = some (.slice (some ⟨g, 0, none⟩) L.length cap) ∧ w'.cell? ⟨g, k * 9, none⟩ = some (.int .i64 xt) ∧ w'.cell? ⟨g, k * 9 + 1, none⟩ = some (.int .i64 sa) ∧ w'.cell? ⟨g, k * 9 + 2, none⟩ = some (.string ta) ∧ w'.cell? ⟨g, k * 9 + 3, none⟩ = some (.string la) ∧ w'.cell? ⟨g, k * 9 + 4, none⟩ = some (.string ua) ∧ w'.cell? ⟨g, k * 9 + 5, none⟩ = some (.bool na) ∧ w'.cell? ⟨g, k * 9 + 6, none⟩ = some (.int .i64 xm) ∧ w'.cell? ⟨g, k * 9 + 7, none⟩ = some (.bool xg) ∧ w'.cell? ⟨g, k * 9 + 8, none⟩ = some (.bool xs) ∧ w'.cell? ⟨w.heap.size, 0, none⟩ = some (.int .i64 sb) ∧ w'.cell? ⟨w.heap.size, 1, none⟩ = some (.string tb) ∧ w'.cell? ⟨w.heap.size, 2, none⟩ = some (.string lb') ∧ w'.cell? ⟨w.heap.size, 3, none⟩ = some (.string ub) ∧ w'.cell? ⟨w.heap.size, 4, none⟩ = some (.bool nb)) (first | exact keepKO hT hq hbo (by assumption) | exact keepKO hT hq hbo (Below.refl _ _).drew | exact keepKO hT hq hbo (Below.refl _ _))
          ((go_at_call 37; refine (hh _).mono ?_; rintro e w' ⟨rfl, hb⟩; have hk' := keepF11 (by assumption) hb; clear hb))
        all_goals go_wp2
        all_goals
          go_roundw
          case rel => exact ⟨k + 1, by go_num, by omega, HS3, keepA HB.out (by assumption), hbo.keep (by assumption)⟩
          case measure => simp [intOf]; omega
    · have tk : decide ((k : Int) < (L.length : Int)) = false := decide_eq_false (by omega)
      have HF : Hid (hasB L tx ⟨sb, tb, lb', ub, nb⟩ m = false) := any_miss (p := hB tx ⟨sb, tb, lb', ub, nb⟩ m) (fun j hj => HN.out j hj (by omega))
      clear HN hT
      go_wp2_with fail
      go_ret
      exact ⟨by rw [HF.out]; rfl, HB.out⟩
end Go.Proofs.YtmldpbgdjlblmaaDoor

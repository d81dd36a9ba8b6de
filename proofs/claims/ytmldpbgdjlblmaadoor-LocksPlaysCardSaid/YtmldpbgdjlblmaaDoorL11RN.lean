/- The document's Ask: what is refused. The document's Ask: beyond most. The document's Ask: where the transaction has the lock already. The document's Ask: a new request. -/
import Derived.Test.YtmldpbgdjlblmaaDoorL11L
import Derived.Test.YtmldpbgdjlblmaaDoorL11KP
import Derived.Lib.QuietBelow
import Derived.Test.YtmldpbgdjlblmaaDoorL11AL
/- The document's Ask: what is refused. -/
namespace Go.Proofs.YtmldpbgdjlblmaaDoor
open Go.RowKit Go.Joins
set_option linter.unusedVariables false
set_option linter.unusedSimpArgs false

set_option maxRecDepth 100000 in
set_option maxHeartbeats 8000000 in
theorem rask_form {w : World} {t : Nat} {most : Int} {ao : Option Addr} {cap : Nat} {L : List Rq} (h : QTab w t most ao cap L) (hl : L.length ≤ 1000000) (tx : Int) (o : Ob) (m : Int) (s : Bool) (hbad : (decide (tx < 1) || !pl o || decide (m < 1) || decide (m > 6) || waitsB L tx) = true) :
    Calls Tryd.prog 12 #[.pointer (some ⟨t, 0, none⟩), .int .i64 tx, o.v, .int .i64 m, .bool s] w fun e w' => e = .returned (.tuple #[.bool false, .int .i64 114]) ∧ Below w.heap.size w w' := by
  have hpl := fun w => rplace_any o w
  obtain ⟨sb, tb, lb', ub, nb⟩ := o
  have hB0 : Below w.heap.size w (w.alloc (Ob.box ⟨sb, tb, lb', ub, nb⟩)) := (Below.refl _ _).alloc (Nat.le_refl _) _
  have HO : Hid (BoxO (w.alloc (Ob.box ⟨sb, tb, lb', ub, nb⟩)) w.heap.size ⟨sb, tb, lb', ub, nb⟩) := BoxO.new w ⟨sb, tb, lb', ub, nb⟩
  simp only [Ob.v] at hpl ⊢
  generalize pl ⟨sb, tb, lb', ub, nb⟩ = p at *
  go_enter Tryd.func12, Tryd.ntmps12
  go_wp2_with fail
  refine (hpl _).mono ?_
  clear hpl
  rintro e w1 ⟨rfl, hb1⟩
  have HB1 : Hid (Below w.heap.size w w1) := keepA hB0 hb1
  have hwt := rwaits_any (h.keep HB1.out) hl tx
  clear hb1 HO hB0 h
  generalize waitsB L tx = wt at *
  go_wp2_with fail
  refine hwt.mono ?_
  clear hwt
  rintro e w2 ⟨rfl, rfl⟩
  by_cases h1 : tx < 1
  · have d1 : decide (tx < 1) = true := decide_eq_true h1
    go_wp2_with fail
    exact bodyPost_ret (v := .tuple #[.bool false, .int .i64 114]) (by simp [results, Tryd.results12, go_sem]) rfl ⟨rfl, HB1.out⟩
  · have d1 : decide (tx < 1) = false := decide_eq_false h1
    cases p with
    | false =>
      go_wp2_with fail
      exact bodyPost_ret (v := .tuple #[.bool false, .int .i64 114]) (by simp [results, Tryd.results12, go_sem]) rfl ⟨rfl, HB1.out⟩
    | true =>
      by_cases h2 : m < 1
      · have d2 : decide (m < 1) = true := decide_eq_true h2
        go_wp2_with fail
        exact bodyPost_ret (v := .tuple #[.bool false, .int .i64 114]) (by simp [results, Tryd.results12, go_sem]) rfl ⟨rfl, HB1.out⟩
      · have d2 : decide (m < 1) = false := decide_eq_false h2
        by_cases h3 : m > 6
        · have d3 : decide (m > 6) = true := decide_eq_true h3
          have d3' : decide (6 < m) = true := d3
          go_wp2_with fail
          exact bodyPost_ret (v := .tuple #[.bool false, .int .i64 114]) (by simp [results, Tryd.results12, go_sem]) rfl ⟨rfl, HB1.out⟩
        · have d3 : decide (m > 6) = false := decide_eq_false h3
          have d3' : decide (6 < m) = false := d3
          have hw : wt = true := by simpa [d1, d2, d3] using hbad
          subst hw
          go_wp2_with fail
          exact bodyPost_ret (v := .tuple #[.bool false, .int .i64 114]) (by simp [results, Tryd.results12, go_sem]) rfl ⟨rfl, HB1.out⟩
end Go.Proofs.YtmldpbgdjlblmaaDoor

/- The document's Ask: beyond most. -/
namespace Go.Proofs.YtmldpbgdjlblmaaDoor
open Go.RowKit Go.Joins
set_option linter.unusedVariables false
set_option linter.unusedSimpArgs false

set_option maxRecDepth 100000 in
set_option maxHeartbeats 8000000 in
theorem rask_full {w : World} {t : Nat} {most : Int} {ao : Option Addr} {cap : Nat} {L : List Rq} (h : QTab w t most ao cap L) (hl : L.length ≤ 1000000) (tx : Int) (o : Ob) (m : Int) (s : Bool) (h1 : ¬ tx < 1) (hp : pl o = true) (h2 : ¬ m < 1) (h3 : ¬ m > 6) (hw : waitsB L tx = false) (hh : hasB L tx o m = false) (hf : most ≤ (L.length : Int)) :
    Calls Tryd.prog 12 #[.pointer (some ⟨t, 0, none⟩), .int .i64 tx, o.v, .int .i64 m, .bool s] w fun e w' => e = .returned (.tuple #[.bool false, .int .i64 112]) ∧ Below w.heap.size w w' := by
  have hpl := fun w => rplace_any o w
  rw [hp] at hpl
  have hhs := fun w' (hb : Below w.heap.size w w') => rhas_any (h.keep hb) hl tx o m
  rw [hh] at hhs
  obtain ⟨sb, tb, lb', ub, nb⟩ := o
  have hB0 : Below w.heap.size w (w.alloc (Ob.box ⟨sb, tb, lb', ub, nb⟩)) := (Below.refl _ _).alloc (Nat.le_refl _) _
  have hO : BoxO (w.alloc (Ob.box ⟨sb, tb, lb', ub, nb⟩)) w.heap.size ⟨sb, tb, lb', ub, nb⟩ := BoxO.new w ⟨sb, tb, lb', ub, nb⟩
  have HO : Hid (BoxO (w.alloc (Ob.box ⟨sb, tb, lb', ub, nb⟩)) w.heap.size ⟨sb, tb, lb', ub, nb⟩) := hO
  have d1 : decide (tx < 1) = false := decide_eq_false h1
  have d2 : decide (m < 1) = false := decide_eq_false h2
  have d3 : decide (m > 6) = false := decide_eq_false h3
  have d3' : decide (6 < m) = false := d3
  have d4 : decide ((L.length : Int) ≥ most) = true := decide_eq_true hf
  have d4' : decide (most ≤ (L.length : Int)) = true := d4
  have HT : Hid (QTab w t most ao cap L) := h
  simp only [Ob.v] at hpl hhs ⊢
  clear hO hp hh h
  go_enter Tryd.func12, Tryd.ntmps12
  go_wp2_with fail
  refine (hpl _).mono ?_
  clear hpl
  rintro e w1 ⟨rfl, hb1⟩
  have HB1 : Hid (Below w.heap.size w w1) := keepA hB0 hb1
  obtain ⟨b0, b1, b2, b3, b4⟩ := HO.out.keep hb1
  simp only at b0 b1 b2 b3 b4
  have hwt := rwaits_any (HT.out.keep HB1.out) hl tx
  rw [hw] at hwt
  clear hb1 HO hB0
  go_wp2_with fail
  refine hwt.mono ?_
  clear hwt
  rintro e w2 ⟨rfl, rfl⟩
  go_wp2_with fail
  refine (hhs _ HB1.out).mono ?_
  clear hhs
  rintro e w3 ⟨rfl, hb3⟩
  have HB3 : Hid (Below w.heap.size w w3) := keepA HB1.out hb3
  have c0 := (HT.out.keep HB3.out).m
  have c1 := (HT.out.keep HB3.out).l
  have hle := HT.out.le
  clear hb3 HB1 b0 b1 b2 b3 b4
  go_wp2_with fail
  go_quiet (fail)
  go_wp2
  exact bodyPost_ret (v := .tuple #[.bool false, .int .i64 112]) (by simp [results, Tryd.results12, go_sem]) rfl ⟨rfl, below_drewN HB3.out _⟩
end Go.Proofs.YtmldpbgdjlblmaaDoor

/- The document's Ask: where the transaction has the lock already. -/
namespace Go.Proofs.YtmldpbgdjlblmaaDoor
open Go.RowKit Go.Joins Go.Sort
set_option linter.unusedVariables false
set_option linter.unusedSimpArgs false

theorem QOwn.sh {base : Nat} {w : World} {t : Nat} {most : Int} {g n cap : Nat} {L : List Rq} (h : QOwn base w t most (.slice (some ⟨g, 0, none⟩) n cap) L) {i : Nat} (hi : i < L.length) : QOwn base (w.setCell ⟨g, i * 9 + 8, none⟩ (.bool false)) t most (.slice (some ⟨g, 0, none⟩) n cap) (L.modify i sset) := by
  obtain ⟨h1, h2, h3, h4⟩ := h
  have hn := Row.len h2
  subst hn
  have hs := (World.ownsRow.stored h2 (i * 9 + 8) (.bool false)).1
  rw [flat_set8 L i hi] at hs
  have hf := fr_set w g (i * 9 + 8) (.bool false)
  refine ⟨(hf.block t (Array.getElem?_eq_some_iff.1 h1).1 (fun e => h3 (by rw [e]; rfl))).trans h1, ?_, h3, h4⟩
  show World.ownsRow _ _ _ _ _ _ _
  rw [List.length_modify]
  exact hs
/-- The first i are as they will be. -/
def UN (L : List Rq) (tx : Int) (o : Ob) (m : Int) (s : Bool) (i : Nat) : List Rq := (L.take i).map (unshort tx o m s) ++ L.drop i
theorem UN_len (L : List Rq) (tx : Int) (o : Ob) (m : Int) (s : Bool) (i : Nat) : (UN L tx o m s i).length = L.length := by
  simp [UN]; omega
theorem UN_zero (L : List Rq) (tx : Int) (o : Ob) (m : Int) (s : Bool) : UN L tx o m s 0 = L := by simp [UN]
theorem UN_all (L : List Rq) (tx : Int) (o : Ob) (m : Int) (s : Bool) : UN L tx o m s L.length = L.map (unshort tx o m s) := by simp [UN]
theorem UN_form {L : List Rq} {i : Nat} (hi : i < L.length) (tx : Int) (o : Ob) (m : Int) (s : Bool) : UN L tx o m s i = (L.take i).map (unshort tx o m s) ++ L[i] :: L.drop (i + 1) ∧ UN L tx o m s (i + 1) = (L.take i).map (unshort tx o m s) ++ unshort tx o m s L[i] :: L.drop (i + 1) := by
  constructor
  · unfold UN
    rw [List.drop_eq_getElem_cons hi]
  · unfold UN
    rw [List.take_succ_eq_append_getElem hi, List.map_append, List.append_assoc]
    rfl
theorem UN_at {L : List Rq} {i : Nat} (hi : i < L.length) (tx : Int) (o : Ob) (m : Int) (s : Bool) : (UN L tx o m s i)[i]'(by rw [UN_len]; exact hi) = L[i] := by
  have h : (UN L tx o m s i)[i]? = some L[i] := by
    rw [(UN_form hi tx o m s).1, List.getElem?_append_right (by simp; omega), List.length_map, List.length_take, Nat.min_eq_left (by omega), Nat.sub_self]
    rfl
  exact (List.getElem?_eq_some_iff.1 h).2
theorem UN_no {L : List Rq} {i : Nat} (hi : i < L.length) {tx : Int} {o : Ob} {m : Int} {s : Bool} (h : unshort tx o m s L[i] = L[i]) : UN L tx o m s (i + 1) = UN L tx o m s i := by
  rw [(UN_form hi tx o m s).1, (UN_form hi tx o m s).2, h]
theorem modify_mid {A B : List Rq} {r : Rq} (f : Rq → Rq) : (A ++ r :: B).modify A.length f = A ++ f r :: B := by
  induction A with
  | nil => rfl
  | cons a l ih =>
    show a :: (l ++ r :: B).modify l.length f = _
    rw [ih]
    rfl
theorem UN_yes {L : List Rq} {i : Nat} (hi : i < L.length) {tx : Int} {o : Ob} {m : Int} {s : Bool} (h : unshort tx o m s L[i] = sset L[i]) : UN L tx o m s (i + 1) = (UN L tx o m s i).modify i sset := by
  rw [(UN_form hi tx o m s).1, (UN_form hi tx o m s).2, h]
  have hl : ((L.take i).map (unshort tx o m s)).length = i := by simp; omega
  have := modify_mid (A := (L.take i).map (unshort tx o m s)) (B := L.drop (i + 1)) (r := L[i]) sset
  rw [hl] at this
  exact this.symm
/-- Where the loop stands. -/
structure RhI (base : Nat) (w : World) (t : Nat) (most : Int) (lv : Value) (N : List Rq) (o : Ob) (W : World) : Prop where
  q : QOwn base W t most lv N
  fr : Fr w W (fun b => lv.ownBlock = some b)
  ob : BoxO W w.heap.size o
theorem RhI.keep {base : Nat} {w W W' : World} {t : Nat} {most : Int} {lv : Value} {N : List Rq} {o : Ob} (h : RhI base w t most lv N o W) (hb : Below W.heap.size W W') : RhI base w t most lv N o W' :=
  ⟨h.q.keepB hb, h.fr.trans (Fr.of_below (F := fun _ => False) hb) (fun _ e => e.elim), h.ob.keep hb⟩
theorem RhI.sh {base : Nat} {w W : World} {t : Nat} {most : Int} {g n cap : Nat} {N : List Rq} {o : Ob} (h : RhI base w t most (.slice (some ⟨g, 0, none⟩) n cap) N o W) (hg : g < w.heap.size) {i : Nat} (hi : i < N.length) : RhI base w t most (.slice (some ⟨g, 0, none⟩) n cap) (N.modify i sset) o (W.setCell ⟨g, i * 9 + 8, none⟩ (.bool false)) := by
  have hf := fr_set W g (i * 9 + 8) (.bool false)
  have hb := World.block_lt_of_cell? W _ h.ob.c0
  refine ⟨h.q.sh hi, h.fr.trans hf (fun k e => Or.inl (by rw [e]; rfl)), ?_⟩
  have hk : ∀ (k : Nat) (v : Value), W.cell? ⟨w.heap.size, k, none⟩ = some v → (W.setCell ⟨g, i * 9 + 8, none⟩ (.bool false)).cell? ⟨w.heap.size, k, none⟩ = some v := fun k v hc => fr_cell hf (by omega) hc
  exact ⟨hk _ _ h.ob.c0, hk _ _ h.ob.c1, hk _ _ h.ob.c2, hk _ _ h.ob.c3, hk _ _ h.ob.c4⟩
set_option maxRecDepth 100000 in
set_option maxHeartbeats 8000000 in
theorem rask_has {base : Nat} {w : World} {t : Nat} {most : Int} {lv : Value} {L : List Rq} (h : QOwn base w t most lv L) (hl : L.length ≤ 1000000) (tx : Int) (o : Ob) (m : Int) (s : Bool) (h1 : ¬ tx < 1) (hp : pl o = true) (h2 : ¬ m < 1) (h3 : ¬ m > 6) (hw : waitsB L tx = false) (hh : hasB L tx o m = true) :
    Calls Tryd.prog 12 #[.pointer (some ⟨t, 0, none⟩), .int .i64 tx, o.v, .int .i64 m, .bool s] w fun e w' => e = .returned (.tuple #[.bool true, .int .i64 0]) ∧ QOwn base w' t most lv (L.map (unshort tx o m s)) ∧ Fr w w' (fun b => lv.ownBlock = some b) := by
  have hpl := fun w => rplace_any o w
  rw [hp] at hpl
  obtain ⟨ao, cap, rfl, hQ⟩ := h.tab
  have hhs := fun w' (hb : Below w.heap.size w w') => rhas_any (hQ.keep hb) hl tx o m
  rw [hh] at hhs
  obtain ⟨sb, tb, lb', ub, nb⟩ := o
  have hB0 : Below w.heap.size w (w.alloc (Ob.box ⟨sb, tb, lb', ub, nb⟩)) := (Below.refl _ _).alloc (Nat.le_refl _) _
  have hO : BoxO (w.alloc (Ob.box ⟨sb, tb, lb', ub, nb⟩)) w.heap.size ⟨sb, tb, lb', ub, nb⟩ := BoxO.new w ⟨sb, tb, lb', ub, nb⟩
  have HO : Hid (BoxO (w.alloc (Ob.box ⟨sb, tb, lb', ub, nb⟩)) w.heap.size ⟨sb, tb, lb', ub, nb⟩) := hO
  have d1 : decide (tx < 1) = false := decide_eq_false h1
  have d2 : decide (m < 1) = false := decide_eq_false h2
  have d3 : decide (m > 6) = false := decide_eq_false h3
  have d3' : decide (6 < m) = false := d3
  have HT : Hid (QTab w t most ao cap L) := hQ
  have HQ : Hid (QOwn base w t most (.slice ao L.length cap) L) := h
  have hrowlt : ∀ c, (Value.slice ao L.length cap).ownBlock = some c → c < w.heap.size := fun c hc => (h.row.lo c hc).2
  have HRL := Hid.mk' hrowlt
  have htw : t < w.heap.size := (Array.getElem?_eq_some_iff.1 h.tb).1
  simp only [Ob.v] at hpl hhs ⊢
  clear hO hp hh h hQ hrowlt
  go_enter Tryd.func12, Tryd.ntmps12
  go_wp2_with fail
  refine (hpl _).mono ?_
  clear hpl
  rintro e w1 ⟨rfl, hb1⟩
  have HB1 : Hid (Below w.heap.size w w1) := keepA hB0 hb1
  have HO1 := Hid.mk' (HO.out.keep hb1)
  obtain ⟨b0, b1, b2, b3, b4⟩ := HO.out.keep hb1
  simp only at b0 b1 b2 b3 b4
  have hwt := rwaits_any (HT.out.keep HB1.out) hl tx
  rw [hw] at hwt
  clear hb1 HO hB0
  go_wp2_with fail
  refine hwt.mono ?_
  clear hwt
  rintro e w2 ⟨rfl, rfl⟩
  go_wp2_with fail
  refine (hhs _ HB1.out).mono ?_
  clear hhs
  rintro e w3 ⟨rfl, hb3⟩
  have HR : Hid (RhI base w t most (.slice ao L.length cap) (UN L tx ⟨sb, tb, lb', ub, nb⟩ m s 0) ⟨sb, tb, lb', ub, nb⟩ w3) := by
    have := keepA HB1.out hb3
    show RhI base w t most (.slice ao L.length cap) (UN L tx ⟨sb, tb, lb', ub, nb⟩ m s 0) ⟨sb, tb, lb', ub, nb⟩ w3
    rw [UN_zero]
    exact ⟨HQ.out.keepB this, Fr.of_below this, HO1.out.keep hb3⟩
  clear hb3 HB1 HO1 HQ HT b0 b1 b2 b3 b4
  go_wp2_with fail
  go_loopw [15] (fun x wr => ∃ i : Nat, x = .int .i64 i ∧ i ≤ L.length ∧ Hid (RhI base w t most (.slice ao L.length cap) (UN L tx ⟨sb, tb, lb', ub, nb⟩ m s i) ⟨sb, tb, lb', ub, nb⟩ wr)) (fun x _ => L.length - (intOf x).toNat)
  case atStart => exact ⟨0, rfl, by omega, HR⟩
  case round =>
    rename World => wr
    obtain ⟨i, rfl, hi, HS⟩ := hrel
    clear HR
    obtain ⟨ao2, cap2, hlv2, hQ2⟩ := HS.out.q.tab
    rw [UN_len] at hlv2
    simp only [Value.slice.injEq, true_and] at hlv2
    obtain ⟨rfl, rfl⟩ := hlv2
    have c1 := hQ2.l
    rw [UN_len] at c1
    have hle2 := hQ2.le
    rw [UN_len] at hle2
    by_cases hil : i < L.length
    · have ti : (i : Int) < (L.length : Int) := by omega
      obtain ⟨g, rfl, hq⟩ := hQ2.at_ (show i < (UN L tx ⟨sb, tb, lb', ub, nb⟩ m s i).length by rw [UN_len]; exact hil)
      rw [UN_at hil] at hq
      have HUN := Hid.mk' (fun (hu : unshort tx ⟨sb, tb, lb', ub, nb⟩ m s L[i] = L[i]) => UN_no hil hu)
      have HUY := Hid.mk' (fun (hu : unshort tx ⟨sb, tb, lb', ub, nb⟩ m s L[i] = sset L[i]) => UN_yes hil hu)
      have hheld := fun W' => held_ref L[i] tx ⟨sb, tb, lb', ub, nb⟩ m W'
      have HQR := Hid.mk' hq
      have hgl : g < w.heap.size := HRL.out g rfl
      obtain ⟨q0, q1, q2, q3, q4, q5, q6, q7, q8⟩ := hq
      obtain ⟨b0, b1, b2, b3, b4⟩ := HS.out.ob
      have hfz := fun (W' : World) (hW : RhI base w t most (.slice (some ⟨g, 0, none⟩) L.length cap) (UN L tx ⟨sb, tb, lb', ub, nb⟩ m s i) ⟨sb, tb, lb', ub, nb⟩ W') => Row.frozen hW.q.row (i * 9 + 8)
      have HFZ := Hid.mk' hfz
      have hsh := fun (W' : World) (hW : RhI base w t most (.slice (some ⟨g, 0, none⟩) L.length cap) (UN L tx ⟨sb, tb, lb', ub, nb⟩ m s i) ⟨sb, tb, lb', ub, nb⟩ W') => hW.sh hgl (i := i) (by rw [UN_len]; exact hil)
      have HSH := Hid.mk' hsh
      clear hfz hsh
      generalize UN L tx ⟨sb, tb, lb', ub, nb⟩ m s i = N0 at *
      generalize hN1 : UN L tx ⟨sb, tb, lb', ub, nb⟩ m s (i + 1) = N1 at *
      have HU := Hid.mk' (show unshort tx ⟨sb, tb, lb', ub, nb⟩ m s L[i] = if heldB L[i] tx ⟨sb, tb, lb', ub, nb⟩ m && !s && oe L[i].ob ⟨sb, tb, lb', ub, nb⟩ && decide (L[i].md = m) then sset L[i] else L[i] from rfl)
      have y0 := fun (d : Nat) (os : Array Obj) => cell_regrown q0 d os
      have y1 := fun (d : Nat) (os : Array Obj) => cell_regrown q1 d os
      have y2 := fun (d : Nat) (os : Array Obj) => cell_regrown q2 d os
      have y3 := fun (d : Nat) (os : Array Obj) => cell_regrown q3 d os
      have y4 := fun (d : Nat) (os : Array Obj) => cell_regrown q4 d os
      have y5 := fun (d : Nat) (os : Array Obj) => cell_regrown q5 d os
      have y6 := fun (d : Nat) (os : Array Obj) => cell_regrown q6 d os
      have y7 := fun (d : Nat) (os : Array Obj) => cell_regrown q7 d os
      have y8 := fun (d : Nat) (os : Array Obj) => cell_regrown q8 d os
      have z0 := fun (d : Nat) (os : Array Obj) => cell_regrown b0 d os
      have z1 := fun (d : Nat) (os : Array Obj) => cell_regrown b1 d os
      have z2 := fun (d : Nat) (os : Array Obj) => cell_regrown b2 d os
      have z3 := fun (d : Nat) (os : Array Obj) => cell_regrown b3 d os
      have z4 := fun (d : Nat) (os : Array Obj) => cell_regrown b4 d os
      have zc := fun (d : Nat) (os : Array Obj) => cell_regrown c1 d os
      simp only at z0 z1 z2 z3 z4
      generalize heldB L[i] tx ⟨sb, tb, lb', ub, nb⟩ m = hb at *
      generalize hri : L[i] = r at *
      clear hri hQ2 q0 q1 q2 q3 q4 q5 q6 q7 q8 b0 b1 b2 b3 b4
      obtain ⟨xt, ⟨sa, ta, la, ua, na⟩, xm, xg, xs⟩ := r
      simp only [Rq.v, Ob.v] at hheld y0 y1 y2 y3 y4 y5 y6 y7 y8
      have c1w := c1
      go_wp2_with fail
      refine wp_region_quiet_below (by kernel_rfl) (by kernel_rfl) ?_
      repeat (go_big_quiet_step (with_reducible exact Calls.regrown_of (hheld _)))
      refine wpQuiet_nil ?_
      intro _ hw'
      obtain ⟨⟨dq, osq⟩, hw''⟩ := hw'
      subst hw''
      have HZ := Hid.mk' (HS.out.keep (below_regrown wr dq osq))
      have hQz := HQR.out.keep (below_regrown wr dq osq)
      obtain ⟨q0, q1, q2, q3, q4, q5, q6, q7, q8⟩ := hQz
      obtain ⟨b0, b1, b2, b3, b4⟩ := HZ.out.ob
      have c2 := zc dq osq
      simp only at q0 q1 q2 q3 q4 q5 q6 q7 q8 b0 b1 b2 b3 b4
      clear hheld y0 y1 y2 y3 y4 y5 y6 y7 y8 z0 z1 z2 z3 z4 zc c1 c1w HS HQR
      generalize grow (redrawn wr dq) osq = wz at *
      have HNO : Hid ((hb && !s && oe ⟨sa, ta, la, ua, na⟩ ⟨sb, tb, lb', ub, nb⟩ && decide (xm = m)) = false → N1 = N0) := fun e => HUN.out (by rw [HU.out]; rw [if_neg]; intro e'; rw [e] at e'; cases e')
      have HYE : Hid ((hb && !s && oe ⟨sa, ta, la, ua, na⟩ ⟨sb, tb, lb', ub, nb⟩ && decide (xm = m)) = true → N1 = N0.modify i sset) := fun e => HUY.out (by rw [HU.out]; exact if_pos e)
      have HN1 := Hid.mk' hN1
      clear hN1 HUN HUY HU
      cases hb with
      | false =>
        have HN0 := HNO.out (by simp)
        clear q0 q1 q2 q3 q4 q5 q6 q7 q8 b0 b1 b2 b3 b4 c2 HSH HFZ
        go_wp2_with fail
        go_quiet (fail)
        rename Nat => nq
        have HN := Hid.mk' (HZ.out.keep (below_drewN (Below.refl _ _) nq))
        rw [← HN0] at HN
        clear HN0
        go_wp2
        go_roundw
        case rel => exact ⟨i + 1, by go_num, by omega, by rw [HN1.out]; exact HN⟩
        case measure => simp [intOf]; omega
      | true =>
        cases s with
        | true =>
          have HN0 := HNO.out (by simp)
          clear q0 q1 q2 q3 q4 q5 q6 q7 q8 b0 b1 b2 b3 b4 c2 HSH HFZ
          go_wp2_with fail
          go_quiet (fail)
          rename Nat => nq
          have HN := Hid.mk' (HZ.out.keep (below_drewN (Below.refl _ _) nq))
          rw [← HN0] at HN
          clear HN0
          go_wp2
          go_roundw
          case rel => exact ⟨i + 1, by go_num, by omega, by rw [HN1.out]; exact HN⟩
          case measure => simp [intOf]; omega
        | false =>
          have hch := chain_obj sa sb ta la ua tb lb' ub na nb
          generalize oe ⟨sa, ta, la, ua, na⟩ ⟨sb, tb, lb', ub, nb⟩ = oo at *
          cases oo with
          | false =>
            have HN0 := HNO.out (by simp)
            clear q0 q6 q7 q8 HSH HFZ
            go_wp2_with fail
            go_quiet (fail)
            rename Nat => nq
            have HN := Hid.mk' (HZ.out.keep (below_drewN (Below.refl _ _) nq))
            rw [← HN0] at HN
            clear HN0
            go_wp2
            go_roundw
            case rel => exact ⟨i + 1, by go_num, by omega, by rw [HN1.out]; exact HN⟩
            case measure => simp [intOf]; omega
          | true =>
            by_cases hm : xm = m
            · have HY0 := HYE.out (by simp [hm])
              subst hm
              go_wp2_with fail
              go_quiet (fail)
              rename Nat => nq
              have HK := Hid.mk' (HZ.out.keep (below_drewN (Below.refl _ _) nq))
              have fz := HFZ.out _ HK.out
              have HN := Hid.mk' (HSH.out _ HK.out)
              rw [← HY0] at HN
              clear HY0 HSH HFZ HK HZ hch
              go_wp2
              go_roundw
              case rel => exact ⟨i + 1, by go_num, by omega, by rw [HN1.out]; exact HN⟩
              case measure => simp [intOf]; omega
            · have hm2 : (xm == m) = false := by simpa using hm
              have HN0 := HNO.out (by simp [hm])
              clear q0 q7 q8 HSH HFZ
              go_wp2_with fail
              go_quiet (fail)
              rename Nat => nq
              have HN := Hid.mk' (HZ.out.keep (below_drewN (Below.refl _ _) nq))
              rw [← HN0] at HN
              clear HN0
              go_wp2
              go_roundw
              case rel => exact ⟨i + 1, by go_num, by omega, by rw [HN1.out]; exact HN⟩
              case measure => simp [intOf]; omega
    · have ti : ¬ (i : Int) < (L.length : Int) := by omega
      have HE : Hid (QOwn base wr t most (.slice ao L.length cap) (L.map (unshort tx ⟨sb, tb, lb', ub, nb⟩ m s)) ∧ Fr w wr (fun b => (Value.slice ao L.length cap).ownBlock = some b)) := by
        have he : i = L.length := by omega
        have := HS.out
        rw [he, UN_all] at this
        exact ⟨this.q, this.fr⟩
      clear HS hQ2
      go_wp2_with fail
      exact bodyPost_ret (v := .tuple #[.bool true, .int .i64 0]) (by simp [results, Tryd.results12, go_sem]) rfl ⟨rfl, HE.out⟩
end Go.Proofs.YtmldpbgdjlblmaaDoor

/- The document's Ask: a new request. -/
namespace Go.Proofs.YtmldpbgdjlblmaaDoor
open Go.RowKit Go.Joins Go.Sort
set_option linter.unusedVariables false
set_option linter.unusedSimpArgs false

def gputs (b : Bool) (r : Rq) : Rq := { r with gr := b }
theorem flat_set7 (b : Bool) (L : List Rq) : ∀ (i : Nat), i < L.length → (L.flatMap Rq.cells).set (i * 9 + 7) (.bool b) = (L.modify i (gputs b)).flatMap Rq.cells := by
  induction L with
  | nil => intro i hi; simp at hi
  | cons a l ih =>
    intro i hi
    cases i with
    | zero => rfl
    | succ i =>
      rw [List.flatMap_cons]
      have e : (i + 1) * 9 + 7 = (Rq.cells a).length + (i * 9 + 7) := by show _ = 9 + _; omega
      rw [e, List.set_append, if_neg (by omega), Nat.add_sub_cancel_left]
      show _ = Rq.cells a ++ (l.modify i (gputs b)).flatMap Rq.cells
      rw [← ih i (by simpa using hi)]
theorem QOwn.gp {base : Nat} {w : World} {t : Nat} {most : Int} {g n cap : Nat} {L : List Rq} (h : QOwn base w t most (.slice (some ⟨g, 0, none⟩) n cap) L) (b : Bool) {i : Nat} (hi : i < L.length) : QOwn base (w.setCell ⟨g, i * 9 + 7, none⟩ (.bool b)) t most (.slice (some ⟨g, 0, none⟩) n cap) (L.modify i (gputs b)) := by
  obtain ⟨h1, h2, h3, h4⟩ := h
  have hn := Row.len h2
  subst hn
  have hs := (World.ownsRow.stored h2 (i * 9 + 7) (.bool b)).1
  rw [flat_set7 b L i hi] at hs
  have hf := fr_set w g (i * 9 + 7) (.bool b)
  refine ⟨(hf.block t (Array.getElem?_eq_some_iff.1 h1).1 (fun e => h3 (by rw [e]; rfl))).trans h1, ?_, h3, h4⟩
  show World.ownsRow _ _ _ _ _ _ _
  rw [List.length_modify]
  exact hs
theorem QOwn.push {base : Nat} {w : World} {t : Nat} {most : Int} {lv nv : Value} {N : List Rq} (htb : w.heap[t]? = some (.cells #[.int .i64 most, lv] 31 (0, 0))) (hr : OwnQ base w nv N) (hn : nv.ownBlock ≠ some t) (lo : base ≤ t) : QOwn base (w.setCell ⟨t, 1, none⟩ nv) t most nv N := by
  have hf := fr_set w t 1 nv
  refine ⟨?_, hr.of_block (fun c hc => hf.block c (hr.lo c hc).2 (fun e => hn (by rw [hc, e]))), hn, lo⟩
  rw [heap_setCell_same w t 1 _ _ _ htb]
  rfl
/-- The table with one more. -/
structure RnN (base : Nat) (w W : World) (t : Nat) (most : Int) (lv : Value) (N : List Rq) (nv : Value) : Prop where
  q : QOwn base W t most nv N
  fr : Fr w W (fun b => b = t ∨ lv.ownBlock = some b)
  nw : ∀ c, nv.ownBlock = some c → lv.ownBlock = some c ∨ w.heap.size ≤ c
theorem rn_done {base : Nat} {w wq w6 : World} {t : Nat} {most : Int} {lv : Value} {L N : List Rq} {ob : Obj} {g6 n6 cap6 : Nat} (hq : QOwn base wq t most lv L) (hbq : Below w.heap.size w wq) (ht : t < w.heap.size) (hg : (wq.alloc ob).drew.grownBy w6 lv.ownBlock) (hr : OwnQ base w6 (.slice (some ⟨g6, 0, none⟩) n6 cap6) N) (hat : lv.ownBlock = some g6 ∨ (wq.alloc ob).drew.heap.size ≤ g6) :
    RnN base w (w6.setCell ⟨t, 1, none⟩ (.slice (some ⟨g6, 0, none⟩) n6 cap6)) t most lv N (.slice (some ⟨g6, 0, none⟩) n6 cap6) ∧ w6.cell? ⟨t, 1, none⟩ = some lv ∧ w6.frozen? ⟨t, 1, none⟩ = false := by
  have hs : (wq.alloc ob).drew.heap.size = wq.heap.size + 1 := by show (wq.alloc ob).heap.size = _; simp
  have hwq := hbq.size
  have e1 : w6.heap[t]? = wq.heap[t]? := (hg.block t (by omega) (fun e => hq.ne e.symm)).trans (Below.heap_alloc wq ob t (by omega))
  have htb := e1.trans hq.tb
  have hnt : (Value.slice (some ⟨g6, 0, none⟩) n6 cap6).ownBlock ≠ some t := fun e => by
    simp only [Value.ownBlock, Option.some.injEq] at e
    subst e
    rcases hat with e | e
    · exact hq.ne e
    · omega
  have hf0 : Fr w (wq.alloc ob).drew (fun b => b = t ∨ lv.ownBlock = some b) := Fr.of_below (keepA hbq (((Below.refl _ _).alloc (Nat.le_refl _) ob).drew))
  have hf1 := hf0.trans (Fr.of_grown (F := fun b => lv.ownBlock = some b) hg (fun k e => e)) (fun k e => Or.inl (Or.inr e))
  refine ⟨⟨QOwn.push htb hr hnt hq.lo, hf1.trans (fr_set w6 t 1 _) (fun k e => Or.inl (Or.inl e)), fun c hc => ?_⟩, by rw [cell_of_row w6 t 1 _ _ _ htb]; rfl, frozen_row htb 1⟩
  simp only [Value.ownBlock, Option.some.injEq] at hc
  subst hc
  exact hat.imp id (fun e => by omega)
theorem may_new {L : List Rq} {r : Rq} (hg : r.gr = false) : ((List.range (L ++ [r]).length).all fun k => !blk (L ++ [r]) k L.length) = mayP L r [] := by
  have hx : (L ++ [r])[L.length]? = some r := by simp
  have h1 := blk_no_may hx hg
  have h2 : isMay (L ++ [r]) L.length = mayP L r [] := by rw [isMay_split, hg]; simp
  rw [h2] at h1
  rw [Bool.eq_iff_iff, List.all_eq_true, h1]
  constructor
  · intro h k hk
    have := h k (List.mem_range.2 hk)
    simpa using this
  · intro h k hk
    simp [h k (List.mem_range.1 hk)]
set_option maxRecDepth 100000 in
set_option maxHeartbeats 8000000 in
theorem rask_new {base : Nat} {w : World} {t : Nat} {most : Int} {lv : Value} {L : List Rq} (h : QOwn base w t most lv L) (hbw : base ≤ w.heap.size) (hl : L.length ≤ 90000) (tx : Int) (o : Ob) (m : Int) (s : Bool) (h1 : ¬ tx < 1) (hp : pl o = true) (h2 : ¬ m < 1) (h3 : ¬ m > 6) (hw : waitsB L tx = false) (hh : hasB L tx o m = false) (hf : ¬ most ≤ (L.length : Int)) :
    Calls Tryd.prog 12 #[.pointer (some ⟨t, 0, none⟩), .int .i64 tx, o.v, .int .i64 m, .bool s] w fun e w' => ∃ lv', e = .returned (.tuple #[.bool (mayP L ⟨tx, o, m, false, s⟩ []), .int .i64 0]) ∧ QOwn base w' t most lv' (L ++ [⟨tx, o, m, mayP L ⟨tx, o, m, false, s⟩ [], s⟩]) ∧ Fr w w' (fun b => b = t ∨ lv.ownBlock = some b) ∧ (∀ c, lv'.ownBlock = some c → lv.ownBlock = some c ∨ w.heap.size ≤ c) := by
  have hpl := fun w => rplace_any o w
  rw [hp] at hpl
  obtain ⟨ao, cap, rfl, hQ⟩ := h.tab
  have hhs := fun w' (hb : Below w.heap.size w w') => rhas_any (hQ.keep hb) (by omega) tx o m
  rw [hh] at hhs
  obtain ⟨sb, tb, lb', ub, nb⟩ := o
  have hB0 : Below w.heap.size w (w.alloc (Ob.box ⟨sb, tb, lb', ub, nb⟩)) := (Below.refl _ _).alloc (Nat.le_refl _) _
  have hO : BoxO (w.alloc (Ob.box ⟨sb, tb, lb', ub, nb⟩)) w.heap.size ⟨sb, tb, lb', ub, nb⟩ := BoxO.new w ⟨sb, tb, lb', ub, nb⟩
  have HO : Hid (BoxO (w.alloc (Ob.box ⟨sb, tb, lb', ub, nb⟩)) w.heap.size ⟨sb, tb, lb', ub, nb⟩) := hO
  have d1 : decide (tx < 1) = false := decide_eq_false h1
  have d2 : decide (m < 1) = false := decide_eq_false h2
  have d3 : decide (m > 6) = false := decide_eq_false h3
  have d3' : decide (6 < m) = false := d3
  have d4 : decide ((L.length : Int) ≥ most) = false := decide_eq_false hf
  have d4' : decide (most ≤ (L.length : Int)) = false := d4
  have HT : Hid (QTab w t most ao cap L) := hQ
  have HQ : Hid (QOwn base w t most (.slice ao L.length cap) L) := h
  have htw : t < w.heap.size := (Array.getElem?_eq_some_iff.1 h.tb).1
  have HMP := Hid.mk' (may_new (L := L) (r := ⟨tx, ⟨sb, tb, lb', ub, nb⟩, m, false, s⟩) rfl)
  generalize hmp : mayP L ⟨tx, ⟨sb, tb, lb', ub, nb⟩, m, false, s⟩ [] = mp at *
  simp only [Ob.v] at hpl hhs ⊢
  clear hO hp hh h hQ hmp
  go_enter Tryd.func12, Tryd.ntmps12
  go_wp2_with fail
  refine (hpl _).mono ?_
  clear hpl
  rintro e w1 ⟨rfl, hb1⟩
  have HB1 : Hid (Below w.heap.size w w1) := keepA hB0 hb1
  have HO1 := Hid.mk' (HO.out.keep hb1)
  obtain ⟨b0, b1, b2, b3, b4⟩ := HO.out.keep hb1
  simp only at b0 b1 b2 b3 b4
  have hwt := rwaits_any (HT.out.keep HB1.out) (by omega) tx
  rw [hw] at hwt
  clear hb1 HO hB0
  go_wp2_with fail
  refine hwt.mono ?_
  clear hwt
  rintro e w2 ⟨rfl, rfl⟩
  go_wp2_with fail
  refine (hhs _ HB1.out).mono ?_
  clear hhs
  rintro e w3 ⟨rfl, hb3⟩
  have HB3 : Hid (Below w.heap.size w w3) := keepA HB1.out hb3
  have HO3 := Hid.mk' (HO1.out.keep hb3)
  have c0 := (HT.out.keep HB3.out).m
  have c1 := (HT.out.keep HB3.out).l
  have hle := HT.out.le
  clear hb3 HB1 HO1 b0 b1 b2 b3 b4
  go_wp2_with fail
  go_quiet (fail)
  rename Nat => nq
  have HBq := Hid.mk' (below_drewN HB3.out nq)
  have HOq := Hid.mk' (HO3.out.keep (below_drewN (Below.refl _ _) nq))
  have HQq := Hid.mk' (HQ.out.keepB HBq.out)
  have c1' : (w3.drewN nq).cell? ⟨t, 1, none⟩ = some (.slice ao L.length cap) := c1
  clear c0 c1 HB3 HO3 HT HQ
  generalize hwq : w3.drewN nq = wq at *
  go_wp2_with fail
  clear hwq
  obtain ⟨b0, b1, b2, b3, b4⟩ := HOq.out
  simp only at b0 b1 b2 b3 b4
  have hts : ∀ ob, (wq.alloc ob).cell? ⟨t, 1, none⟩ = some (.slice ao L.length cap) := fun ob => cell_keep ((Below.refl _ _).alloc (Nat.le_refl _) ob) c1'
  have HOW : Hid (OwnQ base (wq.alloc (Rq.box ⟨tx, ⟨sb, tb, lb', ub, nb⟩, m, false, s⟩)).drew (.slice ao L.length cap) L) := (HQq.out.keepB ((Below.refl _ _).alloc (Nat.le_refl _) _)).row
  have HSZ : Hid (base ≤ (wq.alloc (Rq.box ⟨tx, ⟨sb, tb, lb', ub, nb⟩, m, false, s⟩)).drew.heap.size) := by
    have := HBq.out.size
    show base ≤ (wq.alloc _).heap.size
    simp; omega
  have HNB : Hid ((wq.alloc (Rq.box ⟨tx, ⟨sb, tb, lb', ub, nb⟩, m, false, s⟩)).drew.heap[wq.heap.size]? = some (.cells (Rq.cells ⟨tx, ⟨sb, tb, lb', ub, nb⟩, m, false, s⟩).toArray 53 (0, 0))) := World.alloc_heap_new wq _
  go_cut [123] (fun _ wc => ∃ g6 cap6, RnN base w wc t most (.slice ao L.length cap) (L ++ [⟨tx, ⟨sb, tb, lb', ub, nb⟩, m, false, s⟩]) (.slice (some ⟨g6, 0, none⟩) (L.length + 1) cap6))
  case first =>
    go_region_law ((refine step_appQ _ rfl (.tmp 116) (.tmp 122) rfl base (.slice ao L.length cap) L (by simp [Act.eval, Act.put]) HOW.out wq.heap.size ⟨tx, ⟨sb, tb, lb', ub, nb⟩, m, false, s⟩ (by simp [Act.eval, Act.put]) HNB.out (by omega) HSZ.out ?_; intro g6 cap6 w6 hr6 hg6 hat6; have D6 := rn_done HQq.out HBq.out htw hg6 hr6 hat6; obtain ⟨D7, c6, f6⟩ := D6; have HD := Hid.mk' D7; clear D7 hg6 hr6 hat6))
    all_goals go_wp2
    all_goals
      go_meet
      case rel => exact ⟨_, _, HD.out⟩
  case rest =>
    obtain ⟨g6, cap6, hN⟩ := hcut
    obtain ⟨ao7, cap7, hnv, hQ7⟩ := hN.q.tab
    have hle7 := hQ7.le
    have hlN : (L ++ [(⟨tx, ⟨sb, tb, lb', ub, nb⟩, m, false, s⟩ : Rq)]).length = L.length + 1 := by simp
    rw [hlN] at hnv hle7
    simp only [Value.slice.injEq, true_and] at hnv
    obtain ⟨rfl, rfl⟩ := hnv
    have c7 := hQ7.l
    rw [hlN] at c7
    have hm0 := rmay_any (hQ7.keep ((Below.refl _ _).drew)) (by rw [hlN]; omega) (i := L.length) (by rw [hlN]; omega)
    rw [HMP.out] at hm0
    have hD : ∀ w', Below wc.heap.size wc w' → w'.cell? ⟨t, 1, none⟩ = some (.slice (some ⟨g6, 0, none⟩) (L.length + 1) cap6) ∧ w'.cell? ⟨g6, L.length * 9 + 7, none⟩ = some (.bool false) ∧ w'.frozen? ⟨g6, L.length * 9 + 7, none⟩ = false ∧ (QOwn base (w'.setCell ⟨g6, L.length * 9 + 7, none⟩ (.bool mp)) t most (.slice (some ⟨g6, 0, none⟩) (L.length + 1) cap6) (L ++ [⟨tx, ⟨sb, tb, lb', ub, nb⟩, m, mp, s⟩]) ∧ Fr w (w'.setCell ⟨g6, L.length * 9 + 7, none⟩ (.bool mp)) (fun b => b = t ∨ (Value.slice ao L.length cap).ownBlock = some b)) := fun w' hb => by
      have hq := hN.q.keepB hb
      have hat := OwnQ.rq hq.row (k := L.length) (by rw [hlN]; omega)
      have hgp := hq.gp mp (i := L.length) (by rw [hlN]; omega)
      rw [modify_mid] at hgp
      refine ⟨cell_keep hb c7, ?_, Row.frozen hq.row _, hgp, ?_⟩
      · have := hat.c7
        simpa using this
      · have hf := hN.fr.trans (Fr.of_below (F := fun _ => False) hb) (fun _ e => e.elim)
        refine hf.trans (fr_set w' g6 (L.length * 9 + 7) (.bool mp)) (fun k e => ?_)
        rcases hN.nw g6 rfl with e6 | e6
        · exact Or.inl (Or.inr (by rw [e]; exact e6))
        · exact Or.inr (by rw [e]; exact e6)
    have HD := Hid.mk' hD
    have HNW := Hid.mk' hN.nw
    have tl1 : (L.length : Int) < ((L.length + 1 : Nat) : Int) := by omega
    clear hD hN hQ7 HOW HSZ HNB b0 b1 b2 b3 b4 hts c1' HQq HOq HBq hlN HMP
    go_wp2_with fail
    go_cut [] (fun wx => Hid (QOwn base wx t most (.slice (some ⟨g6, 0, none⟩) (L.length + 1) cap6) (L ++ [⟨tx, ⟨sb, tb, lb', ub, nb⟩, m, mp, s⟩]) ∧ Fr w wx (fun b => b = t ∨ (Value.slice ao L.length cap).ownBlock = some b)))
    case first =>
      go_region_with ((go_at_call 38; refine hm0.mono ?_; rintro e w' ⟨rfl, hb⟩; have D := HD.out w' (Below.undrew hb); obtain ⟨e1, e2, e3, e4⟩ := D; have HE := Hid.mk' e4; clear hb e4))
      all_goals go_wp2
      all_goals
        go_meet
        case rel => exact HE
    case rest =>
      have HE := hcut
      have hat := OwnQ.rq HE.out.1.row (k := L.length) (by simp)
      have q7 := hat.c7
      simp only [List.getElem_append_right (Nat.le_refl _), Nat.sub_self, List.getElem_cons_zero] at q7
      obtain ⟨ao8, cap8, hnv, hQ8⟩ := HE.out.1.tab
      have c8 := hQ8.l
      rw [← hnv] at c8
      clear hat hQ8 hnv hcut HD hm0
      go_wp2_with fail
      exact bodyPost_ret (v := .tuple #[.bool mp, .int .i64 0]) (by simp [results, Tryd.results12, go_sem]) rfl ⟨_, rfl, HE.out.1, HE.out.2, HNW.out⟩
end Go.Proofs.YtmldpbgdjlblmaaDoor

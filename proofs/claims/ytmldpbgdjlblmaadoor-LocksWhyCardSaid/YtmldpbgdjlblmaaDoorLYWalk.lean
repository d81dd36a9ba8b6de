/- The walk of the law LocksWhy. -/
import Derived.Test.YtmldpbgdjlblmaaDoorL11PL
import Derived.Test.YtmldpbgdjlblmaaDoorL11EG
namespace Go.Proofs.YtmldpbgdjlblmaaDoor
open Go.RowKit Go.Joins Go.Maps Go.Shelf
set_option linter.unusedVariables false
set_option linter.unusedSimpArgs false

/-- Does an edge among the first k lead from a transaction? -/
def fromK (E : List (Int × Int)) (x : Int) (k : Nat) : Bool := (E.take k).any fun p => decide (p.1 = x)
theorem fromK_succ {E : List (Int × Int)} {x : Int} {k : Nat} (h : k < E.length) : fromK E x (k + 1) = (fromK E x k || decide (E[k].1 = x)) := by
  unfold fromK
  rw [List.take_succ_eq_append_getElem h, List.any_append]
  simp
theorem fromK_all {L : List Rq} (h : TInv L) (x : Int) : fromK (edgesF L) x (edgesF L).length = waitsB L x := by
  unfold fromK
  rw [List.take_of_length_le (Nat.le_refl _), Bool.eq_iff_iff, List.any_eq_true, waits_edges h x]
  constructor
  · rintro ⟨⟨a, b⟩, hm, he⟩
    simp only [decide_eq_true_eq] at he
    subst he
    exact ⟨b, hm⟩
  · rintro ⟨b, hb⟩
    exact ⟨(x, b), hb, by simp⟩
/-- Whose requests are left: that one's, and those that are still to end. -/
def RestT (L M : List Rq) (tx : Int) (i : Nat) : Prop := ∀ r ∈ M, r.tx = tx ∨ ∃ j, i ≤ j ∧ ∃ h : j < L.length, L[j].tx = r.tx
theorem RestT.start (L : List Rq) (tx : Int) : RestT L L tx 0 := fun r hr => by
  obtain ⟨j, hj, e⟩ := List.getElem_of_mem hr
  exact Or.inr ⟨j, Nat.zero_le _, hj, by rw [e]⟩
theorem RestT.skip {L M : List Rq} {tx : Int} {i : Nat} (h : RestT L M tx i) (hi : i < L.length) (ht : L[i].tx = tx) : RestT L M tx (i + 1) := fun r hr => by
  rcases h r hr with e | ⟨j, h1, h2, h3⟩
  · exact Or.inl e
  · by_cases e : j = i
    · subst e; exact Or.inl (by rw [← h3]; exact ht)
    · exact Or.inr ⟨j, by omega, h2, h3⟩
theorem RestT.end_ {L M : List Rq} {tx : Int} {i : Nat} (h : RestT L M tx i) (hi : i < L.length) : RestT L (endF M L[i].tx true).1 tx (i + 1) := fun r hr => by
  have hn := end_none hr
  obtain ⟨q, hq, he⟩ := end_tx hr
  rcases h q hq with e | ⟨j, h1, h2, h3⟩
  · exact Or.inl (by rw [← he]; exact e)
  · by_cases e : j = i
    · subst e; exact absurd (by rw [← he, ← h3]) hn
    · exact Or.inr ⟨j, by omega, h2, by rw [h3, he]⟩
theorem RestT.none {L M : List Rq} {tx : Int} (h : RestT L M tx L.length) (hT : TInv M) : waitsB M tx = false := by
  have ha : ∀ r ∈ M, r.tx = tx := fun r hr => by
    rcases h r hr with e | ⟨j, h1, h2, _⟩
    · exact e
    · omega
  unfold waitsB
  rw [List.any_eq_false]
  intro r hr
  rw [hT.alone ha r hr]
  simp
/-- The list that was, and the table as it is. -/
structure YW (w W : World) (t : Nat) (v : Value) (L M : List Rq) : Prop where
  was : ∃ b, OwnQ b W v L
  tb : ∃ lv, TOwn w.heap.size W t 500 lv M ∧ ∀ c, v.ownBlock = some c → c ≠ t ∧ lv.ownBlock ≠ some c
  pt : PT w.heap.size W t 500 M
  b : Below w.heap.size w W
theorem YW.keep {w W W' : World} {t : Nat} {v : Value} {L M : List Rq} (h : YW w W t v L M) (hb : Below W.heap.size W W') : YW w W' t v L M :=
  ⟨h.was.imp fun _ h => h.keepB hb, h.tb.imp fun _ h => ⟨h.1.keepB hb, h.2⟩, h.pt.keep hb, keepA h.b hb⟩
theorem YW.first {w w2 w3 : World} {t : Nat} {lv v3 : Value} {L : List Rq} (hP : PT w.heap.size w2 t 500 L) (hT : TOwn w.heap.size w2 t 500 lv L) (hb2 : Below w.heap.size w w2) (hb3 : Below w2.heap.size w2 w3) (ho : OwnQ w2.heap.size w3 v3 L) : YW w w3 t v3 L L := by
  have htl : t < w2.heap.size := (Array.getElem?_eq_some_iff.1 hT.tb).1
  refine ⟨⟨_, ho⟩, ⟨lv, hT.keepB hb3, fun c hc => ?_⟩, hP.keep hb3, keepA hb2 hb3⟩
  have h1 := (ho.lo c hc).1
  refine ⟨by omega, fun e => ?_⟩
  have := (hT.row.lo c e).2
  omega
theorem YW.end_ {w W : World} {t : Nat} {v : Value} {L M : List Rq} (h : YW w W t v L M) (x : Int) :
    Calls Tryd.prog 14 #[.pointer (some ⟨t, 0, none⟩), .int .i64 x] W fun e w' => ∃ ao m cp, e = .returned (.slice ao m cp) ∧ YW w w' t v L (endF M x true).1 := by
  have hlen := h.pt.len
  obtain ⟨lv, hT, hne⟩ := h.tb
  refine (pend_any hT h.pt.lib (by omega) h.pt.last x).mono ?_
  intro e w' hE
  obtain ⟨ao, m, cp, he, _, hp4, hb4⟩ := h.pt.endTo hT hE
  obtain ⟨_, _, _, lv', _, _, hT', hf, hlv⟩ := hE
  obtain ⟨b, ho⟩ := h.was
  refine ⟨ao, m, cp, he, ⟨b, ho.of_block (fun c hc => hf.block c (ho.lo c hc).2 (fun e => e.elim (hne c hc).1 (hne c hc).2))⟩, ⟨lv', hT', fun c hc => ⟨(hne c hc).1, fun e => ?_⟩⟩, hp4, h.b.trans hb4⟩
  have h1 := (ho.lo c hc).2
  rcases hlv with hlv
  first
    | exact (hne c hc).2 (hlv ▸ e)
    | (rcases hlv c e with e | e
       · exact (hne c hc).2 e
       · omega)
theorem YW.at_ {w W : World} {t : Nat} {ao : Option Addr} {cap : Nat} {L M : List Rq} (h : YW w W t (.slice ao L.length cap) L M) {i : Nat} (hi : i < L.length) : ∃ g, ao = some ⟨g, 0, none⟩ ∧ RqAt W g i L[i] := by
  obtain ⟨b3, hO3⟩ := h.was
  obtain ⟨ax, cx, ex, hcx, hax⟩ := hO3.form
  simp only [Value.slice.injEq, true_and] at ex
  obtain ⟨rfl, rfl⟩ := ex
  rcases hax with h0 | ⟨g3, rfl⟩
  · rw [h0] at hi; simp at hi
  exact ⟨g3, rfl, OwnQ.rq hO3 hi⟩
set_option maxRecDepth 100000 in
set_option maxHeartbeats 4000000 in
theorem why_law (v : Value) (rs : List Op11) (tx : Int) (w : World) (hx : Ops11 w v rs) (hL : LibW w) :
    Calls Tryd.prog 5 #[v, .int .i64 tx] w fun e w' => e = .returned (.bool true) ∧ Below w.heap.size w w' := by
  have hpl := play_any hx hL 60 (by omega) (by omega)
  have HL := Hid.mk' hL
  obtain ⟨ao, cap, rfl, hcap, _⟩ := hx
  clear hL
  go_enter Tryd.func5, Tryd.ntmps5
  go_wp2_with fail
  refine hpl.mono ?_
  rintro e w1 ⟨t, rfl, hP, hb1⟩
  have H1 := Hid.mk' (And.intro hP (And.intro hb1 (HL.out.keep hb1)))
  generalize runF 500 (rs.take (60 : Int).toNat) = L at *
  clear hpl hP hb1 HL
  go_wp2_with fail
  refine (alive_any _ H1.out.2.2).mono ?_
  rintro e w2 ⟨rfl, hb2⟩
  have H2 := Hid.mk' (And.intro (H1.out.1.keep hb2) (keepA H1.out.2.1 hb2))
  clear H1 hb2
  have hed := H2.out.1.edges
  go_wp2_with fail
  refine hed.mono ?_
  rintro e w3 ⟨v3, rfl, ho3, hb3⟩
  obtain ⟨a3, c3, rfl, hp3⟩ := PList.of_own ho3
  have H3 := Hid.mk' (And.intro (H2.out.1.keep hb3) (And.intro (keepA H2.out.2 hb3) hp3))
  have HIN := Hid.mk' H2.out.1.inv
  have hel := edges_len H2.out.1.last
  have hlen := H2.out.1.len
  clear hed ho3 hb3 hp3 H2
  obtain ⟨lv, hT⟩ := H3.out.1.tb
  have HT := Hid.mk' hT
  have hls := plist_any hT (by omega)
  clear hT
  go_wp2_with fail
  refine hls.mono ?_
  rintro e w4 ⟨v4, rfl, ho4, hb4⟩
  obtain ⟨a4, c4, rfl, hq4⟩ := CloneTo.list ho4
  have H4 := Hid.mk' (And.intro (YW.first H3.out.1 HT.out H3.out.2.1 hb4 ho4) (H3.out.2.2.keep hb4))
  have hc4 := hq4.le
  have hc3 := H3.out.2.2.le
  clear hls ho4 hb4 hq4 H3 HT
  have HEA := Hid.mk' (fun (p : Int × Int) (hp : p ∈ edgesF L) => edges_apart (L := L) (a := p.1) (b := p.2) hp)
  have HFA := Hid.mk' (fun x => fromK_all HIN.out x)
  have hel2 : (edgesF L).length ≤ 4000000 := Nat.le_trans hel (Nat.mul_le_mul hlen hlen)
  clear hel
  generalize edgesF L = E at *
  have HB0 : Hid (Below w4.heap.size w4 w4) := Below.refl _ _
  go_wp2_with fail
  go_loopw [8] (fun x wr => ∃ i : Nat, x = .int .i64 i ∧ i ≤ L.length ∧ Hid (Below w4.heap.size w4 wr)) (fun x _ => L.length - (intOf x).toNat)
  case atStart => exact ⟨0, rfl, by omega, HB0⟩
  case round =>
    rename World => wi
    obtain ⟨i, rfl, hi, HBi⟩ := hrel
    clear HB0
    by_cases hil : i < L.length
    · have ti : (i : Int) < (L.length : Int) := by omega
      go_wp2_with fail
      go_loopw [9, 10] (fun fv x wk => ∃ k : Nat, fv = .bool (fromK E L[i].tx k) ∧ x = .int .i64 k ∧ k ≤ E.length ∧ Hid (Below w4.heap.size w4 wk)) (fun _ x _ => E.length - (intOf x).toNat)
      case atStart => exact ⟨0, rfl, rfl, by omega, HBi⟩
      case round =>
        rename World => wk
        obtain ⟨k, rfl, rfl, hk, HBk⟩ := hrel
        clear HBi
        obtain ⟨g4, rfl, hqi⟩ := (H4.out.1.keep HBk.out).at_ hil
        have i0 := hqi.c0
        clear hqi
        by_cases hkl : k < E.length
        · have tk : (k : Int) < (E.length : Int) := by omega
          obtain ⟨g3, rfl, p0, p1⟩ := (H4.out.2.keep HBk.out).at_ hkl
          have hap := HEA.out E[k] (List.getElem_mem hkl)
          have HSC := Hid.mk' (fromK_succ (x := L[i].tx) hkl)
          generalize fromK E L[i].tx k = fk at *
          generalize E[k] = x at *
          obtain ⟨xa, xb⟩ := x
          simp only at p0 p1 hap HSC
          have hap2 : (xa == xb) = false := by simpa using hap
          generalize L[i].tx = ty at *
          go_wp2_with fail
          go_quiet (fail)
          rename_i nq

          cases fk with
          | true =>
            clear p0 p1 i0 hap hap2
            go_wp2_with fail
            go_quiet (fail)
            rename Nat => nr
            have HN := Hid.mk' (below_drewN HBk.out (nq + nr))
            go_wp2
            go_roundw
            case rel => exact ⟨k + 1, by rw [HSC.out]; simp, by go_num, by omega, HN⟩
            case measure => simp [intOf]; omega
          | false =>
            by_cases hxt : xa = ty
            · subst hxt
              go_wp2_with fail
              go_quiet (fail)
              rename Nat => nr
              have HN := Hid.mk' (below_drewN HBk.out (nq + nr))
              go_wp2
              go_roundw
              case rel => exact ⟨k + 1, by rw [HSC.out]; simp, by go_num, by omega, HN⟩
              case measure => simp [intOf]; omega
            · have hxt2 : (xa == ty) = false := by simpa using hxt
              go_wp2_with fail
              go_quiet (fail)
              rename Nat => nr
              have HN := Hid.mk' (below_drewN HBk.out (nq + nr))
              go_wp2
              go_roundw
              case rel => exact ⟨k + 1, by rw [HSC.out]; simp [hxt], by go_num, by omega, HN⟩
              case measure => simp [intOf]; omega
        · have tk : ¬ (k : Int) < (E.length : Int) := by omega
          obtain rfl : k = E.length := by omega
          rw [HFA.out]
          have hwt := (H4.out.1.keep HBk.out).pt.waits L[i].tx
          generalize waitsB L L[i].tx = wb at *
          generalize L[i].tx = ty at *
          go_wp2_with fail
          refine hwt.mono ?_
          rintro e w6 ⟨rfl, _, hb6⟩
          have HN := Hid.mk' (keepA HBk.out hb6)
          clear hwt hb6 i0
          cases wb <;>
          · go_wp2_with fail
            go_roundw
            case rel => exact ⟨i + 1, by go_num, by omega, HN⟩
            case measure => simp [intOf]; omega
    · have ti : ¬ (i : Int) < (L.length : Int) := by omega
      have H6 := Hid.mk' (And.intro (H4.out.1.keep HBi.out) (RestT.start L tx))
      clear H4 HBi HEA HFA HIN
      go_wp2_with fail
      go_loopw [11] (fun x wr => ∃ j : Nat, x = .int .i64 j ∧ j ≤ L.length ∧ Hid (∃ M, YW w wr t (.slice a4 L.length c4) L M ∧ RestT L M tx j)) (fun x _ => L.length - (intOf x).toNat)
      case atStart => exact ⟨0, rfl, by omega, ⟨_, H6.out⟩⟩
      case round =>
        rename World => wr
        obtain ⟨j, rfl, hj, HM⟩ := hrel
        obtain ⟨M, hM⟩ := HM.out
        have HJ := Hid.mk' hM
        clear HM hM H6
        by_cases hjl : j < L.length
        · have tj : (j : Int) < (L.length : Int) := by omega
          obtain ⟨g4, rfl, hq⟩ := HJ.out.1.at_ hjl
          have q0 := hq.c0
          have hen := HJ.out.1.end_ L[j].tx
          have HSK := Hid.mk' (fun ht => HJ.out.2.skip hjl ht)
          have HEN := Hid.mk' (HJ.out.2.end_ hjl)
          clear hq
          generalize hty : L[j].tx = ty at *
          by_cases ht : ty = tx
          · have HN : Hid (∃ M, YW w wr t (.slice (some ⟨g4, 0, none⟩) L.length c4) L M ∧ RestT L M tx (j + 1)) := ⟨M, HJ.out.1, HSK.out ht⟩
            subst ht
            clear hen HSK HEN hty
            go_wp2_with fail
            go_roundw
            case rel => exact ⟨j + 1, by go_num, by omega, HN⟩
            case measure => simp [intOf]; omega
          · have ht2 : (ty == tx) = false := by simpa using ht
            clear HSK hty
            go_wp2_with fail
            refine hen.mono ?_
            rintro e w7 ⟨a7, m7, c7, rfl, h7⟩
            have HN : Hid (∃ M, YW w w7 t (.slice (some ⟨g4, 0, none⟩) L.length c4) L M ∧ RestT L M tx (j + 1)) := ⟨_, h7, HEN.out⟩
            clear hen h7 HEN HJ q0
            go_wp2_with fail
            go_roundw
            case rel => exact ⟨j + 1, by go_num, by omega, HN⟩
            case measure => simp [intOf]; omega
        · have tj : ¬ (j : Int) < (L.length : Int) := by omega
          obtain rfl : j = L.length := by omega
          have hwt := HJ.out.1.pt.waits tx
          rw [HJ.out.2.none HJ.out.1.pt.inv] at hwt
          have HB := Hid.mk' HJ.out.1.b
          have HSZ := Hid.mk' HJ.out.1.pt.lib.le
          go_wp2_with fail
          refine hwt.mono ?_
          rintro e w8 ⟨rfl, _, hb8⟩
          have HE : Hid (Below w.heap.size w w8) := keepA HB.out hb8
          clear hwt hb8
          go_wp2_with fail
          go_ret
          exact ⟨rfl, HE.out⟩
end Go.Proofs.YtmldpbgdjlblmaaDoor

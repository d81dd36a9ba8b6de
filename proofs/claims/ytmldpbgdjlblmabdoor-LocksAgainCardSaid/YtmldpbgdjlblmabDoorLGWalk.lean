/- The walk of the law LocksAgain. -/
import Derived.Test.YtmldpbgdjlblmabDoorL11PL
namespace Go.Proofs.YtmldpbgdjlblmabDoor
open Go.RowKit Go.Joins Go.Maps Go.Shelf
set_option linter.unusedVariables false
set_option linter.unusedSimpArgs false

/-- One request as it was, but for what is short. -/
structure Ag1 (r q : Rq) : Prop where
  tx : q.tx = r.tx
  ob : q.ob = r.ob
  md : q.md = r.md
  gr : q.gr = r.gr
  sh : q.sh = true → r.sh = true
theorem Ag1.un {r q : Rq} (h : Ag1 r q) (tx : Int) (o : Ob) (m : Int) (s : Bool) : Ag1 r (unshort tx o m s q) := by
  unfold unshort
  split
  · exact ⟨h.tx, h.ob, h.md, h.gr, fun e => by simp at e⟩
  · exact h
structure Ags (L M : List Rq) : Prop where
  len : M.length = L.length
  at_ : ∀ k (h : k < L.length) (h' : k < M.length), Ag1 L[k] M[k]
theorem Ags.refl (L : List Rq) : Ags L L := ⟨rfl, fun k h _ => ⟨rfl, rfl, rfl, rfl, fun e => e⟩⟩
theorem Ags.un {L M : List Rq} (h : Ags L M) (tx : Int) (o : Ob) (m : Int) (s : Bool) : Ags L (M.map (unshort tx o m s)) :=
  ⟨by simp [h.len], fun k hk hk' => by rw [List.getElem_map]; exact (h.at_ k hk (by simpa using hk')).un tx o m s⟩

/-- The list that was, and the table as it is. -/
structure AgW (w W : World) (t : Nat) (v : Value) (L M : List Rq) : Prop where
  was : ∃ b, OwnQ b W v L
  tb : ∃ lv, TOwn w.heap.size W t 500 lv M ∧ ∀ c, v.ownBlock = some c → c ≠ t ∧ lv.ownBlock ≠ some c
  pt : PT w.heap.size W t 500 M
  ag : Ags L M
  b : Below w.heap.size w W
theorem AgW.keep {w W W' : World} {t : Nat} {v : Value} {L M : List Rq} (h : AgW w W t v L M) (hb : Below W.heap.size W W') : AgW w W' t v L M :=
  ⟨h.was.imp fun _ h => h.keepB hb, h.tb.imp fun _ h => ⟨h.1.keepB hb, h.2⟩, h.pt.keep hb, h.ag, keepA h.b hb⟩
theorem AgW.first {w w2 w3 : World} {t : Nat} {lv v3 : Value} {L : List Rq} (hP : PT w.heap.size w2 t 500 L) (hT : TOwn w.heap.size w2 t 500 lv L) (hb2 : Below w.heap.size w w2) (hb3 : Below w2.heap.size w2 w3) (ho : OwnQ w2.heap.size w3 v3 L) : AgW w w3 t v3 L L := by
  have htl : t < w2.heap.size := (Array.getElem?_eq_some_iff.1 hT.tb).1
  refine ⟨⟨_, ho⟩, ⟨lv, hT.keepB hb3, fun c hc => ?_⟩, hP.keep hb3, Ags.refl L, keepA hb2 hb3⟩
  have h1 := (ho.lo c hc).1
  refine ⟨by omega, fun e => ?_⟩
  have := (hT.row.lo c e).2
  omega
theorem waits_un (M : List Rq) (tx : Int) (o : Ob) (m : Int) (s : Bool) (x : Int) : waitsB (M.map (unshort tx o m s)) x = waitsB M x := by
  unfold waitsB
  rw [List.any_map]
  congr 1
  funext r
  simp only [Function.comp, unshort]
  split <;> rfl
theorem AgW.ask {w W : World} {t : Nat} {v : Value} {L M : List Rq} (h : AgW w W t v L M) {i : Nat} (hi : i < L.length) (hg : L[i].gr = true) (hw : waitsB M L[i].tx = false) :
    Calls Tryd.prog 10 #[.pointer (some ⟨t, 0, none⟩), .int .i64 L[i].tx, (L[i].ob).v, .int .i64 L[i].md, .bool L[i].sh] W fun e w' => e = .returned (.tuple #[.bool true, .int .i64 0]) ∧ ∃ M', AgW w w' t v L M' ∧ waitsB M' L[i].tx = false := by
  have hlen := h.pt.len
  obtain ⟨lv, hT, hne⟩ := h.tb
  have hi' : i < M.length := by rw [h.ag.len]; exact hi
  have ha := h.ag.at_ i hi hi'
  have hag := ask_again h.pt.inv (List.getElem_mem hi') (by rw [ha.gr]; exact hg) (by rw [ha.tx]; exact hw) 500 L[i].sh
  rw [ha.tx, ha.ob, ha.md] at hag
  refine (pask_any hT h.pt.lib (by omega) h.pt.last L[i].tx L[i].ob L[i].md L[i].sh).mono ?_
  rintro e w' ⟨lv', rfl, hT', hf, hlv⟩
  have hb := hT.foot h.pt.lib hf
  have hPT : PT w.heap.size w' t 500 (askF 500 M L[i].tx L[i].ob L[i].md L[i].sh).2 := ⟨⟨lv', hT'⟩, h.pt.lib.keep hb, h.pt.last.ask _ _ _ _ _, h.pt.inv.ask _ _ _ _ _, ask_len h.pt.le _ _ _ _, h.pt.mo⟩
  rw [hag] at hT' hPT ⊢
  refine ⟨rfl, _, ⟨?_, ⟨lv', hT', fun c hc => ⟨(hne c hc).1, fun e => ?_⟩⟩, hPT, h.ag.un _ _ _ _, h.b.trans hb⟩, by rw [waits_un]; exact hw⟩
  · obtain ⟨b, ho⟩ := h.was
    exact ⟨b, ho.of_block (fun c hc => hf.block c (ho.lo c hc).2 (fun e => e.elim (hne c hc).1 (hne c hc).2))⟩
  · obtain ⟨b, ho⟩ := h.was
    rcases hlv c e with e | e
    · exact (hne c hc).2 e
    · have := (ho.lo c hc).2
      omega
theorem AgW.at_ {w W : World} {t : Nat} {ao : Option Addr} {cap : Nat} {L M : List Rq} (h : AgW w W t (.slice ao L.length cap) L M) {i : Nat} (hi : i < L.length) : ∃ g, ao = some ⟨g, 0, none⟩ ∧ RqAt W g i L[i] := by
  obtain ⟨b3, hO3⟩ := h.was
  obtain ⟨ax, cx, ex, hcx, hax⟩ := hO3.form
  simp only [Value.slice.injEq, true_and] at ex
  obtain ⟨rfl, rfl⟩ := ex
  rcases hax with h0 | ⟨g3, rfl⟩
  · rw [h0] at hi; simp at hi
  exact ⟨g3, rfl, OwnQ.rq hO3 hi⟩
/-- The table where that transaction does not wait. -/
def AgS (w W : World) (t : Nat) (v : Value) (L : List Rq) (x : Int) : Prop := ∃ M, AgW w W t v L M ∧ waitsB M x = false
theorem AgS.drew {w W : World} {t : Nat} {v : Value} {L : List Rq} {x : Int} (h : AgS w W t v L x) : AgS w W.drew t v L x := by
  obtain ⟨M, h, hw⟩ := h
  exact ⟨M, h.keep (Below.refl _ _).drew, hw⟩
theorem agS_of {w W : World} {t : Nat} {v : Value} {L : List Rq} {x : Int} {C : Prop} (h : AgS w W t v L x ∧ C) : AgS w W t v L x := h.1
set_option maxRecDepth 100000 in
set_option maxHeartbeats 4000000 in
theorem again_law (v : Value) (rs : List Op11) (w : World) (hx : Ops11 w v rs) (hL : LibW w) :
    Calls Tryd.prog 4 #[v] w fun e w' => e = .returned (.bool true) ∧ Below w.heap.size w w' := by
  have hpl := play_any hx hL 60 (by omega) (by omega)
  have HL := Hid.mk' hL
  obtain ⟨ao, cap, rfl, hcap, _⟩ := hx
  clear hL
  go_enter Tryd.func4, Tryd.ntmps4
  go_wp2_with fail
  refine hpl.mono ?_
  rintro e w1 ⟨t, rfl, hP, hb1⟩
  have H1 := Hid.mk' (And.intro hP (And.intro hb1 (HL.out.keep hb1)))
  generalize runF 500 (rs.take (60 : Int).toNat) = L at *
  clear hpl hP hb1 HL
  go_wp2_with fail
  refine (alive_any _ H1.out.2.2).mono ?_
  rintro e w2 ⟨rfl, hb2⟩
  have H2 := Hid.mk' (And.intro (H1.out.1.keep hb2) (keepA H1.out.2.1 hb2))
  clear H1 hb2
  have hlen := H2.out.1.len
  obtain ⟨lv, hT⟩ := H2.out.1.tb
  have HT := Hid.mk' hT
  have hls := plist_any hT (by omega)
  clear hT
  go_wp2_with fail
  refine hls.mono ?_
  rintro e w3 ⟨v3, rfl, ho3, hb3⟩
  obtain ⟨a3, c3, rfl, hq3⟩ := CloneTo.list ho3
  have H3 := Hid.mk' (AgW.first H2.out.1 HT.out H2.out.2 hb3 ho3)
  have hc3 := hq3.le
  clear hls ho3 hb3 hq3 H2 HT
  go_wp2_with fail
  go_loopw [5] (fun x wr => ∃ i : Nat, x = .int .i64 i ∧ i ≤ L.length ∧ Hid (∃ M, AgW w wr t (.slice a3 L.length c3) L M)) (fun x _ => L.length - (intOf x).toNat)
  case atStart => exact ⟨0, rfl, by omega, ⟨_, H3.out⟩⟩
  case round =>
    obtain ⟨i, rfl, hi, HM⟩ := hrel
    obtain ⟨M, hM⟩ := HM.out
    have HJ := Hid.mk' hM
    clear HM hM
    by_cases hil : i < L.length
    · have ti : (i : Int) < (L.length : Int) := by omega
      obtain ⟨g3, rfl, hq⟩ := HJ.out.at_ hil
      have q0 := hq.c0
      have hwt := HJ.out.pt.waits L[i].tx
      clear hq
      go_wp2_with fail
      refine hwt.mono ?_
      rintro e w4 ⟨rfl, _, hb4⟩
      have H4 := Hid.mk' (HJ.out.keep hb4)
      clear HJ hwt q0 hb4
      obtain ⟨g3', e3, hq⟩ := H4.out.at_ hil
      obtain rfl : g3 = g3' := by simpa using e3
      obtain ⟨q0, q1, q2, q3, q4, q5, q6, q7, q8⟩ := hq
      cases hg : L[i].gr with
      | false =>
        rw [hg] at q7
        clear q0 q1 q2 q3 q4 q5 q6 q8
        go_wp2_with fail
        go_roundw
        case rel => exact ⟨i + 1, by go_num, by omega, ⟨_, H4.out⟩⟩
        case measure => simp [intOf]; omega
      | true =>
        rw [hg] at q7
        cases hw : waitsB M L[i].tx with
        | true =>
          clear q0 q1 q2 q3 q4 q5 q6 q8
          go_wp2_with fail
          go_roundw
          case rel => exact ⟨i + 1, by go_num, by omega, ⟨_, H4.out⟩⟩
          case measure => simp [intOf]; omega
        | false =>
          have HA0 : Hid (AgS w w4 t (.slice (some ⟨g3, 0, none⟩) L.length c3) L L[i].tx) := ⟨M, H4.out, hw⟩
          have HC : Hid (∀ W', AgS w W' t (.slice (some ⟨g3, 0, none⟩) L.length c3) L L[i].tx → Calls Tryd.prog 10 #[.pointer (some ⟨t, 0, none⟩), .int .i64 L[i].tx, .agg #[.int .i64 L[i].ob.sp, .string L[i].ob.tb, .string L[i].ob.lo, .string L[i].ob.hi, .bool L[i].ob.en], .int .i64 L[i].md, .bool L[i].sh] W' fun e w' => e = .returned (.tuple #[.bool true, .int .i64 0]) ∧ AgS w w' t (.slice (some ⟨g3, 0, none⟩) L.length c3) L L[i].tx) := fun W' ⟨M', h, hw'⟩ => h.ask hil hg hw'
          have HK : Hid (∀ W', AgS w W' t (.slice (some ⟨g3, 0, none⟩) L.length c3) L L[i].tx → AgS w W' t (.slice (some ⟨g3, 0, none⟩) L.length c3) L L[i].tx ∧ W'.cell? ⟨g3, i * 9, none⟩ = some (.int .i64 L[i].tx) ∧ W'.cell? ⟨g3, i * 9 + 1, none⟩ = some (.int .i64 L[i].ob.sp) ∧ W'.cell? ⟨g3, i * 9 + 2, none⟩ = some (.string L[i].ob.tb) ∧ W'.cell? ⟨g3, i * 9 + 3, none⟩ = some (.string L[i].ob.lo) ∧ W'.cell? ⟨g3, i * 9 + 4, none⟩ = some (.string L[i].ob.hi) ∧ W'.cell? ⟨g3, i * 9 + 5, none⟩ = some (.bool L[i].ob.en) ∧ W'.cell? ⟨g3, i * 9 + 6, none⟩ = some (.int .i64 L[i].md) ∧ W'.cell? ⟨g3, i * 9 + 8, none⟩ = some (.bool L[i].sh)) := fun W' hS => by
            refine ⟨hS, ?_⟩
            obtain ⟨M', h, _⟩ := hS
            obtain ⟨g', e', hq⟩ := h.at_ hil
            obtain rfl : g3 = g' := by simpa using e'
            exact ⟨hq.c0, hq.c1, hq.c2, hq.c3, hq.c4, hq.c5, hq.c6, hq.c8⟩
          clear q0 q1 q2 q3 q4 q5 q6 q8 H4 hw
          generalize L[i].tx = xt at *
          generalize L[i].ob = xo at *
          generalize L[i].md = xm at *
          generalize L[i].sh = xs at *
          obtain ⟨os, ot, ol, oh, oen⟩ := xo
          simp only at HC HK
          go_wp2_with fail
          go_region_held3 (fun W' => AgS w W' t (.slice (some ⟨g3, 0, none⟩) L.length c3) L xt ∧ W'.cell? ⟨g3, i * 9, none⟩ = some (.int .i64 xt) ∧ W'.cell? ⟨g3, i * 9 + 1, none⟩ = some (.int .i64 os) ∧ W'.cell? ⟨g3, i * 9 + 2, none⟩ = some (.string ot) ∧ W'.cell? ⟨g3, i * 9 + 3, none⟩ = some (.string ol) ∧ W'.cell? ⟨g3, i * 9 + 4, none⟩ = some (.string oh) ∧ W'.cell? ⟨g3, i * 9 + 5, none⟩ = some (.bool oen) ∧ W'.cell? ⟨g3, i * 9 + 6, none⟩ = some (.int .i64 xm) ∧ W'.cell? ⟨g3, i * 9 + 8, none⟩ = some (.bool xs))
            ((refine HK.out _ ?_; first | with_reducible assumption | with_reducible exact HA0.out.drew | with_reducible exact HA0.out))
            ((go_at_call 10; refine (HC.out _ (agS_of (by with_reducible assumption))).mono ?_; rintro e w' ⟨rfl, hk'⟩))
          all_goals
            have HN : Hid (∃ M', AgW w w' t (.slice (some ⟨g3, 0, none⟩) L.length c3) L M') := hk'.imp fun _ h => h.1
            go_wp2
            go_roundw
            case rel => exact ⟨i + 1, by go_num, by omega, HN⟩
            case measure => simp [intOf]; omega
    · have ti : ¬ (i : Int) < (L.length : Int) := by omega
      have hlM := HJ.out.ag.len
      have hlen5 := HJ.out.pt.len
      obtain ⟨lv5, hT5⟩ := HJ.out.pt.tb
      have hls5 := plist_any hT5 (by omega)
      clear hT5 H3
      go_wp2_with fail
      refine hls5.mono ?_
      rintro e w6 ⟨v6, rfl, ho6, hb6⟩
      obtain ⟨a6, c6, rfl, hq6⟩ := CloneTo.list ho6
      have H6 := Hid.mk' (And.intro (HJ.out.keep hb6) hq6)
      have hc6 := hq6.le
      clear hls5 ho6 hb6 hq6 HJ
      have tl : ((M.length : Int) == (L.length : Int)) = true := by rw [hlM]; simp
      go_wp2_with fail
      have H6B : Hid (Below w6.heap.size w6 w6) := Below.refl _ _
      go_loopw [10] (fun x wr => ∃ k : Nat, x = .int .i64 k ∧ k ≤ L.length ∧ Hid (Below w6.heap.size w6 wr)) (fun x _ => L.length - (intOf x).toNat)
      case atStart => exact ⟨0, rfl, by omega, H6B⟩
      case round =>
        obtain ⟨k, rfl, hk, HB⟩ := hrel
        by_cases hkl : k < L.length
        · have tk : (k : Int) < (L.length : Int) := by omega
          have hkM : k < M.length := by omega
          have tkM : (k : Int) < (M.length : Int) := by omega
          obtain ⟨g3, rfl, hq⟩ := H6.out.1.at_ hkl
          obtain ⟨g6, rfl, hq'⟩ := H6.out.2.at_ hkM
          obtain ⟨e0, e1, e2, e3, e4⟩ := H6.out.1.ag.at_ k hkl hkM
          have HK : Hid (∀ W', Below w6.heap.size w6 W' → Below w6.heap.size w6 W' ∧ W'.cell? ⟨g3, k * 9, none⟩ = some (.int .i64 L[k].tx) ∧ W'.cell? ⟨g3, k * 9 + 1, none⟩ = some (.int .i64 L[k].ob.sp) ∧ W'.cell? ⟨g3, k * 9 + 2, none⟩ = some (.string L[k].ob.tb) ∧ W'.cell? ⟨g3, k * 9 + 3, none⟩ = some (.string L[k].ob.lo) ∧ W'.cell? ⟨g3, k * 9 + 4, none⟩ = some (.string L[k].ob.hi) ∧ W'.cell? ⟨g3, k * 9 + 5, none⟩ = some (.bool L[k].ob.en) ∧ W'.cell? ⟨g3, k * 9 + 6, none⟩ = some (.int .i64 L[k].md) ∧ W'.cell? ⟨g3, k * 9 + 7, none⟩ = some (.bool L[k].gr) ∧ W'.cell? ⟨g3, k * 9 + 8, none⟩ = some (.bool L[k].sh) ∧ W'.cell? ⟨g6, k * 9, none⟩ = some (.int .i64 L[k].tx) ∧ W'.cell? ⟨g6, k * 9 + 1, none⟩ = some (.int .i64 L[k].ob.sp) ∧ W'.cell? ⟨g6, k * 9 + 2, none⟩ = some (.string L[k].ob.tb) ∧ W'.cell? ⟨g6, k * 9 + 3, none⟩ = some (.string L[k].ob.lo) ∧ W'.cell? ⟨g6, k * 9 + 4, none⟩ = some (.string L[k].ob.hi) ∧ W'.cell? ⟨g6, k * 9 + 5, none⟩ = some (.bool L[k].ob.en) ∧ W'.cell? ⟨g6, k * 9 + 6, none⟩ = some (.int .i64 L[k].md) ∧ W'.cell? ⟨g6, k * 9 + 7, none⟩ = some (.bool L[k].gr) ∧ W'.cell? ⟨g6, k * 9 + 8, none⟩ = some (.bool M[k].sh)) := fun W' hb => by
            have h1 := hq.keep hb
            have h2 := hq'.keep hb
            obtain ⟨p0, p1, p2, p3, p4, p5, p6, p7, p8⟩ := h2
            rw [e0] at p0
            rw [e1] at p1 p2 p3 p4 p5
            rw [e2] at p6
            rw [e3] at p7
            exact ⟨hb, h1.c0, h1.c1, h1.c2, h1.c3, h1.c4, h1.c5, h1.c6, h1.c7, h1.c8, p0, p1, p2, p3, p4, p5, p6, p7, p8⟩
          clear e0 e1 e2 e3 hq hq'
          generalize L[k].tx = xt at *
          generalize L[k].ob = xo at *
          generalize L[k].md = xm at *
          generalize L[k].gr = xg at *
          generalize L[k].sh = s1 at *
          generalize M[k].sh = s2 at *
          obtain ⟨os, ot, ol, oh, oen⟩ := xo
          simp only at HK
          have hs : s2 = false ∨ (s2 = true ∧ s1 = true) := by cases s2 <;> simp_all
          clear e4
          rcases hs with rfl | ⟨rfl, rfl⟩
          all_goals
            obtain ⟨_, p0, p1, p2, p3, p4, p5, p6, p7, p8, r0, r1, r2, r3, r4, r5, r6, r7, r8⟩ := HK.out _ HB.out
            clear HK
            go_wp2_with fail
            simp only [List.append]
            go_big_quiet (fail)
            rename_i nq
            have HN := Hid.mk' (below_drewN HB.out nq)
            go_wp2
            go_roundw
            case rel => exact ⟨k + 1, by go_num, by omega, by first | exact HN | exact HB⟩
            case measure => simp [intOf]; omega
        · have tk : ¬ (k : Int) < (L.length : Int) := by omega
          go_wp2_with fail
          go_ret
          exact ⟨rfl, keepA H6.out.1.b HB.out⟩
end Go.Proofs.YtmldpbgdjlblmabDoor

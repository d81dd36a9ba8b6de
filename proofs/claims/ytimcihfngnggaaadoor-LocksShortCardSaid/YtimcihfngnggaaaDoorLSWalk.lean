/- The walk of the law LocksShort. -/
import Derived.Test.YtimcihfngnggaaaDoorL11PL
namespace Go.Proofs.YtimcihfngnggaaaDoor
open Go.RowKit Go.Joins Go.Maps Go.Shelf
set_option linter.unusedVariables false
set_option linter.unusedSimpArgs false

/-- Behind EndShort: the list that was, and the table as it is. -/
structure ShW (w W : World) (t : Nat) (v : Value) (L L2 : List Rq) : Prop where
  was : ∃ b, OwnQ b W v L
  pt : PT w.heap.size W t 500 L2
  b : Below w.heap.size w W
theorem ShW.keep {w W W' : World} {t : Nat} {v : Value} {L L2 : List Rq} (h : ShW w W t v L L2) (hb : Below W.heap.size W W') : ShW w W' t v L L2 :=
  ⟨h.was.imp fun _ h => h.keepB hb, h.pt.keep hb, keepA h.b hb⟩
theorem shw_end {w w2 w3 w4 : World} {t : Nat} {lv v3 : Value} {L : List Rq} {tx : Int} {all : Bool} {e : Ending} (hP : PT w.heap.size w2 t 500 L) (hT : TOwn w.heap.size w2 t 500 lv L) (hb2 : Below w.heap.size w w2) (hb3 : Below w2.heap.size w2 w3) (ho : OwnQ w2.heap.size w3 v3 L) (hE : EndTo w.heap.size w3 t 500 lv (endF L tx all) e w4) :
    ∃ ao m cp, e = .returned (.slice ao m cp) ∧ ShW w w4 t v3 L (endF L tx all).1 := by
  have hT3 := hT.keepB hb3
  have hP3 := hP.keep hb3
  obtain ⟨ao, m, cp, he, _, hp4, hb4⟩ := hP3.endTo hT3 hE
  obtain ⟨_, _, _, lv', _, _, _, hf, _⟩ := hE
  have htl : t < w2.heap.size := (Array.getElem?_eq_some_iff.1 hT.tb).1
  refine ⟨ao, m, cp, he, ⟨w2.heap.size, ho.of_block (fun c hc => hf.block c (ho.lo c hc).2 (fun e => ?_))⟩, hp4, (keepA hb2 hb3).trans hb4⟩
  have h1 := (ho.lo c hc).1
  rcases e with e | e
  · omega
  · have := (hT.row.lo c e).2
    omega
set_option maxRecDepth 100000 in
set_option maxHeartbeats 4000000 in
theorem short_law (v : Value) (rs : List Op11) (tx : Int) (w : World) (hx : Ops11 w v rs) (hL : LibW w) :
    Calls Tryd.prog 6 #[v, .int .i64 tx] w fun e w' => e = .returned (.bool true) ∧ Below w.heap.size w w' := by
  have hpl := play_any hx hL 60 (by omega) (by omega)
  have HL := Hid.mk' hL
  obtain ⟨ao, cap, rfl, hcap, _⟩ := hx
  clear hL
  go_enter Tryd.func6, Tryd.ntmps6
  go_wp2_with fail
  refine hpl.mono ?_
  rintro e w1 ⟨t, rfl, hP, hb1⟩
  have H1 := Hid.mk' (And.intro hP (And.intro hb1 (HL.out.keep hb1)))
  generalize runF 500 (rs.take (60 : Int).toNat) = L at *
  clear hpl hP hb1 HL
  go_wp2_with fail
  refine (alive_any _ H1.out.2.2).mono ?_
  rintro e w2 ⟨rfl, hb2⟩
  have H2 := Hid.mk' (And.intro (H1.out.1.keep hb2) (keepA H1.out.2.1 hb2))
  clear H1 hb2
  have hlen := H2.out.1.len
  obtain ⟨lv, hT⟩ := H2.out.1.tb
  have HT := Hid.mk' hT
  have hls := plist_any hT (by omega)
  clear hT
  go_wp2_with fail
  refine hls.mono ?_
  rintro e w3 ⟨v3, rfl, ho3, hb3⟩
  have hes := pends_any (HT.out.keepB hb3) (H2.out.1.lib.keepB hb3) (by omega) H2.out.1.last tx
  obtain ⟨a3, c3, rfl, hq3⟩ := CloneTo.list ho3
  have H3 := Hid.mk' (And.intro ho3 hb3)
  clear hls ho3 hb3 hq3
  go_wp2_with fail
  refine hes.mono ?_
  rintro e w4 hE
  obtain ⟨a4, m4, cp4, rfl, hS⟩ := shw_end H2.out.1 HT.out H2.out.2 H3.out.2 H3.out.1 hE
  have H4 := Hid.mk' hS
  have hIL := H2.out.1.inv
  clear hes hE hS H2 H3 HT
  have HSW := Hid.mk' (fun (r : Rq) (hr : r ∈ (endF L tx false).1) (ht : r.tx = tx) (hs : r.sh = true) => short_waited hr ht hs)
  have HLSI := Hid.mk' (fun (r : Rq) (hr : r ∈ L) (ht : r.tx = tx) (hg : r.gr = true) (hs : r.sh = false) => long_stays hIL hr ht hg hs)
  generalize (endF L tx false).1 = L2 at *
  have hlen2 := H4.out.pt.len
  obtain ⟨lv4, hT4⟩ := H4.out.pt.tb
  have hls4 := plist_any hT4 (by omega)
  clear hT4
  go_wp2_with fail
  refine hls4.mono ?_
  rintro e w5 ⟨v5, rfl, ho5, hb5⟩
  obtain ⟨a5, c5, rfl, hq5⟩ := CloneTo.list ho5
  have H5 := Hid.mk' (And.intro (H4.out.keep hb5) hq5)
  have hc5 := hq5.le
  clear hls4 ho5 hb5 hq5 H4
  go_wp2_with fail
  go_loopw [8] (fun x wr => ∃ i : Nat, x = .int .i64 i ∧ i ≤ L2.length ∧ ∃ q, wr = w5.drewN q) (fun x _ => L2.length - (intOf x).toNat)
  case atStart => exact ⟨0, rfl, by omega, 0, rfl⟩
  case round =>
    obtain ⟨i, rfl, hi, q, rfl⟩ := hrel
    by_cases hil : i < L2.length
    · have ti : (i : Int) < (L2.length : Int) := by omega
      obtain ⟨g5, rfl, hqi⟩ := H5.out.2.at_ hil
      have hmem := List.getElem_mem hil
      have hsw := HSW.out L2[i] hmem
      have i0 := hqi.c0
      have i7 := hqi.c7
      have i8 := hqi.c8
      have HQI := Hid.mk' hqi
      clear hqi hmem
      by_cases ht : L2[i].tx = tx
      · rw [ht] at i0
        cases hs : L2[i].sh with
        | false =>
          rw [hs] at i8
          clear hsw
          go_wp2_with fail
          go_roundw
          case rel => exact ⟨i + 1, by go_num, by omega, q, by first | rfl | trivial⟩
          case measure => simp [intOf]; omega
        | true =>
          rw [hs] at i8
          cases hg : L2[i].gr with
          | false =>
            rw [hg] at i7
            clear hsw
            go_wp2_with fail
            go_roundw
            case rel => exact ⟨i + 1, by go_num, by omega, q, by first | rfl | trivial⟩
            case measure => simp [intOf]; omega
          | true =>
            rw [hg] at i7
            have HW := Hid.mk' (hsw ht hs)
            obtain ⟨b3, hO3⟩ := H5.out.1.was
            obtain ⟨ax, cx, ex, hq3⟩ : ∃ ax cx, Value.slice a3 L.length c3 = .slice ax L.length cx ∧ QList w5 ax cx L := by
              rcases id hO3 with ⟨_, ⟨hv, hn⟩ | ⟨g, cap, cur, hv, hg, hh, hc, _⟩⟩
              · exact ⟨none, 0, by rw [hv, hn], by omega, Or.inl (List.eq_nil_of_length_eq_zero hn)⟩
              · refine ⟨some ⟨g, 0, none⟩, cap, hv, hc, Or.inr ⟨g, rfl, fun k hk => ?_⟩⟩
                rw [hv] at hO3
                exact OwnQ.rq hO3 hk
            simp only [Value.slice.injEq, true_and] at ex
            obtain ⟨rfl, rfl⟩ := ex
            have HQ3 := Hid.mk' hq3
            have hc3 := hq3.le
            clear hsw hq3 hO3
            go_wp2_with fail
            go_loopw [9, 10] (fun wv x wr => ∃ k : Nat, wv = .bool ((L.take k).any fun r => decide (r.tx = tx) && !r.gr && oe r.ob L2[i].ob) ∧ x = .int .i64 k ∧ k ≤ L.length ∧ ∃ q', wr = w5.drewN q') (fun _ x _ => L.length - (intOf x).toNat)
            case atStart => exact ⟨0, by simp, rfl, by omega, q, rfl⟩
            case round =>
              obtain ⟨k, rfl, rfl, hk, q', rfl⟩ := hrel
              by_cases hkl : k < L.length
              · have tk : (k : Int) < (L.length : Int) := by omega
                obtain ⟨g3, eg3, hqk⟩ := HQ3.out.at_ hkl
                subst eg3
                have hsc : ((L.take (k + 1)).any fun r => decide (r.tx = tx) && !r.gr && oe r.ob L2[i].ob) = (((L.take k).any fun r => decide (r.tx = tx) && !r.gr && oe r.ob L2[i].ob) || (decide (L[k].tx = tx) && !L[k].gr && oe L[k].ob L2[i].ob)) := by
                  rw [List.take_succ_eq_append_getElem hkl, List.any_append]; simp
                have HSC := Hid.mk' hsc
                clear hsc
                generalize ((L.take k).any fun r => decide (r.tx = tx) && !r.gr && oe r.ob L2[i].ob) = wk at *
                obtain ⟨k0, k1, k2, k3, k4, k5, k6, k7, k8⟩ := hqk
                obtain ⟨j0, j1, j2, j3, j4, j5, j6, j7, j8⟩ := HQI.out
                clear j0 j6 j7 j8 k6 k8
                cases wk with
                | true =>
                  clear j1 j2 j3 j4 j5 k0 k1 k2 k3 k4 k5 k7
                  go_wp2_with fail
                  go_quiet (fail)
                  go_wp2
                  go_roundw
                  case rel => exact ⟨k + 1, by rw [HSC.out]; simp, by go_num, by omega, _, by first | rfl | trivial⟩
                  case measure => simp [intOf]; omega
                | false =>
                  by_cases hkt : L[k].tx = tx
                  · rw [hkt] at k0
                    cases hkg : L[k].gr with
                    | true =>
                      rw [hkg] at k7
                      clear j1 j2 j3 j4 j5 k1 k2 k3 k4 k5
                      go_wp2_with fail
                      go_quiet (fail)
                      go_wp2
                      go_roundw
                      case rel => exact ⟨k + 1, by rw [HSC.out]; simp [hkg], by go_num, by omega, _, by first | rfl | trivial⟩
                      case measure => simp [intOf]; omega
                    | false =>
                      rw [hkg] at k7
                      have hch := chain_obj L[k].ob.sp L2[i].ob.sp L[k].ob.tb L[k].ob.lo L[k].ob.hi L2[i].ob.tb L2[i].ob.lo L2[i].ob.hi L[k].ob.en L2[i].ob.en
                      generalize oe ⟨L[k].ob.sp, L[k].ob.tb, L[k].ob.lo, L[k].ob.hi, L[k].ob.en⟩ ⟨L2[i].ob.sp, L2[i].ob.tb, L2[i].ob.lo, L2[i].ob.hi, L2[i].ob.en⟩ = oo at *
                      cases oo <;>
                      · go_wp2_with fail
                        go_quiet (fail)
                        go_wp2
                        go_roundw
                        case rel => exact ⟨k + 1, by rw [HSC.out]; simp [hkg, hkt], by go_num, by omega, _, by first | rfl | trivial⟩
                        case measure => simp [intOf]; omega
                  · have hkt2 : (L[k].tx == tx) = false := by simpa using hkt
                    clear j1 j2 j3 j4 j5 k1 k2 k3 k4 k5 k7
                    go_wp2_with fail
                    go_quiet (fail)
                    go_wp2
                    go_roundw
                    case rel => exact ⟨k + 1, by rw [HSC.out]; simp [hkt], by go_num, by omega, _, by first | rfl | trivial⟩
                    case measure => simp [intOf]; omega
              · have tk : ¬ (k : Int) < (L.length : Int) := by omega
                have hkr : k = L.length := by omega
                have hwt : ((L.take k).any fun r => decide (r.tx = tx) && !r.gr && oe r.ob L2[i].ob) = true := by
                  rw [hkr, List.take_of_length_le (Nat.le_refl _), List.any_eq_true]
                  obtain ⟨q9, h1, h2, h3, h4⟩ := HW.out
                  exact ⟨q9, h1, by simp [h2, h3, h4, oe_refl]⟩
                rw [hwt]
                clear hwt
                go_wp2_with fail
                go_roundw
                case rel => exact ⟨i + 1, by go_num, by omega, _, by first | rfl | trivial⟩
                case measure => simp [intOf]; omega
      · have ht2 : (L2[i].tx == tx) = false := by simpa using ht
        clear hsw
        generalize L2[i].tx = xt at *
        go_wp2_with fail
        go_roundw
        case rel => exact ⟨i + 1, by go_num, by omega, q, by first | rfl | trivial⟩
        case measure => simp [intOf]; omega
    · have ti : ¬ (i : Int) < (L2.length : Int) := by omega
      have H6 := Hid.mk' (H5.out.1.keep (below_drewN (Below.refl _ _) q))
      clear H5 HSW
      generalize w5.drewN q = w6 at *
      go_wp2_with fail
      go_loopw [11] (fun x wr => ∃ j : Nat, x = .int .i64 j ∧ j ≤ L.length ∧ Hid (ShW w wr t (.slice a3 L.length c3) L L2)) (fun x _ => L.length - (intOf x).toNat)
      case atStart => exact ⟨0, rfl, by omega, H6⟩
      case round =>
        obtain ⟨j, rfl, hj, HJ⟩ := hrel
        by_cases hjl : j < L.length
        · have tj : (j : Int) < (L.length : Int) := by omega
          obtain ⟨b3, hO3⟩ := HJ.out.was
          obtain ⟨ax, cx, ex, hcx, hax⟩ := hO3.form
          simp only [Value.slice.injEq, true_and] at ex
          obtain ⟨rfl, rfl⟩ := ex
          rcases hax with h0 | ⟨g3, rfl⟩
          · rw [h0] at hjl; simp at hjl
          have hq := OwnQ.rq hO3 hjl
          have HST : Hid (L[j].tx = tx → L[j].gr = true → L[j].sh = false → hasB L2 tx L[j].ob L[j].md = true) := fun h1 h2 h3 => HLSI.out L[j] (List.getElem_mem hjl) h1 h2 h3
          have q0 := hq.c0
          have q7 := hq.c7
          have q8 := hq.c8
          have HQ := Hid.mk' hq
          clear hq hO3
          by_cases ht : L[j].tx = tx
          · rw [ht] at q0
            cases hg : L[j].gr with
            | false =>
              rw [hg] at q7
              go_wp2_with fail
              go_quiet (fail)
              rename_i nq
              have HN := Hid.mk' (HJ.out.keep (below_drewN (Below.refl _ _) nq))
              go_wp2
              go_roundw
              case rel => exact ⟨j + 1, by go_num, by omega, by first | exact HN | exact HJ⟩
              case measure => simp [intOf]; omega
            | true =>
              rw [hg] at q7
              cases hs : L[j].sh with
              | true =>
                rw [hs] at q8
                go_wp2_with fail
                go_quiet (fail)
                rename_i nq
                have HN := Hid.mk' (HJ.out.keep (below_drewN (Below.refl _ _) nq))
                go_wp2
                go_roundw
                case rel => exact ⟨j + 1, by go_num, by omega, by first | exact HN | exact HJ⟩
                case measure => simp [intOf]; omega
              | false =>
                rw [hs] at q8
                have hhs : ∀ W', Below wr.heap.size wr W' → Calls Tryd.prog 25 #[.pointer (some ⟨t, 0, none⟩), .int .i64 tx, (L[j].ob).v, .int .i64 L[j].md] W' fun e w' => e = .returned (.bool true) ∧ Below W'.heap.size W' w' := fun W' hb => by
                  have := (HJ.out.keep hb).pt.has tx L[j].ob L[j].md
                  rw [HST.out ht hg hs] at this
                  exact this.mono (fun e w' ⟨h1, _, h3⟩ => ⟨h1, h3⟩)
                have HHS := Hid.mk' hhs
                have hkk : ∀ W', Below wr.heap.size wr W' → Below wr.heap.size wr W' ∧ W'.cell? ⟨g3, j * 9, none⟩ = some (.int .i64 tx) ∧ W'.cell? ⟨g3, j * 9 + 1, none⟩ = some (.int .i64 L[j].ob.sp) ∧ W'.cell? ⟨g3, j * 9 + 2, none⟩ = some (.string L[j].ob.tb) ∧ W'.cell? ⟨g3, j * 9 + 3, none⟩ = some (.string L[j].ob.lo) ∧ W'.cell? ⟨g3, j * 9 + 4, none⟩ = some (.string L[j].ob.hi) ∧ W'.cell? ⟨g3, j * 9 + 5, none⟩ = some (.bool L[j].ob.en) ∧ W'.cell? ⟨g3, j * 9 + 6, none⟩ = some (.int .i64 L[j].md) ∧ W'.cell? ⟨g3, j * 9 + 7, none⟩ = some (.bool true) ∧ W'.cell? ⟨g3, j * 9 + 8, none⟩ = some (.bool false) := fun W' hb => ⟨hb, cell_keep hb q0, cell_keep hb HQ.out.c1, cell_keep hb HQ.out.c2, cell_keep hb HQ.out.c3, cell_keep hb HQ.out.c4, cell_keep hb HQ.out.c5, cell_keep hb HQ.out.c6, cell_keep hb q7, cell_keep hb q8⟩
                have HKK := Hid.mk' hkk
                clear hkk hhs HQ HST
                generalize L[j].ob = ob at *
                generalize L[j].md = om at *
                obtain ⟨os, ot, ol, oh, oen⟩ := ob
                simp only [Ob.v] at HHS
                simp only at HKK
                go_wp2_with fail
                go_region_held3 (fun W' => Below wr.heap.size wr W' ∧ W'.cell? ⟨g3, j * 9, none⟩ = some (.int .i64 tx) ∧ W'.cell? ⟨g3, j * 9 + 1, none⟩ = some (.int .i64 os) ∧ W'.cell? ⟨g3, j * 9 + 2, none⟩ = some (.string ot) ∧ W'.cell? ⟨g3, j * 9 + 3, none⟩ = some (.string ol) ∧ W'.cell? ⟨g3, j * 9 + 4, none⟩ = some (.string oh) ∧ W'.cell? ⟨g3, j * 9 + 5, none⟩ = some (.bool oen) ∧ W'.cell? ⟨g3, j * 9 + 6, none⟩ = some (.int .i64 om) ∧ W'.cell? ⟨g3, j * 9 + 7, none⟩ = some (.bool true) ∧ W'.cell? ⟨g3, j * 9 + 8, none⟩ = some (.bool false))
                  ((refine HKK.out _ ?_; first | with_reducible assumption | with_reducible exact (Below.refl _ _).drew | with_reducible exact Below.refl _ _))
                  ((go_at_call 25; refine (HHS.out _ (keepW (by with_reducible assumption))).mono ?_; rintro e w' ⟨rfl, hb⟩; have hk' := keepF11 (by with_reducible assumption) hb; clear hb))
                all_goals
                  have HN := Hid.mk' (HJ.out.keep hk')
                  go_wp2
                  go_roundw
                  case rel => exact ⟨j + 1, by go_num, by omega, HN⟩
                  case measure => simp [intOf]; omega
          · have ht2 : (L[j].tx == tx) = false := by simpa using ht
            generalize L[j].tx = xt at *
            go_wp2_with fail
            go_quiet (fail)
            rename_i nq
            have HN := Hid.mk' (HJ.out.keep (below_drewN (Below.refl _ _) nq))
            go_wp2
            go_roundw
            case rel => exact ⟨j + 1, by go_num, by omega, by first | exact HN | exact HJ⟩
            case measure => simp [intOf]; omega
        · have tj : ¬ (j : Int) < (L.length : Int) := by omega
          have hen := HJ.out.pt.end_ tx
          have HEN := Hid.mk' (fun (r : Rq) (hr : r ∈ (endF L2 tx true).1) => end_none hr)
          have HJB := Hid.mk' HJ.out.b
          clear H6
          go_wp2_with fail
          refine hen.mono ?_
          rintro e w7 ⟨a7, m7, cp7, rfl, _, hp7, hb7⟩
          have H7 := Hid.mk' (And.intro hp7 (HJB.out.trans hb7))
          generalize (endF L2 tx true).1 = L3 at *
          clear hen hp7 hb7 HJB HJ
          have hlen3 := H7.out.1.len
          obtain ⟨lv7, hT7⟩ := H7.out.1.tb
          have hls7 := plist_any hT7 (by omega)
          clear hT7
          go_wp2_with fail
          refine hls7.mono ?_
          rintro e w8 ⟨v8, rfl, ho8, hb8⟩
          obtain ⟨a8, c8, rfl, hq8⟩ := CloneTo.list ho8
          have H8 := Hid.mk' (And.intro hq8 (keepA H7.out.2 hb8))
          have hc8 := hq8.le
          clear hls7 ho8 hb8 hq8 H7
          go_wp2_with fail
          go_loopw [13] (fun x wr => ∃ k : Nat, x = .int .i64 k ∧ k ≤ L3.length ∧ wr = w8) (fun x _ => L3.length - (intOf x).toNat)
          case atStart => exact ⟨0, rfl, by omega, rfl⟩
          case round =>
            obtain ⟨k, rfl, hk, rfl⟩ := hrel
            by_cases hkl : k < L3.length
            · have tk : (k : Int) < (L3.length : Int) := by omega
              obtain ⟨g8, rfl, hqk⟩ := H8.out.1.at_ hkl
              have k0 := hqk.c0
              have hne := HEN.out L3[k] (List.getElem_mem hkl)
              have hne2 : (L3[k].tx == tx) = false := by simpa using hne
              clear hqk hne
              generalize L3[k].tx = xk at *
              go_wp2_with fail
              go_roundw
              case rel => exact ⟨k + 1, by go_num, by omega, by first | rfl | trivial⟩
              case measure => simp [intOf]; omega
            · have tk : ¬ (k : Int) < (L3.length : Int) := by omega
              go_wp2_with fail
              go_ret
              exact ⟨rfl, H8.out.2⟩
end Go.Proofs.YtimcihfngnggaaaDoor

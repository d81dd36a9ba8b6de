/- The walk of the law LocksOdds. -/
import Derived.Test.YtimcihfngnggaaaDoorL11PL
import Derived.Test.YtimcihfngnggaaaDoorL11I
namespace Go.Proofs.YtimcihfngnggaaaDoor
open Go.RowKit Go.Joins Go.Maps Go.Shelf
set_option linter.unusedVariables false
set_option linter.unusedSimpArgs false

theorem Ops11.below {w w' : World} {v : Value} {rs : List Op11} (h : Ops11 w v rs) (hb : Below w.heap.size w w') : Ops11 w' v rs := by
  obtain ⟨ao, cap, h1, h2, h3⟩ := h
  refine ⟨ao, cap, h1, h2, h3.imp id (fun ⟨g, o, e, hX⟩ => ⟨g, o, e, fun k hk j u hu => cell_keep hb (hX k hk j u hu)⟩)⟩
set_option maxRecDepth 100000 in
set_option maxHeartbeats 4000000 in
theorem odds_law (v : Value) (rs : List Op11) (w : World) (hx : Ops11 w v rs) (hL : LibW w) :
    Calls Tryd.prog 4 #[v] w fun e w' => e = .returned (.bool true) ∧ Below w.heap.size w w' := by
  have HX : Hid (Ops11 w v rs ∧ LibW w) := ⟨hx, hL⟩
  obtain ⟨ao, cap, rfl, hcap, _⟩ := hx
  clear hL
  go_enter Tryd.func4, Tryd.ntmps4
  go_wp2_with fail
  go_loopw [3] (fun x wr => ∃ k : Nat, x = .int .i64 k ∧ 1 ≤ k ∧ k ≤ rs.length + 1 ∧ Hid (Below w.heap.size w wr)) (fun x _ => rs.length + 1 - (intOf x).toNat)
  case atStart => exact ⟨1, rfl, by omega, by omega, Below.refl _ _⟩
  case round =>
    obtain ⟨n, rfl, hn1, hn2, HB⟩ := hrel
    by_cases hlt : n ≤ rs.length
    · have tk : (n : Int) ≤ (rs.length : Int) := by omega
      by_cases h40 : n ≤ 40
      · have t40 : (n : Int) ≤ 40 := by omega
        have hpl := play_any (HX.out.1.below HB.out) (HX.out.2.keep HB.out) n (by omega) (by omega)
        go_wp2_with fail
        refine hpl.mono ?_
        rintro e w1 ⟨t, rfl, hP, hb1⟩
        have H1 := Hid.mk' (And.intro hP (And.intro (keepA HB.out hb1) (HX.out.2.keep (keepA HB.out hb1))))
        generalize runF 500 (rs.take (n : Int).toNat) = L at *
        clear hpl hP hb1 HB
        go_wp2_with fail
        refine (alive_any _ H1.out.2.2).mono ?_
        rintro e w2 ⟨rfl, hb2⟩
        have H2 := Hid.mk' (And.intro (H1.out.1.keep hb2) (keepA H1.out.2.1 hb2))
        clear H1 hb2
        have hlen := H2.out.1.len
        obtain ⟨lv, hT⟩ := H2.out.1.tb
        have hls := plist_any hT (by omega)
        clear hT
        go_wp2_with fail
        refine hls.mono ?_
        rintro e w3 ⟨v3, rfl, ho3, hb3⟩
        obtain ⟨a3, c3, rfl, hq3⟩ := CloneTo.list ho3
        have H3 := Hid.mk' (And.intro H2.out.1.inv (And.intro hq3 (keepA H2.out.2 hb3)))
        clear H2 hls ho3 hq3 hb3
        have hod := odds_no H3.out.2.1 (by omega) H3.out.1.odds
        go_wp2_with fail
        refine hod.mono ?_
        rintro e w4 ⟨rfl, hb4⟩
        have H4 := Hid.mk' (And.intro H3.out.1 (And.intro (H3.out.2.1.keep hb4) (keepA H3.out.2.2 hb4)))
        clear H3 hod hb4
        have hrd := ready_no H4.out.2.1 (by omega) (fun j => by
          cases hm : isMay L j with
          | false => rfl
          | true =>
            obtain ⟨pre, r, suf, e1, e2, e3, e4⟩ := isMay_form hm
            rw [H4.out.1.ready pre r suf e1 e3] at e4
            cases e4)
        go_wp2_with fail
        refine hrd.mono ?_
        rintro e w5 ⟨rfl, hb5⟩
        have H5 := Hid.mk' (And.intro H4.out.1 (And.intro (H4.out.2.1.keep hb5) (keepA H4.out.2.2 hb5)))
        clear H4 hrd hb5
        have hl3 := H5.out.2.1.le
        go_wp2_with fail
        go_loopw [8] (fun x wr => ∃ i : Nat, x = .int .i64 i ∧ i ≤ L.length ∧ ∃ q, wr = w5.drewN q) (fun x _ => L.length - (intOf x).toNat)
        case atStart => exact ⟨0, rfl, by omega, 0, rfl⟩
        case round =>
          obtain ⟨i, rfl, hi, q, rfl⟩ := hrel
          by_cases hil : i < L.length
          · have ti : (i : Int) < (L.length : Int) := by omega
            go_wp2_with fail
            go_loopw [9] (fun x wr => ∃ k : Nat, x = .int .i64 k ∧ k ≤ i ∧ ∃ q', wr = w5.drewN q') (fun x _ => i - (intOf x).toNat)
            case atStart => exact ⟨0, rfl, by omega, q, rfl⟩
            case round =>
              obtain ⟨k, rfl, hk, q', rfl⟩ := hrel
              by_cases hki : k < i
              · have tki : (k : Int) < (i : Int) := by omega
                have hkl : k < L.length := by omega
                have tkl : (k : Int) < (L.length : Int) := by omega
                obtain ⟨g, rfl, hqi⟩ := H5.out.2.1.at_ hil
                obtain ⟨g2, eg, hqk⟩ := H5.out.2.1.at_ hkl
                cases eg
                have hone := List.pairwise_iff_getElem.1 H5.out.1.one k i hkl hil hki
                have i0 := hqi.c0
                have i7 := hqi.c7
                have k0 := hqk.c0
                have k7 := hqk.c7
                clear hqi hqk
                generalize L[i].tx = xi at *
                generalize L[i].gr = gi at *
                generalize L[k].tx = xk at *
                generalize L[k].gr = gk at *
                by_cases ht : xi = xk
                · subst ht
                  cases gi with
                  | true =>
                    go_wp2_with fail
                    go_quiet (fail)
                    go_wp2
                    go_roundw
                    case rel => exact ⟨k + 1, by go_num, by omega, _, by first | rfl | trivial⟩
                    case measure => simp [intOf]; omega
                  | false =>
                    cases gk with
                    | true =>
                      go_wp2_with fail
                      go_quiet (fail)
                      go_wp2
                      go_roundw
                      case rel => exact ⟨k + 1, by go_num, by omega, _, by first | rfl | trivial⟩
                      case measure => simp [intOf]; omega
                    | false => exact absurd rfl (hone rfl rfl)
                · have ht2 : (xi == xk) = false := by simpa using ht
                  go_wp2_with fail
                  go_quiet (fail)
                  go_wp2
                  go_roundw
                  case rel => exact ⟨k + 1, by go_num, by omega, _, by first | rfl | trivial⟩
                  case measure => simp [intOf]; omega
              · have tki : ¬ (k : Int) < (i : Int) := by omega
                go_wp2_with fail
                go_roundw
                case rel => exact ⟨i + 1, by go_num, by omega, _, by first | rfl | trivial⟩
                case measure => simp [intOf]; omega
          · have ti : ¬ (i : Int) < (L.length : Int) := by omega
            have HE : Hid (Below w.heap.size w (w5.drewN q)) := keepA H5.out.2.2 (below_drewN (Below.refl _ _) q)
            go_wp2_with fail
            go_roundw
            case rel => exact ⟨n + 1, by go_num, by omega, by omega, HE⟩
            case measure => simp [intOf]; omega
      · have t40 : ¬ (n : Int) ≤ 40 := by omega
        go_wp2_with fail
        go_ret
        exact ⟨rfl, HB.out⟩
    · have tk : ¬ (n : Int) ≤ (rs.length : Int) := by omega
      go_wp2_with fail
      go_ret
      exact ⟨rfl, HB.out⟩
end Go.Proofs.YtimcihfngnggaaaDoor

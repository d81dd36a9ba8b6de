/- The document's Odds: no two granted requests clash both ways. -/
import Derived.Test.YtimcihfngnggaaaDoorL11H
namespace Go.Proofs.YtimcihfngnggaaaDoor
open Go.RowKit Go.Joins
set_option linter.unusedVariables false
set_option linter.unusedSimpArgs false

theorem keepXY {wq w' : World} {g k i : Nat} {xt yt sa sb xm ym : Int} {ta la ua tb lb' ub : ByteArray} {na nb xg xs yg ys : Bool} (hx : RqAt wq g k ⟨xt, ⟨sa, ta, la, ua, na⟩, xm, xg, xs⟩) (hy : RqAt wq g i ⟨yt, ⟨sb, tb, lb', ub, nb⟩, ym, yg, ys⟩) (hb : Below wq.heap.size wq w') : Below wq.heap.size wq w' ∧ w'.cell? ⟨g, k * 9, none⟩ = some (.int .i64 xt) ∧ w'.cell? ⟨g, k * 9 + 1, none⟩ = some (.int .i64 sa) ∧ w'.cell? ⟨g, k * 9 + 2, none⟩ = some (.string ta) ∧ w'.cell? ⟨g, k * 9 + 3, none⟩ = some (.string la) ∧ w'.cell? ⟨g, k * 9 + 4, none⟩ = some (.string ua) ∧ w'.cell? ⟨g, k * 9 + 5, none⟩ = some (.bool na) ∧ w'.cell? ⟨g, k * 9 + 6, none⟩ = some (.int .i64 xm) ∧ w'.cell? ⟨g, k * 9 + 7, none⟩ = some (.bool xg) ∧ w'.cell? ⟨g, k * 9 + 8, none⟩ = some (.bool xs) ∧ w'.cell? ⟨g, i * 9, none⟩ = some (.int .i64 yt) ∧ w'.cell? ⟨g, i * 9 + 1, none⟩ = some (.int .i64 sb) ∧ w'.cell? ⟨g, i * 9 + 2, none⟩ = some (.string tb) ∧ w'.cell? ⟨g, i * 9 + 3, none⟩ = some (.string lb') ∧ w'.cell? ⟨g, i * 9 + 4, none⟩ = some (.string ub) ∧ w'.cell? ⟨g, i * 9 + 5, none⟩ = some (.bool nb) ∧ w'.cell? ⟨g, i * 9 + 6, none⟩ = some (.int .i64 ym) ∧ w'.cell? ⟨g, i * 9 + 7, none⟩ = some (.bool yg) ∧ w'.cell? ⟨g, i * 9 + 8, none⟩ = some (.bool ys) :=
  have P := hx.keep hb
  have Q := hy.keep hb
  ⟨hb, P.c0, P.c1, P.c2, P.c3, P.c4, P.c5, P.c6, P.c7, P.c8, Q.c0, Q.c1, Q.c2, Q.c3, Q.c4, Q.c5, Q.c6, Q.c7, Q.c8⟩
set_option maxRecDepth 100000 in
set_option maxHeartbeats 8000000 in
theorem odds_no {w : World} {ao : Option Addr} {cap : Nat} {L : List Rq} (h : QList w ao cap L) (hl : L.length ≤ 1000000) (ho : L.Pairwise fun a b => a.gr = true → b.gr = true → ¬ (ag a b = true ∧ ag b a = true)) :
    Calls Tryd.prog 28 #[.slice ao L.length cap] w fun e w' => e = .returned (.bool false) ∧ Below w.heap.size w w' := by
  have HL : Hid (QList w ao cap L) := h
  have HO : Hid (∀ k i (hk : k < L.length) (hi : i < L.length), k < i → L[k].gr = true → L[i].gr = true → ¬ (ag L[k] L[i] = true ∧ ag L[i] L[k] = true)) := fun k i hk hi hki => List.pairwise_iff_getElem.1 ho k i hk hi hki
  have hle := h.le
  clear h ho
  go_enter Tryd.func28, Tryd.ntmps28
  go_wp2_with fail
  go_loopw [3] (fun x wr => ∃ i : Nat, x = .int .i64 i ∧ i ≤ L.length ∧ Hid (Below w.heap.size w wr)) (fun x _ => L.length - (intOf x).toNat)
  case atStart => exact ⟨0, rfl, Nat.zero_le _, Below.refl _ _⟩
  case round =>
    rename World => wr
    obtain ⟨i, rfl, hi, HB⟩ := hrel
    by_cases hlt : i < L.length
    · have ti : decide ((i : Int) < (L.length : Int)) = true := decide_eq_true (by omega)
      have hi2 : (i : Int) < (L.length : Int) := by omega
      go_wp2_with fail
      go_loopw [4] (fun x wq => ∃ k : Nat, x = .int .i64 k ∧ k ≤ i ∧ Hid (Below w.heap.size w wq)) (fun x _ => i - (intOf x).toNat)
      case atStart => exact ⟨0, rfl, Nat.zero_le _, HB⟩
      case round =>
        rename World => wq
        obtain ⟨k, rfl, hk, HB1⟩ := hrel
        by_cases hki : k < i
        · have tk : decide ((k : Int) < (i : Int)) = true := decide_eq_true (by omega)
          have hkl : k < L.length := by omega
          have hk2 : (k : Int) < (L.length : Int) := by omega
          have HQ := HL.out.keep HB1.out
          obtain ⟨g, rfl, hqk⟩ := HQ.at_ hkl
          obtain ⟨g', e', hqi⟩ := HQ.at_ hlt
          cases e'
          have hodd := HO.out k i hkl hlt hki
          have hb0 := HB1.out
          generalize L[k] = x at *
          generalize L[i] = y at *
          obtain ⟨xt, ⟨sa, ta, la, ua, na⟩, xm, xg, xs⟩ := x
          obtain ⟨yt, ⟨sb, tb, lb', ub, nb⟩, ym, yg, ys⟩ := y
          have h1 := fun w => against_ref ⟨xt, ⟨sa, ta, la, ua, na⟩, xm, xg, xs⟩ ⟨yt, ⟨sb, tb, lb', ub, nb⟩, ym, yg, ys⟩ w
          have h2 := fun w => against_ref ⟨yt, ⟨sb, tb, lb', ub, nb⟩, ym, yg, ys⟩ ⟨xt, ⟨sa, ta, la, ua, na⟩, xm, xg, xs⟩ w
          simp only [Rq.v] at h1 h2 hodd
          generalize ag ⟨xt, ⟨sa, ta, la, ua, na⟩, xm, xg, xs⟩ ⟨yt, ⟨sb, tb, lb', ub, nb⟩, ym, yg, ys⟩ = p at *
          generalize ag ⟨yt, ⟨sb, tb, lb', ub, nb⟩, ym, yg, ys⟩ ⟨xt, ⟨sa, ta, la, ua, na⟩, xm, xg, xs⟩ = q at *
          clear HQ
          go_wp2_with fail
          go_region_held3 (fun w' => Below wq.heap.size wq w' ∧ w'.cell? ⟨g, k * 9, none⟩ = some (.int .i64 xt) ∧ w'.cell? ⟨g, k * 9 + 1, none⟩ = some (.int .i64 sa) ∧ w'.cell? ⟨g, k * 9 + 2, none⟩ = some (.string ta) ∧ w'.cell? ⟨g, k * 9 + 3, none⟩ = some (.string la) ∧ w'.cell? ⟨g, k * 9 + 4, none⟩ = some (.string ua) ∧ w'.cell? ⟨g, k * 9 + 5, none⟩ = some (.bool na) ∧ w'.cell? ⟨g, k * 9 + 6, none⟩ = some (.int .i64 xm) ∧ w'.cell? ⟨g, k * 9 + 7, none⟩ = some (.bool xg) ∧ w'.cell? ⟨g, k * 9 + 8, none⟩ = some (.bool xs) ∧ w'.cell? ⟨g, i * 9, none⟩ = some (.int .i64 yt) ∧ w'.cell? ⟨g, i * 9 + 1, none⟩ = some (.int .i64 sb) ∧ w'.cell? ⟨g, i * 9 + 2, none⟩ = some (.string tb) ∧ w'.cell? ⟨g, i * 9 + 3, none⟩ = some (.string lb') ∧ w'.cell? ⟨g, i * 9 + 4, none⟩ = some (.string ub) ∧ w'.cell? ⟨g, i * 9 + 5, none⟩ = some (.bool nb) ∧ w'.cell? ⟨g, i * 9 + 6, none⟩ = some (.int .i64 ym) ∧ w'.cell? ⟨g, i * 9 + 7, none⟩ = some (.bool yg) ∧ w'.cell? ⟨g, i * 9 + 8, none⟩ = some (.bool ys)) (first | exact keepXY hqk hqi (by assumption) | exact keepXY hqk hqi (Below.refl _ _).drew | exact keepXY hqk hqi (Below.refl _ _))
            ((go_at_call 53; refine (h1 _).mono ?_; rintro e w' ⟨rfl, hb⟩; have hk' := keepF11 (by assumption) hb; clear hb))
          all_goals go_wp2_with fail
          rename World => w1
          have hc := hk'
          clear hk'
          go_region_held3 (fun w' => Below wq.heap.size wq w' ∧ w'.cell? ⟨g, k * 9, none⟩ = some (.int .i64 xt) ∧ w'.cell? ⟨g, k * 9 + 1, none⟩ = some (.int .i64 sa) ∧ w'.cell? ⟨g, k * 9 + 2, none⟩ = some (.string ta) ∧ w'.cell? ⟨g, k * 9 + 3, none⟩ = some (.string la) ∧ w'.cell? ⟨g, k * 9 + 4, none⟩ = some (.string ua) ∧ w'.cell? ⟨g, k * 9 + 5, none⟩ = some (.bool na) ∧ w'.cell? ⟨g, k * 9 + 6, none⟩ = some (.int .i64 xm) ∧ w'.cell? ⟨g, k * 9 + 7, none⟩ = some (.bool xg) ∧ w'.cell? ⟨g, k * 9 + 8, none⟩ = some (.bool xs) ∧ w'.cell? ⟨g, i * 9, none⟩ = some (.int .i64 yt) ∧ w'.cell? ⟨g, i * 9 + 1, none⟩ = some (.int .i64 sb) ∧ w'.cell? ⟨g, i * 9 + 2, none⟩ = some (.string tb) ∧ w'.cell? ⟨g, i * 9 + 3, none⟩ = some (.string lb') ∧ w'.cell? ⟨g, i * 9 + 4, none⟩ = some (.string ub) ∧ w'.cell? ⟨g, i * 9 + 5, none⟩ = some (.bool nb) ∧ w'.cell? ⟨g, i * 9 + 6, none⟩ = some (.int .i64 ym) ∧ w'.cell? ⟨g, i * 9 + 7, none⟩ = some (.bool yg) ∧ w'.cell? ⟨g, i * 9 + 8, none⟩ = some (.bool ys)) (first | exact keepXY hqk hqi (by assumption) | exact keepXY hqk hqi (Below.drew (by assumption)))
            ((go_at_call 53; refine (h2 _).mono ?_; rintro e w' ⟨rfl, hb⟩; have hk' := keepF11 (by assumption) hb; clear hb))
          all_goals (
            rename World => w2
            clear hc h1 h2
            have q7 := (hqk.keep hk').c7
            have r7 := (hqi.keep hk').c7
            have HB2 : Hid (Below w.heap.size w w2) := keepA hb0 hk'
            simp only at q7 r7
            clear hk' hqk hqi hb0
            cases yg <;> cases xg <;> cases p <;> cases q
            all_goals first | exact absurd ⟨rfl, rfl⟩ (hodd rfl rfl) | (
              clear hodd
              go_wp2_with fail
              go_roundw
              case rel => exact ⟨k + 1, by go_num, by omega, HB2⟩
              case measure => simp [intOf]; omega))
        · have tk : decide ((k : Int) < (i : Int)) = false := decide_eq_false (by omega)
          go_wp2_with fail
          go_roundw
          case rel => exact ⟨i + 1, by go_num, by omega, HB1⟩
          case measure => simp [intOf]; omega
    · have ti : decide ((i : Int) < (L.length : Int)) = false := decide_eq_false (by omega)
      go_wp2_with fail
      go_ret
      exact ⟨rfl, HB.out⟩
end Go.Proofs.YtimcihfngnggaaaDoor

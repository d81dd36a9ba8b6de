/- The document's table of locks: conversion. -/
import Derived.Test.YtmldpbgdjlblmaaDoorL11B
import Derived.Deep.QuietTactic
import Derived.BigQuiet
namespace Go.Proofs.YtmldpbgdjlblmaaDoor
open Go.RowKit Go.Joins
set_option linter.unusedVariables false
set_option linter.unusedSimpArgs false

/-- Are two objects one? As the model asks it. -/
theorem run_eql_obj (w : World) (sa sb : Int) (ta la ua tb lb' ub : ByteArray) (na nb : Bool) : (binOp .eql 33 (.agg #[.int .i64 sa, .string ta, .string la, .string ua, .bool na]) (.agg #[.int .i64 sb, .string tb, .string lb', .string ub, .bool nb])).run Tryd.prog w = .ok (.bool (oe ⟨sa, ta, la, ua, na⟩ ⟨sb, tb, lb', ub, nb⟩)) w := by
  simp only [oe]
  go_simp
  repeat' split
  all_goals simp_all
theorem chain_obj (sa sb : Int) (ta la ua tb lb' ub : ByteArray) (na nb : Bool) (w : World) : (if sa = sb then if ta.toList = tb.toList then if la.toList = lb'.toList then if ua.toList = ub.toList then if na = nb then Result.ok (Value.bool true) w else Result.ok (Value.bool false) w else Result.ok (Value.bool false) w else Result.ok (Value.bool false) w else Result.ok (Value.bool false) w else Result.ok (Value.bool false) w) = Result.ok (Value.bool (oe ⟨sa, ta, la, ua, na⟩ ⟨sb, tb, lb', ub, nb⟩)) w := by
  simp only [oe]
  repeat' split
  all_goals simp_all
def cgB (r : Rq) (g : Rq) : Bool := cg g r
set_option maxRecDepth 100000 in
set_option maxHeartbeats 8000000 in
theorem rconv_any {w : World} {t : Nat} {most : Int} {ao : Option Addr} {cap : Nat} {L : List Rq} (h : QTab w t most ao cap L) (hl : L.length ≤ 1000000) {i : Nat} (hi : i < L.length) :
    Calls Tryd.prog 68 #[.pointer (some ⟨t, 0, none⟩), .int .i64 i] w fun e w' => e = .returned (.bool (cvn (L.take i) L[i])) ∧ ∃ q, w' = w.drewN q := by
  have c1 := h.l
  have hle := h.le
  obtain ⟨g, rfl, hqi⟩ := h.at_ hi
  have HT : Hid (QTab w t most (some ⟨g, 0, none⟩) cap L) := h
  have HQI : Hid (RqAt w g i L[i]) := hqi
  have hi2 : (i : Int) < (L.length : Int) := by omega
  clear h hqi
  go_enter Tryd.func68, Tryd.ntmps68
  go_wp2_with fail
  go_loopw [5] (fun x wr => ∃ k : Nat, x = .int .i64 k ∧ k ≤ i ∧ Hid (∀ j (hj : j < L.length), j < k → cgB L[i] L[j] = false) ∧ ∃ q, wr = w.drewN q) (fun x _ => i - (intOf x).toNat)
  case atStart => exact ⟨0, rfl, Nat.zero_le _, fun j _ hj => by omega, 0, rfl⟩
  case round =>
    obtain ⟨k, rfl, hk, HN, q, rfl⟩ := hrel
    by_cases hlt : k < i
    · have tk : decide ((k : Int) < (i : Int)) = true := decide_eq_true (by omega)
      obtain ⟨g', e', hq⟩ := HT.out.at_ (show k < L.length by omega)
      cases e'
      have hkL : k < L.length := by omega
      have hk2 : (k : Int) < (L.length : Int) := by omega
      obtain ⟨p0, p1, p2, p3, p4, p5, p6, p7, p8⟩ := hq
      obtain ⟨r0, r1, r2, r3, r4, r5, r6, r7, r8⟩ := HQI.out
      have c1' : (w.drewN q).cell? ⟨t, 1, none⟩ = some (.slice (some ⟨g, 0, none⟩) L.length cap) := c1
      cases hg : L[k].gr with
      | false =>
        have HS : Hid (∀ j (hj : j < L.length), j < k + 1 → cgB L[i] L[j] = false) := miss_succ (p := cgB L[i]) hkL HN.out (by simp [cgB, cg, hg])
        rw [hg] at p7
        clear HN hg
        go_wp2_with fail
        go_quiet (fail)
        go_wp2
        go_roundw
        case rel => exact ⟨k + 1, by go_num, by omega, HS, _, by first | rfl | trivial⟩
        case measure => simp [intOf]; omega
      | true =>
        rw [hg] at p7
        by_cases hx : L[k].tx = L[i].tx
        · rw [hx] at p0
          have hch := chain_obj L[k].ob.sp L[i].ob.sp L[k].ob.tb L[k].ob.lo L[k].ob.hi L[i].ob.tb L[i].ob.lo L[i].ob.hi L[k].ob.en L[i].ob.en
          have hoe : cgB L[i] L[k] = oe ⟨L[k].ob.sp, L[k].ob.tb, L[k].ob.lo, L[k].ob.hi, L[k].ob.en⟩ ⟨L[i].ob.sp, L[i].ob.tb, L[i].ob.lo, L[i].ob.hi, L[i].ob.en⟩ := by simp only [cgB, cg, hg, hx]; simp
          cases hc : oe ⟨L[k].ob.sp, L[k].ob.tb, L[k].ob.lo, L[k].ob.hi, L[k].ob.en⟩ ⟨L[i].ob.sp, L[i].ob.tb, L[i].ob.lo, L[i].ob.hi, L[i].ob.en⟩ with
          | false =>
            rw [hc] at hoe hch
            have HS : Hid (∀ j (hj : j < L.length), j < k + 1 → cgB L[i] L[j] = false) := miss_succ (p := cgB L[i]) hkL HN.out hoe
            clear HN hg hx hc hoe p6 p8 r6 r7 r8
            generalize L[k].ob.sp = ks at *
            generalize L[k].ob.tb = kt at *
            generalize L[k].ob.lo = kl' at *
            generalize L[k].ob.hi = kh at *
            generalize L[k].ob.en = ke at *
            go_wp2_with fail
            go_quiet (fail)
            go_wp2
            go_roundw
            case rel => exact ⟨k + 1, by go_num, by omega, HS, _, by first | rfl | trivial⟩
            case measure => simp [intOf]; omega
          | true =>
            rw [hc] at hoe hch
            have HF : Hid (cvn (L.take i) L[i] = true) := by
              show (L.take i).any _ = true
              rw [List.any_eq_true]
              exact ⟨L[k], by rw [List.mem_take_iff_getElem]; exact ⟨k, by omega, rfl⟩, hoe⟩
            clear HN hg hx hc hoe p6 p8 r6 r7 r8
            go_wp2_with fail
            go_quiet (fail)
            rename_i nq
            go_wp2
            go_ret
            exact ⟨by rw [HF.out]; rfl, by first | exact ⟨q + nq, rfl⟩ | exact ⟨q + nq, by simp [World.drewN, Nat.add_assoc]⟩ | exact ⟨nq + q, by simp [World.drewN, Nat.add_assoc, Nat.add_comm]⟩⟩
        · have HS : Hid (∀ j (hj : j < L.length), j < k + 1 → cgB L[i] L[j] = false) := miss_succ (p := cgB L[i]) hkL HN.out (by simp [cgB, cg, hx])
          have hx2 : (L[k].tx == L[i].tx) = false := by simpa using hx
          clear HN hg p1 p2 p3 p4 p5 p6 p8 r1 r2 r3 r4 r5 r6 r7 r8 HQI
          generalize L[k].tx = xt at *
          generalize L[i].tx = yt at *
          go_wp2_with fail
          go_quiet (fail)
          go_wp2
          go_roundw
          case rel => exact ⟨k + 1, by go_num, by omega, HS, _, by first | rfl | trivial⟩
          case measure => simp [intOf]; omega
    · have tk : decide ((k : Int) < (i : Int)) = false := decide_eq_false (by omega)
      obtain rfl : k = i := by omega
      have HF : Hid (cvn (L.take k) L[k] = false) := by
        show (L.take k).any _ = false
        rw [List.any_eq_false]
        intro x hx
        rw [List.mem_take_iff_getElem] at hx
        obtain ⟨j, hj, rfl⟩ := hx
        have := HN.out j (by omega) (by omega)
        simpa [cgB] using this
      have c1' : (w.drewN q).cell? ⟨t, 1, none⟩ = some (.slice (some ⟨g, 0, none⟩) L.length cap) := c1
      clear HN
      go_wp2_with fail
      go_ret
      exact ⟨by rw [HF.out]; rfl, _, rfl⟩
end Go.Proofs.YtmldpbgdjlblmaaDoor

/- The document's words over lists of requests: Same, Odds, Ready. -/
import Derived.Test.YtmldpbgdjlblmaaDoorL11G
namespace Go.Proofs.YtmldpbgdjlblmaaDoor
open Go.RowKit Go.Joins
set_option linter.unusedVariables false
set_option linter.unusedSimpArgs false

/-- A list of requests, as it is read. -/
structure QList (w : World) (ao : Option Addr) (cap : Nat) (L : List Rq) : Prop where
  le : L.length ≤ cap
  row : L = [] ∨ ∃ g, ao = some ⟨g, 0, none⟩ ∧ ∀ k (h : k < L.length), RqAt w g k L[k]
theorem QList.keep {w w' : World} {ao : Option Addr} {cap : Nat} {L : List Rq} (h : QList w ao cap L) (hb : Below w.heap.size w w') : QList w' ao cap L :=
  ⟨h.le, h.row.imp id (fun ⟨g, e, hX⟩ => ⟨g, e, fun k hk => (hX k hk).keep hb⟩)⟩
theorem QList.at_ {w : World} {ao : Option Addr} {cap : Nat} {L : List Rq} (h : QList w ao cap L) {k : Nat} (hk : k < L.length) : ∃ g, ao = some ⟨g, 0, none⟩ ∧ RqAt w g k L[k] := by
  rcases h.row with h0 | ⟨g, e, hX⟩
  · rw [h0] at hk; simp at hk
  · exact ⟨g, e, hX k hk⟩
set_option maxRecDepth 100000 in
set_option maxHeartbeats 8000000 in
theorem sameQ_eq {w : World} {a1 a2 : Option Addr} {c1 c2 : Nat} {L : List Rq} (h1 : QList w a1 c1 L) (h2 : QList w a2 c2 L) (hl : L.length ≤ 1000000) :
    Calls Tryd.prog 18 #[.slice a1 L.length c1, .slice a2 L.length c2] w fun e w' => e = .returned (.bool true) ∧ ∃ q, w' = w.drewN q := by
  have H1 : Hid (QList w a1 c1 L) := h1
  have H2 : Hid (QList w a2 c2 L) := h2
  have l1 := h1.le
  have l2 := h2.le
  clear h1 h2
  go_enter Tryd.func18, Tryd.ntmps18
  go_wp2_with fail
  go_loopw [5] (fun x wr => ∃ k : Nat, x = .int .i64 k ∧ k ≤ L.length ∧ ∃ q, wr = w.drewN q) (fun x _ => L.length - (intOf x).toNat)
  case atStart => exact ⟨0, rfl, Nat.zero_le _, 0, rfl⟩
  case round =>
    obtain ⟨k, rfl, hk, q, rfl⟩ := hrel
    by_cases hlt : k < L.length
    · have tk : decide ((k : Int) < (L.length : Int)) = true := decide_eq_true (by omega)
      have hk2 : (k : Int) < (L.length : Int) := by omega
      obtain ⟨g, rfl, hq⟩ := H1.out.at_ hlt
      obtain ⟨g2, rfl, hr⟩ := H2.out.at_ hlt
      obtain ⟨p0, p1, p2, p3, p4, p5, p6, p7, p8⟩ := hq
      obtain ⟨r0, r1, r2, r3, r4, r5, r6, r7, r8⟩ := hr
      generalize L[k] = x at *
      obtain ⟨xt, ⟨sa, ta, la, ua, na⟩, xm, xg, xs⟩ := x
      simp only at p0 p1 p2 p3 p4 p5 p6 p7 p8 r0 r1 r2 r3 r4 r5 r6 r7 r8
      go_wp2_with fail
      go_quiet (fail)
      go_wp2
      go_roundw
      case rel => exact ⟨k + 1, by go_num, by omega, _, by first | rfl | trivial⟩
      case measure => simp [intOf]; omega
    · have tk : decide ((k : Int) < (L.length : Int)) = false := decide_eq_false (by omega)
      go_wp2_with fail
      go_ret
      exact ⟨rfl, _, rfl⟩
set_option maxRecDepth 100000 in
set_option maxHeartbeats 8000000 in
theorem ready_no {w : World} {ao : Option Addr} {cap : Nat} {L : List Rq} (h : QList w ao cap L) (hl : L.length ≤ 1000000) (hr : ∀ j, isMay L j = false) :
    Calls Tryd.prog 29 #[.slice ao L.length cap] w fun e w' => e = .returned (.bool false) ∧ Below w.heap.size w w' := by
  have HL : Hid (QList w ao cap L) := h
  have HM : Hid (∀ j, isMay L j = false) := hr
  have hle := h.le
  have hB0 : Below w.heap.size w (w.alloc (.cells #[.int .i64 (L.length : Nat), .slice ao L.length cap] 31)) := (Below.refl _ _).alloc (Nat.le_refl _) _
  have HT0 : Hid (QTab (w.alloc (.cells #[.int .i64 (L.length : Nat), .slice ao L.length cap] 31)) w.heap.size (L.length : Nat) ao cap L) := ⟨by go_simp, by go_simp, hle, (h.keep hB0).row⟩
  clear h hr
  go_enter Tryd.func29, Tryd.ntmps29
  go_wp2_with fail
  go_loopw [4] (fun x wr => ∃ k : Nat, x = .int .i64 k ∧ k ≤ L.length ∧ Hid (QTab wr w.heap.size (L.length : Nat) ao cap L) ∧ Hid (Below w.heap.size w wr)) (fun x _ => L.length - (intOf x).toNat)
  case atStart => exact ⟨0, rfl, Nat.zero_le _, HT0, hB0⟩
  case round =>
    rename World => wr
    obtain ⟨k, rfl, hk, HT, HB⟩ := hrel
    clear HT0 hB0
    by_cases hlt : k < L.length
    · have tk : decide ((k : Int) < (L.length : Int)) = true := decide_eq_true (by omega)
      have hk2 : (k : Int) < (L.length : Int) := by omega
      obtain ⟨g, rfl, hq⟩ := HT.out.at_ hlt
      have q7 := hq.c7
      have hm := rmay_any HT.out hl hlt
      rw [may_all (List.getElem?_eq_getElem hlt)] at hm
      have hisM : isMay L k = (!L[k].gr && mayP (L.take k) L[k] (L.drop (k + 1))) := by simp only [isMay, List.getElem?_eq_getElem hlt]
      rw [HM.out k] at hisM
      clear hq
      cases hg : L[k].gr with
      | true =>
        rw [hg] at q7
        clear hm hisM hg
        go_wp2_with fail
        go_roundw
        case rel => exact ⟨k + 1, by go_num, by omega, HT, HB⟩
        case measure => simp [intOf]; omega
      | false =>
        rw [hg] at q7 hisM
        have hmf : mayP (L.take k) L[k] (L.drop (k + 1)) = false := by simpa using hisM.symm
        rw [hmf] at hm
        clear hisM hg hmf
        go_wp2_with fail
        refine hm.mono ?_
        clear hm
        rintro e w2 ⟨rfl, hb2⟩
        have HT2 : Hid (QTab w2 w.heap.size (L.length : Nat) (some ⟨g, 0, none⟩) cap L) := HT.out.keep hb2
        have HB2 : Hid (Below w.heap.size w w2) := keepA HB.out hb2
        clear HT HB hb2
        go_wp2_with fail
        go_roundw
        case rel => exact ⟨k + 1, by go_num, by omega, HT2, HB2⟩
        case measure => simp [intOf]; omega
    · have tk : decide ((k : Int) < (L.length : Int)) = false := decide_eq_false (by omega)
      go_wp2_with fail
      go_ret
      exact ⟨rfl, HB.out⟩
end Go.Proofs.YtmldpbgdjlblmaaDoor

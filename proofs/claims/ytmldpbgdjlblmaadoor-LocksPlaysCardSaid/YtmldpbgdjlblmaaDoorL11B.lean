/- The document's table of locks as it is read: Waits. -/
import Derived.Test.YtmldpbgdjlblmaaDoorL11R
namespace Go.Proofs.YtmldpbgdjlblmaaDoor
open Go.RowKit Go.Joins
set_option linter.unusedVariables false
set_option linter.unusedSimpArgs false

/-- A row of requests, as it is read. -/
structure RqAt (w : World) (g : Nat) (k : Nat) (r : Rq) : Prop where
  c0 : w.cell? ⟨g, k * 9, none⟩ = some (.int .i64 r.tx)
  c1 : w.cell? ⟨g, k * 9 + 1, none⟩ = some (.int .i64 r.ob.sp)
  c2 : w.cell? ⟨g, k * 9 + 2, none⟩ = some (.string r.ob.tb)
  c3 : w.cell? ⟨g, k * 9 + 3, none⟩ = some (.string r.ob.lo)
  c4 : w.cell? ⟨g, k * 9 + 4, none⟩ = some (.string r.ob.hi)
  c5 : w.cell? ⟨g, k * 9 + 5, none⟩ = some (.bool r.ob.en)
  c6 : w.cell? ⟨g, k * 9 + 6, none⟩ = some (.int .i64 r.md)
  c7 : w.cell? ⟨g, k * 9 + 7, none⟩ = some (.bool r.gr)
  c8 : w.cell? ⟨g, k * 9 + 8, none⟩ = some (.bool r.sh)
theorem RqAt.keep {w w' : World} {g k : Nat} {r : Rq} (h : RqAt w g k r) (hb : Below w.heap.size w w') : RqAt w' g k r :=
  ⟨cell_keep hb h.c0, cell_keep hb h.c1, cell_keep hb h.c2, cell_keep hb h.c3, cell_keep hb h.c4, cell_keep hb h.c5, cell_keep hb h.c6, cell_keep hb h.c7, cell_keep hb h.c8⟩
/-- The document's table, as it is read. -/
structure QTab (w : World) (t : Nat) (most : Int) (ao : Option Addr) (cap : Nat) (L : List Rq) : Prop where
  m : w.cell? ⟨t, 0, none⟩ = some (.int .i64 most)
  l : w.cell? ⟨t, 1, none⟩ = some (.slice ao L.length cap)
  le : L.length ≤ cap
  row : L = [] ∨ ∃ g, ao = some ⟨g, 0, none⟩ ∧ ∀ k (h : k < L.length), RqAt w g k L[k]
theorem QTab.keep {w w' : World} {t : Nat} {most : Int} {ao : Option Addr} {cap : Nat} {L : List Rq} (h : QTab w t most ao cap L) (hb : Below w.heap.size w w') : QTab w' t most ao cap L :=
  ⟨cell_keep hb h.m, cell_keep hb h.l, h.le, h.row.imp id (fun ⟨g, e, hX⟩ => ⟨g, e, fun k hk => (hX k hk).keep hb⟩)⟩
theorem QTab.at_ {w : World} {t : Nat} {most : Int} {ao : Option Addr} {cap : Nat} {L : List Rq} (h : QTab w t most ao cap L) {k : Nat} (hk : k < L.length) : ∃ g, ao = some ⟨g, 0, none⟩ ∧ RqAt w g k L[k] := by
  rcases h.row with h0 | ⟨g, e, hX⟩
  · rw [h0] at hk; simp at hk
  · exact ⟨g, e, hX k hk⟩
theorem any_hit {p : Rq → Bool} {L : List Rq} {k : Nat} (hk : k < L.length) (h : p L[k] = true) : L.any p = true := by
  rw [List.any_eq_true]; exact ⟨_, List.getElem_mem hk, h⟩
theorem any_miss {p : Rq → Bool} {L : List Rq} (h : ∀ k (hk : k < L.length), p L[k] = false) : L.any p = false := by
  rw [List.any_eq_false]
  intro x hx
  obtain ⟨k, hk, rfl⟩ := List.getElem_of_mem hx
  simp [h k hk]
theorem miss_succ {p : Rq → Bool} {L : List Rq} {k : Nat} (hk : k < L.length) (h : ∀ j (hj : j < L.length), j < k → p L[j] = false) (h1 : p L[k] = false) : ∀ j (hj : j < L.length), j < k + 1 → p L[j] = false := fun j hj hjk => by
  by_cases e : j = k
  · subst e; exact h1
  · exact h j hj (by omega)
def wtB (tx : Int) (r : Rq) : Bool := decide (r.tx = tx) && !r.gr
set_option maxHeartbeats 2000000 in
theorem rwaits_any {w : World} {t : Nat} {most : Int} {ao : Option Addr} {cap : Nat} {L : List Rq} (h : QTab w t most ao cap L) (hl : L.length ≤ 1000000) (tx : Int) :
    Calls Tryd.prog 24 #[.pointer (some ⟨t, 0, none⟩), .int .i64 tx] w fun e w' => e = .returned (.bool (waitsB L tx)) ∧ w' = w := by
  have c1 := h.l
  have hle := h.le
  have HT : Hid (QTab w t most ao cap L) := h
  clear h
  go_enter Tryd.func24, Tryd.ntmps24
  go_wp2_with fail
  go_loopw [5] (fun i wr => ∃ k : Nat, i = .int .i64 k ∧ k ≤ L.length ∧ Hid (∀ j (hj : j < L.length), j < k → wtB tx L[j] = false) ∧ wr = w) (fun i _ => L.length - (intOf i).toNat)
  case atStart => exact ⟨0, rfl, Nat.zero_le _, fun j _ hj => by omega, rfl⟩
  case round =>
    obtain ⟨k, rfl, hk, HN, rfl⟩ := hrel
    by_cases hlt : k < L.length
    · have tk : decide ((k : Int) < (L.length : Int)) = true := decide_eq_true (by omega)
      obtain ⟨g, rfl, hq⟩ := HT.out.at_ hlt
      have q0 := hq.c0
      have q7 := hq.c7
      have hk2 : (k : Int) < (L.length : Int) := by omega
      by_cases hx : L[k].tx = tx
      · cases hg : L[k].gr with
        | false =>
          have HF : Hid (waitsB L tx = true) := any_hit (p := wtB tx) hlt (by simp [wtB, hx, hg])
          rw [hg] at q7
          rw [hx] at q0
          clear hq HN hx hg
          go_wp2_with fail
          go_ret
          exact ⟨by rw [HF.out]; rfl, by first | rfl | trivial⟩
        | true =>
          have HS : Hid (∀ j (hj : j < L.length), j < k + 1 → wtB tx L[j] = false) := miss_succ (p := wtB tx) hlt HN.out (by simp [wtB, hg])
          rw [hg] at q7
          rw [hx] at q0
          clear hq HN hx hg
          go_wp2_with fail
          go_roundw
          case rel => exact ⟨k + 1, by go_num, by omega, HS, by trivial⟩
          case measure => simp [intOf]; omega
      · have HS : Hid (∀ j (hj : j < L.length), j < k + 1 → wtB tx L[j] = false) := miss_succ (p := wtB tx) hlt HN.out (by simp [wtB, hx])
        have hx2 : (L[k].tx == tx) = false := by simpa using hx
        clear hq HN
        generalize L[k].tx = xt at *
        generalize L[k].gr = xg at *
        go_wp2_with fail
        go_roundw
        case rel => exact ⟨k + 1, by go_num, by omega, HS, by trivial⟩
        case measure => simp [intOf]; omega
    · have tk : decide ((k : Int) < (L.length : Int)) = false := decide_eq_false (by omega)
      have HF : Hid (waitsB L tx = false) := any_miss (p := wtB tx) (fun j hj => HN.out j hj (by omega))
      clear HN
      go_wp2_with fail
      go_ret
      exact ⟨by rw [HF.out]; rfl, by first | rfl | trivial⟩
end Go.Proofs.YtmldpbgdjlblmaaDoor

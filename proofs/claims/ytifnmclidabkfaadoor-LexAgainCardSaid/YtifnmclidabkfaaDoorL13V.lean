/- The live question of the statements of stage 13. -/
import Derived.Test.YtifnmclidabkfaaDoorL13S
import Derived.Test.YtifnmclidabkfaaDoorL13R
namespace Go.Proofs.YtifnmclidabkfaaDoor
open Go.RowKit
set_option linter.unusedVariables false
set_option linter.unusedSimpArgs false

theorem sc_sel : scF [83, 101, 108, 101, 99, 116, 32, 39, 105, 116, 39, 39, 115, 39, 45, 45, 32, 120] = .ok [⟨0, [115, 101, 108, 101, 99, 116], 0, 0⟩, ⟨2, [105, 116, 39, 115], 0, 7⟩] := by kernel_rfl
theorem sc_1a : scF [49, 97] = .error 1 := by kernel_rfl
theorem ScTo.two {w w' : World} {e : Ending} (h : ScTo w ⟨#[83, 101, 108, 101, 99, 116, 32, 39, 105, 116, 39, 39, 115, 39, 45, 45, 32, 120]⟩ e w') : ∃ g cap, e = .returned (.tuple #[.slice (some ⟨g, 0, none⟩) 2 cap, .string ⟨#[48, 48, 48, 48, 48]⟩]) ∧ 2 ≤ cap ∧ TRow w.heap.size w' (.slice (some ⟨g, 0, none⟩) 2 cap) [⟨0, [115, 101, 108, 101, 99, 116], 0, 0⟩, ⟨2, [105, 116, 39, 115], 0, 7⟩] ∧ Below w.heap.size w w' := by
  rcases h with ⟨l, v, ho, he, row, hb⟩ | ⟨er, ho, he, hb⟩
  · rw [show (⟨#[83, 101, 108, 101, 99, 116, 32, 39, 105, 116, 39, 39, 115, 39, 45, 45, 32, 120]⟩ : ByteArray).data.toList = [83, 101, 108, 101, 99, 116, 32, 39, 105, 116, 39, 39, 115, 39, 45, 45, 32, 120] from rfl, sc_sel] at ho
    cases ho
    obtain ⟨g, cap, rfl, hc, _⟩ := row.at_ (by decide)
    exact ⟨g, cap, he, hc, row, hb⟩
  · rw [show (⟨#[83, 101, 108, 101, 99, 116, 32, 39, 105, 116, 39, 39, 115, 39, 45, 45, 32, 120]⟩ : ByteArray).data.toList = [83, 101, 108, 101, 99, 116, 32, 39, 105, 116, 39, 39, 115, 39, 45, 45, 32, 120] from rfl, sc_sel] at ho
    cases ho
theorem ScTo.oneA {w w' : World} {e : Ending} (h : ScTo w ⟨#[49, 97]⟩ e w') : e = .returned (.tuple #[.slice none 0 0, .string ⟨#[52, 50, 54, 48, 49]⟩]) ∧ Below w.heap.size w w' := by
  rcases h with ⟨l, v, ho, he, row, hb⟩ | ⟨er, ho, he, hb⟩
  · rw [show (⟨#[49, 97]⟩ : ByteArray).data.toList = [49, 97] from rfl, sc_1a] at ho
    cases ho
  · rw [show (⟨#[49, 97]⟩ : ByteArray).data.toList = [49, 97] from rfl, sc_1a] at ho
    cases ho
    exact ⟨he, hb⟩
/-- A token in a row, by its cells. -/
theorem TRow.cells {base : Nat} {w : World} {g n cap : Nat} {l : List Tok} (h : TRow base w (.slice (some ⟨g, 0, none⟩) n cap) l) (k : Nat) (hk : k < l.length) : w.cell? ⟨g, k * 4, none⟩ = some (.int .i64 l[k].k) ∧ w.cell? ⟨g, k * 4 + 1, none⟩ = some (.string ⟨l[k].s.toArray⟩) ∧ w.cell? ⟨g, k * 4 + 2, none⟩ = some (.int .i64 l[k].n) ∧ w.cell? ⟨g, k * 4 + 3, none⟩ = some (.int .i64 l[k].at_) :=
  ⟨h.cell (tokC_len l) k hk 0 (by decide), h.cell (tokC_len l) k hk 1 (by decide), h.cell (tokC_len l) k hk 2 (by decide), h.cell (tokC_len l) k hk 3 (by decide)⟩
theorem TRow.keepB {base : Nat} {w w' : World} {v : Value} {l : List Tok} (h : TRow base w v l) (hb : Below w.heap.size w w') : TRow base w' v l := Row.of_block h (fun c hc => hb.block c (h.lo c hc).2)
theorem res_sel : resL.contains (⟨#[115, 101, 108, 101, 99, 116]⟩ : ByteArray).data.toList = true := by decide
theorem res_a : resL.contains (⟨#[97]⟩ : ByteArray).data.toList = false := by decide
set_option maxHeartbeats 4000000 in
set_option maxRecDepth 100000 in
theorem alive_any {a : Addr} (w : World) (hL : LibW a w) : Calls Tryd.prog 6 #[] w fun e w' => e = .returned (.bool true) ∧ Below w.heap.size w w' := by
  have r1 := fun W => reserved_any ⟨#[115, 101, 108, 101, 99, 116]⟩ W
  have r2 := fun W => reserved_any ⟨#[97]⟩ W
  rw [res_sel] at r1
  rw [res_a] at r2
  have HL := Go.Proofs.YtifnmclidabkfaaDoor.Hid.mk' hL
  clear hL
  go_enter Tryd.func6, Tryd.ntmps6
  go_wp2_with fail
  refine (scan_any _ w HL.out).mono ?_
  intro e w1 h1
  obtain ⟨g, cap, rfl, hcap, hrow, hb1⟩ := h1.two
  clear h1
  go_wp2_with fail
  refine (scan_any _ w1 (HL.out.keep hb1)).mono ?_
  intro e w2 h2
  obtain ⟨rfl, hb2⟩ := h2.oneA
  clear h2
  have hrow2 := hrow.keepB hb2
  obtain ⟨c0, c1, c2, c3⟩ := hrow2.cells 0 (by decide)
  obtain ⟨c4, c5, c6, c7⟩ := hrow2.cells 1 (by decide)
  simp only [Nat.zero_mul, Nat.one_mul, Nat.zero_add, List.getElem_cons_zero, List.getElem_cons_succ] at c0 c1 c2 c3 c4 c5 c6 c7
  have HB := Go.Proofs.YtifnmclidabkfaaDoor.Hid.mk' (hb1.trans (hb2.mono hb1.size))
  clear hrow hrow2 hb1 hb2 HL
  go_wp2_with (first
    | (go_at_call_of 12 (Value.string ⟨#[97]⟩); refine (r2 _).mono ?_; rintro e wx ⟨rfl, hwx⟩; obtain rfl := hwx.symm)
    | (go_at_call_of 12 (Value.string ⟨#[115, 101, 108, 101, 99, 116]⟩); refine (r1 _).mono ?_; rintro e wx ⟨rfl, hwx⟩; obtain rfl := hwx.symm))
  go_ret
  exact ⟨rfl, HB.out⟩
end Go.Proofs.YtifnmclidabkfaaDoor

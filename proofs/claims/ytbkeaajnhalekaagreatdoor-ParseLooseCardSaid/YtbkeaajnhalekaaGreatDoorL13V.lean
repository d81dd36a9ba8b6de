/- The live question of the statements of stage 13. -/
import Derived.Test.YtbkeaajnhalekaaGreatDoorS13
namespace Go.Proofs.YtbkeaajnhalekaaGreatDoor
open Go.RowKit
set_option linter.unusedVariables false
set_option linter.unusedSimpArgs false

theorem sc_sel : scF [83, 101, 108, 101, 99, 116, 32, 39, 105, 116, 39, 39, 115, 39, 45, 45, 32, 120] = .ok [⟨0, [115, 101, 108, 101, 99, 116], 0, 0⟩, ⟨2, [105, 116, 39, 115], 0, 7⟩] := by kernel_rfl
theorem sc_1a : scF [49, 97] = .error 1 := by kernel_rfl
theorem ScTo.two {w w' : World} {e : Ending} (h : ScTo w ⟨#[83, 101, 108, 101, 99, 116, 32, 39, 105, 116, 39, 39, 115, 39, 45, 45, 32, 120]⟩ e w') : ∃ g cap, e = .returned (.tuple #[.slice (some ⟨g, 0, none⟩) 2 cap, .string ⟨#[48, 48, 48, 48, 48]⟩]) ∧ 2 ≤ cap ∧ TRow w.heap.size w' (.slice (some ⟨g, 0, none⟩) 2 cap) [⟨0, [115, 101, 108, 101, 99, 116], 0, 0⟩, ⟨2, [105, 116, 39, 115], 0, 7⟩] ∧ Below w.heap.size w w' := by
  rcases h with ⟨l, v, ho, he, row, hb⟩ | ⟨er, ho, he, hb⟩
  · rw [show (⟨#[83, 101, 108, 101, 99, 116, 32, 39, 105, 116, 39, 39, 115, 39, 45, 45, 32, 120]⟩ : ByteArray).data.toList = [83, 101, 108, 101, 99, 116, 32, 39, 105, 116, 39, 39, 115, 39, 45, 45, 32, 120] from rfl, sc_sel] at ho
    cases ho
    obtain ⟨g, cap, rfl, hc, _⟩ := row.at_ (by decide)
    exact ⟨g, cap, he, hc, row, hb⟩
  · rw [show (⟨#[83, 101, 108, 101, 99, 116, 32, 39, 105, 116, 39, 39, 115, 39, 45, 45, 32, 120]⟩ : ByteArray).data.toList = [83, 101, 108, 101, 99, 116, 32, 39, 105, 116, 39, 39, 115, 39, 45, 45, 32, 120] from rfl, sc_sel] at ho
    cases ho
theorem ScTo.oneA {w w' : World} {e : Ending} (h : ScTo w ⟨#[49, 97]⟩ e w') : e = .returned (.tuple #[.slice none 0 0, .string ⟨#[52, 50, 54, 48, 49]⟩]) ∧ Below w.heap.size w w' := by
  rcases h with ⟨l, v, ho, he, row, hb⟩ | ⟨er, ho, he, hb⟩
  · rw [show (⟨#[49, 97]⟩ : ByteArray).data.toList = [49, 97] from rfl, sc_1a] at ho
    cases ho
  · rw [show (⟨#[49, 97]⟩ : ByteArray).data.toList = [49, 97] from rfl, sc_1a] at ho
    cases ho
    exact ⟨he, hb⟩
/-- A token in a row, by its cells. -/
theorem TRow.cells {base : Nat} {w : World} {g n cap : Nat} {l : List Tok} (h : TRow base w (.slice (some ⟨g, 0, none⟩) n cap) l) (k : Nat) (hk : k < l.length) : w.cell? ⟨g, k * 4, none⟩ = some (.int .i64 l[k].k) ∧ w.cell? ⟨g, k * 4 + 1, none⟩ = some (.string ⟨l[k].s.toArray⟩) ∧ w.cell? ⟨g, k * 4 + 2, none⟩ = some (.int .i64 l[k].n) ∧ w.cell? ⟨g, k * 4 + 3, none⟩ = some (.int .i64 l[k].at_) :=
  ⟨h.cell (tokC_len l) k hk 0 (by decide), h.cell (tokC_len l) k hk 1 (by decide), h.cell (tokC_len l) k hk 2 (by decide), h.cell (tokC_len l) k hk 3 (by decide)⟩
theorem TRow.keepB {base : Nat} {w w' : World} {v : Value} {l : List Tok} (h : TRow base w v l) (hb : Below w.heap.size w w') : TRow base w' v l := Row.of_block h (fun c hc => hb.block c (h.lo c hc).2)
theorem res_sel : resL.contains (⟨#[115, 101, 108, 101, 99, 116]⟩ : ByteArray).data.toList = true := by decide
theorem res_a : resL.contains (⟨#[97]⟩ : ByteArray).data.toList = false := by decide
end Go.Proofs.YtbkeaajnhalekaaGreatDoor

/- Small words that the document's disk leans on. -/
import Derived.Test.YtpmbpadckbkglaaP7W
namespace Go.Proofs.Ytpmbpadckbkglaa
open Go.RowKit Go.Maps
set_option linter.unusedVariables false
set_option linter.unusedSimpArgs false

theorem cell_keep {W w' : World} (hb : Below W.heap.size W w') {b o : Nat} {v : Value} (h : W.cell? ⟨b, o, none⟩ = some v) : w'.cell? ⟨b, o, none⟩ = some v :=
  (hb.cell (p := ⟨b, o, none⟩) (World.block_lt_of_cell? W _ h)).trans h
abbrev sl (k : Nat) : Value := .slice (some ⟨k, 0, none⟩) 128 128
theorem bytes_row {w : World} {k : Nat} {s : List UInt8} (h : RowB w k s) (hs : s.length = 128) : Bytes w (.slice (some ⟨k, 0, none⟩) 128 128) s := h.bytes hs (by omega)
theorem rangeAt_keep {W w' : World} (hb : Below W.heap.size W w') {b o : Nat} {cs : List Value} (h : W.rangeAt b o cs) : w'.rangeAt b o cs := fun j v hv => cell_keep hb (h j v hv)
theorem own_block {base : Nat} {w : World} {e n k b : Nat} {v : Value} {xs : List Value} (h : w.ownsRow base e n v k xs) (hb : v.ownBlock = some b) : ∃ cur, w.heap[b]? = some (.cells cur e (0, 0)) := by
  rcases h.2 with ⟨hv, _⟩ | ⟨g, cap, cur, hv, _, hh, _⟩
  · rw [hv] at hb; cases hb
  · rw [hv] at hb
    have : g = b := by simpa [Value.ownBlock] using hb
    exact ⟨cur, this ▸ hh⟩
end Go.Proofs.Ytpmbpadckbkglaa

/- The law TreeNil. -/
import Derived.Test.YtfobcnmhghfanaaB9ZG
namespace Go.Proofs.Ytfobcnmhghfanaa
open Go.RowKit Go.Shelf
set_option linter.unusedVariables false
set_option linter.unusedSimpArgs false

set_option maxRecDepth 20000 in
set_option maxHeartbeats 2000000 in
theorem nil_law (key : ByteArray) (w : World) : Calls Try.prog 6 #[.string key] w fun e w' => e = .returned (.bool true) ∧ Below w.heap.size w w' := by
  have h1 := nget key
  have h2 := nnext key true
  have h3 := ncount
  have h4 := alive_any w
  have h5 := nwell
  have h6 := ninsert key 1
  have h7 := nghost key
  have h8 := npurge key
  go_enter Try.func6, Try.ntmps6
  go_wp2_with (first
    | (go_at_call 20; refine (h1 _).mono ?_; rintro e wx ⟨rfl, hwx⟩; rw [hwx]; clear hwx wx)
    | (go_at_call 19; refine (h2 _).mono ?_; rintro e wx ⟨rfl, hwx⟩; rw [hwx]; clear hwx wx)
    | (go_at_call 11; refine (h3 _).mono ?_; rintro e wx ⟨rfl, hwx⟩; rw [hwx]; clear hwx wx)
    | (go_at_call 9; refine h4.mono ?_; clear h4; rintro e w1 ⟨rfl, hb⟩)
    | (go_at_call 13; refine (h5 _).mono ?_; rintro e wx ⟨rfl, hwx⟩; rw [hwx]; clear hwx wx)
    | (go_at_call 14; refine (h6 _).mono ?_; rintro e wx ⟨rfl, hwx⟩; rw [hwx]; clear hwx wx)
    | (go_at_call 15; refine (h7 _).mono ?_; rintro e wx ⟨rfl, hwx⟩; rw [hwx]; clear hwx wx)
    | (go_at_call 16; refine (h8 _).mono ?_; rintro e wx ⟨rfl, hwx⟩; rw [hwx]; clear hwx wx))
  go_ret
  exact ⟨rfl, hb⟩
end Go.Proofs.Ytfobcnmhghfanaa

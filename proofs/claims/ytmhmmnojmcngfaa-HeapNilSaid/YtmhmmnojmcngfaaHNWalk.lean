/- The law HeapNil. -/
import Derived.Test.YtmhmmnojmcngfaaH8R
namespace Go.Proofs.Ytmhmmnojmcngfaa
open Go.RowKit Go.Maps
set_option linter.unusedVariables false
set_option linter.unusedSimpArgs false

set_option maxRecDepth 20000 in
set_option maxHeartbeats 2000000 in
theorem nil_law (id : Int) (v : Value) (xs : List UInt8) (w : World) (h : Bytes w v xs) :
    Calls Try.prog 5 #[.int .i64 id, v] w fun e w' => e = .returned (.bool true) ∧ Below w.heap.size w w' := by
  obtain ⟨ao, cap, rfl, _, _⟩ := h.form
  generalize xs.length = m at *
  have h1 := hinsert_nil ao m cap w
  go_enter Try.func5, Try.ntmps5
  go_wp2_with fail
  refine h1.mono ?_
  clear h1
  rintro e w1 ⟨rfl, hb1⟩
  have h2 := hget_nil id w1
  go_wp2_with fail
  refine h2.mono ?_
  clear h2
  rintro e w2 ⟨rfl, hb2⟩
  have hb02 := hb1.trans (hb2.mono hb1.size)
  clear hb1 hb2
  have h3 := hscan_nil w2
  go_wp2_with fail
  refine h3.mono ?_
  clear h3
  rintro e w3 ⟨rfl, rfl⟩
  have h4 := hnew_nil 1 w3
  go_wp2_with fail
  refine h4.mono ?_
  clear h4
  rintro e w4 ⟨rfl, rfl⟩
  have h5 := alive_any w4
  go_wp2_with fail
  refine h5.mono ?_
  clear h5
  rintro e w5 ⟨rfl, hb5⟩
  have hb05 := hb02.trans (hb5.mono hb02.size)
  clear hb5 hb02
  have h6 := hupdate_nil id ao m cap w5
  go_wp2_with fail
  refine h6.mono ?_
  clear h6
  rintro e w6 ⟨rfl, hb6⟩
  have hb06 := hb05.trans (hb6.mono hb05.size)
  clear hb6 hb05
  have h7 := hdelete_nil id w6
  go_wp2_with fail
  refine h7.mono ?_
  clear h7
  rintro e w7 ⟨rfl, hb7⟩
  have hb07 := hb06.trans (hb7.mono hb06.size)
  clear hb7 hb06
  go_wp2
  go_ret
  exact ⟨rfl, hb07⟩
end Go.Proofs.Ytmhmmnojmcngfaa

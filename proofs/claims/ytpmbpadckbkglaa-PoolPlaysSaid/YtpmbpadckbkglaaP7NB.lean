/- The pool: New refused; a script's setup opened. -/
import Derived.Test.YtpmbpadckbkglaaP7Open
namespace Go.Proofs.Ytpmbpadckbkglaa
open Go.RowKit Go.ChangeShapes Go.WideShapes Go.ChangeAt Go.Joins Go.Deep
set_option linter.unusedVariables false
set_option linter.unusedSimpArgs false

set_option maxRecDepth 20000 in
set_option maxHeartbeats 1000000 in
/-- New, its bounds broken. -/
theorem pnew_arg (dg : Nat) (first pages frames : Int) (w : World) (h : first < 0 ∨ frames < 1 ∨ frames > 64 ∨ pages < 1 ∨ pages > 256) :
    Calls Try.prog 9 #[.pointer (some ⟨dg, 0, none⟩), .int .i64 first, .int .i64 pages, .int .i64 frames] w fun e w' => e = .returned (.tuple #[.pointer none, .int .i64 1]) ∧ w' = w := by
  by_cases h1 : first < 0
  · have a1 : decide (first < 0) = true := by simpa using h1
    go_enter Try.func9, Try.ntmps9
    go_wp2
    exact bodyPost_ret (v := .tuple #[.pointer none, .int .i64 1]) (by simp [results, Try.results9, go_sem]) rfl ⟨rfl, rfl⟩
  · have a1 : decide (first < 0) = false := by simpa using h1
    by_cases h2 : frames < 1
    · have a2 : decide (frames < 1) = true := by simpa using h2
      go_enter Try.func9, Try.ntmps9
      go_wp2
      exact bodyPost_ret (v := .tuple #[.pointer none, .int .i64 1]) (by simp [results, Try.results9, go_sem]) rfl ⟨rfl, rfl⟩
    · have a2 : decide (frames < 1) = false := by simpa using h2
      by_cases h3 : frames > 64
      · have a3 : decide (frames > 64) = true := by simpa using h3
        go_enter Try.func9, Try.ntmps9
        go_wp2
        exact bodyPost_ret (v := .tuple #[.pointer none, .int .i64 1]) (by simp [results, Try.results9, go_sem]) rfl ⟨rfl, rfl⟩
      · have a3 : decide (frames > 64) = false := by simpa using h3
        by_cases h4 : pages < 1
        · have a4 : decide (pages < 1) = true := by simpa using h4
          go_enter Try.func9, Try.ntmps9
          go_wp2
          exact bodyPost_ret (v := .tuple #[.pointer none, .int .i64 1]) (by simp [results, Try.results9, go_sem]) rfl ⟨rfl, rfl⟩
        · have a4 : decide (pages < 1) = false := by simpa using h4
          have h5 : pages > 256 := by omega
          have a5 : decide (pages > 256) = true := by simpa using h5
          go_enter Try.func9, Try.ntmps9
          go_wp2
          exact bodyPost_ret (v := .tuple #[.pointer none, .int .i64 1]) (by simp [results, Try.results9, go_sem]) rfl ⟨rfl, rfl⟩
set_option maxRecDepth 20000 in
set_option maxHeartbeats 1000000 in
/-- New, the disk too small. -/
theorem pnew_range {base : Nat} {w : World} {G : Nat → Prop} {n : Nat} {dp : Value} {D : DS} (hD : DiskAt base w G dp n D) (first pages frames : Int) (h1 : 0 ≤ first) (h2 : 1 ≤ pages ∧ pages ≤ 256) (h3 : 1 ≤ frames ∧ frames ≤ 64) (hfit : first > D.size - pages * 16) :
    Calls Try.prog 9 #[dp, .int .i64 first, .int .i64 pages, .int .i64 frames] w fun e w' => e = .returned (.tuple #[.pointer none, .int .i64 73]) ∧ w' = w := by
  obtain ⟨dg, _, _, _, rfl, hin⟩ := id hD
  have hsz := hin.sz
  have hs := size_any hD
  have a1 : decide (first < 0) = false := by simp; omega
  have a2 : decide (frames < 1) = false := by simp; omega
  have a3 : decide (frames > 64) = false := by simp; omega
  have a4 : decide (pages < 1) = false := by simp; omega
  have a5 : decide (pages > 256) = false := by simp; omega
  have a6 : decide (first > D.size - pages * 16) = true := by simp; omega
  clear hD hin
  generalize D.size = Z at *
  go_enter Try.func9, Try.ntmps9
  go_wp2_with (go_at_call 10; refine hs.mono ?_; rintro e wx ⟨rfl, hwx⟩; rw [hwx]; clear hwx wx)
  exact bodyPost_ret (v := .tuple #[.pointer none, .int .i64 73]) (by simp [results, Try.results9, go_sem]) rfl ⟨rfl, rfl⟩
set_option maxRecDepth 100000 in
theorem open_setup7 {H : Type} {enc : TypeId × Value → H} {W : World} {base : Nat} {v : Value} {d : DataW H} {p : List MemPlace}
    (hv : Value.okWide Try.prog W .any base 23 v) (h : DataW.Trod enc Try.prog W 0 (fun _ => true) true 23 v d p) :
    ∃ a b c e : Int, v = .agg #[.int .i64 a, .int .i64 b, .int .i64 c, .int .i64 e] ∧ (-9223372036854775808 ≤ a ∧ a ≤ 9223372036854775807) ∧ (-9223372036854775808 ≤ b ∧ b ≤ 9223372036854775807) ∧ (-9223372036854775808 ≤ c ∧ c ≤ 9223372036854775807) ∧ (-9223372036854775808 ≤ e ∧ e ≤ 9223372036854775807) := by
  obtain ⟨c0, c1, c2, c3, y0, y1, y2, y3, m, rfl, _, _, h0, h1, h2, h3⟩ := open_agg4 Try.underlying23 (by kernel_rfl) (by kernel_rfl) hv h
  obtain ⟨a, e0, _, wa⟩ := DataW.trod_int Try.underlying3 h0
  obtain ⟨b, e1, _, wb⟩ := DataW.trod_int Try.underlying3 h1
  obtain ⟨c, e2, _, wc⟩ := DataW.trod_int Try.underlying3 h2
  obtain ⟨e, e3, _, we⟩ := DataW.trod_int Try.underlying3 h3
  simp at e0 e1 e2 e3
  subst e0 e1 e2 e3
  exact ⟨a, b, c, e, rfl, bounds64 wa, bounds64 wb, bounds64 wc, bounds64 we⟩
end Go.Proofs.Ytpmbpadckbkglaa

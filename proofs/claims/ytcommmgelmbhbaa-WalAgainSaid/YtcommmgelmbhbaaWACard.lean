/- Proved: the law WalAgain (whenever power goes while a log is opened, that lies on a disk that power has torn, the log that is opened then tells the same records; and whenever it goes while a log is formatted over an old one, the old records, or none) answers true for every records and every two losses of power; no condition. -/
import Derived.Test.YtcommmgelmbhbaaWAWalk
import Derived.Test.YtcommmgelmbhbaaW6Open4
import Derived.ProofKit
import Derived.OpenShut
import Derived.SizedLaws
namespace Go.Proofs.Ytcommmgelmbhbaa
open Go.RowKit Go.ChangeShapes Go.WideShapes Go.ChangeAt
set_option linter.unusedVariables false

theorem walAgain_own : ownKnob Try.prog.godebug = none := by kernel_rfl
set_option maxRecDepth 100000 in
theorem walAgain_lifted (os : Os) (started : os.Started) (H : Type) (enc : TypeId × Value → H) :
    ReturnsInHanded {} Try.checked os 5 .any (Rows.walAgainSpec.pre6 enc Try.prog Try.f5 Rows.walAgainRow.domain false) (Rows.walAgainSpec.post enc Try.prog Try.f5 false true false false) := by
  refine returnsInHanded_of_change_sized (C := Try.checked) walAgain_own started (by kernel_rfl) Try.func5
    (ChangeSpec.witness6 (enc := enc) (C := Try.checked) false ⟨#[], #[.agg #[.slice none 0 0, .slice none 0 0, .int .i64 0, .slice none 0 0, .int .i64 0, .slice none 0 0]], []⟩ 8 (by kernel_rfl) (by kernel_rfl) (by kernel_rfl) (by kernel_rfl)) ?_
  intro W base args ds gs before hval0 hW _ hsz0 _
  have hsz : (DataW.weightsEach Try.prog (Try.f5.params.toList ++ Rows.walAgainSpec.plain.varTypes Try.prog) (ds ++ gs)).all (· ≤ reachBytes) = true := hsz0
  clear hsz0
  have hval : ∀ (j : Nat) t v, Try.f5.params[j]? = some t → args[j]? = some v → Value.okWide Try.prog W .any base t v := hval0
  have hW' := hW
  obtain ⟨p, q, hA0, hV, rfl, _, _⟩ := hW
  have hA : DataW.TrodAll enc Try.prog W 0 (fun _ => true) true Try.f5.params.toList args.toList ds p := hA0
  have hvt : Rows.walAgainSpec.plain.varTypes Try.prog = [] := by kernel_rfl
  rw [hvt, Try.params5] at hsz
  rw [Try.params5] at hA hval
  obtain ⟨v0, vs0, d0, ds0, p0, q0, hargs0, e0, f0, h0, r0⟩ := trodAll_cons hA
  obtain ⟨z0, z1, z2⟩ := trodAll_nil r0
  subst z0 z1 z2
  subst e0 f0
  obtain rfl : args = #[v0] := by cases args; simp_all
  obtain ⟨rfl, rfl⟩ := trodVars_none hV
  have hz : ∀ m ∈ DataW.weightsEach Try.prog [56] [d0], m ≤ 140737488351232 := fun m hm => of_decide_eq_true (List.all_eq_true.1 hsz m (by simpa using hm))
  simp only [DataW.weightsEach] at hz
  have hz0 : ∀ m ∈ d0.weights Try.prog 56, m ≤ 140737488351232 := fun m hm => hz m (List.mem_append_left _ hm)
  have h0k := h0
  obtain ⟨ia, ib, ka, kb, ix, iy, cx, cy, k1n, k1c, k2n, k2c, c1, c2, x, y, ks1, ks2, ev0, hX, hY, hK1, hK2, hc1, hc2, hxl, hyl⟩ := open_torn (by omega) (hval 0 56 v0 rfl rfl) h0 hz0
  subst ev0
  simp only [List.append_nil] at hW'
  refine (walAgain_law ia ib ka kb ix iy cx cy k1n k1c k2n k2c c1 c2 x y ks1 ks2 W hX hY hK1 hK2 hc1 hc2 (by omega) (by omega)).mono fun e W' ⟨he, hb⟩ => ?_
  subst he
  exact ⟨_, rfl, _, _, _, _, _, [], hW', trodAll_mk1 (shut_bool Try.underlying4 _), trodAll_cons_mk (Below.trod laidOut (by kernel_rfl) (of_decide_eq_true (by kernel_rfl)) h0k hb (fun x hx => hW'.lt x (by simp [hx]))) (trodAll_mk0), rfl, hb.frame _, fun h => by cases h⟩

theorem walAgain_holds : Rows.WalAgainSaid :=
  OpenClaim.holds_of_wide 5 Try.f5 rfl rfl rfl rfl rfl rfl rfl ⟨rfl, rfl, rfl, rfl, rfl⟩ rfl rfl rfl rfl rfl (by kernel_rfl) Try.func5 (by kernel_rfl)
    (of_decide_eq_true (by kernel_rfl)) (by unfold Func.isWrapper; first | (rw [if_pos (by decide +kernel)]; kernel_rfl) | (rw [if_neg (by decide +kernel)]; exact ⟨rfl, rfl⟩))
    (fun os started H enc _ => walAgain_lifted os started H enc)
#print axioms walAgain_holds
end Go.Proofs.Ytcommmgelmbhbaa

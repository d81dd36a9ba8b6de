/- Proved: the law WalWhole (of some records that are flushed, and more that are being flushed, whenever power goes and whatever it keeps: the log that is opened then tells the flushed ones, and of the others all or none) answers true for every two lists of records and every loss of power; no condition. -/
import Derived.Test.YtcommmgelmbhbaaWWWalk
import Derived.Test.YtcommmgelmbhbaaW6Open2
import Derived.ProofKit
import Derived.OpenShut
import Derived.SizedLaws
namespace Go.Proofs.Ytcommmgelmbhbaa
open Go.RowKit Go.ChangeShapes Go.WideShapes Go.ChangeAt
set_option linter.unusedVariables false

theorem walWhole_own : ownKnob Try.prog.godebug = none := by kernel_rfl
set_option maxRecDepth 100000 in
theorem walWhole_lifted (os : Os) (started : os.Started) (H : Type) (enc : TypeId × Value → H) :
    ReturnsInHanded {} Try.checked os 4 .any (Rows.walWholeSpec.pre6 enc Try.prog Try.f4 Rows.walWholeRow.domain false) (Rows.walWholeSpec.post enc Try.prog Try.f4 false true false false) := by
  refine returnsInHanded_of_change_sized (C := Try.checked) walWhole_own started (by kernel_rfl) Try.func4
    (ChangeSpec.witness6 (enc := enc) (C := Try.checked) false ⟨#[], #[.slice none 0 0, .slice none 0 0, .agg #[.int .i64 0, .slice none 0 0]], []⟩ 8 (by kernel_rfl) (by kernel_rfl) (by kernel_rfl) (by kernel_rfl)) ?_
  intro W base args ds gs before hval0 hW _ hsz0 _
  have hsz : (DataW.weightsEach Try.prog (Try.f4.params.toList ++ Rows.walWholeSpec.plain.varTypes Try.prog) (ds ++ gs)).all (· ≤ reachBytes) = true := hsz0
  clear hsz0
  have hval : ∀ (j : Nat) t v, Try.f4.params[j]? = some t → args[j]? = some v → Value.okWide Try.prog W .any base t v := hval0
  have hW' := hW
  obtain ⟨p, q, hA0, hV, rfl, _, _⟩ := hW
  have hA : DataW.TrodAll enc Try.prog W 0 (fun _ => true) true Try.f4.params.toList args.toList ds p := hA0
  have hvt : Rows.walWholeSpec.plain.varTypes Try.prog = [] := by kernel_rfl
  rw [hvt, Try.params4] at hsz
  rw [Try.params4] at hA hval
  obtain ⟨v0, vs0, d0, ds0, p0, q0, hargs0, e0, f0, h0, r0⟩ := trodAll_cons hA
  obtain ⟨v1, vs1, d1, ds1, p1, q1, hargs1, e1, f1, h1, r1⟩ := trodAll_cons r0
  obtain ⟨v2, vs2, d2, ds2, p2, q2, hargs2, e2, f2, h2, r2⟩ := trodAll_cons r1
  obtain ⟨z0, z1, z2⟩ := trodAll_nil r2
  subst z0 z1 z2
  subst hargs2 e2 f2
  subst hargs1 e1 f1
  subst e0 f0
  obtain rfl : args = #[v0, v1, v2] := by cases args; simp_all
  obtain ⟨rfl, rfl⟩ := trodVars_none hV
  have hz : ∀ m ∈ DataW.weightsEach Try.prog [35, 35, 52] [d0, d1, d2], m ≤ 140737488351232 := fun m hm => of_decide_eq_true (List.all_eq_true.1 hsz m (by simpa using hm))
  simp only [DataW.weightsEach] at hz
  have hz0 : ∀ m ∈ d0.weights Try.prog 35, m ≤ 140737488351232 := fun m hm => hz m (List.mem_append_left _ hm)
  have hz1 : ∀ m ∈ d1.weights Try.prog 35, m ≤ 140737488351232 := fun m hm => hz m (List.mem_append_right _ (List.mem_append_left _ hm))
  have hz2 : ∀ m ∈ d2.weights Try.prog 52, m ≤ 140737488351232 := fun m hm => hz m (List.mem_append_right _ (List.mem_append_right _ (List.mem_append_left _ hm)))
  obtain ⟨x0, hx0, hl0⟩ := open_recs (by omega) (hval 0 35 v0 rfl rfl) h0 hz0
  obtain ⟨x1, hx1, hl1⟩ := open_recs (by omega) (hval 1 35 v1 rfl rfl) h1 hz1
  have h2k := h2
  obtain ⟨c2, vk2, ks2, ev2, hK2, hc2⟩ := open_cut (hval 2 52 v2 rfl rfl) h2
  subst ev2
  simp only [List.append_nil] at hW'
  refine (walWhole_law v0 v1 vk2 x0 x1 c2 ks2 W hx0 hx1 hK2 hc2 (by omega) (by omega)).mono fun e W' ⟨he, hb⟩ => ?_
  subst he
  exact ⟨_, rfl, _, _, _, _, _, [], hW', trodAll_mk1 (shut_bool Try.underlying4 _), trodAll_cons_mk (Below.trod laidOut (by kernel_rfl) (of_decide_eq_true (by kernel_rfl)) h0 hb (fun x hx => hW'.lt x (by simp [hx]))) (trodAll_cons_mk (Below.trod laidOut (by kernel_rfl) (of_decide_eq_true (by kernel_rfl)) h1 hb (fun x hx => hW'.lt x (by simp [hx]))) (trodAll_cons_mk (Below.trod laidOut (by kernel_rfl) (of_decide_eq_true (by kernel_rfl)) h2k hb (fun x hx => hW'.lt x (by simp [hx]))) (trodAll_mk0))), rfl, hb.frame _, fun h => by cases h⟩

theorem walWhole_holds : Rows.WalWholeSaid :=
  OpenClaim.holds_of_wide 4 Try.f4 rfl rfl rfl rfl rfl rfl rfl ⟨rfl, rfl, rfl, rfl, rfl⟩ rfl rfl rfl rfl rfl (by kernel_rfl) Try.func4 (by kernel_rfl)
    (of_decide_eq_true (by kernel_rfl)) (by unfold Func.isWrapper; first | (rw [if_pos (by decide +kernel)]; kernel_rfl) | (rw [if_neg (by decide +kernel)]; exact ⟨rfl, rfl⟩))
    (fun os started H enc _ => walWhole_lifted os started H enc)
#print axioms walWhole_holds
end Go.Proofs.Ytcommmgelmbhbaa

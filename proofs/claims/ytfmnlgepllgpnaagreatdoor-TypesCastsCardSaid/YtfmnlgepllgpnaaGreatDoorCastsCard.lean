/- Proved: the law TypesCasts (what any value comes to as one of any type is as the document says) answers true for every raw value and every two numbers, its nine variables tied to the program's text; no condition. -/
import Derived.Test.YtfmnlgepllgpnaaGreatDoorT2RefAll
import Derived.Test.YtfmnlgepllgpnaaGreatDoorB2Raw
import Derived.Test.YtfmnlgepllgpnaaGreatDoorT2Laid
import Derived.Test.YtfmnlgepllgpnaaGreatDoorCards
import Derived.Test.YtfmnlgepllgpnaaGreatDoorTie
import Derived.ProofKit
import Derived.Lay
import Derived.SevenTiedAt
namespace Go.Proofs.YtfmnlgepllgpnaaGreatDoor
open Go.RowKit Go.ChangeShapes Go.WideShapes Go.ChangeAt
open Go.ChangeMaps (open_string shut_string)
set_option linter.unusedVariables false

theorem typesCasts_own : ownKnob Tryz.prog.godebug = none := by kernel_rfl
set_option maxRecDepth 100000 in
theorem typesCasts_lifted (os : Os) (started : os.Started) (H : Type) (enc : TypeId × Value → H) :
    ReturnsInHanded {} Tryz.checked os 3 .any (fun w args => (Rows.typesCastsSpec.pre enc Tryz.prog Tryz.f3 [] false w args ∧ laidMetH Tryz.prog Rows.typesCastsRow.laid w) ∧ sizedMet enc Tryz.prog Tryz.f3 (OpenSpec.ofChange Rows.typesCastsSpec) false w args)
      (Rows.typesCastsSpec.post enc Tryz.prog Tryz.f3 false true false false) := by
  refine returnsInHanded_of_change_and (C := Tryz.checked) (X := fun w _ => laidMetH Tryz.prog Rows.typesCastsRow.laid w) (fun _ _ _ hh h => h.of_heap hh) typesCasts_own started (by kernel_rfl) Tryz.func3
    (ChangeSpec.witness_shaped (enc := enc) (C := Tryz.checked) (os := os) (X := fun w _ => laidMetH Tryz.prog Rows.typesCastsRow.laid w) false (World.laidAll Tryz.prog os Rows.typesCastsRow.laid) #[.agg #[.int .i64 0, .int .i64 0, .string ⟨#[]⟩, .bool false], .int .i64 0, .int .i64 0] 8 (World.laidAll_os _ _ _)
      (World.shaped_of_ZipB (by kernel_rfl) (by kernel_rfl)) (by kernel_rfl) (by kernel_rfl) (by kernel_rfl)
      (by rw [MakeChecks.laidMetH_plain _ _ _ (by kernel_rfl)]; exact laidMet_laidAll _ (by kernel_rfl) (by kernel_rfl))) ?_
  intro W base args ds gs before hval0 hW _ hsz0 hL _
  have hval : ∀ (j : Nat) t v, Tryz.f3.params[j]? = some t → args[j]? = some v → Value.okWide Tryz.prog W .any base t v := hval0
  have hW' := hW
  obtain ⟨p, q, hA0, hV, rfl, _, _⟩ := hW
  have hA : DataW.TrodAll enc Tryz.prog W 0 (fun _ => true) true Tryz.f3.params.toList args.toList ds p := hA0
  rw [Tryz.params3] at hA hval
  obtain ⟨v0, v1, v2, d0, d1, d2, p0, p1, p2, rfl, rfl, rfl, h0, h1, h2⟩ := trodAll_three hA
  obtain ⟨rfl, rfl⟩ := trodVars_none hV
  obtain ⟨k0, n0, s0, b0, rfl, rfl, rfl, wk0, wn0, ws0⟩ := open_raw (hval 0 23 v0 rfl rfl) h0
  obtain ⟨x1, rfl, rfl, rfl, wx1⟩ := open_int Tryz.underlying3 (hval 1 3 v1 rfl rfl) h1
  obtain ⟨x2, rfl, rfl, rfl, wx2⟩ := open_int Tryz.underlying3 (hval 2 3 v2 rfl rfl) h2
  have hsz : (DataW.weightsEach Tryz.prog [23, 3, 3] ([rawD k0 n0 s0 b0, .lit (.int .i64 x1), .lit (.int .i64 x2)] : List (DataW H))).all (fun x => decide (x ≤ reachBytes)) = true := hsz0
  simp [DataW.weightsEach, DataW.weights, rawD, reachBytes, Tryz.underlying23] at hsz
  have zs0 := hsz
  have hr0 : s0.size ≤ 140737488355328 := Nat.le_trans (of_decide_eq_true zs0) (by omega)
  obtain ⟨aL, hLib⟩ := lib_of_laid (l := Rows.typesCastsRow.laid) rfl hL
  simp only [List.append_nil] at hW'
  refine (casts_law k0 n0 s0 b0 x1 x2 aL W (bounds64 wk0) (bounds64 wn0) hr0 hLib).mono fun e W' ⟨he, hb⟩ => ?_
  subst he
  exact ⟨_, rfl, _, _, _, [], [], [], hW', trodAll_mk1 (shut_bool Tryz.underlying4 _), trodAll_mk3 (shut_raw wk0 wn0 ws0) (shut_int Tryz.underlying3 wx1) (shut_int Tryz.underlying3 wx2), rfl, hb.frame _, fun h => by cases h⟩

theorem typesCasts_holds : Rows.TypesCastsSaid :=
  OpenClaim.holds_of_wide 3 Tryz.f3 rfl rfl rfl rfl rfl rfl rfl ⟨rfl, rfl, rfl, rfl, rfl⟩ rfl rfl rfl rfl rfl (by kernel_rfl) Tryz.func3 (by kernel_rfl)
    (of_decide_eq_true (by kernel_rfl)) (by unfold Func.isWrapper; first | (rw [if_pos (by decide +kernel)]; kernel_rfl) | (rw [if_neg (by decide +kernel)]; exact ⟨rfl, rfl⟩))
    (fun os started H enc _ => typesCasts_lifted os started H enc)

theorem typesCasts_card : Rows.TypesCastsCardSaid :=
  Claim7.holds_tied_plain_at .later [] [.data, .data, .data, .data, .sentinel, .sentinel, .data, .pinned, .pinned] true Rows.typesCastsCard.stood.harness Rows.typesCastsCard.stood.looks typesCasts_holds (fun _ h => by cases h) (by kernel_rfl) (fun _ h => by cases h) typesCasts_row_tie rfl ⟨rfl, rfl⟩ (by kernel_rfl) rfl
    (fun f fn hf hfn => by
      obtain rfl : f = 3 := Option.some.inj ((show Tryz.prog.funcNamed Rows.typesCastsRow.func = some 3 by kernel_rfl).symm.trans hf) |>.symm
      obtain rfl : fn = Tryz.f3 := (Option.some.inj (Tryz.func3.symm.trans hfn)).symm
      exact ⟨by kernel_rfl, fun j t ht => by
        rw [Tryz.params3] at ht
        have hm : t ∈ [23, 3, 3] := by simpa using Array.mem_of_getElem? ht
        have hall : ([23, 3, 3].all fun u => !Tryz.prog.wantsStandIn u) = true := by kernel_rfl
        exact (show Tryz.prog.wantsStandIn t = false by simpa using List.all_eq_true.1 hall t hm)⟩)
    (by kernel_rfl)
#print axioms typesCasts_card
end Go.Proofs.YtfmnlgepllgpnaaGreatDoor

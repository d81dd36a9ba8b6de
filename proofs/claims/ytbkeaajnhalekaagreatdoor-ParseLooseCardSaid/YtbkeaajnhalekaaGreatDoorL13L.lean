/- From what a row lists of package-level variables to what the walks ask of a world. -/
import Derived.Test.YtbkeaajnhalekaaGreatDoorS13
import Derived.Stop.LaidErr
import Derived.ProofKit
import Derived.Lay
import Derived.SevenTiedAt
namespace Go.Proofs.YtbkeaajnhalekaaGreatDoor
open Go.RowKit Go.Lib
set_option linter.unusedVariables false

theorem cells_of_strs {H : Type} {enc : TypeId × Value → H} {P : Program} {w : World} {base : Nat} {sp : Nat → Bool} {held : Bool} {fuel : Nat} {t e : TypeId} {n : Nat} {cs : List Value} {zs : List (List UInt8)} {p : List MemPlace}
    (ht : P.underlying t = some (.array n e)) (he : P.underlying e = some .string) (hce : P.cellsOf e = 1) (hct : P.cellsOf t = n)
    (h : DataW.trod enc P w base sp held fuel t cs = some (.agg (zs.map fun z => .lit (.string z)), p)) : cs = zs.map fun z => Value.string ⟨z.toArray⟩ := by
  cases fuel with
  | zero => simp [DataW.trod] at h
  | succ fuel =>
    simp only [DataW.trod, ht, hce, hct, Nat.mul_one] at h
    split at h
    · rename_i hl
      obtain ⟨xs, hm, hx⟩ := Option.map_eq_some_iff.1 h
      have hxs : xs.map (·.1) = zs.map fun z => (DataW.lit (.string z) : DataW H) := by
        have := congrArg Prod.fst hx
        simpa using this
      have hxl : xs.length = n := by simpa using mapM_length hm
      have hzl : zs.length = n := by
        have := congrArg List.length hxs
        simp at this
        omega
      apply List.ext_getElem?
      intro i
      by_cases hi : i < n
      · obtain ⟨b, hb, hf⟩ := mapM_at hm i i (by simp [hi])
        obtain ⟨z, hc, rfl, _⟩ := DataW.trod_string he hf
        have h1 : cs[i]? = some (.string z) := by
          have := congrArg (·[0]?) hc
          simpa [List.getElem?_take, List.getElem?_drop] using this
        have h2 : (xs.map (·.1))[i]? = some (DataW.lit (.string z.data.toList) : DataW H) := by simp [hb]
        rw [hxs] at h2
        simp only [List.getElem?_map, Option.map_eq_some_iff, DataW.lit.injEq, Lit.string.injEq] at h2
        obtain ⟨z', hz', h3⟩ := h2
        subst h3
        simp [h1, hz']
      · rw [List.getElem?_eq_none (by omega), List.getElem?_eq_none (by simp; omega)]
    · cases h
theorem tErr : (Tryz.prog.globals[4]?).map (·.type) = some 98 := by kernel_rfl
theorem tSigns : (Tryz.prog.globals[0]?).map (·.type) = some 101 := by kernel_rfl
theorem cErr : Tryz.prog.cellsOf 155 = 1 := by kernel_rfl
theorem cStr : Tryz.prog.cellsOf 9 = 1 := by kernel_rfl
theorem cSigns : Tryz.prog.cellsOf 101 = 16 := by kernel_rfl
theorem star_err : "*" ++ "errors.errorString" = "*errors.errorString" := by decide
theorem row_err (u : TypeId) (h : Tryz.prog.typeName? 3 u = some "*errors.errorString") : u = 153 :=
  typeName_ptr_named (nm := "errors.errorString") (by rw [star_err]; kernel_rfl) (by kernel_rfl) (by decide) u (by rw [star_err]; exact h)
theorem signs_of_head {W : World} {rest : List (String × DataW Unit)} (h : laidMet Tryz.prog (("stile/lex.signs", Rows.laid_stile_lex_signs) :: rest) W) : W.var? Tryz.prog "stile/lex.signs" = some signsV := by
  obtain ⟨ps, ⟨g', t', cs, fuel, p, q, hg', ht', hvar, hd, _, _⟩, _⟩ := h
  obtain rfl := Option.some.inj (gSigns.symm.trans hg')
  obtain rfl := Option.some.inj (tSigns.symm.trans ht')
  have hc := cells_of_strs (zs := signs) Tryz.underlying101 Tryz.underlying9 cStr cSigns hd
  rw [hvar]
  have : cs = signsV := by
    rw [← Array.toArray_toList (xs := cs), hc]
    rfl
  rw [this]
theorem lib_of_laid {W : World} {l : List (String × DataW Unit)} (hl : l = Rows.parseReadsRow.laid) (h : laidMetH Tryz.prog l W) : ∃ a, LibW a W := by
  subst hl
  rw [MakeChecks.laidMetH_plain _ _ _ (by kernel_rfl)] at h
  have h2 := h.tail.tail
  have h4 := h2.tail.tail
  have h6 := h4.tail.tail
  obtain ⟨a, s0, hv0, -, -, -⟩ := laid_sentinel h4 gErr tErr Tryz.underlying98 row_err Tryz.underlying153 Tryz.underlying155 rfl rfl Tryz.underlying9 cErr cStr
  exact ⟨a, signs_of_head h6, hv0⟩
end Go.Proofs.YtbkeaajnhalekaaGreatDoor

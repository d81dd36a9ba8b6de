/- From what a row lists of the two tables to what the walks ask of a world. -/
import Derived.Test.YtmldpbgdjlblmaaDoorM10A
import Derived.Stop.LaidErr
import Derived.ProofKit
import Derived.Lay
import Derived.SevenTiedAt
namespace Go.Proofs.YtmldpbgdjlblmaaDoor
open Go.RowKit Go.Lib
set_option linter.unusedVariables false

theorem cells_of_bools {H : Type} {enc : TypeId × Value → H} {P : Program} {w : World} {base : Nat} {sp : Nat → Bool} {held : Bool} {fuel : Nat} {t e : TypeId} {n : Nat} {cs : List Value} {zs : List Bool} {p : List MemPlace}
    (ht : P.underlying t = some (.array n e)) (he : P.underlying e = some .bool) (hce : P.cellsOf e = 1) (hct : P.cellsOf t = n)
    (h : DataW.trod enc P w base sp held fuel t cs = some (.agg (zs.map fun z => .lit (.bool z)), p)) : cs = zs.map Value.bool := by
  cases fuel with
  | zero => simp [DataW.trod] at h
  | succ fuel =>
    simp only [DataW.trod, ht, hce, hct, Nat.mul_one] at h
    split at h
    · rename_i hl
      obtain ⟨xs, hm, hx⟩ := Option.map_eq_some_iff.1 h
      have hxs : xs.map (·.1) = zs.map fun z => (DataW.lit (.bool z) : DataW H) := by
        have := congrArg Prod.fst hx
        simpa using this
      have hxl : xs.length = n := by simpa using mapM_length hm
      have hzl : zs.length = n := by
        have := congrArg List.length hxs
        simp at this
        omega
      apply List.ext_getElem?
      intro i
      by_cases hi : i < n
      · obtain ⟨b, hb, hf⟩ := mapM_at hm i i (by simp [hi])
        obtain ⟨z, hc, rfl⟩ := DataW.trod_bool he hf
        have h1 : cs[i]? = some (.bool z) := by
          have := congrArg (·[0]?) hc
          simpa [List.getElem?_take, List.getElem?_drop] using this
        have h2 : (xs.map (·.1))[i]? = some (DataW.lit (.bool z) : DataW H) := by simp [hb]
        rw [hxs] at h2
        simp only [List.getElem?_map, Option.map_eq_some_iff, DataW.lit.injEq, Lit.bool.injEq] at h2
        obtain ⟨z', hz', h3⟩ := h2
        subst h3
        simp [h1, hz']
      · rw [List.getElem?_eq_none (by omega), List.getElem?_eq_none (by simp; omega)]
    · cases h
theorem take_sevens {α : Type} (cs : List α) : ∀ k, cs.take (k * 7) = (List.range k).flatMap fun i => (cs.drop (i * 7)).take 7
  | 0 => by simp
  | k + 1 => by
    rw [List.range_succ, List.flatMap_append, ← take_sevens cs k, Nat.succ_mul, List.take_add]
    simp
theorem cells_of_table {H : Type} {enc : TypeId × Value → H} {P : Program} {w : World} {base : Nat} {sp : Nat → Bool} {held : Bool} {fuel : Nat} {t e b : TypeId} {cs : List Value} {zss : List (List Bool)} {p : List MemPlace}
    (ht : P.underlying t = some (.array 7 e)) (he : P.underlying e = some (.array 7 b)) (hb : P.underlying b = some .bool) (hcb : P.cellsOf b = 1) (hce : P.cellsOf e = 7) (hct : P.cellsOf t = 49)
    (h : DataW.trod enc P w base sp held fuel t cs = some (.agg (zss.map fun zs => .agg (zs.map fun z => .lit (.bool z))), p)) : cs = zss.flatMap fun zs => zs.map Value.bool := by
  cases fuel with
  | zero => simp [DataW.trod] at h
  | succ fuel =>
    simp only [DataW.trod, ht, hce, hct] at h
    split at h
    · rename_i hl
      obtain ⟨xs, hm, hx⟩ := Option.map_eq_some_iff.1 h
      have hxs : xs.map (·.1) = zss.map fun zs => (DataW.agg (zs.map fun z => .lit (.bool z)) : DataW H) := by
        have := congrArg Prod.fst hx
        simpa using this
      have hxl : xs.length = 7 := by simpa using mapM_length hm
      have hzl : zss.length = 7 := by
        have := congrArg List.length hxs
        simp at this
        omega
      have hlen : cs.length = 49 := by simpa using hl
      have hall : ∀ i (hi : i < 7), (cs.drop (i * 7)).take 7 = (zss[i]'(by omega)).map Value.bool := by
        intro i hi
        obtain ⟨b', hb', hf⟩ := mapM_at hm i i (by simp [hi])
        have h2 : (xs.map (·.1))[i]? = some b'.1 := by simp [hb']
        rw [hxs, List.getElem?_map, List.getElem?_eq_getElem (by omega)] at h2
        simp only [Option.map_some, Option.some.injEq] at h2
        obtain ⟨b1, b2⟩ := b'
        simp only at h2
        subst h2
        exact cells_of_bools he hb hcb hce hf
      have e1 : cs = (List.range 7).flatMap fun i => (cs.drop (i * 7)).take 7 := by
        rw [← take_sevens cs 7, List.take_of_length_le (by omega)]
      obtain ⟨z0, z1, z2, z3, z4, z5, z6, rfl⟩ : ∃ z0 z1 z2 z3 z4 z5 z6, zss = [z0, z1, z2, z3, z4, z5, z6] := by
        match zss, hzl with
        | [z0, z1, z2, z3, z4, z5, z6], _ => exact ⟨_, _, _, _, _, _, _, rfl⟩
      have f0 := hall 0 (by omega)
      have f1 := hall 1 (by omega)
      have f2 := hall 2 (by omega)
      have f3 := hall 3 (by omega)
      have f4 := hall 4 (by omega)
      have f5 := hall 5 (by omega)
      have f6 := hall 6 (by omega)
      rw [e1, show List.range 7 = [0, 1, 2, 3, 4, 5, 6] from rfl]
      simp only [List.flatMap_cons, List.flatMap_nil, f0, f1, f2, f3, f4, f5, f6]
      rfl
    · cases h
theorem tFits : (Tryd.prog.globals[1]?).map (·.type) = some 116 := by kernel_rfl
theorem tCov : (Tryd.prog.globals[0]?).map (·.type) = some 95 := by kernel_rfl
theorem cBool : Tryd.prog.cellsOf 4 = 1 := by kernel_rfl
theorem cRow : Tryd.prog.cellsOf 115 = 7 := by kernel_rfl
theorem cTab : Tryd.prog.cellsOf 116 = 49 := by kernel_rfl
theorem cSet : Tryd.prog.cellsOf 94 = 1 := by kernel_rfl
theorem cSets : Tryd.prog.cellsOf 95 = 7 := by kernel_rfl
def fitsLL : List (List Bool) := [[true, true, true, true, true, true, true], [true, true, true, true, true, true, false], [true, true, true, false, false, false, false], [true, true, false, true, false, true, false], [true, true, false, false, false, false, false], [true, true, false, false, false, false, false], [true, false, false, false, false, false, false]]
theorem fits_of_head {W : World} {rest : List (String × DataW Unit)} (h : laidMet Tryd.prog (("stile/modes.fits", Rows.laid_stile_modes_fits) :: rest) W) : W.var? Tryd.prog "stile/modes.fits" = some fitsV := by
  obtain ⟨ps, ⟨g', t', cs, fuel, p, q, hg', ht', hvar, hd, _, _⟩, _⟩ := h
  obtain rfl := Option.some.inj (gFits.symm.trans hg')
  obtain rfl := Option.some.inj (tFits.symm.trans ht')
  have hc := cells_of_table (zss := fitsLL) Tryd.underlying116 Tryd.underlying115 Tryd.underlying4 cBool cRow cTab hd
  rw [hvar]
  have : cs = fitsV := by
    rw [← Array.toArray_toList (xs := cs), hc]
    rfl
  rw [this]
theorem lib_of_laid {W : World} {l : List (String × DataW Unit)} (hl : l = Rows.locksPlaysRow.laid) (h : laidMetH Tryd.prog l W) : LibW W := by
  subst hl
  rw [MakeChecks.laidMetH_plain _ _ _ (by kernel_rfl)] at h
  exact ⟨fits_of_head h, tabIs_of_head (zs := covL) gCov tCov Tryd.underlying95 Tryd.underlying94 cSet cSets h.tail⟩
end Go.Proofs.YtmldpbgdjlblmaaDoor

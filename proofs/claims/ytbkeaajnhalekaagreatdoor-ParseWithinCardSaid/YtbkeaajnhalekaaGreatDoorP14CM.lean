/- A query's only condition: where there is none. -/
import Derived.Test.YtbkeaajnhalekaaGreatDoorP14SA
import Derived.Test.YtbkeaajnhalekaaGreatDoorP14WL
namespace Go.Proofs.YtbkeaajnhalekaaGreatDoor
open Go.RowKit
set_option linter.unusedVariables false
set_option linter.unusedSimpArgs false

set_option maxHeartbeats 4000000 in
set_option maxRecDepth 100000 in
theorem cond_no {P : Nat → Prop} {w : World} {ao : Option Addr} {cap : Nat} {b o : Tr} (hT : TV P w ao cap (nd [113, 117, 101, 114, 121] [] [b, o])) (hb : (b.op == [115, 101, 108, 101, 99, 116]) = false) :
    Calls Tryz.prog 17 #[nv [113, 117, 101, 114, 121] [] 0 ao 2 cap] w fun e w' => e = .returned (.tuple #[nv [] [] 0 none 0 0, .bool false]) ∧ Below w.heap.size w w' := by
  obtain ⟨g0, a0, c0, rfl, hg0, _, hc0, x0, _, _, _, tv0⟩ := hT.part (i := 0) rfl
  replace x0 := cell00 x0
  replace hc0 : 2 ≤ cap := hc0
  have hl3 : w.heap.size ≠ g0 := by omega
  have hl4 : w.heap.size + 1 ≠ g0 := by omega
  generalize b.op = bop at *
  have hb2 : (bop != [115, 101, 108, 101, 99, 116]) = true := by rw [bne, hb]; rfl
  have hb3 : ¬ bop = [115, 101, 108, 101, 99, 116] := by simpa using hb
  clear hT tv0
  go_enter Tryz.func17, Tryz.ntmps17
  go_wp2_with fail
  refine bodyPost_ret (v := .tuple #[.agg #[.string ⟨#[]⟩, .string ⟨#[]⟩, .int .i64 0, .slice none 0 0], .bool false]) (by simp [results, Tryz.results17, go_sem]) rfl ?_
  exact ⟨rfl, ((Below.refl _ _).alloc (Nat.le_refl _) _).alloc (by simp) _⟩
/-- The condition of a query of our text, if there is one. -/
inductive CnTo (w w' : World) (e : Ending) (b : Tr) : Prop
  | no (hb : (b.op == [115, 101, 108, 101, 99, 116]) = false) (he : e = .returned (.tuple #[nv [] [] 0 none 0 0, .bool false])) (h : Below w.heap.size w w')
  | ok (c g hv : Tr) (hb : b = selT c g hv) (a : Option Addr) (k : Nat) (he : e = .returned (.tuple #[nv c.op c.s c.n a c.L.length k, .bool true])) (h : Below w.heap.size w w') (hT : TV (fun _ => True) w' a k c)
theorem cond_any {P : Nat → Prop} {w : World} {ao : Option Addr} {cap : Nat} {b o : Tr} (hT : TV P w ao cap (nd [113, 117, 101, 114, 121] [] [b, o])) (hf : (b.op == [115, 101, 108, 101, 99, 116]) = false ∨ ∃ c g hv, b = selT c g hv) :
    Calls Tryz.prog 17 #[nv [113, 117, 101, 114, 121] [] 0 ao 2 cap] w fun e w' => CnTo w w' e b := by
  rcases hf with hf | ⟨c, g, hv, rfl⟩
  · exact (cond_no hT hf).mono fun e w' ⟨he, h⟩ => .no hf he h
  · exact (cond_q hT).mono fun e w' ⟨a, k, he, h, hc⟩ => .ok c g hv rfl a k he h (hc.keep fun _ _ _ => ⟨trivial, rfl⟩)
end Go.Proofs.YtbkeaajnhalekaaGreatDoor

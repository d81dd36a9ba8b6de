/- The program's sign. -/
import Derived.Test.YtifnmclidabkfaaDoorL13G
namespace Go.Proofs.YtifnmclidabkfaaDoor
open Go.RowKit
set_option linter.unusedVariables false
set_option linter.unusedSimpArgs false

def sgA (i : Nat) : List UInt8 := signs.getD i []
theorem lt16 {P : Nat → Prop} (h0 : P 0) (h1 : P 1) (h2 : P 2) (h3 : P 3) (h4 : P 4) (h5 : P 5) (h6 : P 6) (h7 : P 7) (h8 : P 8) (h9 : P 9) (h10 : P 10) (h11 : P 11) (h12 : P 12) (h13 : P 13) (h14 : P 14) (h15 : P 15) (i : Nat) (h : i < 16) : P i := by
  have : i = 0 ∨ i = 1 ∨ i = 2 ∨ i = 3 ∨ i = 4 ∨ i = 5 ∨ i = 6 ∨ i = 7 ∨ i = 8 ∨ i = 9 ∨ i = 10 ∨ i = 11 ∨ i = 12 ∨ i = 13 ∨ i = 14 ∨ i = 15 := by omega
  rcases this with rfl | rfl | rfl | rfl | rfl | rfl | rfl | rfl | rfl | rfl | rfl | rfl | rfl | rfl | rfl | rfl <;> assumption
theorem sg_idx (i : Nat) (h : i < 16) (W : World) : (Instr.index 53 (.agg signsV) (.int .i64 i)).run Tryd.prog W = .ok (.string ⟨(sgA i).toArray⟩) W := by
  refine lt16 (P := fun i => (Instr.index 53 (.agg signsV) (.int .i64 i)).run Tryd.prog W = .ok (.string ⟨(sgA i).toArray⟩) W) ?_ ?_ ?_ ?_ ?_ ?_ ?_ ?_ ?_ ?_ ?_ ?_ ?_ ?_ ?_ ?_ i h <;> kernel_rfl
theorem sg_find {r : List UInt8} {i : Nat} (hi : i < 16) (h : ∀ j, j < i → (sgA j).isPrefixOf r = false) (hp : (sgA i).isPrefixOf r = true) : sgS r = .tk 3 (sgA i) 0 (sgA i).length := by
  have : signs.find? (fun g => g.isPrefixOf r) = some (sgA i) := by
    rw [List.find?_eq_some_iff_getElem]
    refine ⟨hp, i, hi, ?_, fun j hj => ?_⟩
    · simp only [sgA, List.getD, List.getElem?_eq_getElem (show i < signs.length from hi), Option.getD_some]
      rfl
    · have := h j hj
      simp only [sgA, List.getD, List.getElem?_eq_getElem (show j < signs.length from Nat.lt_trans hj hi), Option.getD_some] at this
      rw [this]
      rfl
  unfold sgS
  rw [this]
theorem sg_none {r : List UInt8} (h : ∀ j, j < 16 → (sgA j).isPrefixOf r = false) : sgS r = .no 1 := by
  have : signs.find? (fun g => g.isPrefixOf r) = none := by
    rw [List.find?_eq_none]
    intro g hg
    obtain ⟨j, hj, rfl⟩ := List.getElem_of_mem hg
    have := h j hj
    simp only [sgA, List.getD, List.getElem?_eq_getElem hj, Option.getD_some] at this
    rw [this]
    simp
  unfold sgS
  rw [this]
set_option maxHeartbeats 2000000 in
set_option maxRecDepth 100000 in
theorem ssign_any {a : Addr} {w : World} {b : Nat} {s : ByteArray} {p : Nat} (h : Sc w b s p) (hL : LibW a w) (hs : s.size ≤ 10000) (hp : p < s.size) : Calls Tryd.prog 23 #[.pointer (some ⟨b, 0, none⟩)] w fun e w' => StTo w b s p (sgS (rest s p)) e w' := by
  have g0 := hL.sgCell
  obtain ⟨o, ho⟩ : ∃ o, o = sgS (rest s p) := ⟨_, rfl⟩
  rw [← ho]
  have HOO := Go.Proofs.YtifnmclidabkfaaDoor.Hid.mk' ho
  have HS0 := Go.Proofs.YtifnmclidabkfaaDoor.Hid.mk' h
  have k0 := g0 0
  have k1 := g0 1
  have k2 := g0 2
  have k3 := g0 3
  have k4 := g0 4
  have k5 := g0 5
  have k6 := g0 6
  have k7 := g0 7
  have k8 := g0 8
  have k9 := g0 9
  have k10 := g0 10
  have k11 := g0 11
  have k12 := g0 12
  have k13 := g0 13
  have k14 := g0 14
  have k15 := g0 15
  clear ho h hL g0
  simp only [signsV, List.getElem?_toArray, List.getElem?_cons_zero, List.getElem?_cons_succ] at k0 k1 k2 k3 k4 k5 k6 k7 k8 k9 k10 k11 k12 k13 k14 k15
  go_enter Tryd.func23, Tryd.ntmps23
  go_wp2_with fail
  clear k0 k1 k2 k3 k4 k5 k6 k7 k8 k9 k10 k11 k12 k13 k14 k15
  have HI : Hid (∀ i : Nat, i < 16 → ∀ W : World, (Instr.index 53 (.agg signsV) (.int .i64 i)).run Tryd.prog W = .ok (.string ⟨(sgA i).toArray⟩) W) := sg_idx
  simp only [signsV] at HI
  generalize Value.agg #[.string ⟨#[60, 61]⟩, .string ⟨#[62, 61]⟩, .string ⟨#[60, 62]⟩, .string ⟨#[124, 124]⟩, .string ⟨#[40]⟩, .string ⟨#[41]⟩, .string ⟨#[44]⟩, .string ⟨#[46]⟩, .string ⟨#[59]⟩, .string ⟨#[61]⟩, .string ⟨#[60]⟩, .string ⟨#[62]⟩, .string ⟨#[43]⟩, .string ⟨#[45]⟩, .string ⟨#[42]⟩, .string ⟨#[47]⟩] = SV at *
  go_loopw [7] (fun x wr => ∃ i : Nat, x = .int .i64 i ∧ i ≤ 16 ∧ Hid (∀ j, j < i → (sgA j).isPrefixOf (rest s p) = false) ∧ Hid (Below w.heap.size w wr)) (fun x _ => 16 - (intOf x).toNat)
  case atStart => exact ⟨0, rfl, by omega, fun j hj => by omega, Below.refl _ _⟩
  case round =>
    rename World => wr
    obtain ⟨i, rfl, hi, HN, HB⟩ := hrel
    by_cases hlt : i < 16
    · have tl : (i : Int) < 16 := by omega
      have hidx := HI.out i hlt wr
      have hS := HS0.out.keepB HB.out
      have hst := stands_any hS hs ⟨(sgA i).toArray⟩
      simp only at hst
      have hlen : (⟨(sgA i).toArray⟩ : ByteArray).size = (sgA i).length := by rw [size_of_list]
      cases hpre : (sgA i).isPrefixOf (rest s p) with
      | false =>
        rw [hpre] at hst
        have HN2 : Hid (∀ j, j < i + 1 → (sgA j).isPrefixOf (rest s p) = false) := fun j hj => by
          by_cases e : j = i
          · subst e; exact hpre
          · exact HN.out j (by omega)
        generalize (⟨(sgA i).toArray⟩ : ByteArray) = g at *
        clear hS HN hpre hlen
        go_wp2_with fail
        refine hst.mono ?_
        rintro e w2 ⟨rfl, hb2⟩
        have HB2 : Hid (Below w.heap.size w w2) := HB.out.trans (hb2.mono HB.out.size)
        clear hst hb2 HB hidx
        go_wp2_with fail
        go_roundw
        case rel => exact ⟨i + 1, by go_num, by omega, HN2, HB2⟩
        case measure => simp [intOf]; omega
      | true =>
        rw [hpre] at hst
        have hsg := sg_find hlt HN.out hpre
        have hle : p + (sgA i).length ≤ s.size := by
          have := (List.isPrefixOf_iff_prefix.1 hpre).length_le
          rw [rest_len] at this
          omega
        have HGO : Hid (∀ W, Below w.heap.size w W → StTo w b s p o (.returned (.tuple #[.string ⟨(sgA i).toArray⟩, .string ⟨#[48, 48, 48, 48, 48]⟩])) (W.setCell ⟨b, 1, none⟩ (.int .i64 ((p : Int) + ((⟨(sgA i).toArray⟩ : ByteArray).size : Int))))) := fun W hW => by
          refine .tk 3 (sgA i) 0 (sgA i).length (HOO.out.trans hsg) rfl ?_ ((Fr.of_below (F := fun i => i = b) hW).trans (fr_set W b 1 _) (fun j hj => Or.inl hj))
          rw [hlen]
          exact (HS0.out.keepB hW).to_ (q := p + (sgA i).length) hle
        generalize (⟨(sgA i).toArray⟩ : ByteArray) = g at *
        have hg1 : p + g.size ≤ s.size := by omega
        clear HN hpre hsg hle hlen
        go_wp2_with fail
        refine hst.mono ?_
        rintro e w2 ⟨rfl, hb2⟩
        have HB2 : Hid (Below w.heap.size w w2) := HB.out.trans (hb2.mono HB.out.size)
        have hS2 := HS0.out.keepB HB2.out
        have c1 := hS2.c1
        have f1 := hS2.fz
        clear hst hb2 HB hidx hS hS2
        go_wp2_with fail
        go_ret2
        exact HGO.out _ HB2.out
    · have tl : ¬ (i : Int) < 16 := by omega
      have hsg := sg_none (fun j hj => HN.out j (by omega))
      have HGO : Hid (StTo w b s p o (.returned (.tuple #[.string ⟨#[]⟩, .string ⟨#[52, 50, 54, 48, 49]⟩])) wr) := .no 1 (HOO.out.trans hsg) rfl _ (HS0.out.keepB HB.out) (Fr.of_below HB.out)
      clear hsg HN
      go_wp2_with fail
      go_ret2
      exact HGO.out
end Go.Proofs.YtifnmclidabkfaaDoor

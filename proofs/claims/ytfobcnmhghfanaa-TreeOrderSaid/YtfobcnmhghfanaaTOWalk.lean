/- The walk of the law TreeOrder. -/
import Derived.Test.YtfobcnmhghfanaaB9ZH
import Derived.Test.YtfobcnmhghfanaaB9Open
import Derived.Deep.CutBlock
import Derived.Deep.DeepCutAuto
namespace Go.Proofs.Ytfobcnmhghfanaa
open Go.RowKit Go.Shelf
set_option linter.unusedVariables false
set_option linter.unusedSimpArgs false

/-- The first tree, k keys in. -/
def OrA (ss : List ByteArray) (w wr : World) (a b : Nat) (k : Nat) : Prop := ∃ L, T2 w wr (pt a) (pt b) L [] ∧ LenL L (fun x => ∃ j, j < k ∧ ss[j]? = some x) ∧ L.length ≤ k
/-- The second, from the end down to the k-th. -/
def OrB (ss : List ByteArray) (M : Nat) (w wr : World) (a b : Nat) (k : Nat) : Prop := ∃ A B, T2 w wr (pt a) (pt b) A B ∧ LenL A (fun x => ∃ j, j < M ∧ ss[j]? = some x) ∧ A.length ≤ M ∧ LenL B (fun x => ∃ j, k ≤ j ∧ j < M ∧ ss[j]? = some x) ∧ B.length ≤ M - k
theorem OrA.bl {ss : List ByteArray} {w wr : World} {a b k : Nat} (h : OrA ss w wr a b k) : Below w.heap.size w wr := by obtain ⟨L, h, _⟩ := h; exact h.bl
theorem OrB.bl {ss : List ByteArray} {w wr : World} {a b M k : Nat} (h : OrB ss M w wr a b k) : Below w.heap.size w wr := by obtain ⟨A, B, h, _⟩ := h; exact h.bl
theorem OrA.step {ss : List ByteArray} {w wr wx : World} {a b k : Nat} (h : OrA ss w wr a b k) (hk : k < ss.length) (h2 : k ≤ 200) (hb : Below wr.heap.size wr wx) : Calls Try.prog 14 #[pt a, .string ss[k], .int .i64 (ss[k].size : Nat)] wx fun e w' => ∃ z, e = .returned (.int .i64 z) ∧ OrA ss w w' a b (k + 1) := by
  obtain ⟨L, h, hL, hl⟩ := h
  refine ((h.below hb).insA (by omega) ss[k] (ss[k].size : Nat)).mono ?_
  rintro e w' ⟨he, ht⟩
  refine ⟨_, he, _, ht, (hL.ins ss[k]).mono (fun x => ?_), Nat.le_trans (len_ins ..) (by omega)⟩
  constructor
  · rintro ⟨j, hj, hx⟩
    by_cases e : j = k
    · subst e; rw [List.getElem?_eq_getElem hk, Option.some.injEq] at hx; exact Or.inl hx.symm
    · exact Or.inr ⟨j, by omega, hx⟩
  · rintro (rfl | ⟨j, hj, hx⟩)
    · exact ⟨k, by omega, List.getElem?_eq_getElem hk⟩
    · exact ⟨j, by omega, hx⟩
theorem OrB.step {ss : List ByteArray} {w wr wx : World} {a b M k : Nat} (h : OrB ss M w wr a b (k + 1)) (hk : k < ss.length) (h2 : k < M) (h3 : M ≤ 200) (hb : Below wr.heap.size wr wx) : Calls Try.prog 14 #[pt b, .string ss[k], .int .i64 (ss[k].size : Nat)] wx fun e w' => ∃ z, e = .returned (.int .i64 z) ∧ OrB ss M w w' a b k := by
  obtain ⟨A, B, h, hA, ha, hB, hl⟩ := h
  refine ((h.below hb).swap.insA (by omega) ss[k] (ss[k].size : Nat)).mono ?_
  rintro e w' ⟨he, ht⟩
  refine ⟨_, he, _, _, ht.swap, hA, ha, (hB.ins ss[k]).mono (fun x => ?_), Nat.le_trans (len_ins ..) (by omega)⟩
  constructor
  · rintro ⟨j, h1, hj, hx⟩
    by_cases e : j = k
    · subst e; rw [List.getElem?_eq_getElem hk, Option.some.injEq] at hx; exact Or.inl hx.symm
    · exact Or.inr ⟨j, by omega, hj, hx⟩
  · rintro (rfl | ⟨j, h1, hj, hx⟩)
    · exact ⟨k, by omega, h2, List.getElem?_eq_getElem hk⟩
    · exact ⟨j, by omega, hj, hx⟩
/-- At the end both are one line. -/
theorem OrB.same {ss : List ByteArray} {w wr : World} {a b M : Nat} (h : OrB ss M w wr a b 0) : ∃ L, T2 w wr (pt a) (pt b) L L ∧ L.length ≤ M := by
  obtain ⟨A, B, h, hA, ha, hB, hl⟩ := h
  obtain ⟨ra, rb, h1, h2, h3⟩ := h
  have : A = B := LenL.eq h1.tr.line h2.tr.line hA (hB.mono (fun x => ⟨fun ⟨j, h1, h2⟩ => ⟨j, Nat.zero_le _, h1, h2⟩, fun ⟨j, _, h1, h2⟩ => ⟨j, h1, h2⟩⟩))
  subst this
  exact ⟨A, ⟨ra, rb, h1, h2, h3⟩, ha⟩
set_option maxRecDepth 100000 in
set_option maxHeartbeats 4000000 in
theorem order_law (v : Value) (ss : List ByteArray) (probe : ByteArray) (w : World) (hv : RowS w v ss) :
    Calls Try.prog 5 #[v, .string probe] w fun e w' => e = .returned (.bool true) ∧ Below w.heap.size w w' := by
  obtain ⟨ao, cap, rfl, hcap, hcl⟩ := hv
  have HCL : Hid (ss = [] ∨ ∃ g o, ao = some ⟨g, o, none⟩ ∧ ∀ k (h : k < ss.length), w.cell? ⟨g, o + k, none⟩ = some (.string ss[k])) := hcl
  clear hcl
  have hn1 := tb_new w w (Below.refl _ _)
  go_enter Try.func5, Try.ntmps5
  go_wp2_with fail
  refine hn1.mono ?_
  clear hn1
  rintro e w1 ⟨ra, a, rfl, ta, _, _⟩
  have hn2 := t2_new ta
  clear ta
  go_wp2_with fail
  refine hn2.mono ?_
  clear hn2
  rintro e w2 ⟨b, rfl, t2⟩
  have hal := alive_any w2
  have T2' : Hid (T2 w w2 (pt a) (pt b) [] []) := t2
  clear t2
  go_wp2_with fail
  refine hal.mono ?_
  clear hal
  rintro e w3 ⟨rfl, hb3⟩
  have H0 : Hid (OrA ss w w3 a b 0) := ⟨[], T2'.out.below hb3, fun e => by simp, Nat.le_refl _⟩
  clear T2' hb3
  go_upto_block 0 with fail
  go_cut [7] (fun _ wx => Hid (OrA ss w wx a b (min ss.length 200)))
  case first =>
    go_wp2_with fail
    go_loopw [7] (fun i wr => ∃ k : Nat, i = .int .i64 k ∧ k ≤ 200 ∧ k ≤ ss.length ∧ Hid (OrA ss w wr a b k)) (fun i _ => 200 - (intOf i).toNat)
    case atStart => exact ⟨0, rfl, by omega, by omega, H0⟩
    case round =>
      obtain ⟨k, rfl, hk2, hkl, H⟩ := hrel
      clear H0
      by_cases h1 : k < ss.length
      · by_cases h2 : k < 200
        · rcases HCL.out with h0 | ⟨g, o, rfl, hcl⟩
          · rw [h0] at h1; simp at h1
          have q := hcl k h1
          have hlt := World.block_lt_of_cell? w _ q
          have d1 := (H.out.bl.cell hlt).trans q
          have HC : Hid (∀ wb, Below w.heap.size w wb → wb.cell? ⟨g, o + k, none⟩ = some (.string ss[k])) := fun wb hb => (hb.cell hlt).trans q
          have HI : Hid (∀ wx, Below wr.heap.size wr wx → Calls Try.prog 14 #[pt a, .string ss[k], .int .i64 (ss[k].size : Nat)] wx fun e w' => ∃ z, e = .returned (.int .i64 z) ∧ OrA ss w w' a b (k + 1)) := fun wx hb => H.out.step h1 hk2 hb
          have hB0 : Below wr.heap.size wr wr := Below.refl _ _
          have hB1 : Below wr.heap.size wr wr.drew := (Below.refl _ _).drew
          clear hcl q H
          generalize ss[k] = x at *
          go_wp2_with fail
          go_region_held_law (fun w' => w'.cell? ⟨g, o + k, none⟩ = some (.string x)) (first | exact d1 | exact HC.out _ hOb.bl) (first | (go_at_call 14; refine (HI.out _ (by assumption)).mono ?_; rintro e wb ⟨z, rfl, hOb⟩))
          have HOb : Hid _ := hOb
          clear hOb HI HC d1
          go_wp2_with fail
          go_roundw
          case rel => exact ⟨k + 1, by go_num, by omega, by omega, HOb⟩
          case measure => simp [intOf]; omega
        · have e : min ss.length 200 = k := by omega
          go_wp2_with fail
          go_meet
          case rel => rw [e]; exact H
      · have e : min ss.length 200 = k := by omega
        go_wp2_with fail
        go_meet
        case rel => rw [e]; exact H
  case rest =>
  have H1 := hcut
  clear hcut H0
  obtain ⟨M, hM⟩ : ∃ M, min ss.length 200 = M := ⟨_, rfl⟩
  rw [hM] at H1
  have hM1 : M ≤ 200 := by omega
  have hM2 : M ≤ ss.length := by omega
  have H2 : Hid (OrB ss M w wc a b M) := by
    obtain ⟨L, h, hL, hl⟩ := H1.out
    exact ⟨L, [], h, hL, hl, fun e => by constructor <;> (intro h; first | (cases h; done) | (obtain ⟨⟨j, h1, h2, _⟩, _⟩ := h; omega)), by simp⟩
  clear H1
  have hmin : (if (200 : Int) < (ss.length : Int) then (200 : Int) else (ss.length : Int)) = (M : Int) := by split <;> omega
  go_wp2_with fail
  go_loopw [8] (fun i wr => ∃ k : Nat, i = .int .i64 ((k : Int) - 1) ∧ k ≤ M ∧ Hid (OrB ss M w wr a b k)) (fun i _ => (intOf i + 1).toNat)
  case atStart => exact ⟨M, by first | rfl | go_num | (congr 1; omega), by omega, H2⟩
  case round =>
    obtain ⟨k, rfl, hkM, H⟩ := hrel
    clear H2
    cases k with
    | zero =>
      obtain ⟨L, h, hl⟩ := H.out.same
      obtain ⟨rx, ry, hx, hy, _⟩ := h
      have n1 := tnext_any hx.tr probe true
      have HX : Hid (TB w wr rx (pt a) L) := hx
      have HY : Hid (TB w wr ry (pt b) L) := hy
      have hlv := live_le L
      have hgv := ghost_le L
      clear H hx hy
      obtain ⟨o, ho⟩ : ∃ o, nextL L probe true = o := ⟨_, rfl⟩
      rw [ho] at n1
      go_wp2_with fail
      refine n1.mono ?_
      clear n1
      rintro e wa ⟨rfl, hba⟩
      have hx1 := HX.out.below hba
      have hy1 := HY.out.below hba
      have n2 := tnext_any hy1.tr probe true
      rw [ho] at n2
      have HX : Hid (TB w wa rx (pt a) L) := hx1
      have HY : Hid (TB w wa ry (pt b) L) := hy1
      clear hx1 hy1 hba
      obtain ⟨k0, n0, g0, e0, hq⟩ : ∃ k0 n0 g0 e0, nextV o = .tuple #[.string k0, .int .i64 n0, .bool g0, .int .i64 e0] := by cases o <;> exact ⟨_, _, _, _, rfl⟩
      rw [hq] at n2
      simp only [hq]
      go_wp2_with fail
      refine n2.mono ?_
      clear n2
      rintro e wb ⟨rfl, hbb⟩
      have hx1 := HX.out.below hbb
      have hy1 := HY.out.below hbb
      have n3 := tcount_any hx1.tr
      have HX : Hid (TB w wb rx (pt a) L) := hx1
      have HY : Hid (TB w wb ry (pt b) L) := hy1
      clear hx1 hy1 hbb
      simp only
      go_wp2_with fail
      refine n3.mono ?_
      clear n3
      rintro e wd ⟨rfl, hbd⟩
      have hx1 := HX.out.below hbd
      have hy1 := HY.out.below hbd
      have n4 := tcount_any hy1.tr
      have HX : Hid (TB w wd rx (pt a) L) := hx1
      have HY : Hid (TB w wd ry (pt b) L) := hy1
      clear hx1 hy1 hbd
      simp only
      go_wp2_with fail
      refine n4.mono ?_
      clear n4
      rintro e we ⟨rfl, hbe⟩
      have hx1 := HX.out.below hbe
      have hy1 := HY.out.below hbe
      have n5 := twell_any hx1.tr (by omega)
      have HX : Hid (TB w we rx (pt a) L) := hx1
      have HY : Hid (TB w we ry (pt b) L) := hy1
      clear hx1 hy1 hbe
      simp only
      go_wp2_with fail
      refine n5.mono ?_
      clear n5
      rintro e wf ⟨rfl, hbf⟩
      have hy1 := HY.out.below hbf
      have n6 := twell_any hy1.tr (by omega)
      have HY : Hid (TB w wf ry (pt b) L) := hy1
      clear hy1 hbf
      simp only
      go_wp2_with fail
      refine n6.mono ?_
      clear n6
      rintro e wg ⟨rfl, hbg⟩
      simp only
      go_wp2_with fail
      go_ret
      exact ⟨rfl, (HY.out.below hbg).bl⟩
    | succ k =>
      have h1 : k < ss.length := by omega
      rcases HCL.out with h0 | ⟨g, o, rfl, hcl⟩
      · rw [h0] at h1; simp at h1
      have q := hcl k h1
      have hlt := World.block_lt_of_cell? w _ q
      have d1 := (H.out.bl.cell hlt).trans q
      have HC : Hid (∀ wb, Below w.heap.size w wb → wb.cell? ⟨g, o + k, none⟩ = some (.string ss[k])) := fun wb hb => (hb.cell hlt).trans q
      have HI : Hid (∀ wx, Below wr.heap.size wr wx → Calls Try.prog 14 #[pt b, .string ss[k], .int .i64 (ss[k].size : Nat)] wx fun e w' => ∃ z, e = .returned (.int .i64 z) ∧ OrB ss M w w' a b k) := fun wx hb => H.out.step h1 (by omega) hM1 hb
      have hB0 : Below wr.heap.size wr wr := Below.refl _ _
      have hB1 : Below wr.heap.size wr wr.drew := (Below.refl _ _).drew
      clear hcl q H
      generalize ss[k] = x at *
      have hk1 : (((k + 1 : Nat) : Int) - 1) = (k : Int) := by omega
      rw [hk1]
      go_wp2_with fail
      go_region_held_law (fun w' => w'.cell? ⟨g, o + k, none⟩ = some (.string x)) (first | exact d1 | exact HC.out _ hOb.bl) (first | (go_at_call 14; refine (HI.out _ (by assumption)).mono ?_; rintro e wb ⟨z, rfl, hOb⟩))
      have HOb : Hid _ := hOb
      clear hOb HI HC d1
      go_wp2_with fail
      go_roundw
      case rel => exact ⟨k, by first | rfl | go_num | (congr 1; omega), by omega, HOb⟩
      case measure => simp [intOf]
end Go.Proofs.Ytfobcnmhghfanaa

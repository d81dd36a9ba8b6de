/- The walk of the law HeapPlays. -/
import Derived.Test.YtkmgahembhgloaaH8ZJ
namespace Go.Proofs.Ytkmgahembhgloaa
open Go.RowKit Go.Maps
set_option linter.unusedVariables false
set_option linter.unusedSimpArgs false

theorem Ints.fr {w w' : World} {v : Value} {ids : List Int} {S : Nat → Prop} (h : Ints w v ids) (hf : Fr w w' S) (hx : ∀ c, v.ownBlock = some c → ¬ S c) : Ints w' v ids := by
  obtain ⟨ao, cap, e, hc, hcl⟩ := h
  refine ⟨ao, cap, e, hc, hcl.imp id ?_⟩
  rintro ⟨g, e', hX⟩
  exact ⟨g, e', fun j hj => fr_cell hf (hx g (by rw [e, e']; rfl)) (hX j hj)⟩
/-- Both heaps, and the row of the ids beside them. -/
structure LE8 (w0 : World) (hv rv : Value) (n : Nat) (R : Nat → List (List UInt8)) (t : Nat) (lv : Value) (ids : List Int) (w : World) : Prop where
  ex : ∃ X : Nat → Prop, (∀ c, lv.ownBlock = some c → X c) ∧ Pr8 w0.heap.size X w hv rv n R R t
  ints : Ints w lv ids
  below : Below w0.heap.size w0 w
theorem LE8.keepB {w0 : World} {hv rv : Value} {n : Nat} {R : Nat → List (List UInt8)} {t : Nat} {lv : Value} {ids : List Int} {w w' : World} (h : LE8 w0 hv rv n R t lv ids w) (hb : Below w.heap.size w w') : LE8 w0 hv rv n R t lv ids w' := by
  obtain ⟨⟨X, h1, h2⟩, h3, h4⟩ := h
  exact ⟨⟨X, h1, h2.keepB hb⟩, h3.fr (Fr.of_below (F := fun _ => False) hb) (fun _ _ => id), h4.trans (hb.mono h4.size)⟩
theorem LE8.get {w0 : World} {hv rv : Value} {n : Nat} {R : Nat → List (List UInt8)} {t : Nat} {lv : Value} {ids : List Int} {w : World} (h : LE8 w0 hv rv n R t lv ids w) (ht : t < 50000) (id : Int) (hid : -9223372036854775808 ≤ id ∧ id ≤ 9223372036854775807) :
    Calls Try.prog 15 #[hv, .int .i64 id] w fun e w' => ∃ ao m cp, e = .returned (.tuple #[.slice ao m cp, .int .i64 (getE n R id)]) ∧ Bytes w' (.slice ao m cp) (getB n R id) ∧ LE8 w0 hv rv n R (t + 1) lv ids w' := by
  obtain ⟨⟨X, h1, h2⟩, h3, h4⟩ := h
  refine (h2.get ht id hid).mono ?_
  rintro e w' ⟨ao, m, cp, he, ho, hP, hf⟩
  exact ⟨ao, m, cp, he, ho.toBytes, ⟨X, h1, hP.less (fun i hi => Or.inl hi)⟩, h3.fr hf (fun c hc h => h.2 (h1 c hc)), h4.trans (hf.below h4.size (fun i hi => hi.1))⟩
theorem LE8.rget {w0 : World} {hv rv : Value} {n : Nat} {R : Nat → List (List UInt8)} {t : Nat} {lv : Value} {ids : List Int} {w : World} (h : LE8 w0 hv rv n R t lv ids w) (hB : RBd n R) (id : Int) (hid : -9223372036854775808 ≤ id ∧ id ≤ 9223372036854775807) :
    Calls Try.prog 16 #[rv, .int .i64 id] w fun e w' => ∃ ao m cp, e = .returned (.tuple #[.slice ao m cp, .int .i64 (getE n R id)]) ∧ Bytes w' (.slice ao m cp) (getB n R id) ∧ Below w.heap.size w w' := by
  obtain ⟨⟨X, h1, h2⟩, h3, h4⟩ := h
  exact h2.rget hB id hid
theorem LE8.cell {w0 : World} {hv rv : Value} {n : Nat} {R : Nat → List (List UInt8)} {t : Nat} {g m c : Nat} {ids : List Int} {w : World} (h : LE8 w0 hv rv n R t (.slice (some ⟨g, 0, none⟩) m c) ids w) {j : Nat} (hj : j < ids.length) : w.cell? ⟨g, j, none⟩ = some (.int .i64 ids[j]) := by
  obtain ⟨ao, cap, e, hc, hcl⟩ := h.ints
  rcases hcl with h0 | ⟨g', e', hX⟩
  · rw [h0] at hj; simp at hj
  · simp only [Value.slice.injEq] at e
    rw [← e.1] at e'
    simp only [Option.some.injEq, Addr.mk.injEq, and_true] at e'
    rw [e']
    exact hX j hj
set_option maxRecDepth 100000 in
set_option maxHeartbeats 20000000 in
theorem hplays_law (pages frames : Int) (v : Value) (rs : List Op8) (w : World) (hpa : -9223372036854775808 ≤ pages ∧ pages ≤ 9223372036854775807) (hfr : -9223372036854775808 ≤ frames ∧ frames ≤ 9223372036854775807) (hv : Ops8 w v rs) (hok : ∀ x ∈ rs, Op8Ok w x) (hlen : rs.length ≤ 1048576) :
    Calls Try.prog 3 #[.int .i64 pages, .int .i64 frames, v] w fun e w' => e = .returned (.bool true) ∧ Below w.heap.size w w' := by
  obtain ⟨ao, cap, rfl, hcap, hcl⟩ := hv
  have HOK : Hid (∀ x ∈ rs, Op8Ok w x) := hok
  have HCL : Hid (rs = [] ∨ ∃ g o, ao = some ⟨g, o, none⟩ ∧ ∀ k (h : k < rs.length), w.rangeAt g (o + k * 5) (cells8 rs[k])) := hcl
  clear hok hcl
  have hp1 := pick8 pages 4 w hpa (by omega) (by omega)
  have hp2 := pick8 frames 4 w hfr (by omega) (by omega)
  have hq1 := pickN_lt pages 4 (by omega)
  obtain ⟨n, hn⟩ : ∃ n, 1 + pickN pages 4 = n := ⟨_, rfl⟩
  have hn' : (1 : Int) + (pickN pages 4 : Int) = (n : Int) := by omega
  have hn4 : 1 ≤ n ∧ n ≤ 4 := by omega
  have hq2 := pickN_lt frames 4 (by omega)
  obtain ⟨f, hf⟩ : ∃ f, 1 + pickN frames 4 = f := ⟨_, rfl⟩
  have hf' : (1 : Int) + (pickN frames 4 : Int) = (f : Int) := by omega
  have hf8 : 1 ≤ f ∧ f ≤ 4 := by omega
  have hm1 := made_any n f (by omega) (by omega) w
  clear hn hf hq1 hq2
  go_enter Try.func3, Try.ntmps3
  go_wp2_with (first
    | (go_at_call_of 7 (Value.int .i64 pages); refine hp1.mono ?_; clear hp1; rintro e wx ⟨rfl, hwx⟩; rw [hwx]; clear hwx wx)
    | (go_at_call 7; refine hp2.mono ?_; clear hp2; rintro e wx ⟨rfl, hwx⟩; rw [hwx]; clear hwx wx))
  refine hm1.mono ?_
  clear hm1
  rintro e w1 ⟨ga, Fa, rfl, hA, hb1⟩
  have hal := alive_any w1
  go_wp2_with fail
  refine hal.mono ?_
  clear hal
  rintro e w3 ⟨rfl, hb3⟩
  have hb03 : Below w.heap.size w w3 := hb1.trans (hb3.mono hb1.size)
  have hA3 := hA.keepB hb3
  have hnw := refNew_any w.heap.size n (by omega) w3 hb03.size
  clear hA hb1 hb3
  go_wp2_with fail
  refine hnw.mono ?_
  clear hnw
  rintro e w4 ⟨rg, ro, rfl, hR, hb4, hro⟩
  have HB4 : Hid (Below w.heap.size w w4) := hb03.trans (hb4.mono hb03.size)
  have HM4 : Hid (∃ R, Pr8 w.heap.size (fun _ => False) w4 (.pointer (some ⟨ga, 0, none⟩)) (.pointer (some ⟨rg, 0, none⟩)) n R R (10 + 12 * 0)) := ⟨_, (Pr8.mk Fa ro (hA3.keepB hb4) hR (fun i hi => by
    apply Classical.byContradiction
    intro h
    have h1 := hro i h
    have h2 := (hA3.lo i hi).2
    omega) (fun i hi => hi.elim) (fun i hi => hi.elim)).le (by omega)⟩
  clear hA3 hR hro hb4 hb03
  go_wp2
  go_loopw [10] (fun i wr => ∃ k : Nat, k ≤ rs.length ∧ k ≤ 150 ∧ i = .int .i64 k ∧ Hid (∃ R, Pr8 w.heap.size (fun _ => False) wr (.pointer (some ⟨ga, 0, none⟩)) (.pointer (some ⟨rg, 0, none⟩)) n R R (10 + 12 * k)) ∧ Hid (Below w.heap.size w wr)) (fun i _ => rs.length - (intOf i).toNat)
  case atStart => exact ⟨0, Nat.zero_le _, Nat.zero_le _, rfl, HM4, HB4⟩
  case round =>
    obtain ⟨k, hk, hk100, rfl, HR, HBR⟩ := hrel
    clear HM4 HB4
    by_cases h1 : k < rs.length ∧ k < 150
    · obtain ⟨h1a, h1b⟩ := h1
      have t8 : decide ((k : Int) < (rs.length : Int)) = true := by simpa using h1a
      have t9 : decide ((k : Int) < 150) = true := by simp; omega
      obtain ⟨g, o, rfl, hrb⟩ := ops_at HCL.out h1a HBR.out
      have ho := HOK.out _ (List.getElem_mem h1a)
      obtain ⟨R, hMx⟩ := HR.out
      generalize rs[k] = x at *
      obtain ⟨kd, id, vb, tm, nr, b⟩ := x
      obtain ⟨ba, bc, hvb, _, _⟩ := ho.b.form
      simp only at hvb
      subst hvb
      have hst := step_any hMx HBR.out (by omega) (by omega) ho
      have hrb' : wr.rangeAt g (o + k * 5) [.int .i64 kd, .int .i64 id, .slice ba b.length bc, .int .i64 tm, .bool nr] := hrb
      clear hMx ho HR HCL hrb HOK HBR
      go_wp2_with (guard_target = wpList _ _ _ (Oper.mk _ (Op.load 32 _) _ _ _ _ :: _) _ _; refine wpList_load_mid rfl 32 _ rfl g (o + k * 5) (by rfl) [.int .i64 kd, .int .i64 id, .slice ba b.length bc, .int .i64 tm, .bool nr] _ hrb' Try.underlying32 rfl infoOp8 ?_)
      refine hst.mono ?_
      clear hst hrb'
      rintro e w5 ⟨rfl, ⟨R', hP5⟩, hb5⟩
      have hBd := hP5.few (by omega)
      have hsc := hP5.scan (by omega)
      have HBD : Hid (RBd n R') := hBd
      have HB5 : Hid (Below w.heap.size w w5) := hb5
      have hlen := scanR_le256 (n := n) (R := R') hBd.few
      clear hP5 hb5 hBd
      go_wp2_with fail
      refine hsc.mono ?_
      clear hsc
      rintro e w6 ⟨a6, m6, c6, rfl, hI6, hP6, hf6⟩
      have HB6 : Hid (Below w.heap.size w w6) := HB5.out.trans (hf6.below HB5.out.size (fun i hi => hi.1))
      have hrs := hP6.rscan HBD.out
      have HP6 : Hid (Pr8 w.heap.size (fun _ => False) w6 (.pointer (some ⟨ga, 0, none⟩)) (.pointer (some ⟨rg, 0, none⟩)) n R' R' (10 + 12 * k + 5 + n)) := hP6
      have HI6 : Hid (Ints w6 (.slice a6 m6 c6) (scanR n R')) := hI6
      clear hf6 HB5 hP6 hI6
      go_wp2_with fail
      refine hrs.mono ?_
      clear hrs
      rintro e w7 ⟨a7, m7, c7, rfl, hI7, _, hb7⟩
      have hsm := sameInts_any (HI6.out.fr (Fr.of_below (F := fun _ => False) hb7) (fun _ _ => fun h => h)) hI7 (by omega) (by omega)
      rw [decide_eq_true rfl] at hsm
      have HP7 : Hid (Pr8 w.heap.size (fun _ => False) w7 (.pointer (some ⟨ga, 0, none⟩)) (.pointer (some ⟨rg, 0, none⟩)) n R' R' (10 + 12 * k + 5 + n)) := HP6.out.keepB hb7
      have HB7 : Hid (Below w.heap.size w w7) := HB6.out.trans (hb7.mono HB6.out.size)
      clear HP6 HI6 hI7 hb7 HB6
      go_wp2_with fail
      refine hsm.mono ?_
      clear hsm
      rintro e w8 ⟨rfl, hb8⟩
      have HM8 : Hid (∃ R, Pr8 w.heap.size (fun _ => False) w8 (.pointer (some ⟨ga, 0, none⟩)) (.pointer (some ⟨rg, 0, none⟩)) n R R (10 + 12 * (k + 1))) := ⟨R', (HP7.out.keepB hb8).le (by omega)⟩
      have HB8 : Hid (Below w.heap.size w w8) := HB7.out.trans (hb8.mono HB7.out.size)
      clear HP7 HB7 hb8
      go_wp2_with fail
      go_roundw
      case rel => exact ⟨k + 1, by omega, by omega, by first | go_num | (congr 1; omega), HM8, HB8⟩
      case measure => simp [intOf]; omega
    · have HEX : Hid ((¬ k < rs.length ∧ decide ((k : Int) < (rs.length : Int)) = false) ∨ (k < rs.length ∧ ¬ k < 150 ∧ decide ((k : Int) < (rs.length : Int)) = true ∧ decide ((k : Int) < 150) = false)) := by
        by_cases h2 : k < rs.length
        · exact Or.inr ⟨h2, fun h => h1 ⟨h2, h⟩, decide_eq_true (by omega), decide_eq_false (fun h => h1 ⟨h2, by omega⟩)⟩
        · exact Or.inl ⟨h2, decide_eq_false (by omega)⟩
      obtain ⟨R, hP⟩ := HR.out
      have hBd := hP.few (by omega)
      have hrs := hP.rscan hBd
      have hlen := scanR_le256 (n := n) (R := R) hBd.few
      have HRG : Hid (∀ y ∈ scanR n R, 0 ≤ y ∧ y ≤ 100000) := fun y hy => scanR_range (by omega) hBd.few hy
      have HGE : Hid (∀ y ∈ scanR n R, getE n R y = 0) := fun y hy => by
        have hT : ThereR n R y := (mem_scanR hBd.few y).1 hy
        unfold getE; rw [if_pos hT]
      have HBD : Hid (RBd n R) := hBd
      have HP0 : Hid (Pr8 w.heap.size (fun _ => False) wr (.pointer (some ⟨ga, 0, none⟩)) (.pointer (some ⟨rg, 0, none⟩)) n R R (10 + 12 * k)) := hP
      have HLE : Hid (∀ (a6 : Option Addr) (m6 c6 : Nat) (w6 : World), Ints w6 (.slice a6 m6 c6) (scanR n R) → (∀ c, (Value.slice a6 m6 c6).ownBlock = some c → wr.heap.size ≤ c ∧ c < w6.heap.size) → Below wr.heap.size wr w6 → LE8 w (.pointer (some ⟨ga, 0, none⟩)) (.pointer (some ⟨rg, 0, none⟩)) n R (10 + 12 * k + 0) (.slice a6 m6 c6) (scanR n R) w6) := fun a6 m6 c6 w6 g1 g2 g3 => ⟨⟨_, fun c hc => Or.inr (g2 c hc), HP0.out.more g3⟩, g1, HBR.out.trans (g3.mono HBR.out.size)⟩
      clear hP hBd HR HCL HOK h1 HP0 HBR
      rcases HEX.out with ⟨h2, t8⟩ | ⟨h2, h3, t8, t9⟩
      all_goals (
        clear HEX
        go_wp2_with fail
        refine hrs.mono ?_
        clear hrs
        rintro e w6 ⟨a6, m6, c6, rfl, hI6, hx6, hb6⟩
        have hL6 := HLE.out a6 m6 c6 w6 hI6 hx6 hb6
        have hm6 : m6 = (scanR n R).length := by
          obtain ⟨ao', cp', hav, _, _⟩ := hI6
          simp only [Value.slice.injEq] at hav
          exact hav.2.1
        subst hm6
        have HL6 : Hid (LE8 w (.pointer (some ⟨ga, 0, none⟩)) (.pointer (some ⟨rg, 0, none⟩)) n R (10 + 12 * k + 0) (.slice a6 (scanR n R).length c6) (scanR n R) w6) := hL6
        clear hL6 HLE hI6 hx6 hb6
        generalize scanR n R = ids at *
        go_wp2_with fail
        go_loopw [16] (fun i wq => ∃ j : Nat, j ≤ ids.length ∧ i = .int .i64 j ∧ Hid (LE8 w (.pointer (some ⟨ga, 0, none⟩)) (.pointer (some ⟨rg, 0, none⟩)) n R (10 + 12 * k + j) (.slice a6 ids.length c6) ids wq)) (fun i _ => ids.length - (intOf i).toNat)
        case atStart => exact ⟨0, Nat.zero_le _, rfl, HL6⟩
        case round =>
          rename World => wq
          obtain ⟨j, hj, rfl, HL⟩ := hrel
          clear HL6
          by_cases hlt : j < ids.length
          · have tj : decide ((j : Int) < (ids.length : Int)) = true := decide_eq_true (by omega)
            obtain ⟨g1, rfl⟩ : ∃ g1, a6 = some ⟨g1, 0, none⟩ := by
              obtain ⟨ao', cp', hav, _, hcl⟩ := HL.out.ints
              rcases hcl with h0 | ⟨g1, e1, _⟩
              · rw [h0] at hlt; simp at hlt
              · simp only [Value.slice.injEq] at hav
                exact ⟨g1, hav.1.trans e1⟩
            have q1 := HL.out.cell hlt
            have hr := HRG.out _ (List.getElem_mem hlt)
            have hge := HGE.out _ (List.getElem_mem hlt)
            have hcc : ids.length ≤ c6 := by
              obtain ⟨ao', cp', hav, hcp, _⟩ := HL.out.ints
              simp only [Value.slice.injEq] at hav
              omega
            have HCQ : Hid (∀ t wx, LE8 w (.pointer (some ⟨ga, 0, none⟩)) (.pointer (some ⟨rg, 0, none⟩)) n R t (.slice (some ⟨g1, 0, none⟩) ids.length c6) ids wx → wx.cell? ⟨g1, j, none⟩ = some (.int .i64 ids[j])) := fun t wx h => h.cell hlt
            generalize ids[j] = y at *
            have hg1 := HL.out.get (by omega) y (by omega)
            rw [hge] at hg1
            clear HL
            go_wp2_with fail
            refine hg1.mono ?_
            clear hg1 q1
            rintro e w7 ⟨a7, m7, c7, rfl, hB7, hL7⟩
            have q2 := HCQ.out _ w7 hL7
            have hg2 := hL7.rget HBD.out y (by omega)
            rw [hge] at hg2
            have HL7 : Hid (LE8 w (.pointer (some ⟨ga, 0, none⟩)) (.pointer (some ⟨rg, 0, none⟩)) n R (10 + 12 * k + j + 1) (.slice (some ⟨g1, 0, none⟩) ids.length c6) ids w7) := hL7
            have HB7 : Hid (Bytes w7 (.slice a7 m7 c7) (getB n R y)) := hB7
            clear hL7 hB7 HCQ
            go_wp2_with fail
            refine hg2.mono ?_
            clear hg2 q2
            rintro e w8 ⟨a8, m8, c8, rfl, hB8, hb8⟩
            have hsm := same7 _ _ _ _ w8 (HB7.out.keep hb8) hB8
            rw [decide_eq_true rfl] at hsm
            have HL8 : Hid (LE8 w (.pointer (some ⟨ga, 0, none⟩)) (.pointer (some ⟨rg, 0, none⟩)) n R (10 + 12 * k + (j + 1)) (.slice (some ⟨g1, 0, none⟩) ids.length c6) ids w8) := HL7.out.keepB hb8
            clear HL7 HB7 hB8 hb8
            go_wp2_with (go_at_call 17; refine hsm.mono ?_; clear hsm; rintro e wx ⟨rfl, hwx⟩; rw [hwx]; clear hwx wx)
            go_roundw
            case rel => exact ⟨j + 1, by omega, by first | go_num | (congr 1; omega), HL8⟩
            case measure => simp [intOf]; omega
          · have tj : decide ((j : Int) < (ids.length : Int)) = false := decide_eq_false (by omega)
            have HF : Hid (Below w.heap.size w wq) := HL.out.below
            clear HL
            go_wp2_with fail
            go_ret
            exact ⟨rfl, HF.out⟩)
end Go.Proofs.Ytkmgahembhgloaa

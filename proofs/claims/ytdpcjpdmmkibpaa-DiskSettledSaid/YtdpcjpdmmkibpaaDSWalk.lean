/- The walk of the law DiskSettled. -/
import Derived.Test.YtdpcjpdmmkibpaaD5H
import Derived.Deep.CutBlock
import Derived.Deep.DeepCutAuto
namespace Go.Proofs.Ytdpcjpdmmkibpaa
open Go.RowKit Go.Maps
set_option linter.unusedVariables false
set_option linter.unusedSimpArgs false

set_option maxRecDepth 100000 in
set_option maxHeartbeats 4000000 in
theorem diskSettled_law (M : Nat) (v vk va : Value) (rs : List OpV) (ks as_ : List Bool) (w : World) (hv : OpsAt w v rs) (hok : ∀ x ∈ rs, OpOk M w x) (hk : Bools w vk ks) (ha : Bools w va as_) (hl : rs.length ≤ 4398046511104) :
    Calls Try.prog 6 #[v, vk, va] w fun e w' => e = .returned (.bool true) ∧ Below w.heap.size w w' := by
  obtain ⟨ao, cap, rfl, hcap, hcl⟩ := hv
  go_enter Try.func6, Try.ntmps6
  go_wp2_with fail
  refine (new_any 8 w (by omega)).mono ?_
  rintro e w1 ⟨g0, rfl, hD1, hb1⟩
  go_wp2_with fail
  refine (alive_any w1).mono ?_
  rintro e w2 ⟨rfl, hb2⟩
  have hP2 : Play w w2 (.pointer (some ⟨g0, 0, none⟩)) 0 ⟨8, fun _ => zsec, fun _ => zsec, [], 0⟩ := ⟨⟨_, hD1.keepB hb2⟩, ⟨rfl⟩, rfl, Nat.le_refl _, hb1.trans (hb2.mono hb1.size)⟩
  have HOK : Hid (∀ x ∈ rs, OpOk M w x) := hok
  have HK : Hid (Bools w vk ks) := hk
  have HA : Hid (Bools w va as_) := ha
  have HCL : Hid (rs = [] ∨ ∃ g o, ao = some ⟨g, o, none⟩ ∧ ∀ k (h : k < rs.length), w.rangeAt g (o + k * 4) (cellsO rs[k])) := hcl
  clear hD1 hb2 hb1 hok hk ha hcl
  go_upto_block 0 with fail
  go_cut [9] (fun u wx => ∃ (k : Nat) (D : DS), k ≤ 100 ∧ Play w wx (.pointer (some ⟨g0, 0, none⟩)) k D)
  case first =>
    go_wp2_with fail
    go_loopw [9] (fun i wr => ∃ (k : Nat) (D : DS), i = .int .i64 k ∧ k ≤ 100 ∧ k ≤ rs.length ∧ Play w wr (.pointer (some ⟨g0, 0, none⟩)) k D) (fun i _ => 100 - (intOf i).toNat)
    case atStart => exact ⟨0, _, rfl, by omega, by omega, hP2⟩
    case round =>
      obtain ⟨k, D, rfl, hk100, hkl, hP⟩ := hrel
      clear hP2
      by_cases h1 : k < rs.length
      · by_cases h2 : k < 100
        · have hcl := HCL.out
          rcases hcl with h0 | ⟨g, o, rfl, hcl⟩
          · rw [h0] at h1; simp at h1
          have r0 := hcl k h1
          have ho := HOK.out _ (List.getElem_mem h1)
          generalize rs[k] = x at *
          clear hcl
          obtain ⟨q0, q1, q2, q3⟩ := cells_op r0
          have hlt : g < w.heap.size := World.block_lt_of_cell? w _ q0
          have d0 := (hP.below.cell (p := ⟨g, o + k * 4, none⟩) hlt).trans q0
          have d1 := (hP.below.cell (p := ⟨g, o + k * 4 + 1, none⟩) hlt).trans q1
          have d2 := (hP.below.cell (p := ⟨g, o + k * 4 + 2, none⟩) hlt).trans q2
          have hB := ho.b.keep hP.below
          obtain ⟨F, hF⟩ := hP.on
          by_cases h3 : x.kind = 2
          · have t3 : (x.kind == 2) = true := by simpa using h3
            have hS := sync_all hF
            go_wp2_with (go_at_call 11; refine hS.mono ?_; rintro e wb ⟨rfl, ht⟩)
            go_roundw
            case rel => exact ⟨k + 1, _, by go_num, by omega, by omega, hP.sync hF ht⟩
            case measure => simp [intOf]; omega
          · have t3 : (x.kind == 2) = false := by simpa using h3
            have hW := write_all (hF.keepB (Below.refl _ wr).drew) x.i x.vb x.b (hB.keep (Below.refl _ wr).drew) (by have := hP.len; omega)
            have HP : Hid (∀ wb, Turned w.heap.size wr.drew F (.pointer (some ⟨g0, 0, none⟩)) 0 (D.write x.i x.b) wb → Play w wb (.pointer (some ⟨g0, 0, none⟩)) (k + 1) (D.write x.i x.b)) := fun wb ht => hP.drew.write (hF.keepB (Below.refl _ wr).drew) ht
            have HC : Hid (∀ wb, Below w.heap.size w wb → wb.cell? ⟨g, o + k * 4 + 1, none⟩ = some (.int .i64 x.i) ∧ wb.cell? ⟨g, o + k * 4 + 2, none⟩ = some x.vb) := fun wb hb => ⟨(hb.cell (p := ⟨g, o + k * 4 + 1, none⟩) hlt).trans q1, (hb.cell (p := ⟨g, o + k * 4 + 2, none⟩) hlt).trans q2⟩
            clear q0 q1 q2 q3 hB hF hP
            go_wp2_with fail
            go_region_held_law (fun w' => w'.cell? ⟨g, o + k * 4 + 1, none⟩ = some (.int .i64 x.i) ∧ w'.cell? ⟨g, o + k * 4 + 2, none⟩ = some x.vb) (first | exact ⟨d1, d2⟩ | exact HC.out _ hPb.below) (first | (go_at_call 9; refine hW.mono ?_; rintro e wb ⟨rfl, ht⟩; have hPb := HP.out _ ht; clear ht))
            go_wp2
            go_roundw
            case rel => exact ⟨k + 1, _, by go_num, by omega, by omega, hPb⟩
            case measure => simp [intOf]; omega
        · go_wp2
          go_meet
          exact ⟨k, D, hk100, hP⟩
      · go_wp2
        go_meet
        exact ⟨k, D, hk100, hP⟩
  case rest =>
  obtain ⟨k, D, hk100, hP⟩ := hcut
  rename World => wa
  have hL := hP.len
  have hsz := hP.size
  have HW : Hid (Whole D) := hP.whole
  have hON := hP.on
  have hbc := hP.below
  clear hP HOK HCL
  have HON : Hid (∀ wb, Below wa.heap.size wa wb → DiskOn w.heap.size wb (.pointer (some ⟨g0, 0, none⟩)) 0 D) := fun wb hb => hON.keep hb
  clear hON
  go_upto_block 2 with fail
  go_cut [10, 11] (fun fv iv wx => Below wa.heap.size wa wx ∧ OwnK wa.heap.size wx fv (List.replicate D.ws.length true))
  case first =>
    go_wp2_with fail
    go_loopw [10, 11] (fun fv iv wr => ∃ j : Nat, iv = .int .i64 j ∧ j ≤ D.ws.length ∧ Below wa.heap.size wa wr ∧ OwnK wa.heap.size wr fv (List.replicate j true)) (fun _ iv _ => D.ws.length - (intOf iv).toNat)
    case atStart => exact ⟨0, rfl, Nat.zero_le _, Below.refl _ _, World.ownsRow_nil _ _ _ _⟩
    case round =>
      obtain ⟨j, rfl, hjl, hbr, hown⟩ := hrel
      obtain ⟨F, hF⟩ := HON.out wr hbr
      have hWr := writes_any hF
      clear hF
      have hrl : (List.replicate j true).length = j := by simp
      have HO : Hid (OwnK wa.heap.size wr _ (List.replicate j true)) := hown
      have hbs := hbr.size
      generalize D.ws.length = L at *
      by_cases h1 : j < L
      · go_wp2_with (first
          | (go_at_call 24; refine hWr.mono ?_; rintro e wx ⟨rfl, hwx⟩; rw [hwx]; clear hwx wx)
          | (at_builtin; refine wp_appK _ rfl _ _ rfl wa.heap.size _ (List.replicate j true) rfl (HO.out.keepB ((Below.refl _ wr).alloc (Nat.le_refl _) _)) wr.heap.size true rfl (by go_simp) (by rw [hrl]; omega) (by simp; omega) ?_; intro v' w' hown' hb'))
        go_roundw
        case rel =>
          refine ⟨j + 1, by go_num, by omega, (hbr.alloc hbs _).trans hb', ?_⟩
          rw [List.replicate_succ']
          exact hown'
        case measure => simp [intOf]; omega
      · go_wp2_with (first
          | (go_at_call 24; refine hWr.mono ?_; rintro e wx ⟨rfl, hwx⟩; rw [hwx]; clear hwx wx))
        go_meet
        obtain rfl : j = L := by omega
        exact ⟨hbr, HO.out⟩
  case rest =>
  obtain ⟨hb3, hfull⟩ := hcut
  rename World => w3
  have hb3' : Below w.heap.size w w3 := hbc.trans (hb3.mono hbc.size)
  have hON3 := HON.out w3 hb3
  obtain ⟨F3, hD3⟩ := hON3
  have hfb := hfull.bools
  have hc1 := Cut_any hD3 vk ks (HK.out.keep hb3')
  go_wp2_with fail
  refine hc1.mono ?_
  clear hc1
  rintro e w4 ⟨c4, F4, rfl, hD4, hb4⟩
  have hb4' : Below w.heap.size w w4 := hb3'.trans (hb4.mono hb3'.size)
  go_wp2_with fail
  refine (Cut_any hD4 va as_ (HA.out.keep hb4')).mono ?_
  rintro e w5 ⟨c5, F5, rfl, hD5, hb5⟩
  have hb5' : Below w.heap.size w w5 := hb4'.trans (hb5.mono hb4'.size)
  have hD35 := (hD3.keepB hb4).keepB hb5
  have hf5 := (hfb.keep hb4).keep hb5
  go_wp2_with fail
  refine (Cut_any hD35 _ _ hf5).mono ?_
  rintro e w6 ⟨c6, F6, rfl, hD6, hb6⟩
  have hb6' : Below w.heap.size w w6 := hb5'.trans (hb6.mono hb5'.size)
  have hD36 := hD35.keepB hb6
  have hf6 := hf5.keep hb6
  have hwr := writes_any hD36
  have hAt := CutAt_any hD36 D.ws.length D.ws.length (by omega) _ _ hf6
  go_wp2_with (first
    | (go_at_call 24; refine hwr.mono ?_; rintro e wx ⟨rfl, hwx⟩; rw [hwx]; clear hwx wx hwr)
    | (go_at_call 18; refine hAt.mono ?_; clear hAt; rintro e w7 ⟨c7, F7, rfl, hD7, hb7⟩))
  have hb7' : Below w.heap.size w w7 := hb6'.trans (hb7.mono hb6'.size)
  have hD47 : DiskAt _ w7 _ _ _ _ := ((hD4.keepB hb5).keepB hb6).keepB hb7
  have hD57 := (hD5.keepB hb6).keepB hb7
  have hD67 := hD6.keepB hb7
  have hD37 := hD36.keepB hb7
  have hwr : Calls Try.prog 24 #[.pointer (some ⟨c4, 0, none⟩)] w7 fun e w' => e = .returned (.int .i64 0) ∧ w' = w7 := writes_any hD47
  have R4 : Hid (Reads w7 (.pointer (some ⟨c4, 0, none⟩)) (cutF ks D.safe D.first (D.ws.take D.ws.length))) := reads_of hD47 hsz
  have R5 : Hid (Reads w7 (.pointer (some ⟨c5, 0, none⟩)) (cutF ks D.safe D.first (D.ws.take D.ws.length))) := reads_of hD57 hsz
  have R6 : Hid (Reads w7 (.pointer (some ⟨c6, 0, none⟩)) D.now) := (reads_of hD67 hsz).eq (by rw [left_now, List.take_length]; exact cut_all HW.out _ rfl _)
  have R7 : Hid (Reads w7 (.pointer (some ⟨c7, 0, none⟩)) D.now) := (reads_of hD7 hsz).eq (by rw [left_now, List.take_length]; exact cut_all HW.out _ rfl _)
  have R3 : Hid (Reads w7 (.pointer (some ⟨g0, 0, none⟩)) D.now) := reads_of hD37 hsz
  generalize cutF ks D.safe D.first (D.ws.take D.ws.length) = f1 at *
  generalize D.now = f0 at *
  clear hD47 hD57 hD67 hD7 hD37 hb3 hb3' hfull hfb hb4 hb4' hb5 hb5' hb6 hb6' hb7 hf5 hf6 hD3 hD4 hD5 hD6 hD35 hD36 HON hbc HK HA HW hP2 hsz hk100
  go_wp2_with (first
    | (go_at_call 24; refine hwr.mono ?_; rintro e wx ⟨rfl, hwx⟩; rw [hwx]; clear hwx wx hwr))
  go_loopw [16] (fun iv wr => ∃ j : Nat, iv = .int .i64 j ∧ j ≤ 8 ∧ Below w7.heap.size w7 wr) (fun iv _ => 8 - (intOf iv).toNat)
  case atStart => exact ⟨0, rfl, Nat.zero_le _, Below.refl _ _⟩
  case round =>
    obtain ⟨j, rfl, hj8, hbr⟩ := hrel
    by_cases h1 : j < 8
    · go_wp2_with fail
      refine (R4.out _ j hbr h1).mono ?_
      rintro e wA ⟨kA, rfl, rA, lA, bA⟩
      have hbA := hbr.trans (bA.mono hbr.size)
      clear bA hbr
      go_wp2_with fail
      refine (R5.out _ j hbA h1).mono ?_
      rintro e wB ⟨kB, rfl, rB, lB, bB⟩
      have hbB := hbA.trans (bB.mono hbA.size)
      replace rA := rA.keep bB
      clear bB hbA
      go_wp2_with fail
      refine (R6.out _ j hbB h1).mono ?_
      rintro e wC ⟨kC, rfl, rC, lC, bC⟩
      have hbC := hbB.trans (bC.mono hbB.size)
      replace rA := rA.keep bC
      replace rB := rB.keep bC
      clear bC hbB
      go_wp2_with fail
      refine (R7.out _ j hbC h1).mono ?_
      rintro e wE ⟨kE, rfl, rE, lE, bE⟩
      have hbE := hbC.trans (bE.mono hbC.size)
      replace rA := rA.keep bE
      replace rB := rB.keep bE
      replace rC := rC.keep bE
      clear bE hbC
      go_wp2_with fail
      refine (R3.out _ j hbE h1).mono ?_
      rintro e wG ⟨kG, rfl, rG, lG, bG⟩
      have hbG := hbE.trans (bG.mono hbE.size)
      have yA := bytes_row (rA.keep bG) lA
      have yB := bytes_row (rB.keep bG) lB
      have yC := bytes_row (rC.keep bG) lC
      have yE := bytes_row (rE.keep bG) lE
      have yG := bytes_row rG lG
      have s1 := same_any _ _ _ _ wG yA yB
      have s2 := same_any _ _ _ _ wG yC yG
      have s3 := same_any _ _ _ _ wG yE yG
      simp only [decide_true] at s1 s2 s3
      clear bG hbE rA rB rC rE rG yA yB yC yE yG R3 R4 R5 R6 R7
      go_wp2_with fail
      refine s1.mono ?_
      rintro e wx ⟨rfl, hwx⟩
      subst hwx
      go_wp2_with fail
      refine s2.mono ?_
      rintro e wy ⟨rfl, hwy⟩
      subst hwy
      go_wp2_with fail
      refine s3.mono ?_
      rintro e wz ⟨rfl, hwz⟩
      subst hwz
      go_wp2
      go_roundw
      case rel => exact ⟨j + 1, by go_num, by omega, hbG⟩
      case measure => simp [intOf]; omega
    · go_wp2
      go_ret
      exact ⟨rfl, hb7'.trans (hbr.mono hb7'.size)⟩
end Go.Proofs.Ytdpcjpdmmkibpaa

/- The walk of the law PoolFirst. -/
import Derived.Test.YtpmbpadckbkglaaP7ZB
import Derived.Deep.CutBlock
import Derived.Deep.DeepCutAuto
namespace Go.Proofs.Ytpmbpadckbkglaa
open Go.RowKit Go.Maps
set_option linter.unusedVariables false
set_option linter.unusedSimpArgs false

theorem infoOp : (Try.prog.info? 45).map (·.size) = some 4 := by kernel_rfl
set_option maxRecDepth 100000 in
set_option maxHeartbeats 40000000 in
theorem poolFirst_law (z : Int) (v : Value) (rs : List OpP) (w : World) (hz : -9223372036854775808 ≤ z ∧ z ≤ 9223372036854775807) (hv : OpsP w v rs) (hok : ∀ x ∈ rs, OpPOk x) (hl : rs.length ≤ 4398046511104) :
    Calls Try.prog 4 #[.int .i64 z, v] w fun e w' => e = .returned (.bool true) ∧ Below w.heap.size w w' := by
  obtain ⟨ao, cap, rfl, hcap, hcl⟩ := hv
  have HOK : Hid (∀ x ∈ rs, OpPOk x) := hok
  have HCL : Hid (rs = [] ∨ ∃ g o, ao = some ⟨g, o, none⟩ ∧ ∀ k (h : k < rs.length), w.rangeAt g (o + k * 4) (cellsP rs[k])) := hcl
  clear hok hcl
  go_enter Try.func4, Try.ntmps4
  go_upto_if 27 with fail
  go_cut [0] (fun v0 wx => ∃ q : Int, v0 = .int .i64 q ∧ (0 ≤ q ∧ q ≤ 9223372036854775807) ∧ wx = w)
  case first =>
    by_cases hz0 : z < 0
    · go_wp2_with fail
      go_meet
      case rel => exact ⟨_, rfl, by omega, rfl⟩
    · go_wp2_with fail
      go_meet
      case rel => exact ⟨_, rfl, by omega, rfl⟩
  case rest =>
  clear hz
  obtain ⟨q, rfl, hq, rfl⟩ := hcut
  obtain ⟨r, hr⟩ : ∃ r, q % 4 = r := ⟨_, rfl⟩
  have hrr : 0 ≤ r ∧ r ≤ 3 := by omega
  have hrem : Int.tmod q 4 = r := by rw [← hr]; exact Int.tmod_eq_emod_of_nonneg hq.1
  go_wp2_with fail
  refine (new_any 96 wc (by omega)).mono ?_
  rintro e w1 ⟨dg, rfl, hD1, hb1⟩
  have hs1 := hb1.size
  have HD1 : Hid (DiskAt wc.heap.size w1 (fun k => wc.heap.size ≤ k ∧ k < w1.heap.size) (.pointer (some ⟨dg, 0, none⟩)) 0 ⟨96, fun _ => zsec, fun _ => zsec, [], 0⟩) := hD1
  clear hD1
  go_wp2_with fail
  refine (pd_new HD1.out 0 6 (1 + r) (by omega) (by omega) (by omega) (by show (0 : Int) ≤ 96 - 6 * 16; omega) hb1.size).mono ?_
  rintro e w2 ⟨rfl, hP2, hb2⟩
  have hs2 := hb2.size
  have HB2 : Hid (Below wc.heap.size wc w2) := hb1.trans (hb2.mono hs1)
  have HP2 : Hid (PD wc.heap.size w2 (fun i => w1.heap.size ≤ i ∧ i < w2.heap.size) (fun k => wc.heap.size ≤ k ∧ k < w1.heap.size) (.pointer (some ⟨w1.heap.size + 1, 0, none⟩)) (.pointer (some ⟨dg, 0, none⟩)) 0 (PS.new 0 6 (1 + r)) ⟨96, fun _ => zsec, fun _ => zsec, [], 0⟩) := hP2
  clear hP2 hb1 hb2 HD1
  go_wp2_with fail
  refine (alive_any w2).mono ?_
  rintro e w3 ⟨rfl, hb3⟩
  have hs3 := hb3.size
  have hA0 : Below w3.heap.size w3 (w3.alloc (.cells #[.slice none 0 0, .slice none 0 0, .slice none 0 0, .slice none 0 0, .slice none 0 0, .slice none 0 0] 54)) := (Below.refl _ _).alloc (Nat.le_refl _) _
  have hA1 : Below w3.heap.size w3 ((w3.alloc (.cells #[.slice none 0 0, .slice none 0 0, .slice none 0 0, .slice none 0 0, .slice none 0 0, .slice none 0 0] 54)).alloc (.cells #[.int .i64 0, .int .i64 0, .int .i64 0, .int .i64 0, .int .i64 0, .int .i64 0] 55)) := hA0.alloc (by first | (simp; done) | (simp; omega)) _
  have hA2 : Below w3.heap.size w3 (((w3.alloc (.cells #[.slice none 0 0, .slice none 0 0, .slice none 0 0, .slice none 0 0, .slice none 0 0, .slice none 0 0] 54)).alloc (.cells #[.int .i64 0, .int .i64 0, .int .i64 0, .int .i64 0, .int .i64 0, .int .i64 0] 55)).alloc (.cells #[.slice none 0 0, .slice none 0 0, .slice none 0 0, .slice none 0 0, .slice none 0 0, .slice none 0 0] 56)) := hA1.alloc (by first | (simp; done) | (simp; omega)) _
  obtain ⟨w4, hw4⟩ : ∃ w4, w4 = (((w3.alloc (.cells #[.slice none 0 0, .slice none 0 0, .slice none 0 0, .slice none 0 0, .slice none 0 0, .slice none 0 0] 54)).alloc (.cells #[.int .i64 0, .int .i64 0, .int .i64 0, .int .i64 0, .int .i64 0, .int .i64 0] 55)).alloc (.cells #[.slice none 0 0, .slice none 0 0, .slice none 0 0, .slice none 0 0, .slice none 0 0, .slice none 0 0] 56)) := ⟨_, rfl⟩
  have hs4 : w4.heap.size = w3.heap.size + 3 := by rw [hw4]; simp
  have rL : w4.rowIs w3.heap.size 54 6 (fun _ => .slice none 0 0) := by
    rw [hw4]
    refine ⟨#[.slice none 0 0, .slice none 0 0, .slice none 0 0, .slice none 0 0, .slice none 0 0, .slice none 0 0], ?_, rfl, fun j hj => ?_⟩
    · rw [Below.heap_alloc _ _ _ (by first | (simp; done) | (simp; omega)), Below.heap_alloc _ _ _ (by first | (simp; done) | (simp; omega))]; exact heap_alloc_new w3 _
    · match j, hj with
      | 0, _ => rfl
      | 1, _ => rfl
      | 2, _ => rfl
      | 3, _ => rfl
      | 4, _ => rfl
      | 5, _ => rfl
  have rA : w4.rowIs (w3.heap.size + 1) 55 6 (fun j => .int .i64 (pinsOf (PS.new 0 6 (1 + r)) j)) := by
    rw [hw4]
    refine ⟨#[.int .i64 0, .int .i64 0, .int .i64 0, .int .i64 0, .int .i64 0, .int .i64 0], ?_, rfl, fun j hj => ?_⟩
    · rw [Below.heap_alloc _ _ _ (by first | (simp; done) | (simp; omega))]; exact new_at _ _ (by simp)
    · have e : pinsOf (PS.new 0 6 (1 + r)) j = 0 := by simp [pinsOf, PS.new]
      show _ = some (Value.int .i64 (pinsOf (PS.new 0 6 (1 + r)) j))
      rw [e]
      match j, hj with
      | 0, _ => rfl
      | 1, _ => rfl
      | 2, _ => rfl
      | 3, _ => rfl
      | 4, _ => rfl
      | 5, _ => rfl
  have rU : w4.rowIs (w3.heap.size + 2) 56 6 (fun _ => .slice none 0 0) := by
    rw [hw4]
    refine ⟨#[.slice none 0 0, .slice none 0 0, .slice none 0 0, .slice none 0 0, .slice none 0 0, .slice none 0 0], new_at _ _ (by simp), rfl, fun j hj => ?_⟩
    match j, hj with
    | 0, _ => rfl
    | 1, _ => rfl
    | 2, _ => rfl
    | 3, _ => rfl
    | 4, _ => rfl
    | 5, _ => rfl
  have hB4 : Below w2.heap.size w2 w4 := by rw [hw4]; exact hb3.trans (hA2.mono hs3)
  have H0 : Hid (HS wc w4 (w3.heap.size + 1) (1 + r) (.pointer (some ⟨w1.heap.size + 1, 0, none⟩)) (.pointer (some ⟨dg, 0, none⟩)) (fun i => w1.heap.size ≤ i ∧ i < w2.heap.size) (fun k => wc.heap.size ≤ k ∧ k < w1.heap.size) (pinsOf (PS.new 0 6 (1 + r))) (PS.new 0 6 (1 + r)) ⟨96, fun _ => zsec, fun _ => zsec, [], 0⟩ 0) :=
    ⟨HP2.out.keepB hB4, by omega, rfl, rfl, rfl, by show (0 : Int) ≤ ((0 : Nat) : Int); omega, by show ([] : List W3).length ≤ _; simp, rA, by omega, HB2.out.trans (hB4.mono (by omega))⟩
  have HU : Hid (w4.rowIs (w3.heap.size + 2) 56 6 (fun _ => .slice none 0 0)) := rU
  have HI0 : Hid (Ini w4 w4 w3.heap.size 0 (fun _ => 0)) := ⟨rL.congr (fun j hj => by rw [if_neg (by omega)]), Fr.refl _ _, fun j hj => by omega⟩
  have hmk : ∀ wx : World, (Instr.makeSlice 49 (.int .i64 2048) (.int .i64 2048)).run Try.prog wx = .ok (.slice (some ⟨wx.heap.size, 0, none⟩) 2048 2048) (wx.alloc (.cells (madeCells #[.int .u8 0] 2048) 5)) := fun wx => makeRowB 2048 (by omega) wx
  have HMk : Hid (∀ wx : World, (Instr.makeSlice 49 (.int .i64 2048) (.int .i64 2048)).run Try.prog wx = .ok (.slice (some ⟨wx.heap.size, 0, none⟩) 2048 2048) (wx.alloc (.cells (madeCells #[.int .u8 0] 2048) 5))) := hmk
  clear rL rA rU hA0 hA1 hA2 hb3 HP2 HB2 hB4 hmk
  generalize hg0 : w1.heap.size + 1 = g0 at *
  go_upto_block 0 with fail
  rw [← hw4]
  go_cut [13] (fun _ wx => ∃ lb, Hid (Ini w4 wx w3.heap.size 6 lb))
  case first =>
    as_aux_lemma =>
      go_wp2_with fail
      go_loopw [13] (fun kv wz => ∃ (m : Nat) (lb : Nat → Nat), m ≤ 6 ∧ kv = .int .i64 m ∧ Hid (Ini w4 wz w3.heap.size m lb)) (fun kv _ => 6 - (intOf kv).toNat)
      case atStart => exact ⟨0, _, by omega, rfl, HI0⟩
      case round =>
        obtain ⟨m, lb, hm6, rfl, HI⟩ := hrel
        by_cases hlt : m < 6
        · have HI2 : Hid (Ini w4 _ w3.heap.size (m + 1) _) := HI.out.step hlt (by omega)
          have hmk := HMk.out wr
          have hbA : Below wr.heap.size wr (wr.alloc (.cells (madeCells #[.int .u8 0] 2048) 5)) := (Below.refl _ _).alloc (Nat.le_refl _) _
          have hsz := HI.out.f.size
          have rr := HI.out.rl.of_block (hbA.block _ (by omega))
          have c1 := rr.cell hlt
          rw [if_neg (by omega)] at c1
          have f1 := rr.frozen m
          clear rr hbA HI
          go_wp2
          go_roundw
          case rel => exact ⟨m + 1, _, by omega, by first | go_num | (congr 1; omega), HI2⟩
          case measure => simp [intOf]; omega
        · obtain rfl : m = 6 := by omega
          go_wp2
          go_meet
          exact ⟨lb, HI⟩
  case rest =>
  obtain ⟨lb0, HI⟩ := hcut
  rename World => w5
  have HF0 : Hid (FSt wc w5 (w3.heap.size + 1) w3.heap.size (w3.heap.size + 2) (1 + r) (.pointer (some ⟨g0, 0, none⟩)) (.pointer (some ⟨dg, 0, none⟩)) (fun i => w1.heap.size ≤ i ∧ i < w2.heap.size) (fun k => wc.heap.size ≤ k ∧ k < w1.heap.size) lb0 (fun _ => .slice none 0 0) (fun _ => []) (fun i => i = w3.heap.size ∨ i = w3.heap.size + 2 ∨ ∃ j, j < 6 ∧ i = lb0 j) (PS.new 0 6 (1 + r)) ⟨96, fun _ => zsec, fun _ => zsec, [], 0⟩ 0) := FSt.start H0.out HI.out HU.out (by omega) (by omega) (by omega) (by omega) (by omega) (by omega) (by omega) (by omega) (by omega)
  clear HI HU H0 HI0 HMk hw4 hs4
  generalize hL : w3.heap.size = L at *
  generalize hA : L + 1 = A at *
  generalize hU : L + 2 = U at *
  have hAU : A + 1 = U := by omega
  rw [hAU]
  clear hAU
  go_wp2_with fail
  go_loopw [12, 14] (fun gv iv wr => ∃ (k : Nat) (F G : Nat → Prop) (lb : Nat → Nat) (pv : Nat → Value) (pl : Nat → List OpP) (Z : Nat → Prop) (P : PS) (D : DS), iv = .int .i64 k ∧ k ≤ 150 ∧ k ≤ rs.length ∧ gv = .int .u64 P.safe ∧ Hid (FSt wc wr A L U (1 + r) (.pointer (some ⟨g0, 0, none⟩)) (.pointer (some ⟨dg, 0, none⟩)) F G lb pv pl Z P D k)) (fun _ iv _ => 150 - (intOf iv).toNat)
  case atStart => exact ⟨0, _, _, _, _, _, _, _, _, rfl, by omega, by omega, rfl, HF0⟩
  case round =>
    obtain ⟨k, F, G, lb, pv, pl, Z, P, D, rfl, hk150, hkl, rfl, H⟩ := hrel
    clear HF0
    by_cases h1 : k < rs.length
    · by_cases h2 : k < 150
      · have hcl := HCL.out
        rcases hcl with h0 | ⟨g, o, rfl, hcl⟩
        · rw [h0] at h1; simp at h1
        have r0 := hcl k h1
        have ho := HOK.out _ (List.getElem_mem h1)
        generalize rs[k] = x at *
        obtain ⟨hxk, hxp, hxm⟩ := ho
        obtain ⟨K, pg, C, mk⟩ := x
        simp only at hxk hxp hxm
        clear hcl
        have hrb : wr.rangeAt g (o + k * 4) [.int .i64 K, .int .i64 pg, bv C, .int .u64 mk] := fun j u hu => by
          have := r0 j u hu
          exact (H.out.hs.below.cell (World.block_lt_of_cell? wc _ this)).trans this
        clear r0
        have hw1 : Below wr.heap.size wr (wr.alloc (.cells #[.int .i64 K, .int .i64 pg, bv C, .int .u64 mk] 45)) := (Below.refl _ _).alloc (Nat.le_refl _) _
        have H1 : Hid (FSt wc (wr.alloc (.cells #[.int .i64 K, .int .i64 pg, bv C, .int .u64 mk] 45)) A L U (1 + r) (.pointer (some ⟨g0, 0, none⟩)) (.pointer (some ⟨dg, 0, none⟩)) F G lb pv pl Z P D k) := H.out.keepB hw1
        have hob := heap_alloc_new wr (.cells #[.int .i64 K, .int .i64 pg, bv C, .int .u64 mk] 45)
        have Hob : Hid ((wr.alloc (.cells #[.int .i64 K, .int .i64 pg, bv C, .int .u64 mk] 45)).heap[wr.heap.size]? = some (.cells #[.int .i64 K, .int .i64 pg, bv C, .int .u64 mk] 45 (0, 0))) := hob
        have hoF : ¬ (F wr.heap.size ∨ G wr.heap.size) := fun h => by have := (H.out.hs.pd.lo _ h).2; omega
        have hoZ : ¬ Z wr.heap.size := fun h => by have := (H.out.ls.lo _ h).2; omega
        have hoA : wr.heap.size ≠ A := by have := H.out.hs.row.lt; omega
        clear hob H hw1
        generalize hB0 : wr.heap.size = B0 at *
        obtain ⟨X, hX⟩ : ∃ X : Int, bv C = .int .u8 X := ⟨_, rfl⟩
        rw [hX] at hrb H1 Hob
        by_cases hpg : 0 ≤ pg ∧ pg ≤ 5
        · obtain ⟨jn, rfl⟩ : ∃ jn : Nat, pg = jn := ⟨pg.toNat, by omega⟩
          have hj6 : jn < 6 := by omega
          have t1 : decide ((jn : Int) < 0) = false := by simp
          have t2 : decide ((jn : Int) > 5) = false := by simp; omega
          go_upto_block 4 with (guard_target = wpList _ _ _ (Oper.mk _ (Op.load 45 _) _ _ _ _ :: _) _ _; refine wpList_load_mid rfl 45 _ rfl g (o + k * 4) (by rfl) [.int .i64 K, .int .i64 jn, .int .u8 X, .int .u64 mk] _ hrb Try.underlying45 rfl infoOp ?_)
          go_cut [12, 16] (fun gv _ wx => ∃ (F G : Nat → Prop) (lb : Nat → Nat) (pv : Nat → Value) (pl : Nat → List OpP) (Z : Nat → Prop) (P : PS) (D : DS), gv = .int .u64 P.safe ∧ Hid (FSt wc wx A L U (1 + r) (.pointer (some ⟨g0, 0, none⟩)) (.pointer (some ⟨dg, 0, none⟩)) F G lb pv pl Z P D (k + 1)))
          case first =>
            have o0 : ((wr.alloc (.cells #[.int .i64 K, .int .i64 jn, .int .u8 X, .int .u64 mk] 45))).cell? ⟨B0, 0, none⟩ = some (.int .i64 K) := by rw [cell_of_row _ _ 0 _ _ _ Hob.out]; rfl
            have o1 : ((wr.alloc (.cells #[.int .i64 K, .int .i64 jn, .int .u8 X, .int .u64 mk] 45))).cell? ⟨B0, 1, none⟩ = some (.int .i64 jn) := by rw [cell_of_row _ _ 1 _ _ _ Hob.out]; rfl
            have o3 : ((wr.alloc (.cells #[.int .i64 K, .int .i64 jn, .int .u8 X, .int .u64 mk] 45))).cell? ⟨B0, 3, none⟩ = some (.int .u64 mk) := by rw [cell_of_row _ _ 3 _ _ _ Hob.out]; rfl
            have hus := H1.out.hs.uses
            have hws := H1.out.hs.ws
            have hnn := pinsOf_nonneg H1.out.hs.pd.ok jn
            have hle := pinsOf_le H1.out.hs.pd.ok jn
            have hpgs := H1.out.hs.pages
            clear hrb
            by_cases hK1 : K = 1
            · subst hK1
              as_aux_lemma =>
                have hpin := pd_pin H1.out.hs.pd (by omega) (by omega) (k := (jn : Int)) (by omega)
                go_wp2_with fail
                refine hpin.mono ?_
                rintro e w5 hO
                clear hpin
                cases hO with
                | err c he hk hc hb =>
                  subst he
                  have H5 : Hid (FSt wc w5 A L U (1 + r) (.pointer (some ⟨g0, 0, none⟩)) (.pointer (some ⟨dg, 0, none⟩)) F G lb pv pl Z P D (k + 1)) := (H1.out.keepB hb).mono (by omega)
                  have hcc : c = 74 ∨ c = 71 := by cases hc <;> simp
                  clear hc hb H1 Hob
                  generalize hSF : P.safe = SF at *
                  rcases hcc with rfl | rfl
                  all_goals
                    go_wp2
                    go_meet
                    exact ⟨F, G, lb, pv, pl, Z, P, D, by rw [hSF], H5⟩
                | ok P5 D5 bs ht hk5 v5 he hv5 F5 G5 h5 hf5 hF5 hG5 hn5 =>
                  subst he
                  have hsf : P5.safe = P.safe := hk5.safe
                  have h5' := H1.out.hs.pin hk5 h5 hf5 hF5 hG5
                  have a1 := h5'.cell hj6
                  have af := h5'.row.frozen jn
                  have b1 := fr_cell hf5 hoF o1
                  have hls := H1.out.ls.keep hf5 (fun i hz hx => H1.out.dz i hz hx)
                  have l1 := hls.rl.cell hj6
                  have hbs := (H1.out.inv.pin H1.out.hs.pd.ok ht).2.2
                  have hsame := same_any v5 (.slice (some ⟨lb jn, 0, none⟩) 2048 2048) bs (cur P D jn) w5 hv5.toBytes ((hls.lbs jn hj6).bytes (hls.len jn hj6) (Nat.le_refl _))
                  rw [hbs] at hsame
                  simp only [decide_true] at hsame
                  obtain ⟨ao5, cap5, hv5', _⟩ := hv5.toBytes.form
                  generalize bs.length = BL at hv5'
                  subst hv5'
                  have H5 : Hid (FSt wc (w5.setCell ⟨A, jn, none⟩ (.int .i64 (pinsOf P jn + 1))) A L U (1 + r) (.pointer (some ⟨g0, 0, none⟩)) (.pointer (some ⟨dg, 0, none⟩)) F5 G5 lb pv pl Z P5 D5 (k + 1)) := H1.out.pin ht hk5 h5 hf5 hF5 hG5
                  clear ht hk5 hv5 h5 hf5 hF5 hG5 hn5 h5' hls hbs H1 Hob o0 o1 o3
                  generalize hZp : pinsOf P jn = Zp at *
                  generalize lb jn = LB at *
                  rw [← hsf]
                  generalize hSF : P5.safe = SF at *
                  go_wp2_with (go_at_call 17; refine hsame.mono ?_; rintro e wx ⟨rfl, hwx⟩; rw [hwx]; clear hwx wx)
                  go_meet
                  exact ⟨F5, G5, lb, pv, pl, Z, P5, D5, by first | rw [hSF, hsf] | rw [hSF, ← hsf] | rw [hSF], H5⟩
            · by_cases hK2 : K = 2
              · subst hK2
                as_aux_lemma =>
                  have o2 : ((wr.alloc (.cells #[.int .i64 2, .int .i64 jn, .int .u8 X, .int .u64 mk] 45))).cell? ⟨B0, 2, none⟩ = some (.int .u8 X) := by rw [cell_of_row _ _ 2 _ _ _ Hob.out]; rfl
                  have HBd : Hid (∀ wx, Calls Try.prog 20 #[.agg #[.int .i64 2, .int .i64 jn, .int .u8 X, .int .u64 mk], .int .i64 2048] wx fun e w' => ∃ c, wx.heap.size ≤ c ∧ e = .returned (.slice (some ⟨c, 0, none⟩) 2048 2048) ∧ RowB w' c (bodyL jn C 2048) ∧ Below wx.heap.size wx w') := fun wx => by
                    have := body_any 2 jn C mk 2048 (by omega) wx
                    rw [hX] at this
                    refine this.mono ?_
                    rintro e w' ⟨he, hR, hb'⟩
                    exact ⟨_, by omega, he, hR, hb'⟩
                  have HO : Hid (((wr.alloc (.cells #[.int .i64 2, .int .i64 jn, .int .u8 X, .int .u64 mk] 45))).cell? ⟨B0, 0, none⟩ = some (.int .i64 2) ∧ ((wr.alloc (.cells #[.int .i64 2, .int .i64 jn, .int .u8 X, .int .u64 mk] 45))).cell? ⟨B0, 1, none⟩ = some (.int .i64 jn) ∧ ((wr.alloc (.cells #[.int .i64 2, .int .i64 jn, .int .u8 X, .int .u64 mk] 45))).cell? ⟨B0, 2, none⟩ = some (.int .u8 X) ∧ ((wr.alloc (.cells #[.int .i64 2, .int .i64 jn, .int .u8 X, .int .u64 mk] 45))).cell? ⟨B0, 3, none⟩ = some (.int .u64 mk)) := ⟨o0, o1, o2, o3⟩
                  have HC : Hid (∀ wx, Below ((wr.alloc (.cells #[.int .i64 2, .int .i64 jn, .int .u8 X, .int .u64 mk] 45))).heap.size (wr.alloc (.cells #[.int .i64 2, .int .i64 jn, .int .u8 X, .int .u64 mk] 45)) wx → wx.cell? ⟨B0, 0, none⟩ = some (.int .i64 2) ∧ wx.cell? ⟨B0, 1, none⟩ = some (.int .i64 jn) ∧ wx.cell? ⟨B0, 2, none⟩ = some (.int .u8 X) ∧ wx.cell? ⟨B0, 3, none⟩ = some (.int .u64 mk)) := fun wx hb => ⟨(hb.cell (World.block_lt_of_cell? _ _ o0)).trans o0, (hb.cell (World.block_lt_of_cell? _ _ o1)).trans o1, (hb.cell (World.block_lt_of_cell? _ _ o2)).trans o2, (hb.cell (World.block_lt_of_cell? _ _ o3)).trans o3⟩
                  have Hdr : Hid (∀ wx, (wx = (wr.alloc (.cells #[.int .i64 2, .int .i64 jn, .int .u8 X, .int .u64 mk] 45)) ∨ wx = ((wr.alloc (.cells #[.int .i64 2, .int .i64 jn, .int .u8 X, .int .u64 mk] 45))).drew) → Below ((wr.alloc (.cells #[.int .i64 2, .int .i64 jn, .int .u8 X, .int .u64 mk] 45))).heap.size (wr.alloc (.cells #[.int .i64 2, .int .i64 jn, .int .u8 X, .int .u64 mk] 45)) wx ∧ wx.heap.size = ((wr.alloc (.cells #[.int .i64 2, .int .i64 jn, .int .u8 X, .int .u64 mk] 45))).heap.size) := fun wx hwx => by
                    rcases hwx with rfl | rfl
                    · exact ⟨Below.refl _ _, rfl⟩
                    · exact ⟨(Below.refl _ _).drew, rfl⟩
                  by_cases hp : 0 < pinsOf P jn
                  · skip
                    as_aux_lemma =>
                      have hm := pinsOf_mem hp
                      have HPut : Hid (∀ wx c, Below ((wr.alloc (.cells #[.int .i64 2, .int .i64 jn, .int .u8 X, .int .u64 mk] 45))).heap.size (wr.alloc (.cells #[.int .i64 2, .int .i64 jn, .int .u8 X, .int .u64 mk] 45)) wx → RowB wx c (bodyL jn C 2048) → Calls Try.prog 19 #[.pointer (some ⟨g0, 0, none⟩), .int .i64 jn, .slice (some ⟨c, 0, none⟩) 2048 2048, .int .u64 mk] wx fun e w' => e = .returned (.int .i64 0) ∧ ∃ (F' G' : Nat → Prop) (P' : PS), Hid (FPut wc w' A L U (1 + r) (.pointer (some ⟨g0, 0, none⟩)) (.pointer (some ⟨dg, 0, none⟩)) F' G' lb (cur P D) pv pl (updN pl jn (pl jn ++ [⟨2, jn, C, mk⟩])) Z P' D (k + 1)) ∧ Hid (∀ i, cur P' D i = updN (cur P D) jn (bodyL jn C 2048) i) ∧ (∀ i, pinsOf P' i = pinsOf P i) ∧ P'.safe = P.safe ∧ w'.cell? ⟨B0, 0, none⟩ = some (.int .i64 2) ∧ w'.cell? ⟨B0, 1, none⟩ = some (.int .i64 jn) ∧ w'.cell? ⟨B0, 2, none⟩ = some (.int .u8 X) ∧ w'.cell? ⟨B0, 3, none⟩ = some (.int .u64 mk)) := fun wx c hb hR => by
                        have hH := H1.out.keepB hb
                        have hB := hR.bytes (bodyL_len _ _ _) (Nat.le_refl _)
                        refine (pd_put hH.hs.pd (by omega) (k := (jn : Int)) (by omega) hm.1 hm.2 _ _ hB (bodyL_len _ _ _) mk hxm).mono ?_
                        rintro e w' ⟨he, hto⟩
                        obtain ⟨F6, G6, P6, h6, hc6, hp6, hf6, hs6⟩ := hH.put hm.1 ⟨2, jn, C, mk⟩ hto
                        have hx := HC.out wx hb
                        exact ⟨he, F6, G6, P6, h6, hc6, hp6, hs6, fr_cell hf6 hoF hx.1, fr_cell hf6 hoF hx.2.1, fr_cell hf6 hoF hx.2.2.1, fr_cell hf6 hoF hx.2.2.2⟩
                      have hpl1 : ∀ i, i < 6 → (pl i).length + 1 ≤ k + 1 := fun i hi => by have := H1.out.pll i hi; omega
                      have Hpll : Hid (∀ i, i < 6 → (pl i).length + 1 ≤ k + 1) := hpl1
                      clear H1 Hob hpl1
                      go_wp2_with fail
                      go_region_held_law (fun w' => w'.cell? ⟨B0, 0, none⟩ = some (.int .i64 2) ∧ w'.cell? ⟨B0, 1, none⟩ = some (.int .i64 jn) ∧ w'.cell? ⟨B0, 2, none⟩ = some (.int .u8 X) ∧ w'.cell? ⟨B0, 3, none⟩ = some (.int .u64 mk)) (first | exact HO.out | exact HC.out _ ((Hdr.out _ (Or.inr rfl)).1.trans (hb5.mono (Nat.le_of_eq (Hdr.out _ (Or.inr rfl)).2.symm))) | exact HC.out _ hb5 | exact hc6)
                        (first
                          | (go_at_call 20; refine (HBd.out _).mono ?_; rintro e w5 ⟨c5, hc5, rfl, hR5, hb5⟩)
                          | (go_at_call 19; refine (HPut.out _ _ ((Hdr.out _ (by first | exact Or.inl rfl | exact Or.inr rfl)).1.trans (hb5.mono (Nat.le_of_eq (Hdr.out _ (by first | exact Or.inl rfl | exact Or.inr rfl)).2.symm))) hR5).mono ?_; rintro e w6 ⟨rfl, F6, G6, P6, H6, HCu, hpp, hsf6, hc6⟩))
                      have hq1 := hc6.2.1
                      have ha6 := H6.out.hs.cell hj6
                      rw [hpp jn] at ha6
                      have HO6 : Hid (w6.cell? ⟨B0, 0, none⟩ = some (.int .i64 2) ∧ w6.cell? ⟨B0, 1, none⟩ = some (.int .i64 jn) ∧ w6.cell? ⟨B0, 2, none⟩ = some (.int .u8 X) ∧ w6.cell? ⟨B0, 3, none⟩ = some (.int .u64 mk)) := hc6
                      have hLA : L ≠ A := fun e => H6.out.az (e ▸ H6.out.ls.zl)
                      have HLB : Hid (L ≠ B0) := fun e => hoZ (e ▸ H6.out.ls.zl)
                      have HUB : Hid (U ≠ B0) := fun e => hoZ (e ▸ H6.out.ls.zu)
                      have hB06 : B0 < w6.heap.size := World.block_lt_of_cell? w6 _ hc6.1
                      have hU6 : U < w6.heap.size := H6.out.ls.ru.lt
                      have hwc6 : wc.heap.size ≤ w6.heap.size := H6.out.hs.below.size
                      have hll : (pl jn).length ≤ 150 := by have := Hpll.out jn hj6; omega
                      obtain ⟨PV, hPV⟩ : ∃ PV, pv jn = PV := ⟨_, rfl⟩
                      have Hpv : Hid (pv jn = PV) := hPV
                      have HZp : Hid (∀ b, PV.ownBlock = some b → Z b) := by rw [← hPV]; exact H6.out.ls.zp jn hj6
                      have HUp : Hid (PV.ownBlock ≠ some U) := by rw [← hPV]; exact H6.out.ls.ownU hj6
                      generalize hZp : pinsOf P jn = Zp at *
                      have z1 : decide (Zp > 0) = true := by simpa using hp
                      generalize hSF6 : P.safe = SF at *
                      clear HO HC HPut Hdr hPV hc6 hpp o0 o1 o2 o3
                      go_wp2_with fail
                      go_region_held_law (fun w' => w'.cell? ⟨B0, 0, none⟩ = some (.int .i64 2) ∧ w'.cell? ⟨B0, 1, none⟩ = some (.int .i64 jn) ∧ w'.cell? ⟨B0, 2, none⟩ = some (.int .u8 X) ∧ w'.cell? ⟨B0, 3, none⟩ = some (.int .u64 mk)) (first | exact HO6.out | exact hc7 | exact hc8)
                        (first
                          | (go_at_call 20; refine (HBd.out _).mono ?_; rintro e w7 ⟨c7, hcc7, rfl, hR7, hb7'⟩; have hb7 : Below w6.heap.size w6 w7 := (by first | exact hb7' | exact ((Below.refl _ _).drew).trans hb7'); have hl7 := (H6.out.ls.keepB hb7).rl.cell hj6; have hlf7 := (H6.out.ls.keepB hb7).rl.frozen jn; have hc7 : w7.cell? ⟨B0, 0, none⟩ = some (.int .i64 2) ∧ w7.cell? ⟨B0, 1, none⟩ = some (.int .i64 jn) ∧ w7.cell? ⟨B0, 2, none⟩ = some (.int .u8 X) ∧ w7.cell? ⟨B0, 3, none⟩ = some (.int .u64 mk) := ⟨(hb7.cell (World.block_lt_of_cell? _ _ HO6.out.1)).trans HO6.out.1, (hb7.cell (World.block_lt_of_cell? _ _ HO6.out.2.1)).trans HO6.out.2.1, (hb7.cell (World.block_lt_of_cell? _ _ HO6.out.2.2.1)).trans HO6.out.2.2.1, (hb7.cell (World.block_lt_of_cell? _ _ HO6.out.2.2.2)).trans HO6.out.2.2.2⟩; have hc8 : (w7.setCell ⟨L, jn, none⟩ (.slice (some ⟨c7, 0, none⟩) 2048 2048)).cell? ⟨B0, 0, none⟩ = some (.int .i64 2) ∧ (w7.setCell ⟨L, jn, none⟩ (.slice (some ⟨c7, 0, none⟩) 2048 2048)).cell? ⟨B0, 1, none⟩ = some (.int .i64 jn) ∧ (w7.setCell ⟨L, jn, none⟩ (.slice (some ⟨c7, 0, none⟩) 2048 2048)).cell? ⟨B0, 2, none⟩ = some (.int .u8 X) ∧ (w7.setCell ⟨L, jn, none⟩ (.slice (some ⟨c7, 0, none⟩) 2048 2048)).cell? ⟨B0, 3, none⟩ = some (.int .u64 mk) := ⟨(World.cell?_setCell_far _ _ _ _ HLB.out).trans hc7.1, (World.cell?_setCell_far _ _ _ _ HLB.out).trans hc7.2.1, (World.cell?_setCell_far _ _ _ _ HLB.out).trans hc7.2.2.1, (World.cell?_setCell_far _ _ _ _ HLB.out).trans hc7.2.2.2⟩))
                      have h8 := H6.out.last hb7 hj6 hR7 (bodyL_len _ _ _) (by first | exact hcc7 | simpa using hcc7)
                      have hs8 : (w7.setCell ⟨L, jn, none⟩ (.slice (some ⟨c7, 0, none⟩) 2048 2048)).heap.size = w7.heap.size := by simp [World.setCell]
                      have hs67 := hb7.size
                      have hs68 : w6.heap.size ≤ (w7.setCell ⟨L, jn, none⟩ (.slice (some ⟨c7, 0, none⟩) 2048 2048)).heap.size := by omega
                      clear hs8 hs67
                      generalize hw8 : w7.setCell ⟨L, jn, none⟩ (.slice (some ⟨c7, 0, none⟩) 2048 2048) = w8 at *
                      have H8 : Hid (FPut wc w8 A L U (1 + r) (.pointer (some ⟨g0, 0, none⟩)) (.pointer (some ⟨dg, 0, none⟩)) F6 G6 (updN lb jn c7) (updN (cur P D) jn (bodyL jn C 2048)) pv pl (updN pl jn (pl jn ++ [⟨2, jn, C, mk⟩])) (fun i => Z i ∨ i = c7) P6 D (k + 1)) := h8
                      have HO8 : Hid (w8.cell? ⟨B0, 0, none⟩ = some (.int .i64 2) ∧ w8.cell? ⟨B0, 1, none⟩ = some (.int .i64 jn) ∧ w8.cell? ⟨B0, 2, none⟩ = some (.int .u8 X) ∧ w8.cell? ⟨B0, 3, none⟩ = some (.int .u64 mk)) := hc8
                      have u8c := h8.ls.ru.cell hj6
                      have u8f := h8.ls.ru.frozen jn
                      rw [Hpv.out] at u8c
                      have HU8 : Hid (w8.cell? ⟨U, jn, none⟩ = some PV ∧ w8.frozen? ⟨U, jn, none⟩ = false) := ⟨u8c, u8f⟩
                      have hbe : Below w8.heap.size w8 (w8.drew.alloc (.cells (cellsP ⟨2, jn, C, mk⟩).toArray 45)) := ((Below.refl _ w8).drew).alloc (by simp) _
                      have HBe : Hid (Below w8.heap.size w8 (w8.drew.alloc (.cells (cellsP ⟨2, jn, C, mk⟩).toArray 45))) := hbe
                      have HOw : Hid (OwnP wc.heap.size (w8.drew.alloc (.cells (cellsP ⟨2, jn, C, mk⟩).toArray 45)) PV (pl jn)) := by rw [← Hpv.out]; exact own_of_block (h8.ls.pvs jn hj6) (fun c hc => hbe.block c (World.ownsRow.lt (h8.ls.pvs jn hj6) c hc).2)
                      have u8a : ((w8.drew.alloc (.cells (cellsP ⟨2, jn, C, mk⟩).toArray 45))).cell? ⟨U, jn, none⟩ = some PV := (hbe.cell (by show U < _; omega)).trans u8c
                      have u8b : (w8.alloc (.cells (cellsP ⟨2, jn, C, mk⟩).toArray 45)).cell? ⟨U, jn, none⟩ = some PV := u8a
                      have HS3 : Hid (((w8.drew.alloc (.cells (cellsP ⟨2, jn, C, mk⟩).toArray 45))).cell? ⟨B0, 0, none⟩ = some (.int .i64 2) ∧ ((w8.drew.alloc (.cells (cellsP ⟨2, jn, C, mk⟩).toArray 45))).cell? ⟨B0, 1, none⟩ = some (.int .i64 jn) ∧ ((w8.drew.alloc (.cells (cellsP ⟨2, jn, C, mk⟩).toArray 45))).cell? ⟨B0, 2, none⟩ = some (.int .u8 X) ∧ ((w8.drew.alloc (.cells (cellsP ⟨2, jn, C, mk⟩).toArray 45))).cell? ⟨B0, 3, none⟩ = some (.int .u64 mk)) := ⟨(hbe.cell (by show B0 < _; omega)).trans hc8.1, (hbe.cell (by show B0 < _; omega)).trans hc8.2.1, (hbe.cell (by show B0 < _; omega)).trans hc8.2.2.1, (hbe.cell (by show B0 < _; omega)).trans hc8.2.2.2⟩
                      clear h8 hbe hR7 hb7' hb7 hl7 hlf7 hc7 HO6 ha6 hq1 hw8 H6 hcc7 z1
                      go_wp2_with fail
                      refine wp_region_held_drew (S := fun w' => w'.cell? ⟨B0, 0, none⟩ = some (.int .i64 2) ∧ w'.cell? ⟨B0, 1, none⟩ = some (.int .i64 jn) ∧ w'.cell? ⟨B0, 2, none⟩ = some (.int .u8 X) ∧ w'.cell? ⟨B0, 3, none⟩ = some (.int .u64 mk)) (by kernel_rfl) hc8 (fun hHeld => ?_)
                      refine wpAnyH_take (i := 0) (v := .pointer (some ⟨B0, 1, none⟩)) rfl (by kernel_rfl) (by kernel_rfl) (by kernel_rfl) (fun _ _ _ h => h) (Or.inl ⟨by rfl, ?_⟩) hHeld ?_
                      · intro wq hSw; obtain ⟨hA1, hA2, hA3, hA4⟩ := hSw; go_simp
                      simp only [List.getElem_toArray, List.getElem_cons_zero, List.getElem_cons_succ, Act.put, List.setIfInBounds_toArray, List.set_cons_zero, List.set_cons_succ]
                      refine wpAnyH_take (i := 1) (v := .int .i64 jn) rfl (by kernel_rfl) (by kernel_rfl) (by kernel_rfl) (fun _ _ _ h => h) (Or.inl ⟨by rfl, ?_⟩) hHeld ?_
                      · intro wq hSw; obtain ⟨hA1, hA2, hA3, hA4⟩ := hSw; go_simp
                      simp only [List.getElem_toArray, List.getElem_cons_zero, List.getElem_cons_succ, Act.put, List.setIfInBounds_toArray, List.set_cons_zero, List.set_cons_succ]
                      refine wpAnyH_take (i := 2) (v := .pointer (some ⟨B0, 1, none⟩)) rfl (by kernel_rfl) (by kernel_rfl) (by kernel_rfl) (fun _ _ _ h => h) (Or.inl ⟨by rfl, ?_⟩) hHeld ?_
                      · intro wq hSw; obtain ⟨hA1, hA2, hA3, hA4⟩ := hSw; go_simp
                      simp only [List.getElem_toArray, List.getElem_cons_zero, List.getElem_cons_succ, Act.put, List.setIfInBounds_toArray, List.set_cons_zero, List.set_cons_succ]
                      refine wpAnyH_take (i := 3) (v := .int .i64 jn) rfl (by kernel_rfl) (by kernel_rfl) (by kernel_rfl) (fun _ _ _ h => h) (Or.inl ⟨by rfl, ?_⟩) hHeld ?_
                      · intro wq hSw; obtain ⟨hA1, hA2, hA3, hA4⟩ := hSw; go_simp
                      simp only [List.getElem_toArray, List.getElem_cons_zero, List.getElem_cons_succ, Act.put, List.setIfInBounds_toArray, List.set_cons_zero, List.set_cons_succ]
                      refine wpAnyH_take (i := 4) (v := .pointer (some ⟨U, jn, none⟩)) rfl (by kernel_rfl) (by kernel_rfl) (by kernel_rfl) (fun _ _ _ h => h) (Or.inl ⟨by rfl, ?_⟩) hHeld ?_
                      · intro wq hSw; obtain ⟨hA1, hA2, hA3, hA4⟩ := hSw; go_simp
                      simp only [List.getElem_toArray, List.getElem_cons_zero, List.getElem_cons_succ, Act.put, List.setIfInBounds_toArray, List.set_cons_zero, List.set_cons_succ]
                      refine wpAnyH_take (i := 6) (v := .agg #[.int .i64 2, .int .i64 jn, .int .u8 X, .int .u64 mk]) rfl (by kernel_rfl) (by kernel_rfl) (by kernel_rfl) (fun _ _ _ h => h) (Or.inl ⟨by rfl, ?_⟩) hHeld ?_
                      · intro wq hSw; obtain ⟨hA1, hA2, hA3, hA4⟩ := hSw; go_simp
                      simp only [List.getElem_toArray, List.getElem_cons_zero, List.getElem_cons_succ, Act.put, List.setIfInBounds_toArray, List.set_cons_zero, List.set_cons_succ]
                      refine wpAnyH_ready (rs := [5, 7]) (by kernel_rfl) (by simp) ?_
                      refine AllReadyH.cons rfl (fun K hK => ?_) (AllReadyH.cons rfl (fun K hK => ?_) AllReadyH.nil)
                      · skip
                        as_aux_lemma =>
                          go_simp
                          refine hK.out _ _ hHeld (fun hHeld => ?_)
                          clear hK K
                          refine wpAnyH_ready (rs := [7]) (by kernel_rfl) (by simp) ?_
                          refine AllReadyH.cons rfl (fun K hK => ?_) AllReadyH.nil
                          refine step_buildP rfl _ rfl ⟨2, jn, C, mk⟩ (by show Value.agg #[_, _, _, _] = _; simp [cellsP, hX]) ?_
                          simp only [List.getElem_toArray, List.getElem_cons_zero, List.getElem_cons_succ, Act.put, List.setIfInBounds_toArray, List.set_cons_zero, List.set_cons_succ]
                          refine hK.out _ _ HS3.out (fun hHeld => ?_)
                          clear hK K
                          refine wpAnyH_ready (rs := [8]) (by kernel_rfl) (by simp) ?_
                          refine AllReadyH.cons rfl (fun K hK => ?_) AllReadyH.nil
                          refine step_appP _ rfl _ _ rfl wc.heap.size PV (pl jn) rfl HOw.out ⟨2, jn, C, mk⟩ _ rfl (by first | exact heap_alloc_new w8.drew _ | exact new_drew w8 _ rfl) (by omega) (by simp; omega) ?_
                          intro gk cap4 w4 hown hg4 hk
                          have HFin : Hid (FSt wc (w4.setCell ⟨U, jn, none⟩ (.slice (some ⟨gk, 0, none⟩) ((pl jn).length + 1) cap4)) A L U (1 + r) (.pointer (some ⟨g0, 0, none⟩)) (.pointer (some ⟨dg, 0, none⟩)) F6 G6 (updN lb jn c7) (updN pv jn (.slice (some ⟨gk, 0, none⟩) ((pl jn).length + 1) cap4)) (updN pl jn (pl jn ++ [⟨2, jn, C, mk⟩])) (fun i => (Z i ∨ i = c7) ∨ i = gk) P6 D (k + 1)) := H8.out.app HBe.out hj6 hown (by rw [Hpv.out]; exact hg4) (by rw [Hpv.out]; exact hk) (fun i => (HCu.out i).symm) Hpll.out
                          have hB4 : w4.heap[B0]? = w8.heap[B0]? := (hg4.block B0 (by simp; omega) (fun e => hoZ (HZp.out B0 e.symm))).trans (HBe.out.block B0 (by omega))
                          have hS4 : w4.cell? ⟨B0, 0, none⟩ = some (.int .i64 2) ∧ w4.cell? ⟨B0, 1, none⟩ = some (.int .i64 jn) ∧ w4.cell? ⟨B0, 2, none⟩ = some (.int .u8 X) ∧ w4.cell? ⟨B0, 3, none⟩ = some (.int .u64 mk) := ⟨(World.cell?_of_block hB4).trans HO8.out.1, (World.cell?_of_block hB4).trans HO8.out.2.1, (World.cell?_of_block hB4).trans HO8.out.2.2.1, (World.cell?_of_block hB4).trans HO8.out.2.2.2⟩
                          have hU4 : w4.heap[U]? = w8.heap[U]? := (hg4.block U (by simp; omega) (fun e => HUp.out e.symm)).trans (HBe.out.block U (by omega))
                          have u4c : w4.cell? ⟨U, jn, none⟩ = some PV := (World.cell?_of_block hU4).trans HU8.out.1
                          have u4f : w4.frozen? ⟨U, jn, none⟩ = false := (World.frozen?_of_block hU4).trans HU8.out.2
                          have HS5 : Hid ((w4.setCell ⟨U, jn, none⟩ (.slice (some ⟨gk, 0, none⟩) ((pl jn).length + 1) cap4)).cell? ⟨B0, 0, none⟩ = some (.int .i64 2) ∧ (w4.setCell ⟨U, jn, none⟩ (.slice (some ⟨gk, 0, none⟩) ((pl jn).length + 1) cap4)).cell? ⟨B0, 1, none⟩ = some (.int .i64 jn) ∧ (w4.setCell ⟨U, jn, none⟩ (.slice (some ⟨gk, 0, none⟩) ((pl jn).length + 1) cap4)).cell? ⟨B0, 2, none⟩ = some (.int .u8 X) ∧ (w4.setCell ⟨U, jn, none⟩ (.slice (some ⟨gk, 0, none⟩) ((pl jn).length + 1) cap4)).cell? ⟨B0, 3, none⟩ = some (.int .u64 mk)) := ⟨by rw [World.cell?_setCell_far _ _ _ _ HUB.out]; exact hS4.1, by rw [World.cell?_setCell_far _ _ _ _ HUB.out]; exact hS4.2.1, by rw [World.cell?_setCell_far _ _ _ _ HUB.out]; exact hS4.2.2.1, by rw [World.cell?_setCell_far _ _ _ _ HUB.out]; exact hS4.2.2.2⟩
                          clear hown hg4 hk hB4 hU4
                          simp only [List.getElem_toArray, List.getElem_cons_zero, List.getElem_cons_succ, Act.put, List.setIfInBounds_toArray, List.set_cons_zero, List.set_cons_succ]
                          refine hK.out _ _ hS4 (fun hHeld => ?_)
                          clear hK K
                          refine wpAnyH_take (i := 9) (v := .pointer (some ⟨U, jn, none⟩)) rfl (by kernel_rfl) (by kernel_rfl) (by kernel_rfl) (fun _ _ _ h => h) (Or.inl ⟨by rfl, ?_⟩) hHeld ?_
                          · intro wq hSw; obtain ⟨hA1, hA2, hA3, hA4⟩ := hSw; go_simp
                          simp only [List.getElem_toArray, List.getElem_cons_zero, List.getElem_cons_succ, Act.put, List.setIfInBounds_toArray, List.set_cons_zero, List.set_cons_succ]
                          refine wpAnyH_ready (rs := [10]) (by kernel_rfl) (by simp) ?_
                          refine AllReadyH.cons rfl (fun K hK => ?_) AllReadyH.nil
                          go_simp
                          refine hK.out _ _ HS5.out (fun hHeld => ?_)
                          clear hK K
                          refine wpAnyH_done (by kernel_rfl) ?_ _
                          go_wp2
                          go_meet
                          exact ⟨F6, G6, _, _, _, _, P6, D, by first | rw [hsf6] | (rw [hSF6, hsf6]) | (rw [hSF6]), HFin⟩
                      · skip
                        as_aux_lemma =>
                          refine step_buildP rfl _ rfl ⟨2, jn, C, mk⟩ (by show Value.agg #[_, _, _, _] = _; simp [cellsP, hX]) ?_
                          simp only [List.getElem_toArray, List.getElem_cons_zero, List.getElem_cons_succ, Act.put, List.setIfInBounds_toArray, List.set_cons_zero, List.set_cons_succ]
                          refine hK.out _ _ HS3.out (fun hHeld => ?_)
                          clear hK K
                          refine wpAnyH_ready (rs := [5]) (by kernel_rfl) (by simp) ?_
                          refine AllReadyH.cons rfl (fun K hK => ?_) AllReadyH.nil
                          go_simp
                          refine hK.out _ _ hHeld (fun hHeld => ?_)
                          clear hK K
                          refine wpAnyH_ready (rs := [8]) (by kernel_rfl) (by simp) ?_
                          refine AllReadyH.cons rfl (fun K hK => ?_) AllReadyH.nil
                          refine step_appP _ rfl _ _ rfl wc.heap.size PV (pl jn) rfl HOw.out ⟨2, jn, C, mk⟩ _ rfl (by first | exact heap_alloc_new w8.drew _ | exact new_drew w8 _ rfl) (by omega) (by simp; omega) ?_
                          intro gk cap4 w4 hown hg4 hk
                          have HFin : Hid (FSt wc (w4.setCell ⟨U, jn, none⟩ (.slice (some ⟨gk, 0, none⟩) ((pl jn).length + 1) cap4)) A L U (1 + r) (.pointer (some ⟨g0, 0, none⟩)) (.pointer (some ⟨dg, 0, none⟩)) F6 G6 (updN lb jn c7) (updN pv jn (.slice (some ⟨gk, 0, none⟩) ((pl jn).length + 1) cap4)) (updN pl jn (pl jn ++ [⟨2, jn, C, mk⟩])) (fun i => (Z i ∨ i = c7) ∨ i = gk) P6 D (k + 1)) := H8.out.app HBe.out hj6 hown (by rw [Hpv.out]; exact hg4) (by rw [Hpv.out]; exact hk) (fun i => (HCu.out i).symm) Hpll.out
                          have hB4 : w4.heap[B0]? = w8.heap[B0]? := (hg4.block B0 (by simp; omega) (fun e => hoZ (HZp.out B0 e.symm))).trans (HBe.out.block B0 (by omega))
                          have hS4 : w4.cell? ⟨B0, 0, none⟩ = some (.int .i64 2) ∧ w4.cell? ⟨B0, 1, none⟩ = some (.int .i64 jn) ∧ w4.cell? ⟨B0, 2, none⟩ = some (.int .u8 X) ∧ w4.cell? ⟨B0, 3, none⟩ = some (.int .u64 mk) := ⟨(World.cell?_of_block hB4).trans HO8.out.1, (World.cell?_of_block hB4).trans HO8.out.2.1, (World.cell?_of_block hB4).trans HO8.out.2.2.1, (World.cell?_of_block hB4).trans HO8.out.2.2.2⟩
                          have hU4 : w4.heap[U]? = w8.heap[U]? := (hg4.block U (by simp; omega) (fun e => HUp.out e.symm)).trans (HBe.out.block U (by omega))
                          have u4c : w4.cell? ⟨U, jn, none⟩ = some PV := (World.cell?_of_block hU4).trans HU8.out.1
                          have u4f : w4.frozen? ⟨U, jn, none⟩ = false := (World.frozen?_of_block hU4).trans HU8.out.2
                          have HS5 : Hid ((w4.setCell ⟨U, jn, none⟩ (.slice (some ⟨gk, 0, none⟩) ((pl jn).length + 1) cap4)).cell? ⟨B0, 0, none⟩ = some (.int .i64 2) ∧ (w4.setCell ⟨U, jn, none⟩ (.slice (some ⟨gk, 0, none⟩) ((pl jn).length + 1) cap4)).cell? ⟨B0, 1, none⟩ = some (.int .i64 jn) ∧ (w4.setCell ⟨U, jn, none⟩ (.slice (some ⟨gk, 0, none⟩) ((pl jn).length + 1) cap4)).cell? ⟨B0, 2, none⟩ = some (.int .u8 X) ∧ (w4.setCell ⟨U, jn, none⟩ (.slice (some ⟨gk, 0, none⟩) ((pl jn).length + 1) cap4)).cell? ⟨B0, 3, none⟩ = some (.int .u64 mk)) := ⟨by rw [World.cell?_setCell_far _ _ _ _ HUB.out]; exact hS4.1, by rw [World.cell?_setCell_far _ _ _ _ HUB.out]; exact hS4.2.1, by rw [World.cell?_setCell_far _ _ _ _ HUB.out]; exact hS4.2.2.1, by rw [World.cell?_setCell_far _ _ _ _ HUB.out]; exact hS4.2.2.2⟩
                          clear hown hg4 hk hB4 hU4
                          simp only [List.getElem_toArray, List.getElem_cons_zero, List.getElem_cons_succ, Act.put, List.setIfInBounds_toArray, List.set_cons_zero, List.set_cons_succ]
                          refine hK.out _ _ hS4 (fun hHeld => ?_)
                          clear hK K
                          refine wpAnyH_take (i := 9) (v := .pointer (some ⟨U, jn, none⟩)) rfl (by kernel_rfl) (by kernel_rfl) (by kernel_rfl) (fun _ _ _ h => h) (Or.inl ⟨by rfl, ?_⟩) hHeld ?_
                          · intro wq hSw; obtain ⟨hA1, hA2, hA3, hA4⟩ := hSw; go_simp
                          simp only [List.getElem_toArray, List.getElem_cons_zero, List.getElem_cons_succ, Act.put, List.setIfInBounds_toArray, List.set_cons_zero, List.set_cons_succ]
                          refine wpAnyH_ready (rs := [10]) (by kernel_rfl) (by simp) ?_
                          refine AllReadyH.cons rfl (fun K hK => ?_) AllReadyH.nil
                          go_simp
                          refine hK.out _ _ HS5.out (fun hHeld => ?_)
                          clear hK K
                          refine wpAnyH_done (by kernel_rfl) ?_ _
                          go_wp2
                          go_meet
                          exact ⟨F6, G6, _, _, _, _, P6, D, by first | rw [hsf6] | (rw [hSF6, hsf6]) | (rw [hSF6]), HFin⟩
                  · skip
                    as_aux_lemma =>
                      have hbad : ∀ wx c, Below ((wr.alloc (.cells #[.int .i64 2, .int .i64 jn, .int .u8 X, .int .u64 mk] 45))).heap.size (wr.alloc (.cells #[.int .i64 2, .int .i64 jn, .int .u8 X, .int .u64 mk] 45)) wx → Calls Try.prog 19 #[.pointer (some ⟨g0, 0, none⟩), .int .i64 jn, .slice (some ⟨c, 0, none⟩) 2048 2048, .int .u64 mk] wx fun e w' => e = .returned (.int .i64 72) ∧ w' = wx := fun wx c hb => pd_put_bad (H1.out.keepB hb).hs.pd (k := (jn : Int)) (by omega) (pinsOf_no H1.out.hs.pd.ok hp) _ mk
                      have HPut : Hid (∀ wx c, Below ((wr.alloc (.cells #[.int .i64 2, .int .i64 jn, .int .u8 X, .int .u64 mk] 45))).heap.size (wr.alloc (.cells #[.int .i64 2, .int .i64 jn, .int .u8 X, .int .u64 mk] 45)) wx → Calls Try.prog 19 #[.pointer (some ⟨g0, 0, none⟩), .int .i64 jn, .slice (some ⟨c, 0, none⟩) 2048 2048, .int .u64 mk] wx fun e w' => e = .returned (.int .i64 72) ∧ w' = wx) := hbad
                      clear hbad Hob
                      go_wp2_with fail
                      go_region_held_law (fun w' => w'.cell? ⟨B0, 0, none⟩ = some (.int .i64 2) ∧ w'.cell? ⟨B0, 1, none⟩ = some (.int .i64 jn) ∧ w'.cell? ⟨B0, 2, none⟩ = some (.int .u8 X) ∧ w'.cell? ⟨B0, 3, none⟩ = some (.int .u64 mk)) (first | exact HO.out | exact HC.out _ hb5)
                        (first
                          | (go_at_call 20; refine (HBd.out _).mono ?_; rintro e w5 ⟨c5, hc5, rfl, hR5, hb5'⟩; have hb5 : Below ((wr.alloc (.cells #[.int .i64 2, .int .i64 jn, .int .u8 X, .int .u64 mk] 45))).heap.size (wr.alloc (.cells #[.int .i64 2, .int .i64 jn, .int .u8 X, .int .u64 mk] 45)) w5 := (by first | exact hb5' | exact ((Below.refl _ _).drew).trans hb5'))
                          | (go_at_call 19; refine (HPut.out _ _ hb5).mono ?_; rintro e w6 ⟨rfl, hw6⟩; rw [hw6]; clear hw6 w6))
                      have hH := H1.out.keepB hb5
                      have ha5 := hH.hs.cell hj6
                      have hq5 := (HC.out _ hb5).2.1
                      have H5 : Hid (FSt wc w5 A L U (1 + r) (.pointer (some ⟨g0, 0, none⟩)) (.pointer (some ⟨dg, 0, none⟩)) F G lb pv pl Z P D (k + 1)) := hH.mono (by omega)
                      clear hH HC HO HPut HBd Hdr H1 hR5 hb5' hb5 o0 o1 o2 o3
                      generalize pinsOf P jn = Zp at *
                      have z1 : decide (Zp > 0) = false := by simpa using hp
                      generalize hSF : P.safe = SF at *
                      go_wp2
                      go_meet
                      exact ⟨F, G, lb, pv, pl, Z, P, D, by rw [hSF], H5⟩
              · by_cases hK3 : K = 3
                · subst hK3
                  as_aux_lemma =>
                    by_cases hp : 0 < pinsOf P jn
                    · have hm := pinsOf_mem hp
                      have hun := pd_unpin H1.out.hs.pd (by omega) (k := (jn : Int)) (by omega) hm.1 hm.2
                      go_wp2_with fail
                      refine hun.mono ?_
                      rintro e w5 ⟨rfl, hto⟩
                      obtain ⟨F5, G5, P5, h5, h5', hf5, hsf⟩ := H1.out.unpin hm.1 hto
                      have a1 := h5'.cell hj6
                      have af := h5'.row.frozen jn
                      have b1 := fr_cell hf5 hoF o1
                      have H5 : Hid (FSt wc (w5.setCell ⟨A, jn, none⟩ (.int .i64 (pinsOf P jn - 1))) A L U (1 + r) (.pointer (some ⟨g0, 0, none⟩)) (.pointer (some ⟨dg, 0, none⟩)) F5 G5 lb pv pl Z P5 D (k + 1)) := h5
                      clear hun hto h5 h5' hf5 H1 Hob o0 o1 o3
                      generalize pinsOf P jn = Zp at *
                      have z1 : decide (Zp > 0) = true := by simpa using hp
                      rw [← hsf]
                      generalize hSF : P5.safe = SF at *
                      go_wp2
                      go_meet
                      exact ⟨F5, G5, lb, pv, pl, Z, P5, D, by first | rw [hSF, hsf] | rw [hSF, ← hsf] | rw [hSF], H5⟩
                    · have hun := pd_unpin_bad H1.out.hs.pd (k := (jn : Int)) (by omega) (pinsOf_no H1.out.hs.pd.ok hp)
                      have a1 := H1.out.hs.cell hj6
                      have H5 : Hid (FSt wc (wr.alloc (.cells #[.int .i64 3, .int .i64 jn, .int .u8 X, .int .u64 mk] 45)) A L U (1 + r) (.pointer (some ⟨g0, 0, none⟩)) (.pointer (some ⟨dg, 0, none⟩)) F G lb pv pl Z P D (k + 1)) := H1.out.mono (by omega)
                      clear H1 Hob
                      generalize pinsOf P jn = Zp at *
                      have z1 : decide (Zp > 0) = false := by simpa using hp
                      generalize hSF : P.safe = SF at *
                      go_wp2_with (go_at_call 21; refine hun.mono ?_; rintro e wx ⟨rfl, hwx⟩; rw [hwx]; clear hwx wx)
                      go_meet
                      exact ⟨F, G, lb, pv, pl, Z, P, D, by rw [hSF], H5⟩
                · by_cases hK4 : K = 4
                  · subst hK4
                    as_aux_lemma =>
                      have hsv := pd_safe H1.out.hs.pd mk hxm
                      go_wp2_with fail
                      refine hsv.mono ?_
                      rintro e w5 ⟨rfl, hto⟩
                      obtain ⟨F5, G5, h5, hf5⟩ := H1.out.safe hto
                      have b3 := fr_cell hf5 hoF o3
                      obtain ⟨P5, hP5⟩ : ∃ P5 : PS, P5 = { P with safe := mx P.safe mk } := ⟨_, rfl⟩
                      rw [← hP5] at h5
                      have hsf : P5.safe = mx P.safe mk := by rw [hP5]
                      have H5 : Hid (FSt wc w5 A L U (1 + r) (.pointer (some ⟨g0, 0, none⟩)) (.pointer (some ⟨dg, 0, none⟩)) F5 G5 lb pv pl Z P5 D (k + 1)) := h5
                      clear hsv hto h5 hf5 H1 Hob o0 o1 o3 hP5
                      generalize hS0 : P.safe = S0 at *
                      have Hsf : Hid (P5.safe = mx S0 mk) := hsf
                      clear hsf
                      by_cases hmx : mk > S0
                      · have e5 : P5.safe = mk := by rw [Hsf.out]; unfold mx; rw [if_pos hmx]
                        have He5 : Hid (P5.safe = mk) := e5
                        clear e5
                        go_wp2
                        go_meet
                        exact ⟨F5, G5, lb, pv, pl, Z, P5, D, by rw [He5.out]; first | rfl | (congr 1; omega), H5⟩
                      · have e5 : P5.safe = S0 := by rw [Hsf.out]; unfold mx; rw [if_neg hmx]
                        have He5 : Hid (P5.safe = S0) := e5
                        clear e5
                        go_wp2
                        go_meet
                        exact ⟨F5, G5, lb, pv, pl, Z, P5, D, by rw [He5.out]; first | rfl | (congr 1; omega), H5⟩
                  · by_cases hK5 : K = 5
                    · subst hK5
                      as_aux_lemma =>
                        have hk6 : P.keys.length ≤ 6 := rise_len H1.out.hs.pd.ok.rise (fun x hx => by have := H1.out.hs.pd.ok.rng x hx; rw [hpgs] at this; exact this)
                        have hfl := flush_any H1.out.hs.pd (by omega)
                        go_wp2_with fail
                        refine hfl.mono ?_
                        rintro e w5 hO
                        clear hfl
                        cases hO with
                        | behind he hx hb =>
                          subst he
                          have H5 : Hid (FSt wc w5 A L U (1 + r) (.pointer (some ⟨g0, 0, none⟩)) (.pointer (some ⟨dg, 0, none⟩)) F G lb pv pl Z P D (k + 1)) := (H1.out.keepB hb).mono (by omega)
                          clear hb H1 Hob hx
                          generalize hSF : P.safe = SF at *
                          go_wp2
                          go_meet
                          exact ⟨F, G, lb, pv, pl, Z, P, D, by rw [hSF], H5⟩
                        | ok he hx hto =>
                          subst he
                          obtain ⟨F5, G5, h5, hf5⟩ := H1.out.flush hx hto
                          have H5 : Hid (FSt wc w5 A L U (1 + r) (.pointer (some ⟨g0, 0, none⟩)) (.pointer (some ⟨dg, 0, none⟩)) F5 G5 lb pv pl Z (P.cleanL P.keys) (D.cleanL P P.keys) (k + 1)) := h5
                          clear h5 hf5 hto hx H1 Hob
                          generalize hSF : P.safe = SF at *
                          go_wp2
                          go_meet
                          exact ⟨F5, G5, lb, pv, pl, Z, P.cleanL P.keys, D.cleanL P P.keys, by show _ = Value.int _ P.safe; rw [hSF], H5⟩
                    · skip
                      as_aux_lemma =>
                        have k1 : (K == 1) = false := by simpa using hK1
                        have k2 : (K == 2) = false := by simpa using hK2
                        have k3 : (K == 3) = false := by simpa using hK3
                        have k4 : (K == 4) = false := by simpa using hK4
                        have k5 : (K == 5) = false := by simpa using hK5
                        have H5 : Hid (FSt wc (wr.alloc (.cells #[.int .i64 K, .int .i64 jn, .int .u8 X, .int .u64 mk] 45)) A L U (1 + r) (.pointer (some ⟨g0, 0, none⟩)) (.pointer (some ⟨dg, 0, none⟩)) F G lb pv pl Z P D (k + 1)) := H1.out.mono (by omega)
                        clear H1
                        generalize hSF : P.safe = SF at *
                        go_wp2
                        go_meet
                        exact ⟨F, G, lb, pv, pl, Z, P, D, by rw [hSF], H5⟩
          case rest =>
          obtain ⟨F2, G2, lb2, pv2, pl2, Z2, P2, D2, rfl, H2⟩ := hcut
          rename World => wb
          as_aux_lemma =>
            clear H1 Hob
            generalize hSF : P2.safe = SF at *
            go_wp2_with fail
            go_loopw [21] (fun kv wz => ∃ m : Nat, m ≤ 6 ∧ kv = .int .i64 m ∧ Hid (FSt wc wz A L U (1 + r) (.pointer (some ⟨g0, 0, none⟩)) (.pointer (some ⟨dg, 0, none⟩)) F2 G2 lb2 pv2 pl2 Z2 P2 D2 (k + 1))) (fun kv _ => 6 - (intOf kv).toNat)
            case atStart => exact ⟨0, by omega, rfl, H2⟩
            case round =>
              obtain ⟨m, hm6, rfl, H3⟩ := hrel
              clear H2
              by_cases hlt : m < 6
              · skip
                as_aux_lemma =>
                  have hfit := H3.out.hs.pd.fit
                  rw [H3.out.hs.first, H3.out.hs.pages] at hfit
                  have hrd := read_any H3.out.hs.pd.disk (16 * (m : Int)) (by omega)
                  have hst := H3.out.inv.b m (by rw [H3.out.hs.pages]; omega)
                  rw [H3.out.hs.first, Int.zero_add, hSF] at hst
                  have hlen := H3.out.hs.pd.disk.nowLen (16 * (m : Int))
                  have HRd : Hid (Calls Try.prog 15 #[.pointer (some ⟨dg, 0, none⟩), .int .i64 (16 * (m : Int))] _ fun e w' => ∃ c, _ ≤ c ∧ e = .returned (.tuple #[.slice (some ⟨c, 0, none⟩) 128 128, .int .i64 0]) ∧ RowB w' c (D2.now (16 * (m : Int))) ∧ Below _ _ w') := hrd
                  clear hrd hfit
                  generalize D2.now (16 * (m : Int)) = s at *
                  go_wp2_with fail
                  refine HRd.out.mono ?_
                  rintro e w7 ⟨c7, hc7, rfl, hR7, hb7⟩
                  have H7 : Hid (FSt wc w7 A L U (1 + r) (.pointer (some ⟨g0, 0, none⟩)) (.pointer (some ⟨dg, 0, none⟩)) F2 G2 lb2 pv2 pl2 Z2 P2 D2 (k + 1)) := H3.out.keepB hb7
                  obtain ⟨b0, hb0⟩ : ∃ b0 : Int, b0 = ((s.getD 0 0).toNat : Int) := ⟨_, rfl⟩
                  obtain ⟨b1, hb1⟩ : ∃ b1 : Int, b1 = ((s.getD 1 0).toNat : Int) := ⟨_, rfl⟩
                  have r0 := hR7.cell 0 (by omega)
                  have r1 := hR7.cell 1 (by omega)
                  have e0 : bv (s[0]'(by omega)) = .int .u8 b0 := by rw [hb0]; unfold bv; simp [List.getD, List.getElem?_eq_getElem (show 0 < s.length by omega)]
                  have e1 : bv (s[1]'(by omega)) = .int .u8 b1 := by rw [hb1]; unfold bv; simp [List.getD, List.getElem?_eq_getElem (show 1 < s.length by omega)]
                  rw [e0, Addr.add_mid] at r0
                  rw [e1, Addr.add_mid] at r1
                  have x0 : w7.cell? ⟨c7, 0, none⟩ = some (.int .u8 b0) := r0
                  have x1 : w7.cell? ⟨c7, 1, none⟩ = some (.int .u8 b1) := r1
                  have HSt : Hid (((decide (b0 = 0) && decide (b1 = 0)) || (pl2 m).any (okP SF b0 b1 m)) = true) := stands_ok hst hlt hb0 hb1
                  have um := H7.out.ls.ru.cell hlt
                  obtain ⟨aop, capp, hpv, hcp, hcl⟩ := (H7.out.ls.pvs m hlt).form
                  rw [hpv] at um
                  have HCp : Hid (pl2 m = [] ∨ ∃ g, aop = some ⟨g, 0, none⟩ ∧ ∀ k (hk : k < (pl2 m).length), w7.cell? ⟨g, k * 4 + 2, none⟩ = some (.int .u8 ((pl2 m)[k].by_.toNat : Int)) ∧ w7.cell? ⟨g, k * 4 + 3, none⟩ = some (.int .u64 (pl2 m)[k].mark)) := hcl
                  have hlm := H7.out.pll m hlt
                  obtain ⟨lm, hlmd⟩ : ∃ lm, pl2 m = lm := ⟨_, rfl⟩
                  rw [hlmd] at HCp um hcp hlm HSt
                  have b0r : 0 ≤ b0 ∧ b0 ≤ 255 := by have := UInt8.toNat_lt (s.getD 0 0); omega
                  have b1r : 0 ≤ b1 ∧ b1 ≤ 255 := by have := UInt8.toNat_lt (s.getD 1 0); omega
                  clear hst hR7 hb7 r0 r1 e0 e1 hb0 hb1 hcl hpv hlmd HRd hlen H3
                  go_upto_region 50 with fail
                  go_cut [24] (fun ov wx => ov = .bool (decide (b0 = 0) && decide (b1 = 0)) ∧ w7 = wx)
                  case first =>
                    by_cases y0 : b0 = 0
                    · subst y0
                      by_cases y1 : b1 = 0
                      · subst y1
                        go_wp2
                        go_meet
                        exact ⟨by first | rfl | simp, rfl⟩
                      · have y1' : (b1 == 0) = false := by simpa using y1
                        go_wp2
                        go_meet
                        exact ⟨by simp [y1], rfl⟩
                    · have y0' : (b0 == 0) = false := by simpa using y0
                      go_wp2
                      go_meet
                      exact ⟨by simp [y0], rfl⟩
                  case rest =>
                  obtain ⟨rfl, hwx⟩ := hcut
                  rename World => wy
                  subst hwx
                  generalize hZ0 : (decide (b0 = 0) && decide (b1 = 0)) = Z0 at *
                  go_upto_block 7 with fail
                  go_cut [24, 25] (fun ov _ wx => ov = .bool true ∧ Below w7.heap.size w7 wx)
                  case first =>
                    go_wp2_with fail
                    go_loopw [24, 25] (fun ov iv wz => ∃ kk : Nat, kk ≤ lm.length ∧ iv = .int .i64 kk ∧ ov = .bool (Z0 || (lm.take kk).any (okP SF b0 b1 m)) ∧ Below w7.heap.size w7 wz) (fun _ iv _ => lm.length - (intOf iv).toNat)
                    case atStart => exact ⟨0, Nat.zero_le _, rfl, by simp, Below.refl _ _⟩
                    case round =>
                      obtain ⟨kk, hkk, rfl, rfl, hbz⟩ := hrel
                      have x0' := (hbz.cell (World.block_lt_of_cell? _ _ x0)).trans x0
                      have x1' := (hbz.cell (World.block_lt_of_cell? _ _ x1)).trans x1
                      have um' := (hbz.cell (World.block_lt_of_cell? _ _ um)).trans um
                      by_cases hk : kk < lm.length
                      · skip
                        as_aux_lemma =>
                          rcases HCp.out with h0 | ⟨gp, rfl, hcl⟩
                          · rw [h0] at hk; simp at hk
                          obtain ⟨q2, q3⟩ := hcl kk hk
                          have q2' := (hbz.cell (World.block_lt_of_cell? _ _ q2)).trans q2
                          have q3' := (hbz.cell (World.block_lt_of_cell? _ _ q3)).trans q3
                          have hnx : (Z0 || (lm.take (kk + 1)).any (okP SF b0 b1 m)) = ((Z0 || (lm.take kk).any (okP SF b0 b1 m)) || okP SF b0 b1 m lm[kk]) := by
                            rw [List.take_succ_eq_append_getElem hk, List.any_append]
                            simp [Bool.or_assoc]
                          have HNx : Hid ((Z0 || (lm.take (kk + 1)).any (okP SF b0 b1 m)) = ((Z0 || (lm.take kk).any (okP SF b0 b1 m)) || okP SF b0 b1 m lm[kk])) := hnx
                          have HSl : Hid (∀ T Q : Bool, Q = okP SF b0 b1 m lm[kk] → (Z0 || (lm.take kk).any (okP SF b0 b1 m)) = T → Value.bool (T || Q) = Value.bool (Z0 || (lm.take (kk + 1)).any (okP SF b0 b1 m))) := fun T Q h1 h2 => by rw [HNx.out, h1, h2]
                          clear hnx hcl q2 q3 x0 x1 um HNx HSt HCp
                          obtain ⟨T, hT⟩ : ∃ T, (Z0 || (lm.take kk).any (okP SF b0 b1 m)) = T := ⟨_, rfl⟩
                          have HT : Hid ((Z0 || (lm.take kk).any (okP SF b0 b1 m)) = T) := hT
                          rw [hT]
                          clear hT
                          obtain ⟨MK, hMK⟩ : ∃ MK, lm[kk].mark = MK := ⟨_, rfl⟩
                          obtain ⟨BY, hBY⟩ : ∃ BY : Int, (lm[kk].by_.toNat : Int) = BY := ⟨_, rfl⟩
                          have HMK : Hid (lm[kk].mark = MK) := hMK
                          have HBY : Hid ((lm[kk].by_.toNat : Int) = BY) := hBY
                          rw [hMK] at q3'
                          rw [hBY] at q2'
                          clear hMK hBY
                          have hw8 : IntKind.u8.wrap (m : Int) = m := by rw [wrap8]; omega
                          cases T with
                          | true =>
                            go_wp2_with fail
                            go_quiet (fail)
                            go_wp2
                            go_roundw
                            case rel => exact ⟨kk + 1, by omega, by first | go_num | (congr 1; omega), HSl.out true _ rfl HT.out, below_drewN hbz _⟩
                            case measure => simp [intOf]; omega
                          | false =>
                            by_cases y1 : MK ≤ SF
                            · have y1' : decide (MK ≤ SF) = true := by simpa using y1
                              by_cases y2 : b0 = (m : Int)
                              · subst y2
                                by_cases y3 : b1 = BY
                                · subst y3
                                  as_aux_lemma =>
                                    go_wp2_with fail
                                    go_quiet (fail)
                                    go_wp2
                                    go_roundw
                                    case rel => exact ⟨kk + 1, by omega, by first | go_num | (congr 1; omega), HSl.out false true (by unfold okP; rw [HMK.out, HBY.out]; simp [y1]) HT.out, below_drewN hbz _⟩
                                    case measure => simp [intOf]; omega
                                · have y3' : (b1 == BY) = false := by simpa using y3
                                  as_aux_lemma =>
                                    go_wp2_with fail
                                    go_quiet (fail)
                                    go_wp2
                                    go_roundw
                                    case rel => exact ⟨kk + 1, by omega, by first | go_num | (congr 1; omega), by have := HSl.out false false (by unfold okP; rw [HMK.out, HBY.out]; simp [y3]) HT.out; simpa [y3] using this, below_drewN hbz _⟩
                                    case measure => simp [intOf]; omega
                              · have y2' : (b0 == (m : Int)) = false := by simpa using y2
                                as_aux_lemma =>
                                  go_wp2_with fail
                                  go_quiet (fail)
                                  go_wp2
                                  go_roundw
                                  case rel => exact ⟨kk + 1, by omega, by first | go_num | (congr 1; omega), HSl.out false false (by unfold okP; rw [HMK.out, HBY.out]; simp [y2]) HT.out, below_drewN hbz _⟩
                                  case measure => simp [intOf]; omega
                            · have y1' : decide (MK ≤ SF) = false := by simpa using y1
                              as_aux_lemma =>
                                go_wp2_with fail
                                go_quiet (fail)
                                go_wp2
                                go_roundw
                                case rel => exact ⟨kk + 1, by omega, by first | go_num | (congr 1; omega), HSl.out false false (by unfold okP; rw [HMK.out, HBY.out, y1']; simp) HT.out, below_drewN hbz _⟩
                                case measure => simp [intOf]; omega
                      · obtain rfl : kk = lm.length := by omega
                        rw [List.take_of_length_le (Nat.le_refl _), HSt.out]
                        go_wp2
                        go_meet
                        exact ⟨rfl, hbz⟩
                  case rest =>
                  obtain ⟨rfl, hbv⟩ := hcut
                  rename World => wv
                  have H8 : Hid (FSt wc wv A L U (1 + r) (.pointer (some ⟨g0, 0, none⟩)) (.pointer (some ⟨dg, 0, none⟩)) F2 G2 lb2 pv2 pl2 Z2 P2 D2 (k + 1)) := H7.out.keepB hbv
                  clear H7 HCp HSt um x0 x1
                  go_wp2
                  go_roundw
                  case rel => exact ⟨m + 1, by omega, by first | go_num | (congr 1; omega), H8⟩
                  case measure => simp [intOf]; omega
              · obtain rfl : m = 6 := by omega
                go_wp2
                go_roundw
                case rel => exact ⟨k + 1, F2, G2, lb2, pv2, pl2, Z2, P2, D2, by first | go_num | (congr 1; omega), by omega, by omega, by rw [hSF], H3⟩
                case measure => simp [intOf]; omega
        · go_wp2_with (guard_target = wpList _ _ _ (Oper.mk _ (Op.load 45 _) _ _ _ _ :: _) _ _; refine wpList_load_mid rfl 45 _ rfl g (o + k * 4) (by rfl) [.int .i64 K, .int .i64 pg, .int .u8 X, .int .u64 mk] _ hrb Try.underlying45 rfl infoOp ?_)
          all_goals
            go_roundw
            case rel => exact ⟨k + 1, F, G, lb, pv, pl, Z, P, D, by first | go_num | (congr 1; omega), by omega, by omega, rfl, H1.out.mono (by omega)⟩
            case measure => simp [intOf]; omega
      · have hb := H.out.hs.below
        clear H
        go_wp2
        go_ret
        exact ⟨rfl, hb⟩
    · have hb := H.out.hs.below
      clear H
      go_wp2
      go_ret
      exact ⟨rfl, hb⟩
end Go.Proofs.Ytpmbpadckbkglaa

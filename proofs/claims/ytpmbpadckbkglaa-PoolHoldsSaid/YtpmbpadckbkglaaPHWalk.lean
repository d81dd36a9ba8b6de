/- The walk of the law PoolHolds. -/
import Derived.Test.YtpmbpadckbkglaaP7U
import Derived.Deep.CutBlock
import Derived.Deep.DeepCutAuto
namespace Go.Proofs.Ytpmbpadckbkglaa
open Go.RowKit Go.Maps
set_option linter.unusedVariables false
set_option linter.unusedSimpArgs false

theorem infoOp : (Try.prog.info? 45).map (·.size) = some 4 := by kernel_rfl
set_option maxRecDepth 100000 in
set_option maxHeartbeats 2000000 in
theorem poolHolds_law (z : Int) (v : Value) (rs : List OpP) (w : World) (hz : -9223372036854775808 ≤ z ∧ z ≤ 9223372036854775807) (hv : OpsP w v rs) (hok : ∀ x ∈ rs, OpPOk x) (hl : rs.length ≤ 4398046511104) :
    Calls Try.prog 6 #[.int .i64 z, v] w fun e w' => e = .returned (.bool true) ∧ Below w.heap.size w w' := by
  obtain ⟨ao, cap, rfl, hcap, hcl⟩ := hv
  have HOK : Hid (∀ x ∈ rs, OpPOk x) := hok
  have HCL : Hid (rs = [] ∨ ∃ g o, ao = some ⟨g, o, none⟩ ∧ ∀ k (h : k < rs.length), w.rangeAt g (o + k * 4) (cellsP rs[k])) := hcl
  clear hok hcl
  go_enter Try.func6, Try.ntmps6
  go_upto_if 26 with fail
  go_cut [0] (fun v0 wx => ∃ q : Int, v0 = .int .i64 q ∧ (0 ≤ q ∧ q ≤ 9223372036854775807) ∧ wx = w)
  case first =>
    by_cases hz0 : z < 0
    · go_wp2_with fail
      go_meet
      case rel => exact ⟨_, rfl, by omega, rfl⟩
    · go_wp2_with fail
      go_meet
      case rel => exact ⟨_, rfl, by omega, rfl⟩
  case rest =>
  clear hz
  obtain ⟨q, rfl, hq, rfl⟩ := hcut
  obtain ⟨r, hr⟩ : ∃ r, q % 4 = r := ⟨_, rfl⟩
  have hrr : 0 ≤ r ∧ r ≤ 3 := by omega
  have hrem : Int.tmod q 4 = r := by rw [← hr]; exact Int.tmod_eq_emod_of_nonneg hq.1
  go_wp2_with fail
  refine (new_any 96 wc (by omega)).mono ?_
  rintro e w1 ⟨dg, rfl, hD1, hb1⟩
  have hs1 := hb1.size
  have HD1 : Hid (DiskAt wc.heap.size w1 (fun k => wc.heap.size ≤ k ∧ k < w1.heap.size) (.pointer (some ⟨dg, 0, none⟩)) 0 ⟨96, fun _ => zsec, fun _ => zsec, [], 0⟩) := hD1
  clear hD1
  go_wp2_with fail
  refine (pd_new HD1.out 0 6 (1 + r) (by omega) (by omega) (by omega) (by show (0 : Int) ≤ 96 - 6 * 16; omega) hb1.size).mono ?_
  rintro e w2 ⟨rfl, hP2, hb2⟩
  have hs2 := hb2.size
  have HB2 : Hid (Below wc.heap.size wc w2) := hb1.trans (hb2.mono hs1)
  have HP2 : Hid (PD wc.heap.size w2 (fun i => w1.heap.size ≤ i ∧ i < w2.heap.size) (fun k => wc.heap.size ≤ k ∧ k < w1.heap.size) (.pointer (some ⟨w1.heap.size + 1, 0, none⟩)) (.pointer (some ⟨dg, 0, none⟩)) 0 (PS.new 0 6 (1 + r)) ⟨96, fun _ => zsec, fun _ => zsec, [], 0⟩) := hP2
  clear hP2 hb1 hb2 HD1
  go_wp2_with fail
  refine (alive_any w2).mono ?_
  rintro e w3 ⟨rfl, hb3⟩
  have hs3 := hb3.size
  obtain ⟨p, hp⟩ : ∃ p, p = (Value.pointer (some ⟨w1.heap.size + 1, 0, none⟩)) := ⟨_, rfl⟩
  have h0 : Below w2.heap.size w2 (w3.alloc (.cells #[.int .i64 0, .int .i64 0, .int .i64 0, .int .i64 0, .int .i64 0, .int .i64 0] 55)) := hb3.alloc (by omega) _
  have H0 : Hid (HS wc (w3.alloc (.cells #[.int .i64 0, .int .i64 0, .int .i64 0, .int .i64 0, .int .i64 0, .int .i64 0] 55)) w3.heap.size (1 + r) (.pointer (some ⟨w1.heap.size + 1, 0, none⟩)) (.pointer (some ⟨dg, 0, none⟩)) (fun i => w1.heap.size ≤ i ∧ i < w2.heap.size) (fun k => wc.heap.size ≤ k ∧ k < w1.heap.size) (pinsOf (PS.new 0 6 (1 + r))) (PS.new 0 6 (1 + r)) ⟨96, fun _ => zsec, fun _ => zsec, [], 0⟩ 0) :=
    ⟨HP2.out.keepB h0, by omega, rfl, rfl, rfl, by show (0 : Int) ≤ ((0 : Nat) : Int); omega, by show ([] : List W3).length ≤ _; simp, ⟨_, heap_alloc_new w3 _, rfl, fun j hj => by
      have e : pinsOf (PS.new 0 6 (1 + r)) j = 0 := by simp [pinsOf, PS.new]
      show _ = some (Value.int .i64 (pinsOf (PS.new 0 6 (1 + r)) j))
      rw [e]
      match j, hj with
      | 0, _ => rfl
      | 1, _ => rfl
      | 2, _ => rfl
      | 3, _ => rfl
      | 4, _ => rfl
      | 5, _ => rfl⟩, by omega, HB2.out.trans (h0.mono (by omega))⟩
  generalize hA : w3.heap.size = A at *
  generalize hg0 : w1.heap.size + 1 = g0 at *
  clear h0 hb3 HP2 HB2 hp
  go_upto_block 0 with fail
  go_cut [11] (fun _ wx => ∃ (k : Nat) (F G : Nat → Prop) (P : PS) (D : DS), k ≤ 150 ∧ Hid (HS wc wx A (1 + r) (.pointer (some ⟨g0, 0, none⟩)) (.pointer (some ⟨dg, 0, none⟩)) F G (pinsOf P) P D k))
  case first =>
    go_wp2_with fail
    go_loopw [11] (fun i wr => ∃ (k : Nat) (F G : Nat → Prop) (P : PS) (D : DS), i = .int .i64 k ∧ k ≤ 150 ∧ k ≤ rs.length ∧ Hid (HS wc wr A (1 + r) (.pointer (some ⟨g0, 0, none⟩)) (.pointer (some ⟨dg, 0, none⟩)) F G (pinsOf P) P D k)) (fun i _ => 150 - (intOf i).toNat)
    case atStart => exact ⟨0, _, _, _, _, rfl, by omega, by omega, H0⟩
    case round =>
      obtain ⟨k, F, G, P, D, rfl, hk150, hkl, H⟩ := hrel
      clear H0
      by_cases h1 : k < rs.length
      · by_cases h2 : k < 150
        · have hcl := HCL.out
          rcases hcl with h0 | ⟨g, o, rfl, hcl⟩
          · rw [h0] at h1; simp at h1
          have r0 := hcl k h1
          have ho := HOK.out _ (List.getElem_mem h1)
          generalize rs[k] = x at *
          obtain ⟨hxk, hxp, hxm⟩ := ho
          obtain ⟨K, pg, C, mk⟩ := x
          simp only at hxk hxp hxm
          clear hcl
          have hrb : wr.rangeAt g (o + k * 4) [.int .i64 K, .int .i64 pg, bv C, .int .u64 mk] := fun j u hu => by
            have := r0 j u hu
            exact (H.out.below.cell (World.block_lt_of_cell? wc _ this)).trans this
          clear r0
          have hw1 : Below wr.heap.size wr (wr.alloc (.cells #[.int .i64 K, .int .i64 pg, bv C, .int .u64 mk] 45)) := (Below.refl _ _).alloc (Nat.le_refl _) _
          have H1 : Hid (HS wc (wr.alloc (.cells #[.int .i64 K, .int .i64 pg, bv C, .int .u64 mk] 45)) A (1 + r) (.pointer (some ⟨g0, 0, none⟩)) (.pointer (some ⟨dg, 0, none⟩)) F G (pinsOf P) P D k) := H.out.keepB hw1
          have hob := heap_alloc_new wr (.cells #[.int .i64 K, .int .i64 pg, bv C, .int .u64 mk] 45)
          have Hob : Hid ((wr.alloc (.cells #[.int .i64 K, .int .i64 pg, bv C, .int .u64 mk] 45)).heap[wr.heap.size]? = some (.cells #[.int .i64 K, .int .i64 pg, bv C, .int .u64 mk] 45 (0, 0))) := hob
          have hoF : ¬ (F wr.heap.size ∨ G wr.heap.size) := fun h => by have := (H.out.pd.lo _ h).2; omega
          clear hob H hw1
          generalize hB0 : wr.heap.size = B0 at *
          obtain ⟨X, hX⟩ : ∃ X : Int, bv C = .int .u8 X := ⟨_, rfl⟩
          rw [hX] at hrb H1 Hob
          by_cases hpg : 0 ≤ pg ∧ pg ≤ 5
          · obtain ⟨jn, rfl⟩ : ∃ jn : Nat, pg = jn := ⟨pg.toNat, by omega⟩
            have hj6 : jn < 6 := by omega
            have t1 : decide ((jn : Int) < 0) = false := by simp
            have t2 : decide ((jn : Int) > 5) = false := by simp; omega
            go_upto_block 2 with (guard_target = wpList _ _ _ (Oper.mk _ (Op.load 45 _) _ _ _ _ :: _) _ _; refine wpList_load_mid rfl 45 _ rfl g (o + k * 4) (by rfl) [.int .i64 K, .int .i64 jn, .int .u8 X, .int .u64 mk] _ hrb Try.underlying45 rfl infoOp ?_)
            go_cut [13, 14] (fun _ _ wx => ∃ (F G : Nat → Prop) (P : PS) (D : DS), Hid (HS wc wx A (1 + r) (.pointer (some ⟨g0, 0, none⟩)) (.pointer (some ⟨dg, 0, none⟩)) F G (pinsOf P) P D (k + 1)))
            case first =>
              have hkk : ∀ o, ((wr.alloc (.cells #[.int .i64 K, .int .i64 jn, .int .u8 X, .int .u64 mk] 45))).frozen? ⟨B0, o, none⟩ = false := frozen_row Hob.out
              have o0 : ((wr.alloc (.cells #[.int .i64 K, .int .i64 jn, .int .u8 X, .int .u64 mk] 45))).cell? ⟨B0, 0, none⟩ = some (.int .i64 K) := by rw [cell_of_row _ _ 0 _ _ _ Hob.out]; rfl
              have o1 : ((wr.alloc (.cells #[.int .i64 K, .int .i64 jn, .int .u8 X, .int .u64 mk] 45))).cell? ⟨B0, 1, none⟩ = some (.int .i64 jn) := by rw [cell_of_row _ _ 1 _ _ _ Hob.out]; rfl
              have o3 : ((wr.alloc (.cells #[.int .i64 K, .int .i64 jn, .int .u8 X, .int .u64 mk] 45))).cell? ⟨B0, 3, none⟩ = some (.int .u64 mk) := by rw [cell_of_row _ _ 3 _ _ _ Hob.out]; rfl
              have hus := H1.out.uses
              have hws := H1.out.ws
              have hnn := pinsOf_nonneg H1.out.pd.ok jn
              have hle := pinsOf_le H1.out.pd.ok jn
              have hpgs := H1.out.pages
              have hA6 := H1.out.row.lt
              clear hrb hkk
              by_cases hK1 : K = 1
              · subst hK1
                have hpin := pd_pin H1.out.pd (by omega) (by omega) (k := (jn : Int)) (by omega)
                go_wp2_with fail
                refine hpin.mono ?_
                rintro e w5 hO
                clear hpin
                cases hO with
                | err c he hk hc hb =>
                  subst he
                  have H5 : Hid (HS wc w5 A (1 + r) (.pointer (some ⟨g0, 0, none⟩)) (.pointer (some ⟨dg, 0, none⟩)) F G (pinsOf P) P D (k + 1)) := (H1.out.keepB hb).mono (by omega)
                  have hcc : c = 74 ∨ c = 71 := by cases hc <;> simp
                  clear hc hb H1 Hob
                  rcases hcc with rfl | rfl
                  all_goals
                    go_wp2
                    go_meet
                    exact ⟨F, G, P, D, H5⟩
                | ok P5 D5 bs ht hk5 v5 he hv5 F5 G5 h5 hf5 hF5 hG5 hn5 =>
                  subst he
                  have h5' := H1.out.pin hk5 h5 hf5 hF5 hG5
                  have a1 := h5'.cell hj6
                  have af := h5'.row.frozen jn
                  have b1 := fr_cell hf5 hoF o1
                  have H5 : Hid (HS wc (w5.setCell ⟨A, jn, none⟩ (.int .i64 (pinsOf P jn + 1))) A (1 + r) (.pointer (some ⟨g0, 0, none⟩)) (.pointer (some ⟨dg, 0, none⟩)) F5 G5 (pinsOf P5) P5 D5 (k + 1)) := (h5'.set jn (pinsOf P jn + 1)).congr (fun j hj => by rw [pinsOf_pin ht j])
                  clear ht hk5 hv5 h5 hf5 hF5 hG5 hn5 h5' H1 Hob o0 o1 o3
                  generalize pinsOf P jn = Z at *
                  go_wp2
                  go_meet
                  exact ⟨F5, G5, P5, D5, H5⟩
              · by_cases hK2 : K = 2
                · subst hK2
                  have o2 : ((wr.alloc (.cells #[.int .i64 2, .int .i64 jn, .int .u8 X, .int .u64 mk] 45))).cell? ⟨B0, 2, none⟩ = some (.int .u8 X) := by rw [cell_of_row _ _ 2 _ _ _ Hob.out]; rfl
                  have HBd : Hid (∀ wx, (wx = (wr.alloc (.cells #[.int .i64 2, .int .i64 jn, .int .u8 X, .int .u64 mk] 45)) ∨ wx = ((wr.alloc (.cells #[.int .i64 2, .int .i64 jn, .int .u8 X, .int .u64 mk] 45))).drew) → Calls Try.prog 20 #[.agg #[.int .i64 2, .int .i64 jn, .int .u8 X, .int .u64 mk], .int .i64 2048] wx fun e w' => ∃ c, e = .returned (.slice (some ⟨c, 0, none⟩) 2048 2048) ∧ RowB w' c (bodyL jn C 2048) ∧ Below ((wr.alloc (.cells #[.int .i64 2, .int .i64 jn, .int .u8 X, .int .u64 mk] 45))).heap.size (wr.alloc (.cells #[.int .i64 2, .int .i64 jn, .int .u8 X, .int .u64 mk] 45)) w') := fun wx hwx => by
                    have hb : Below ((wr.alloc (.cells #[.int .i64 2, .int .i64 jn, .int .u8 X, .int .u64 mk] 45))).heap.size (wr.alloc (.cells #[.int .i64 2, .int .i64 jn, .int .u8 X, .int .u64 mk] 45)) wx := by
                      rcases hwx with rfl | rfl
                      · exact Below.refl _ _
                      · exact (Below.refl _ _).drew
                    have hsz : wx.heap.size = ((wr.alloc (.cells #[.int .i64 2, .int .i64 jn, .int .u8 X, .int .u64 mk] 45))).heap.size := by rcases hwx with rfl | rfl <;> rfl
                    have := body_any 2 jn C mk 2048 (by omega) wx
                    rw [hX] at this
                    refine this.mono ?_
                    rintro e w' ⟨he, hR, hb'⟩
                    exact ⟨_, he, hR, hb.trans (hb'.mono (by omega))⟩
                  have HPut : Hid (∀ wx c, Below ((wr.alloc (.cells #[.int .i64 2, .int .i64 jn, .int .u8 X, .int .u64 mk] 45))).heap.size (wr.alloc (.cells #[.int .i64 2, .int .i64 jn, .int .u8 X, .int .u64 mk] 45)) wx → RowB wx c (bodyL jn C 2048) → Calls Try.prog 19 #[.pointer (some ⟨g0, 0, none⟩), .int .i64 jn, .slice (some ⟨c, 0, none⟩) 2048 2048, .int .u64 mk] wx fun e w' => ∃ (q : Int) (F' G' : Nat → Prop) (P' : PS), e = .returned (.int .i64 q) ∧ Hid (HS wc w' A (1 + r) (.pointer (some ⟨g0, 0, none⟩)) (.pointer (some ⟨dg, 0, none⟩)) F' G' (pinsOf P') P' D (k + 1)) ∧ ∀ o v, ((wr.alloc (.cells #[.int .i64 2, .int .i64 jn, .int .u8 X, .int .u64 mk] 45))).cell? ⟨B0, o, none⟩ = some v → w'.cell? ⟨B0, o, none⟩ = some v) := fun wx c hb hR => by
                    have hH := H1.out.keepB hb
                    have hB := hR.bytes (bodyL_len _ _ _) (Nat.le_refl _)
                    by_cases hp : 0 < pinsOf P jn
                    · have hm := pinsOf_mem hp
                      refine (pd_put hH.pd (by omega) (k := (jn : Int)) (by omega) hm.1 hm.2 _ _ hB (bodyL_len _ _ _) mk hxm).mono ?_
                      rintro e w' ⟨he, hto⟩
                      obtain ⟨F5, G5, h5', hf5⟩ := hH.pto hto rfl rfl rfl (Int.le_refl _) (by omega)
                      refine ⟨0, F5, G5, _, he, h5'.congr (fun j hj => ?_), fun o v hv => ?_⟩
                      · rw [pinsOf_touch P hm.1]
                        by_cases e : j = jn
                        · rw [if_pos e, e]; unfold pinsOf; rw [if_pos hm.1]
                        · rw [if_neg e]
                      · exact fr_cell hf5 hoF ((hb.cell (World.block_lt_of_cell? _ _ hv)).trans hv)
                    · refine (pd_put_bad hH.pd (k := (jn : Int)) (by omega) (pinsOf_no H1.out.pd.ok hp) _ mk).mono ?_
                      rintro e w' ⟨he, rfl⟩
                      exact ⟨72, F, G, P, he, hH.mono (by omega), fun o v hv => (hb.cell (World.block_lt_of_cell? _ _ hv)).trans hv⟩
                  have HC : Hid (∀ wx, Below ((wr.alloc (.cells #[.int .i64 2, .int .i64 jn, .int .u8 X, .int .u64 mk] 45))).heap.size (wr.alloc (.cells #[.int .i64 2, .int .i64 jn, .int .u8 X, .int .u64 mk] 45)) wx → wx.cell? ⟨B0, 0, none⟩ = some (.int .i64 2) ∧ wx.cell? ⟨B0, 1, none⟩ = some (.int .i64 jn) ∧ wx.cell? ⟨B0, 2, none⟩ = some (.int .u8 X) ∧ wx.cell? ⟨B0, 3, none⟩ = some (.int .u64 mk)) := fun wx hb => ⟨(hb.cell (World.block_lt_of_cell? _ _ o0)).trans o0, (hb.cell (World.block_lt_of_cell? _ _ o1)).trans o1, (hb.cell (World.block_lt_of_cell? _ _ o2)).trans o2, (hb.cell (World.block_lt_of_cell? _ _ o3)).trans o3⟩
                  have HO : Hid (((wr.alloc (.cells #[.int .i64 2, .int .i64 jn, .int .u8 X, .int .u64 mk] 45))).cell? ⟨B0, 0, none⟩ = some (.int .i64 2) ∧ ((wr.alloc (.cells #[.int .i64 2, .int .i64 jn, .int .u8 X, .int .u64 mk] 45))).cell? ⟨B0, 1, none⟩ = some (.int .i64 jn) ∧ ((wr.alloc (.cells #[.int .i64 2, .int .i64 jn, .int .u8 X, .int .u64 mk] 45))).cell? ⟨B0, 2, none⟩ = some (.int .u8 X) ∧ ((wr.alloc (.cells #[.int .i64 2, .int .i64 jn, .int .u8 X, .int .u64 mk] 45))).cell? ⟨B0, 3, none⟩ = some (.int .u64 mk)) := ⟨o0, o1, o2, o3⟩
                  clear H1 Hob
                  go_wp2_with fail
                  go_region_held_law (fun w' => w'.cell? ⟨B0, 0, none⟩ = some (.int .i64 2) ∧ w'.cell? ⟨B0, 1, none⟩ = some (.int .i64 jn) ∧ w'.cell? ⟨B0, 2, none⟩ = some (.int .u8 X) ∧ w'.cell? ⟨B0, 3, none⟩ = some (.int .u64 mk)) (first | exact HO.out | exact HC.out _ hb5 | exact ⟨hc6 _ _ HO.out.1, hc6 _ _ HO.out.2.1, hc6 _ _ HO.out.2.2.1, hc6 _ _ HO.out.2.2.2⟩)
                    (first
                      | (go_at_call 20; refine (HBd.out _ (by first | exact Or.inl rfl | exact Or.inr rfl)).mono ?_; rintro e w5 ⟨c5, rfl, hR5, hb5⟩)
                      | (go_at_call 19; refine (HPut.out _ _ hb5 hR5).mono ?_; rintro e w6 ⟨q6, F6, G6, P6, rfl, H6, hc6⟩))
                  go_wp2
                  go_meet
                  exact ⟨F6, G6, P6, D, H6⟩
                · by_cases hK3 : K = 3
                  · subst hK3
                    by_cases hp : 0 < pinsOf P jn
                    · have hm := pinsOf_mem hp
                      have hun := pd_unpin H1.out.pd (by omega) (k := (jn : Int)) (by omega) hm.1 hm.2
                      go_wp2_with fail
                      refine hun.mono ?_
                      rintro e w5 ⟨rfl, hto⟩
                      obtain ⟨F5, G5, h5', hf5⟩ := H1.out.pto hto rfl rfl rfl (Int.le_refl _) (by omega)
                      have a1 := h5'.cell hj6
                      have af := h5'.row.frozen jn
                      have b1 := fr_cell hf5 hoF o1
                      have H5 : Hid (HS wc (w5.setCell ⟨A, jn, none⟩ (.int .i64 (pinsOf P jn - 1))) A (1 + r) (.pointer (some ⟨g0, 0, none⟩)) (.pointer (some ⟨dg, 0, none⟩)) F5 G5 (pinsOf (P.touch jn { P.fr jn with pins := (P.fr jn).pins - 1 })) (P.touch jn { P.fr jn with pins := (P.fr jn).pins - 1 }) D (k + 1)) := (h5'.set jn (pinsOf P jn - 1)).congr (fun j hj => by
                        rw [pinsOf_touch P hm.1]
                        by_cases e : j = jn
                        · rw [if_pos e, if_pos e]; unfold pinsOf; rw [if_pos hm.1]
                        · rw [if_neg e, if_neg e])
                      clear hun hto h5' hf5 H1 Hob o0 o1 o3
                      generalize pinsOf P jn = Z at *
                      go_wp2
                      go_meet
                      exact ⟨F5, G5, _, D, H5⟩
                    · have hun := pd_unpin_bad H1.out.pd (k := (jn : Int)) (by omega) (pinsOf_no H1.out.pd.ok hp)
                      have H5 : Hid (HS wc (wr.alloc (.cells #[.int .i64 3, .int .i64 jn, .int .u8 X, .int .u64 mk] 45)) A (1 + r) (.pointer (some ⟨g0, 0, none⟩)) (.pointer (some ⟨dg, 0, none⟩)) F G (pinsOf P) P D (k + 1)) := H1.out.mono (by omega)
                      go_wp2_with (go_at_call 21; refine hun.mono ?_; rintro e wx ⟨rfl, hwx⟩; rw [hwx]; clear hwx wx)
                      go_meet
                      exact ⟨F, G, P, D, H5⟩
                  · have k1 : (K == 1) = false := by simpa using hK1
                    have k2 : (K == 2) = false := by simpa using hK2
                    have k3 : (K == 3) = false := by simpa using hK3
                    have H5 : Hid (HS wc (wr.alloc (.cells #[.int .i64 K, .int .i64 jn, .int .u8 X, .int .u64 mk] 45)) A (1 + r) (.pointer (some ⟨g0, 0, none⟩)) (.pointer (some ⟨dg, 0, none⟩)) F G (pinsOf P) P D (k + 1)) := H1.out.mono (by omega)
                    clear H1
                    go_wp2
                    go_meet
                    exact ⟨F, G, P, D, H5⟩
            case rest =>
            obtain ⟨F2, G2, P2, D2, H2⟩ := hcut
            rename World => wb
            clear H1 Hob hrb hxk hxm
            go_wp2_with fail
            refine (pd_held H2.out.pd).mono ?_
            rintro e w6 ⟨lv, rfl, hrow, hb6⟩
            have H6 : Hid (HS wc w6 A (1 + r) (.pointer (some ⟨g0, 0, none⟩)) (.pointer (some ⟨dg, 0, none⟩)) F2 G2 (pinsOf P2) P2 D2 (k + 1)) := H2.out.keepB hb6
            obtain ⟨ao6, cap6, rfl, hc6, hI⟩ := ints_of_own hrow
            have HI : Hid (P2.keys = [] ∨ ∃ g, ao6 = some ⟨g, 0, none⟩ ∧ ∀ j (hj : j < P2.keys.length), w6.cell? ⟨g, j, none⟩ = some (.int .i64 P2.keys[j])) := hI
            have hk64 : (P2.keys.length : Int) ≤ 1 + r := by have := H2.out.pd.ok.len; rw [H2.out.size] at this; exact this
            have hcp : ∀ m, cntPos P2 m ≤ P2.keys.length := cntPos_le H2.out.pd.ok
            have HCP : Hid (∀ m, cntPos P2 m ≤ P2.keys.length) := hcp
            clear hI hrow hb6 H2 hcp
            go_upto_block 3 with fail
            go_cut [16, 17, 18, 19] (fun pv _ _ _ wx => pv = .int .i64 (cntPos P2 6) ∧ w6 = wx)
            case first =>
              go_wp2_with fail
              go_loopw [16, 17] (fun pv kv wz => ∃ m : Nat, m ≤ 6 ∧ kv = .int .i64 m ∧ pv = .int .i64 (cntPos P2 m) ∧ w6 = wz) (fun _ kv _ => 6 - (intOf kv).toNat)
              case atStart => exact ⟨0, by omega, rfl, rfl, rfl⟩
              case round =>
                obtain ⟨m, hm6, rfl, rfl, hwz⟩ := hrel
                subst hwz
                by_cases hlt : m < 6
                · go_upto_block 5 with fail
                  go_cut [18, 19] (fun iv _ wx => iv = .bool (decide ((m : Int) ∈ P2.keys)) ∧ w6 = wx)
                  case first =>
                    go_wp2_with fail
                    go_loopw [18, 19] (fun iv jv wy => ∃ j : Nat, j ≤ P2.keys.length ∧ jv = .int .i64 j ∧ iv = .bool (decide ((m : Int) ∈ P2.keys.take j)) ∧ w6 = wy) (fun _ jv _ => P2.keys.length - (intOf jv).toNat)
                    case atStart => exact ⟨0, Nat.zero_le _, rfl, by simp, rfl⟩
                    case round =>
                      obtain ⟨j, hjl, rfl, rfl, hwy⟩ := hrel
                      subst hwy
                      by_cases hj : j < P2.keys.length
                      · rcases HI.out with h0 | ⟨g6, rfl, hI⟩
                        · rw [h0] at hj; simp at hj
                        have ci := hI j hj
                        have hstep : decide ((m : Int) ∈ P2.keys.take (j + 1)) = (decide ((m : Int) ∈ P2.keys.take j) || decide (P2.keys[j] = (m : Int))) := by
                          rw [List.take_succ_eq_append_getElem hj]
                          rw [Bool.eq_iff_iff]
                          simp only [decide_eq_true_eq, Bool.or_eq_true, List.mem_append, List.mem_singleton]
                          constructor
                          · rintro (h | h)
                            · exact Or.inl h
                            · exact Or.inr h.symm
                          · rintro (h | h)
                            · exact Or.inl h
                            · exact Or.inr h.symm
                        have Hst : Hid (decide ((m : Int) ∈ P2.keys.take (j + 1)) = (decide ((m : Int) ∈ P2.keys.take j) || decide (P2.keys[j] = (m : Int)))) := hstep
                        clear hstep hI
                        generalize hT : decide ((m : Int) ∈ P2.keys.take j) = T at *
                        generalize hY : P2.keys[j] = Y at *
                        cases T with
                        | true =>
                          go_wp2
                          go_roundw
                          case rel => exact ⟨j + 1, by omega, by first | go_num | (congr 1; omega), by rw [Hst.out]; rfl, by first | rfl | trivial⟩
                          case measure => simp [intOf]; omega
                        | false =>
                          by_cases hYm : Y = (m : Int)
                          · have y1 : (Y == (m : Int)) = true := by simpa using hYm
                            go_wp2
                            go_roundw
                            case rel => exact ⟨j + 1, by omega, by first | go_num | (congr 1; omega), by rw [Hst.out]; simp [hYm], by first | rfl | trivial⟩
                            case measure => simp [intOf]; omega
                          · have y1 : (Y == (m : Int)) = false := by simpa using hYm
                            go_wp2
                            go_roundw
                            case rel => exact ⟨j + 1, by omega, by first | go_num | (congr 1; omega), by rw [Hst.out]; simp [hYm], by first | rfl | trivial⟩
                            case measure => simp [intOf]; omega
                      · obtain rfl : j = P2.keys.length := by omega
                        go_wp2
                        go_meet
                        exact ⟨by rw [List.take_of_length_le (Nat.le_refl _)], rfl⟩
                  case rest =>
                  obtain ⟨rfl, hwx⟩ := hcut
                  rename World => wy
                  subst hwx
                  have am := H6.out.cell hlt
                  have hnm := pinsOf_nonneg H6.out.pd.ok m
                  have hcs : cntPos P2 (m + 1) = cntPos P2 m + (if 0 < pinsOf P2 m then 1 else 0) := rfl
                  have Hcs : Hid (cntPos P2 (m + 1) = cntPos P2 m + (if 0 < pinsOf P2 m then 1 else 0)) := hcs
                  have hcb := HCP.out m
                  have hkb : P2.keys.length ≤ 4 := by omega
                  clear hcs
                  by_cases hpos : 0 < pinsOf P2 m
                  · have hmem := (pinsOf_mem hpos).1
                    simp only [hmem, decide_true]
                    have Hc2 : Hid (cntPos P2 (m + 1) = cntPos P2 m + 1) := by rw [Hcs.out, if_pos hpos]; exact rfl
                    generalize pinsOf P2 m = Z at *
                    have z1 : decide (Z > 0) = true := by simpa using hpos
                    have z2 : decide (Z < 0) = false := by simp; omega
                    generalize hcm : cntPos P2 m = CM at *
                    go_wp2
                    go_roundw
                    case rel => exact ⟨m + 1, by omega, by first | go_num | (congr 1; omega), by rw [Hc2.out]; first | go_num | (congr 1; omega), by first | rfl | trivial⟩
                    case measure => simp [intOf]; omega
                  · have Hc2 : Hid (cntPos P2 (m + 1) = cntPos P2 m) := by rw [Hcs.out, if_neg hpos]; exact rfl
                    generalize pinsOf P2 m = Z at *
                    have z1 : decide (Z > 0) = false := by simpa using hpos
                    have z2 : decide (Z < 0) = false := by simp; omega
                    generalize hcm : cntPos P2 m = CM at *
                    generalize decide ((m : Int) ∈ P2.keys) = IN at *
                    go_wp2
                    go_roundw
                    case rel => exact ⟨m + 1, by omega, by first | go_num | (congr 1; omega), by rw [Hc2.out], by first | rfl | trivial⟩
                    case measure => simp [intOf]; omega
                · obtain rfl : m = 6 := by omega
                  go_wp2
                  go_meet
                  exact ⟨rfl, rfl⟩
            case rest =>
            obtain ⟨rfl, hwx⟩ := hcut
            rename World => wy
            subst hwx
            have hc6' := HCP.out 6
            generalize hcm : cntPos P2 6 = CM at *
            have x1 : decide ((P2.keys.length : Int) > 1 + r) = false := by simp; omega
            have x2 : decide ((CM : Int) > 1 + r) = false := by simp; omega
            clear HI HCP
            generalize P2.keys.length = LL at *
            go_wp2
            go_roundw
            case rel => exact ⟨k + 1, F2, G2, P2, D2, by first | go_num | (congr 1; omega), by omega, by omega, H6⟩
            case measure => simp [intOf]; omega
          · go_wp2_with (guard_target = wpList _ _ _ (Oper.mk _ (Op.load 45 _) _ _ _ _ :: _) _ _; refine wpList_load_mid rfl 45 _ rfl g (o + k * 4) (by rfl) [.int .i64 K, .int .i64 pg, .int .u8 X, .int .u64 mk] _ hrb Try.underlying45 rfl infoOp ?_)
            all_goals
              go_roundw
              case rel => exact ⟨k + 1, F, G, P, D, by first | go_num | (congr 1; omega), by omega, by omega, H1.out.mono (by omega)⟩
              case measure => simp [intOf]; omega
        · go_wp2
          go_meet
          exact ⟨k, F, G, P, D, hk150, H⟩
      · go_wp2
        go_meet
        exact ⟨k, F, G, P, D, hk150, H⟩
  case rest =>
  obtain ⟨k, F, G, P, D, hk150, H⟩ := hcut
  rename World => wa
  clear H0 HOK HCL
  have hpgs := H.out.pages
  go_wp2_with fail
  refine (pd_safe H.out.pd 18446744073709551615 (by omega)).mono ?_
  rintro e w4 ⟨rfl, hto⟩
  obtain ⟨F4, G4, h4, _⟩ := H.out.pto hto rfl rfl rfl (by show P.uses ≤ _; omega) (by omega)
  have hsafe : ({ P with safe := mx P.safe 18446744073709551615 } : PS).safe = 18446744073709551615 := by
    show mx P.safe 18446744073709551615 = _
    have := H.out.pd.ok.safe
    unfold mx; split <;> omega
  have h4' : HS wc w4 A (1 + r) (.pointer (some ⟨g0, 0, none⟩)) (.pointer (some ⟨dg, 0, none⟩)) F4 G4 (pinsOf ({ P with safe := mx P.safe 18446744073709551615 } : PS)) { P with safe := mx P.safe 18446744073709551615 } D (k + 1) := h4.congr (fun j hj => rfl)
  generalize ({ P with safe := mx P.safe 18446744073709551615 } : PS) = P4 at *
  have H4 : Hid (HS wc w4 A (1 + r) (.pointer (some ⟨g0, 0, none⟩)) (.pointer (some ⟨dg, 0, none⟩)) F4 G4 (pinsOf P4) P4 D (k + 1)) := h4'
  have hcb : ∀ m, (cntPos P4 m : Int) ≤ 1 + r := fun m => by
    have h1 := cntPos_le H4.out.pd.ok m
    have h2 := H4.out.pd.ok.len
    rw [H4.out.size] at h2
    omega
  have HCB : Hid (∀ m, (cntPos P4 m : Int) ≤ 1 + r) := hcb
  have HSF : Hid (P4.safe = 18446744073709551615) := hsafe
  clear hto h4 h4' H hcb hsafe hpgs
  go_upto_block 7 with fail
  go_cut [20, 21] (fun pv _ wx => pv = .int .i64 (cntPos P4 6) ∧ w4 = wx)
  case first =>
    go_wp2_with fail
    go_loopw [20, 21] (fun pv kv wz => ∃ m : Nat, m ≤ 6 ∧ kv = .int .i64 m ∧ pv = .int .i64 (cntPos P4 m) ∧ w4 = wz) (fun _ kv _ => 6 - (intOf kv).toNat)
    case atStart => exact ⟨0, by omega, rfl, rfl, rfl⟩
    case round =>
      obtain ⟨m, hm6, rfl, rfl, hwz⟩ := hrel
      subst hwz
      by_cases hlt : m < 6
      · have am := H4.out.cell hlt
        have hcs : cntPos P4 (m + 1) = cntPos P4 m + (if 0 < pinsOf P4 m then 1 else 0) := rfl
        have Hcs : Hid (cntPos P4 (m + 1) = cntPos P4 m + (if 0 < pinsOf P4 m then 1 else 0)) := hcs
        have hcb := HCB.out m
        clear hcs
        by_cases hpos : 0 < pinsOf P4 m
        · have Hc2 : Hid (cntPos P4 (m + 1) = cntPos P4 m + 1) := by rw [Hcs.out, if_pos hpos]; exact rfl
          generalize pinsOf P4 m = Z at *
          have z1 : decide (Z > 0) = true := by simpa using hpos
          generalize hcm : cntPos P4 m = CM at *
          go_wp2
          go_roundw
          case rel => exact ⟨m + 1, by omega, by first | go_num | (congr 1; omega), by rw [Hc2.out]; first | go_num | (congr 1; omega), by first | rfl | trivial⟩
          case measure => simp [intOf]; omega
        · have Hc2 : Hid (cntPos P4 (m + 1) = cntPos P4 m) := by rw [Hcs.out, if_neg hpos]; exact rfl
          generalize pinsOf P4 m = Z at *
          have z1 : decide (Z > 0) = false := by simpa using hpos
          generalize hcm : cntPos P4 m = CM at *
          go_wp2
          go_roundw
          case rel => exact ⟨m + 1, by omega, by first | go_num | (congr 1; omega), by rw [Hc2.out], by first | rfl | trivial⟩
          case measure => simp [intOf]; omega
      · obtain rfl : m = 6 := by omega
        go_wp2
        go_meet
        exact ⟨rfl, rfl⟩
  case rest =>
  obtain ⟨rfl, hwx⟩ := hcut
  rename World => wy
  subst hwx
  have hcb := HCB.out 6
  obtain ⟨CM, hcm⟩ : ∃ CM, cntPos P4 6 = CM := ⟨_, rfl⟩
  have Hcm : Hid (cntPos P4 6 = CM) := hcm
  rw [hcm] at hcb ⊢
  clear hcm HCB
  go_wp2_with fail
  go_loopw [22] (fun kv wz => ∃ (m : Nat) (F G : Nat → Prop) (P : PS) (D : DS), m ≤ 6 ∧ kv = .int .i64 m ∧ Hid (HS wc wz A (1 + r) (.pointer (some ⟨g0, 0, none⟩)) (.pointer (some ⟨dg, 0, none⟩)) F G (pinsOf P4) P D (k + 1 + 2 * m) ∧ P.safe = 18446744073709551615 ∧ ∀ j, pinsOf P j = pinsOf P4 j)) (fun kv _ => 6 - (intOf kv).toNat)
  case atStart => exact ⟨0, F4, G4, P4, D, by omega, rfl, H4.out, HSF.out, fun _ => rfl⟩
  case round =>
    obtain ⟨m, F, G, P, D, hm6, rfl, HQ⟩ := hrel
    by_cases hlt : m < 6
    · obtain ⟨hH, hsf, hpe⟩ := HQ.out
      have am := hH.cell hlt
      have hus := hH.uses
      have hws := hH.ws
      have hpgs := hH.pages
      have hcnt : cntPos P 6 = CM := by rw [← Hcm.out]; simp only [cntPos, hpe]
      have hszz := hH.size
      have hpin := pd_pin hH.pd (by omega) (by omega) (k := (m : Int)) (by omega)
      have HPe : Hid (∀ j, pinsOf P j = pinsOf P4 j) := hpe
      clear hpe
      go_wp2_with fail
      refine hpin.mono ?_
      rintro e w5 hO
      clear hpin
      cases hO with
      | err c he hk hc hb =>
        subst he
        obtain ⟨e1, e2, e3⟩ := err_iff hH.pd.ok (m := 6) (by omega) hsf hk hc
        rw [HPe.out m] at e2
        rw [hcnt, hszz] at e3
        have H5 : Hid (HS wc w5 A (1 + r) (.pointer (some ⟨g0, 0, none⟩)) (.pointer (some ⟨dg, 0, none⟩)) F G (pinsOf P4) P D (k + 1 + 2 * (m + 1)) ∧ P.safe = 18446744073709551615 ∧ ∀ j, pinsOf P j = pinsOf P4 j) := ⟨(hH.keepB hb).mono (by omega), hsf, HPe.out⟩
        have am5 := (hH.keepB hb).cell hlt
        have hcc : c = 74 ∨ c = 71 := by cases hc <;> simp
        clear hc hb hH HQ am
        generalize pinsOf P4 m = Z at *
        have z1 : decide (Z > 0) = false := by simpa using e2
        have z2 : decide ((CM : Int) < 1 + r) = false := by simpa using e3
        rcases hcc with rfl | rfl
        all_goals
          go_wp2
          go_roundw
          case rel => exact ⟨m + 1, F, G, P, D, by omega, by first | go_num | (congr 1; omega), H5⟩
          case measure => simp [intOf]; omega
      | ok P5 D5 bs ht hk5 v5 he hv5 F5 G5 h5 hf5 hF5 hG5 hn5 =>
        subst he
        have h5' := hH.pin hk5 h5 hf5 hF5 hG5
        have am5 := h5'.cell hlt
        have hcase := pin_iff hH.pd.ok (m := 6) (by omega) hsf ht
        rw [HPe.out m, hcnt, hszz] at hcase
        have hp5 : pinsOf P5 m = pinsOf P m + 1 := by rw [pinsOf_pin ht m, if_pos rfl]
        have hnn := pinsOf_nonneg hH.pd.ok m
        have hm5 := pinsOf_mem (P := P5) (j := m) (by omega)
        have hun := pd_unpin h5'.pd (by have := h5'.uses; omega) (k := (m : Int)) (by omega) hm5.1 hm5.2
        have HU : Hid (Calls Try.prog 21 #[.pointer (some ⟨g0, 0, none⟩), .int .i64 m] w5 fun e w' => e = .returned (.int .i64 0) ∧ ∃ (F' G' : Nat → Prop) (P' : PS), Hid (HS wc w' A (1 + r) (.pointer (some ⟨g0, 0, none⟩)) (.pointer (some ⟨dg, 0, none⟩)) F' G' (pinsOf P4) P' D5 (k + 1 + 2 * (m + 1)) ∧ P'.safe = 18446744073709551615 ∧ ∀ j, pinsOf P' j = pinsOf P4 j)) := by
          refine hun.mono ?_
          rintro e w' ⟨he, hto⟩
          obtain ⟨F6, G6, h6, _⟩ := h5'.pto hto rfl rfl rfl (Int.le_refl _) (by omega)
          refine ⟨he, F6, G6, _, h6.mono (by omega), hk5.safe.trans hsf, fun j => ?_⟩
          rw [pinsOf_touch P5 hm5.1, ← HPe.out j]
          by_cases e : j = m
          · rw [if_pos e]
            have h7 : pinsOf P5 m = (P5.fr m).pins := by unfold pinsOf; rw [if_pos hm5.1]
            show (P5.fr m).pins - 1 = _
            rw [e]; omega
          · rw [if_neg e, pinsOf_pin ht j, if_neg e]
        clear ht hk5 hv5 h5 hf5 hF5 hG5 hn5 h5' hH HQ am hun hm5 hp5
        generalize pinsOf P4 m = Z at *
        by_cases hZ : 0 < Z
        · have z1 : decide (Z > 0) = true := by simpa using hZ
          go_wp2_with fail
          refine HU.out.mono ?_
          rintro e w7 ⟨rfl, F7, G7, P7, H7⟩
          go_wp2
          go_roundw
          case rel => exact ⟨m + 1, F7, G7, P7, D5, by omega, by first | go_num | (congr 1; omega), H7⟩
          case measure => simp [intOf]; omega
        · have z1 : decide (Z > 0) = false := by simpa using hZ
          have z2 : decide ((CM : Int) < 1 + r) = true := by
            rcases hcase with h | h
            · exact absurd h hZ
            · simpa using h
          go_wp2_with fail
          refine HU.out.mono ?_
          rintro e w7 ⟨rfl, F7, G7, P7, H7⟩
          go_wp2
          go_roundw
          case rel => exact ⟨m + 1, F7, G7, P7, D5, by omega, by first | go_num | (congr 1; omega), H7⟩
          case measure => simp [intOf]; omega
    · have hb := HQ.out.1.below
      clear HQ
      go_wp2
      go_ret
      exact ⟨rfl, hb⟩
end Go.Proofs.Ytpmbpadckbkglaa

/- The walk of stilelaw14.ParseJoined: its cases. -/
import Derived.Test.YtbkeaajnhalekaaGreatDoorP14PJ
namespace Go.Proofs.YtbkeaajnhalekaaGreatDoor
open Go.RowKit
set_option linter.unusedVariables false
set_option linter.unusedSimpArgs false

set_option maxHeartbeats 8000000 in
set_option maxRecDepth 100000 in
theorem joined_20 (a b : Int) (w : World)
    (HP : Hid (∀ W, Below w.heap.size w W → ∀ x, Calls Tryz.prog 8 #[.string x] W fun e w' => PrTo W x e w'))
    (HAL : Hid (∀ W, Below w.heap.size w W → Calls Tryz.prog 11 #[] W fun e w' => e = .returned (.bool true) ∧ Below W.heap.size W w'))
    (p2 : ∀ W, Calls Tryz.prog 15 #[.int .i64 a, .int .i64 2] W fun e w' => e = .returned (.int .i64 0) ∧ w' = W)
    (q2 : ∀ W, Calls Tryz.prog 15 #[.int .i64 b, .int .i64 2] W fun e w' => e = .returned (.int .i64 0) ∧ w' = W)
    (p4 : ∀ W, Calls Tryz.prog 15 #[.int .i64 a, .int .i64 4] W fun e w' => e = .returned (.int .i64 2) ∧ w' = W)
    (q4 : ∀ W, Calls Tryz.prog 15 #[.int .i64 b, .int .i64 4] W fun e w' => e = .returned (.int .i64 0) ∧ w' = W) :
    Calls Tryz.prog 6 #[.int .i64 a, .int .i64 b] w fun e w' => e = .returned (.bool true) ∧ Below w.heap.size w w' := by
  have HW : Hid (Below w.heap.size w w) := Below.refl _ _
  go_enter Tryz.func6, Tryz.ntmps6
  go_wp2_with (first
    | (go_at_call_of 15 (Value.int IntKind.i64 a); guard_target = Calls _ _ #[_, Value.int _ 2] _ _; refine (p2 _).mono ?_; rintro e wx ⟨rfl, hwx⟩; obtain rfl := hwx.symm)
    | (go_at_call_of 15 (Value.int IntKind.i64 a); guard_target = Calls _ _ #[_, Value.int _ 4] _ _; refine (p4 _).mono ?_; rintro e wx ⟨rfl, hwx⟩; obtain rfl := hwx.symm)
    | (go_at_call_of 15 (Value.int IntKind.i64 b); guard_target = Calls _ _ #[_, Value.int _ 2] _ _; refine (q2 _).mono ?_; rintro e wx ⟨rfl, hwx⟩; obtain rfl := hwx.symm)
    | (go_at_call_of 15 (Value.int IntKind.i64 b); guard_target = Calls _ _ #[_, Value.int _ 4] _ _; refine (q4 _).mono ?_; rintro e wx ⟨rfl, hwx⟩; obtain rfl := hwx.symm))
  refine (HP.out _ (by repeat (first | exact HW.out | exact Below.refl _ _ | refine Below.alloc ?_ (by first | (simp; done) | (simp; omega) | omega) _)) _).mono ?_
  intro e w1 h1
  obtain ⟨ao, cap, rfl, htv, hb1⟩ := h1.okQ (i := nd [105, 116, 101, 109, 115] [] [nd [105, 116, 101, 109] [] [nd [99, 111, 108] [120] []]]) (f := nd [102, 114, 111, 109] [] [nd [116, 97, 98, 108, 101] [116] [nd [97, 115] [116] []]]) (c := cJ00) (g := nd [103, 114, 111, 117, 112] [] []) (h := nd [104, 97, 118, 105, 110, 103] [] []) (o := nd [111, 114, 100, 101, 114] [] []) (by kernel_rfl)
  have HB1 : Hid (Below w.heap.size w w1) := ((Below.refl _ _).alloc (Nat.le_refl _) _).trans (hb1.mono (by simp))
  have hs1 := HB1.out.size
  have HC := Go.Proofs.YtbkeaajnhalekaaGreatDoor.Hid.mk' (fun W (hW : Below w1.heap.size w1 W) => cond_q (htv.keepB hW))
  clear h1 hb1 htv
  go_wp2_with (first
    | (go_at_call 17; (refine (HC.out _ (by repeat (first | exact HW.out | exact Below.refl _ _ | refine Below.alloc ?_ (by first | (simp; done) | (simp; omega) | omega) _))).mono ?_; rintro e w2 ⟨a1, c1, rfl, hb2, hc⟩; clear HC; have HB2 : Hid (Below w.heap.size w w2) := (HB1.out.alloc hs1 _).trans (hb2.mono (by first | (simp; done) | (simp; omega))); have hs2 := HB2.out.size; clear hb2; obtain ⟨gp, ap, cp, hgpe, hgp, _, hcp, xp0, xp1, xp2, xp3, tvp⟩ := hc.part (i := 0) rfl; obtain ⟨gpb, apb, cpb, hgpbe, _, _, _, yp0, yp1, yp2, yp3, tvpb⟩ := hc.part (i := 1) rfl; subst hgpe; cases hgpbe; obtain ⟨hp, ep, fp, rfl, hhp, _, hfp, zp0, _, _, _, _⟩ := tvp.part (i := 1) rfl; have hnp : w2.heap.size ≠ gp := (by omega); have hmp : w2.heap.size ≠ hp := (by omega); simp only [Nat.zero_mul, Nat.one_mul, Nat.zero_add, Tr.op, Tr.s, Tr.n, Tr.L] at xp0 xp1 xp2 xp3 yp0 yp1 yp2 yp3 zp0 hcp hfp; clear hc))
    | (go_at_call_of 15 (Value.int IntKind.i64 a); guard_target = Calls _ _ #[_, Value.int _ 2] _ _; refine (p2 _).mono ?_; rintro e wx ⟨rfl, hwx⟩; obtain rfl := hwx.symm)
    | (go_at_call_of 15 (Value.int IntKind.i64 a); guard_target = Calls _ _ #[_, Value.int _ 4] _ _; refine (p4 _).mono ?_; rintro e wx ⟨rfl, hwx⟩; obtain rfl := hwx.symm)
    | (go_at_call_of 15 (Value.int IntKind.i64 b); guard_target = Calls _ _ #[_, Value.int _ 2] _ _; refine (q2 _).mono ?_; rintro e wx ⟨rfl, hwx⟩; obtain rfl := hwx.symm)
    | (go_at_call_of 15 (Value.int IntKind.i64 b); guard_target = Calls _ _ #[_, Value.int _ 4] _ _; refine (q4 _).mono ?_; rintro e wx ⟨rfl, hwx⟩; obtain rfl := hwx.symm))
  refine (HP.out _ (by repeat (first | exact HB2.out | exact Below.refl _ _ | refine Below.alloc ?_ (by first | (simp; done) | (simp; omega) | omega) _)) _).mono ?_
  intro e w3 h3
  obtain ⟨ao2, cap2, rfl, htv2, hb3⟩ := h3.okQ (i := nd [105, 116, 101, 109, 115] [] [nd [105, 116, 101, 109] [] [nd [99, 111, 108] [120] []]]) (f := nd [102, 114, 111, 109] [] [nd [116, 97, 98, 108, 101] [116] [nd [97, 115] [116] []]]) (c := cS20) (g := nd [103, 114, 111, 117, 112] [] []) (h := nd [104, 97, 118, 105, 110, 103] [] []) (o := nd [111, 114, 100, 101, 114] [] []) (by kernel_rfl)
  have HB3 : Hid (Below w.heap.size w w3) := ((HB2.out.alloc hs2 _).alloc (Nat.le_trans hs2 (by simp)) _).trans (hb3.mono (Nat.le_trans hs2 (by simp; omega)))
  have hs3 := HB3.out.size
  have HC := Go.Proofs.YtbkeaajnhalekaaGreatDoor.Hid.mk' (fun W (hW : Below w3.heap.size w3 W) => cond_q (htv2.keepB hW))
  clear h3 hb3 htv2 xp0 xp1 xp2 xp3 yp0 yp1 yp2 yp3 zp0 p2 q2 p4 q4
  go_wp2_with (first
    | (go_at_call 17; refine (HC.out _ (by repeat (first | exact HW.out | exact Below.refl _ _ | refine Below.alloc ?_ (by first | (simp; done) | (simp; omega) | omega) _))).mono ?_; rintro e w4 ⟨a2, c2, rfl, hb4, hd⟩; clear HC; have HB4 : Hid (Below w.heap.size w w4) := (HB3.out.alloc hs3 _).trans (hb4.mono (Nat.le_trans hs3 (by simp))); have hs4 := HB4.out.size; clear hb4; obtain ⟨gs, asv, cs, rfl, hgs, _, hcs, xs0, xs1, xs2, xs3, tvs⟩ := hd.part (i := 0) rfl; have hns : w4.heap.size ≠ gs := (by omega); obtain ⟨gr, ar, cr, hgre, hgr, _, hcr, xr0, xr1, xr2, xr3, tvr⟩ := tvs.part (i := 0) rfl; obtain ⟨grb, arb, crb, hgrbe, _, _, _, yr0, yr1, yr2, yr3, tvrb⟩ := tvs.part (i := 1) rfl; subst hgre; cases hgrbe; obtain ⟨hr, er, fr, rfl, hhr, _, hfr, zr0, _, _, _, _⟩ := tvr.part (i := 1) rfl; have hnr : w4.heap.size ≠ gr := (by omega); have hmr : w4.heap.size ≠ hr := (by omega); simp only [Nat.zero_mul, Nat.one_mul, Nat.zero_add, Tr.op, Tr.s, Tr.n, Tr.L] at xs0 xs1 xs2 xs3 xr0 xr1 xr2 xr3 yr0 yr1 yr2 yr3 zr0 hcs hcr hfr; clear hd)
    | (go_at_call 11; refine (HAL.out _ (by repeat (first | exact HB4.out | exact Below.refl _ _ | refine Below.alloc ?_ (by first | (simp; done) | (simp; omega) | omega) _))).mono ?_; rintro e w5 ⟨rfl, hb5⟩))
  go_ret
  exact ⟨rfl, ((HB4.out.alloc hs4 _).alloc (Nat.le_trans hs4 (by simp)) _).trans (hb5.mono (Nat.le_trans hs4 (by simp; omega)))⟩
set_option maxHeartbeats 8000000 in
set_option maxRecDepth 100000 in
theorem joined_21 (a b : Int) (w : World)
    (HP : Hid (∀ W, Below w.heap.size w W → ∀ x, Calls Tryz.prog 8 #[.string x] W fun e w' => PrTo W x e w'))
    (HAL : Hid (∀ W, Below w.heap.size w W → Calls Tryz.prog 11 #[] W fun e w' => e = .returned (.bool true) ∧ Below W.heap.size W w'))
    (p2 : ∀ W, Calls Tryz.prog 15 #[.int .i64 a, .int .i64 2] W fun e w' => e = .returned (.int .i64 0) ∧ w' = W)
    (q2 : ∀ W, Calls Tryz.prog 15 #[.int .i64 b, .int .i64 2] W fun e w' => e = .returned (.int .i64 1) ∧ w' = W)
    (p4 : ∀ W, Calls Tryz.prog 15 #[.int .i64 a, .int .i64 4] W fun e w' => e = .returned (.int .i64 2) ∧ w' = W)
    (q4 : ∀ W, Calls Tryz.prog 15 #[.int .i64 b, .int .i64 4] W fun e w' => e = .returned (.int .i64 1) ∧ w' = W) :
    Calls Tryz.prog 6 #[.int .i64 a, .int .i64 b] w fun e w' => e = .returned (.bool true) ∧ Below w.heap.size w w' := by
  have HW : Hid (Below w.heap.size w w) := Below.refl _ _
  go_enter Tryz.func6, Tryz.ntmps6
  go_wp2_with (first
    | (go_at_call_of 15 (Value.int IntKind.i64 a); guard_target = Calls _ _ #[_, Value.int _ 2] _ _; refine (p2 _).mono ?_; rintro e wx ⟨rfl, hwx⟩; obtain rfl := hwx.symm)
    | (go_at_call_of 15 (Value.int IntKind.i64 a); guard_target = Calls _ _ #[_, Value.int _ 4] _ _; refine (p4 _).mono ?_; rintro e wx ⟨rfl, hwx⟩; obtain rfl := hwx.symm)
    | (go_at_call_of 15 (Value.int IntKind.i64 b); guard_target = Calls _ _ #[_, Value.int _ 2] _ _; refine (q2 _).mono ?_; rintro e wx ⟨rfl, hwx⟩; obtain rfl := hwx.symm)
    | (go_at_call_of 15 (Value.int IntKind.i64 b); guard_target = Calls _ _ #[_, Value.int _ 4] _ _; refine (q4 _).mono ?_; rintro e wx ⟨rfl, hwx⟩; obtain rfl := hwx.symm))
  refine (HP.out _ (by repeat (first | exact HW.out | exact Below.refl _ _ | refine Below.alloc ?_ (by first | (simp; done) | (simp; omega) | omega) _)) _).mono ?_
  intro e w1 h1
  obtain ⟨ao, cap, rfl, htv, hb1⟩ := h1.okQ (i := nd [105, 116, 101, 109, 115] [] [nd [105, 116, 101, 109] [] [nd [99, 111, 108] [120] []]]) (f := nd [102, 114, 111, 109] [] [nd [116, 97, 98, 108, 101] [116] [nd [97, 115] [116] []]]) (c := cJ01) (g := nd [103, 114, 111, 117, 112] [] []) (h := nd [104, 97, 118, 105, 110, 103] [] []) (o := nd [111, 114, 100, 101, 114] [] []) (by kernel_rfl)
  have HB1 : Hid (Below w.heap.size w w1) := ((Below.refl _ _).alloc (Nat.le_refl _) _).trans (hb1.mono (by simp))
  have hs1 := HB1.out.size
  have HC := Go.Proofs.YtbkeaajnhalekaaGreatDoor.Hid.mk' (fun W (hW : Below w1.heap.size w1 W) => cond_q (htv.keepB hW))
  clear h1 hb1 htv
  go_wp2_with (first
    | (go_at_call 17; (refine (HC.out _ (by repeat (first | exact HW.out | exact Below.refl _ _ | refine Below.alloc ?_ (by first | (simp; done) | (simp; omega) | omega) _))).mono ?_; rintro e w2 ⟨a1, c1, rfl, hb2, hc⟩; clear HC; have HB2 : Hid (Below w.heap.size w w2) := (HB1.out.alloc hs1 _).trans (hb2.mono (by first | (simp; done) | (simp; omega))); have hs2 := HB2.out.size; clear hb2; obtain ⟨gp, ap, cp, hgpe, hgp, _, hcp, xp0, xp1, xp2, xp3, tvp⟩ := hc.part (i := 0) rfl; obtain ⟨gpb, apb, cpb, hgpbe, _, _, _, yp0, yp1, yp2, yp3, tvpb⟩ := hc.part (i := 1) rfl; subst hgpe; cases hgpbe; obtain ⟨hp, ep, fp, rfl, hhp, _, hfp, zp0, _, _, _, _⟩ := tvpb.part (i := 0) rfl; have hnp : w2.heap.size ≠ gp := (by omega); have hmp : w2.heap.size ≠ hp := (by omega); simp only [Nat.zero_mul, Nat.one_mul, Nat.zero_add, Tr.op, Tr.s, Tr.n, Tr.L] at xp0 xp1 xp2 xp3 yp0 yp1 yp2 yp3 zp0 hcp hfp; clear hc))
    | (go_at_call_of 15 (Value.int IntKind.i64 a); guard_target = Calls _ _ #[_, Value.int _ 2] _ _; refine (p2 _).mono ?_; rintro e wx ⟨rfl, hwx⟩; obtain rfl := hwx.symm)
    | (go_at_call_of 15 (Value.int IntKind.i64 a); guard_target = Calls _ _ #[_, Value.int _ 4] _ _; refine (p4 _).mono ?_; rintro e wx ⟨rfl, hwx⟩; obtain rfl := hwx.symm)
    | (go_at_call_of 15 (Value.int IntKind.i64 b); guard_target = Calls _ _ #[_, Value.int _ 2] _ _; refine (q2 _).mono ?_; rintro e wx ⟨rfl, hwx⟩; obtain rfl := hwx.symm)
    | (go_at_call_of 15 (Value.int IntKind.i64 b); guard_target = Calls _ _ #[_, Value.int _ 4] _ _; refine (q4 _).mono ?_; rintro e wx ⟨rfl, hwx⟩; obtain rfl := hwx.symm))
  refine (HP.out _ (by repeat (first | exact HB2.out | exact Below.refl _ _ | refine Below.alloc ?_ (by first | (simp; done) | (simp; omega) | omega) _)) _).mono ?_
  intro e w3 h3
  obtain ⟨ao2, cap2, rfl, htv2, hb3⟩ := h3.okQ (i := nd [105, 116, 101, 109, 115] [] [nd [105, 116, 101, 109] [] [nd [99, 111, 108] [120] []]]) (f := nd [102, 114, 111, 109] [] [nd [116, 97, 98, 108, 101] [116] [nd [97, 115] [116] []]]) (c := cS21) (g := nd [103, 114, 111, 117, 112] [] []) (h := nd [104, 97, 118, 105, 110, 103] [] []) (o := nd [111, 114, 100, 101, 114] [] []) (by kernel_rfl)
  have HB3 : Hid (Below w.heap.size w w3) := ((HB2.out.alloc hs2 _).alloc (Nat.le_trans hs2 (by simp)) _).trans (hb3.mono (Nat.le_trans hs2 (by simp; omega)))
  have hs3 := HB3.out.size
  have HC := Go.Proofs.YtbkeaajnhalekaaGreatDoor.Hid.mk' (fun W (hW : Below w3.heap.size w3 W) => cond_q (htv2.keepB hW))
  clear h3 hb3 htv2 xp0 xp1 xp2 xp3 yp0 yp1 yp2 yp3 zp0 p2 q2 p4 q4
  go_wp2_with (first
    | (go_at_call 17; refine (HC.out _ (by repeat (first | exact HW.out | exact Below.refl _ _ | refine Below.alloc ?_ (by first | (simp; done) | (simp; omega) | omega) _))).mono ?_; rintro e w4 ⟨a2, c2, rfl, hb4, hd⟩; clear HC; have HB4 : Hid (Below w.heap.size w w4) := (HB3.out.alloc hs3 _).trans (hb4.mono (Nat.le_trans hs3 (by simp))); have hs4 := HB4.out.size; clear hb4; obtain ⟨gs, asv, cs, rfl, hgs, _, hcs, xs0, xs1, xs2, xs3, tvs⟩ := hd.part (i := 0) rfl; have hns : w4.heap.size ≠ gs := (by omega); obtain ⟨gr, ar, cr, hgre, hgr, _, hcr, xr0, xr1, xr2, xr3, tvr⟩ := tvs.part (i := 0) rfl; obtain ⟨grb, arb, crb, hgrbe, _, _, _, yr0, yr1, yr2, yr3, tvrb⟩ := tvs.part (i := 1) rfl; subst hgre; cases hgrbe; obtain ⟨hr, er, fr, rfl, hhr, _, hfr, zr0, _, _, _, _⟩ := tvr.part (i := 1) rfl; have hnr : w4.heap.size ≠ gr := (by omega); have hmr : w4.heap.size ≠ hr := (by omega); simp only [Nat.zero_mul, Nat.one_mul, Nat.zero_add, Tr.op, Tr.s, Tr.n, Tr.L] at xs0 xs1 xs2 xs3 xr0 xr1 xr2 xr3 yr0 yr1 yr2 yr3 zr0 hcs hcr hfr; clear hd)
    | (go_at_call 11; refine (HAL.out _ (by repeat (first | exact HB4.out | exact Below.refl _ _ | refine Below.alloc ?_ (by first | (simp; done) | (simp; omega) | omega) _))).mono ?_; rintro e w5 ⟨rfl, hb5⟩))
  go_ret
  exact ⟨rfl, ((HB4.out.alloc hs4 _).alloc (Nat.le_trans hs4 (by simp)) _).trans (hb5.mono (Nat.le_trans hs4 (by simp; omega)))⟩
set_option maxHeartbeats 8000000 in
set_option maxRecDepth 100000 in
theorem joined_22 (a b : Int) (w : World)
    (HP : Hid (∀ W, Below w.heap.size w W → ∀ x, Calls Tryz.prog 8 #[.string x] W fun e w' => PrTo W x e w'))
    (HAL : Hid (∀ W, Below w.heap.size w W → Calls Tryz.prog 11 #[] W fun e w' => e = .returned (.bool true) ∧ Below W.heap.size W w'))
    (p2 : ∀ W, Calls Tryz.prog 15 #[.int .i64 a, .int .i64 2] W fun e w' => e = .returned (.int .i64 0) ∧ w' = W)
    (q2 : ∀ W, Calls Tryz.prog 15 #[.int .i64 b, .int .i64 2] W fun e w' => e = .returned (.int .i64 0) ∧ w' = W)
    (p4 : ∀ W, Calls Tryz.prog 15 #[.int .i64 a, .int .i64 4] W fun e w' => e = .returned (.int .i64 2) ∧ w' = W)
    (q4 : ∀ W, Calls Tryz.prog 15 #[.int .i64 b, .int .i64 4] W fun e w' => e = .returned (.int .i64 2) ∧ w' = W) :
    Calls Tryz.prog 6 #[.int .i64 a, .int .i64 b] w fun e w' => e = .returned (.bool true) ∧ Below w.heap.size w w' := by
  have HW : Hid (Below w.heap.size w w) := Below.refl _ _
  go_enter Tryz.func6, Tryz.ntmps6
  go_wp2_with (first
    | (go_at_call_of 15 (Value.int IntKind.i64 a); guard_target = Calls _ _ #[_, Value.int _ 2] _ _; refine (p2 _).mono ?_; rintro e wx ⟨rfl, hwx⟩; obtain rfl := hwx.symm)
    | (go_at_call_of 15 (Value.int IntKind.i64 a); guard_target = Calls _ _ #[_, Value.int _ 4] _ _; refine (p4 _).mono ?_; rintro e wx ⟨rfl, hwx⟩; obtain rfl := hwx.symm)
    | (go_at_call_of 15 (Value.int IntKind.i64 b); guard_target = Calls _ _ #[_, Value.int _ 2] _ _; refine (q2 _).mono ?_; rintro e wx ⟨rfl, hwx⟩; obtain rfl := hwx.symm)
    | (go_at_call_of 15 (Value.int IntKind.i64 b); guard_target = Calls _ _ #[_, Value.int _ 4] _ _; refine (q4 _).mono ?_; rintro e wx ⟨rfl, hwx⟩; obtain rfl := hwx.symm))
  refine (HP.out _ (by repeat (first | exact HW.out | exact Below.refl _ _ | refine Below.alloc ?_ (by first | (simp; done) | (simp; omega) | omega) _)) _).mono ?_
  intro e w1 h1
  obtain ⟨ao, cap, rfl, htv, hb1⟩ := h1.okQ (i := nd [105, 116, 101, 109, 115] [] [nd [105, 116, 101, 109] [] [nd [99, 111, 108] [120] []]]) (f := nd [102, 114, 111, 109] [] [nd [116, 97, 98, 108, 101] [116] [nd [97, 115] [116] []]]) (c := cJ00) (g := nd [103, 114, 111, 117, 112] [] []) (h := nd [104, 97, 118, 105, 110, 103] [] []) (o := nd [111, 114, 100, 101, 114] [] []) (by kernel_rfl)
  have HB1 : Hid (Below w.heap.size w w1) := ((Below.refl _ _).alloc (Nat.le_refl _) _).trans (hb1.mono (by simp))
  have hs1 := HB1.out.size
  have HC := Go.Proofs.YtbkeaajnhalekaaGreatDoor.Hid.mk' (fun W (hW : Below w1.heap.size w1 W) => cond_q (htv.keepB hW))
  clear h1 hb1 htv
  go_wp2_with (first
    | (go_at_call 17; (refine (HC.out _ (by repeat (first | exact HW.out | exact Below.refl _ _ | refine Below.alloc ?_ (by first | (simp; done) | (simp; omega) | omega) _))).mono ?_; rintro e w2 ⟨a1, c1, rfl, hb2, hc⟩; clear HC; have HB2 : Hid (Below w.heap.size w w2) := (HB1.out.alloc hs1 _).trans (hb2.mono (by first | (simp; done) | (simp; omega))); have hs2 := HB2.out.size; clear hb2; obtain ⟨gp, ap, cp, hgpe, hgp, _, hcp, xp0, xp1, xp2, xp3, tvp⟩ := hc.part (i := 0) rfl; obtain ⟨gpb, apb, cpb, hgpbe, _, _, _, yp0, yp1, yp2, yp3, tvpb⟩ := hc.part (i := 1) rfl; subst hgpe; cases hgpbe; obtain ⟨hp, ep, fp, rfl, hhp, _, hfp, zp0, _, _, _, _⟩ := tvp.part (i := 1) rfl; have hnp : w2.heap.size ≠ gp := (by omega); have hmp : w2.heap.size ≠ hp := (by omega); simp only [Nat.zero_mul, Nat.one_mul, Nat.zero_add, Tr.op, Tr.s, Tr.n, Tr.L] at xp0 xp1 xp2 xp3 yp0 yp1 yp2 yp3 zp0 hcp hfp; clear hc))
    | (go_at_call_of 15 (Value.int IntKind.i64 a); guard_target = Calls _ _ #[_, Value.int _ 2] _ _; refine (p2 _).mono ?_; rintro e wx ⟨rfl, hwx⟩; obtain rfl := hwx.symm)
    | (go_at_call_of 15 (Value.int IntKind.i64 a); guard_target = Calls _ _ #[_, Value.int _ 4] _ _; refine (p4 _).mono ?_; rintro e wx ⟨rfl, hwx⟩; obtain rfl := hwx.symm)
    | (go_at_call_of 15 (Value.int IntKind.i64 b); guard_target = Calls _ _ #[_, Value.int _ 2] _ _; refine (q2 _).mono ?_; rintro e wx ⟨rfl, hwx⟩; obtain rfl := hwx.symm)
    | (go_at_call_of 15 (Value.int IntKind.i64 b); guard_target = Calls _ _ #[_, Value.int _ 4] _ _; refine (q4 _).mono ?_; rintro e wx ⟨rfl, hwx⟩; obtain rfl := hwx.symm))
  refine (HP.out _ (by repeat (first | exact HB2.out | exact Below.refl _ _ | refine Below.alloc ?_ (by first | (simp; done) | (simp; omega) | omega) _)) _).mono ?_
  intro e w3 h3
  obtain ⟨ao2, cap2, rfl, htv2, hb3⟩ := h3.okQ (i := nd [105, 116, 101, 109, 115] [] [nd [105, 116, 101, 109] [] [nd [99, 111, 108] [120] []]]) (f := nd [102, 114, 111, 109] [] [nd [116, 97, 98, 108, 101] [116] [nd [97, 115] [116] []]]) (c := cS22) (g := nd [103, 114, 111, 117, 112] [] []) (h := nd [104, 97, 118, 105, 110, 103] [] []) (o := nd [111, 114, 100, 101, 114] [] []) (by kernel_rfl)
  have HB3 : Hid (Below w.heap.size w w3) := ((HB2.out.alloc hs2 _).alloc (Nat.le_trans hs2 (by simp)) _).trans (hb3.mono (Nat.le_trans hs2 (by simp; omega)))
  have hs3 := HB3.out.size
  have HC := Go.Proofs.YtbkeaajnhalekaaGreatDoor.Hid.mk' (fun W (hW : Below w3.heap.size w3 W) => cond_q (htv2.keepB hW))
  clear h3 hb3 htv2 xp0 xp1 xp2 xp3 yp0 yp1 yp2 yp3 zp0 p2 q2 p4 q4
  go_wp2_with (first
    | (go_at_call 17; refine (HC.out _ (by repeat (first | exact HW.out | exact Below.refl _ _ | refine Below.alloc ?_ (by first | (simp; done) | (simp; omega) | omega) _))).mono ?_; rintro e w4 ⟨a2, c2, rfl, hb4, hd⟩; clear HC; have HB4 : Hid (Below w.heap.size w w4) := (HB3.out.alloc hs3 _).trans (hb4.mono (Nat.le_trans hs3 (by simp))); have hs4 := HB4.out.size; clear hb4; obtain ⟨gs, asv, cs, rfl, hgs, _, hcs, xs0, xs1, xs2, xs3, tvs⟩ := hd.part (i := 0) rfl; have hns : w4.heap.size ≠ gs := (by omega); obtain ⟨gr, ar, cr, hgre, hgr, _, hcr, xr0, xr1, xr2, xr3, tvr⟩ := tvs.part (i := 0) rfl; obtain ⟨grb, arb, crb, hgrbe, _, _, _, yr0, yr1, yr2, yr3, tvrb⟩ := tvs.part (i := 1) rfl; subst hgre; cases hgrbe; obtain ⟨hr, er, fr, rfl, hhr, _, hfr, zr0, _, _, _, _⟩ := tvr.part (i := 1) rfl; have hnr : w4.heap.size ≠ gr := (by omega); have hmr : w4.heap.size ≠ hr := (by omega); simp only [Nat.zero_mul, Nat.one_mul, Nat.zero_add, Tr.op, Tr.s, Tr.n, Tr.L] at xs0 xs1 xs2 xs3 xr0 xr1 xr2 xr3 yr0 yr1 yr2 yr3 zr0 hcs hcr hfr; clear hd)
    | (go_at_call 11; refine (HAL.out _ (by repeat (first | exact HB4.out | exact Below.refl _ _ | refine Below.alloc ?_ (by first | (simp; done) | (simp; omega) | omega) _))).mono ?_; rintro e w5 ⟨rfl, hb5⟩))
  go_ret
  exact ⟨rfl, ((HB4.out.alloc hs4 _).alloc (Nat.le_trans hs4 (by simp)) _).trans (hb5.mono (Nat.le_trans hs4 (by simp; omega)))⟩
set_option maxHeartbeats 8000000 in
set_option maxRecDepth 100000 in
theorem joined_23 (a b : Int) (w : World)
    (HP : Hid (∀ W, Below w.heap.size w W → ∀ x, Calls Tryz.prog 8 #[.string x] W fun e w' => PrTo W x e w'))
    (HAL : Hid (∀ W, Below w.heap.size w W → Calls Tryz.prog 11 #[] W fun e w' => e = .returned (.bool true) ∧ Below W.heap.size W w'))
    (p2 : ∀ W, Calls Tryz.prog 15 #[.int .i64 a, .int .i64 2] W fun e w' => e = .returned (.int .i64 0) ∧ w' = W)
    (q2 : ∀ W, Calls Tryz.prog 15 #[.int .i64 b, .int .i64 2] W fun e w' => e = .returned (.int .i64 1) ∧ w' = W)
    (p4 : ∀ W, Calls Tryz.prog 15 #[.int .i64 a, .int .i64 4] W fun e w' => e = .returned (.int .i64 2) ∧ w' = W)
    (q4 : ∀ W, Calls Tryz.prog 15 #[.int .i64 b, .int .i64 4] W fun e w' => e = .returned (.int .i64 3) ∧ w' = W) :
    Calls Tryz.prog 6 #[.int .i64 a, .int .i64 b] w fun e w' => e = .returned (.bool true) ∧ Below w.heap.size w w' := by
  have HW : Hid (Below w.heap.size w w) := Below.refl _ _
  go_enter Tryz.func6, Tryz.ntmps6
  go_wp2_with (first
    | (go_at_call_of 15 (Value.int IntKind.i64 a); guard_target = Calls _ _ #[_, Value.int _ 2] _ _; refine (p2 _).mono ?_; rintro e wx ⟨rfl, hwx⟩; obtain rfl := hwx.symm)
    | (go_at_call_of 15 (Value.int IntKind.i64 a); guard_target = Calls _ _ #[_, Value.int _ 4] _ _; refine (p4 _).mono ?_; rintro e wx ⟨rfl, hwx⟩; obtain rfl := hwx.symm)
    | (go_at_call_of 15 (Value.int IntKind.i64 b); guard_target = Calls _ _ #[_, Value.int _ 2] _ _; refine (q2 _).mono ?_; rintro e wx ⟨rfl, hwx⟩; obtain rfl := hwx.symm)
    | (go_at_call_of 15 (Value.int IntKind.i64 b); guard_target = Calls _ _ #[_, Value.int _ 4] _ _; refine (q4 _).mono ?_; rintro e wx ⟨rfl, hwx⟩; obtain rfl := hwx.symm))
  refine (HP.out _ (by repeat (first | exact HW.out | exact Below.refl _ _ | refine Below.alloc ?_ (by first | (simp; done) | (simp; omega) | omega) _)) _).mono ?_
  intro e w1 h1
  obtain ⟨ao, cap, rfl, htv, hb1⟩ := h1.okQ (i := nd [105, 116, 101, 109, 115] [] [nd [105, 116, 101, 109] [] [nd [99, 111, 108] [120] []]]) (f := nd [102, 114, 111, 109] [] [nd [116, 97, 98, 108, 101] [116] [nd [97, 115] [116] []]]) (c := cJ01) (g := nd [103, 114, 111, 117, 112] [] []) (h := nd [104, 97, 118, 105, 110, 103] [] []) (o := nd [111, 114, 100, 101, 114] [] []) (by kernel_rfl)
  have HB1 : Hid (Below w.heap.size w w1) := ((Below.refl _ _).alloc (Nat.le_refl _) _).trans (hb1.mono (by simp))
  have hs1 := HB1.out.size
  have HC := Go.Proofs.YtbkeaajnhalekaaGreatDoor.Hid.mk' (fun W (hW : Below w1.heap.size w1 W) => cond_q (htv.keepB hW))
  clear h1 hb1 htv
  go_wp2_with (first
    | (go_at_call 17; (refine (HC.out _ (by repeat (first | exact HW.out | exact Below.refl _ _ | refine Below.alloc ?_ (by first | (simp; done) | (simp; omega) | omega) _))).mono ?_; rintro e w2 ⟨a1, c1, rfl, hb2, hc⟩; clear HC; have HB2 : Hid (Below w.heap.size w w2) := (HB1.out.alloc hs1 _).trans (hb2.mono (by first | (simp; done) | (simp; omega))); have hs2 := HB2.out.size; clear hb2; obtain ⟨gp, ap, cp, hgpe, hgp, _, hcp, xp0, xp1, xp2, xp3, tvp⟩ := hc.part (i := 0) rfl; obtain ⟨gpb, apb, cpb, hgpbe, _, _, _, yp0, yp1, yp2, yp3, tvpb⟩ := hc.part (i := 1) rfl; subst hgpe; cases hgpbe; obtain ⟨hp, ep, fp, rfl, hhp, _, hfp, zp0, _, _, _, _⟩ := tvpb.part (i := 0) rfl; have hnp : w2.heap.size ≠ gp := (by omega); have hmp : w2.heap.size ≠ hp := (by omega); simp only [Nat.zero_mul, Nat.one_mul, Nat.zero_add, Tr.op, Tr.s, Tr.n, Tr.L] at xp0 xp1 xp2 xp3 yp0 yp1 yp2 yp3 zp0 hcp hfp; clear hc))
    | (go_at_call_of 15 (Value.int IntKind.i64 a); guard_target = Calls _ _ #[_, Value.int _ 2] _ _; refine (p2 _).mono ?_; rintro e wx ⟨rfl, hwx⟩; obtain rfl := hwx.symm)
    | (go_at_call_of 15 (Value.int IntKind.i64 a); guard_target = Calls _ _ #[_, Value.int _ 4] _ _; refine (p4 _).mono ?_; rintro e wx ⟨rfl, hwx⟩; obtain rfl := hwx.symm)
    | (go_at_call_of 15 (Value.int IntKind.i64 b); guard_target = Calls _ _ #[_, Value.int _ 2] _ _; refine (q2 _).mono ?_; rintro e wx ⟨rfl, hwx⟩; obtain rfl := hwx.symm)
    | (go_at_call_of 15 (Value.int IntKind.i64 b); guard_target = Calls _ _ #[_, Value.int _ 4] _ _; refine (q4 _).mono ?_; rintro e wx ⟨rfl, hwx⟩; obtain rfl := hwx.symm))
  refine (HP.out _ (by repeat (first | exact HB2.out | exact Below.refl _ _ | refine Below.alloc ?_ (by first | (simp; done) | (simp; omega) | omega) _)) _).mono ?_
  intro e w3 h3
  obtain ⟨ao2, cap2, rfl, htv2, hb3⟩ := h3.okQ (i := nd [105, 116, 101, 109, 115] [] [nd [105, 116, 101, 109] [] [nd [99, 111, 108] [120] []]]) (f := nd [102, 114, 111, 109] [] [nd [116, 97, 98, 108, 101] [116] [nd [97, 115] [116] []]]) (c := cS23) (g := nd [103, 114, 111, 117, 112] [] []) (h := nd [104, 97, 118, 105, 110, 103] [] []) (o := nd [111, 114, 100, 101, 114] [] []) (by kernel_rfl)
  have HB3 : Hid (Below w.heap.size w w3) := ((HB2.out.alloc hs2 _).alloc (Nat.le_trans hs2 (by simp)) _).trans (hb3.mono (Nat.le_trans hs2 (by simp; omega)))
  have hs3 := HB3.out.size
  have HC := Go.Proofs.YtbkeaajnhalekaaGreatDoor.Hid.mk' (fun W (hW : Below w3.heap.size w3 W) => cond_q (htv2.keepB hW))
  clear h3 hb3 htv2 xp0 xp1 xp2 xp3 yp0 yp1 yp2 yp3 zp0 p2 q2 p4 q4
  go_wp2_with (first
    | (go_at_call 17; refine (HC.out _ (by repeat (first | exact HW.out | exact Below.refl _ _ | refine Below.alloc ?_ (by first | (simp; done) | (simp; omega) | omega) _))).mono ?_; rintro e w4 ⟨a2, c2, rfl, hb4, hd⟩; clear HC; have HB4 : Hid (Below w.heap.size w w4) := (HB3.out.alloc hs3 _).trans (hb4.mono (Nat.le_trans hs3 (by simp))); have hs4 := HB4.out.size; clear hb4; obtain ⟨gs, asv, cs, rfl, hgs, _, hcs, xs0, xs1, xs2, xs3, tvs⟩ := hd.part (i := 0) rfl; have hns : w4.heap.size ≠ gs := (by omega); obtain ⟨gr, ar, cr, hgre, hgr, _, hcr, xr0, xr1, xr2, xr3, tvr⟩ := tvs.part (i := 0) rfl; obtain ⟨grb, arb, crb, hgrbe, _, _, _, yr0, yr1, yr2, yr3, tvrb⟩ := tvs.part (i := 1) rfl; subst hgre; cases hgrbe; obtain ⟨hr, er, fr, rfl, hhr, _, hfr, zr0, _, _, _, _⟩ := tvr.part (i := 1) rfl; have hnr : w4.heap.size ≠ gr := (by omega); have hmr : w4.heap.size ≠ hr := (by omega); simp only [Nat.zero_mul, Nat.one_mul, Nat.zero_add, Tr.op, Tr.s, Tr.n, Tr.L] at xs0 xs1 xs2 xs3 xr0 xr1 xr2 xr3 yr0 yr1 yr2 yr3 zr0 hcs hcr hfr; clear hd)
    | (go_at_call 11; refine (HAL.out _ (by repeat (first | exact HB4.out | exact Below.refl _ _ | refine Below.alloc ?_ (by first | (simp; done) | (simp; omega) | omega) _))).mono ?_; rintro e w5 ⟨rfl, hb5⟩))
  go_ret
  exact ⟨rfl, ((HB4.out.alloc hs4 _).alloc (Nat.le_trans hs4 (by simp)) _).trans (hb5.mono (Nat.le_trans hs4 (by simp; omega)))⟩
end Go.Proofs.YtbkeaajnhalekaaGreatDoor

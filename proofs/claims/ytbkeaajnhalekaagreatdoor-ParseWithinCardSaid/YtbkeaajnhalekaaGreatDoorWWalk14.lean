/- Parentheses change nothing that stands by itself (genww14.py writes it). -/
import Derived.Test.YtbkeaajnhalekaaGreatDoorP14CM
namespace Go.Proofs.YtbkeaajnhalekaaGreatDoor
open Go.RowKit
set_option linter.unusedVariables false
set_option linter.unusedSimpArgs false

theorem prB_ne (er : Nat) : prB er = ⟨#[53, 52, 48, 48, 49]⟩ ∨ prB er = ⟨#[52, 50, 54, 48, 49]⟩ ∨ prB er = ⟨#[50, 50, 48, 48, 51]⟩ ∨ prB er = ⟨#[50, 50, 48, 48, 49]⟩ ∨ prB er = ⟨#[53, 52, 48, 48, 48]⟩ := by
  by_cases h5 : er = 5
  · subst h5; exact Or.inl rfl
  · have h : prB er = stB er := by unfold prB; rw [if_neg h5]
    rw [h]
    exact Or.inr (st_ne er)
/-- What Parse answers, whether it comes to a tree or not. -/
theorem PrTo.uni {w w' : World} {s : ByteArray} {e : Ending} (h : PrTo w s e w') : ∃ (t : Tr) (ao : Option Addr) (cap : Nat) (st : ByteArray), e = .returned (.tuple #[nv t.op t.s t.n ao t.L.length cap, .string st]) ∧ TV (fun _ => True) w' ao cap t ∧ Below w.heap.size w w' ∧ ((st = ⟨#[48, 48, 48, 48, 48]⟩ ∧ prF s.data.toList = .ok t) ∨ (st = ⟨#[53, 52, 48, 48, 49]⟩ ∨ st = ⟨#[52, 50, 54, 48, 49]⟩ ∨ st = ⟨#[50, 50, 48, 48, 51]⟩ ∨ st = ⟨#[50, 50, 48, 48, 49]⟩ ∨ st = ⟨#[53, 52, 48, 48, 48]⟩)) := by
  rcases h with ⟨t, ao, cap, ho, he, tv, hb⟩ | ⟨er, ho, he, hb⟩
  · exact ⟨t, ao, cap, _, he, tv.keep fun _ _ _ => ⟨trivial, rfl⟩, hb, Or.inl ⟨rfl, ho⟩⟩
  · exact ⟨.mk [] [] 0 [], none, 0, _, he, .leaf _ _ _, hb, Or.inr (prB_ne er)⟩
theorem CnTo.uni {w w' : World} {e : Ending} {b : Tr} (h : CnTo w w' e b) : ∃ (c : Tr) (a : Option Addr) (k : Nat) (p : Bool), e = .returned (.tuple #[nv c.op c.s c.n a c.L.length k, .bool p]) ∧ TV (fun _ => True) w' a k c ∧ Below w.heap.size w w' ∧ (p = true → ∃ g hv, b = selT c g hv) := by
  rcases h with ⟨_, he, hb⟩ | ⟨c, g, hv, rfl, a, k, he, hb, hT⟩
  · exact ⟨.mk [] [] 0 [], none, 0, false, he, .leaf _ _ _, hb, fun h => by cases h⟩
  · exact ⟨c, a, k, true, he, hT, hb, fun _ => ⟨g, hv, rfl⟩⟩
theorem wt1 (a : List UInt8) (s : ByteArray) : ((⟨a.toArray⟩ : ByteArray) ++ s).data.toList = a ++ s.data.toList := by simp
theorem wt2 (a b : List UInt8) (s : ByteArray) : ((⟨a.toArray⟩ : ByteArray) ++ s ++ (⟨b.toArray⟩ : ByteArray)).data.toList = a ++ (s.data.toList ++ b) := by simp
set_option maxHeartbeats 8000000 in
set_option maxRecDepth 100000 in
theorem within_law (s : ByteArray) (ad : Addr) (w : World) (hs : s.size ≤ 140737488355328) (hL : LibW ad w) : Calls Tryz.prog 5 #[.string s] w fun e w' => e = .returned (.bool true) ∧ Below w.heap.size w w' := by
  have HP : Hid (∀ W, Below w.heap.size w W → ∀ x, Calls Tryz.prog 8 #[.string x] W fun e w' => PrTo W x e w') := fun W hW x => parse_any x W (hL.keep hW)
  have HAL : Hid (∀ W, Below w.heap.size w W → Calls Tryz.prog 11 #[] W fun e w' => e = .returned (.bool true) ∧ Below W.heap.size W w') := fun W hW => alive_any W (hL.keep hW)
  have V0 : Hid (Below w.heap.size w w) := Below.refl _ _
  clear hL
  have z1 : ¬ 9223372036854775807 < 22 + s.size := by omega
  have z2 : ¬ 9223372036854775807 < 23 + s.size := by omega
  have z3 : ¬ 9223372036854775807 < 23 + s.size + 2 := by omega
  have z4 : ¬ 9223372036854775807 < 25 + s.size := by omega
  have z5 : ¬ 9223372036854775807 < 25 + s.size + 5 := by omega
  have z6 : ¬ 9223372036854775807 < 8 + s.size := by omega
  have z7 : ¬ 9223372036854775807 < 8 + s.size + 9 := by omega
  clear hs
  go_enter Tryz.func5, Tryz.ntmps5
  go_wp2_with fail
  refine (HP.out _ V0.out _).mono ?_
  intro e w1 h1
  obtain ⟨t1, ao1, cap1, st1, rfl, tv1, hb1, hr1⟩ := h1.uni
  clear h1
  obtain ⟨v1, hv1⟩ : ∃ v, w1.alloc (.cells #[.string ⟨t1.op.toArray⟩, .string ⟨t1.s.toArray⟩, .int .i64 t1.n, .slice ao1 t1.L.length cap1] 24) = v := ⟨_, rfl⟩
  have A1 : Hid (Below w1.heap.size w1 v1) := by rw [← hv1]; exact (Below.refl _ _).alloc (Nat.le_refl _) _
  have V1 : Hid (Below w.heap.size w v1) := (V0.out.trans (hb1.mono V0.out.size)).trans (A1.out.mono (V0.out.trans (hb1.mono V0.out.size)).size)
  have D1 : Hid (Below w.heap.size w v1) := hb1.trans (A1.out.mono hb1.size)
  have X1 : Hid (∀ W, Below v1.heap.size v1 W → _) := fun W hW => box4 w1 (.string ⟨t1.op.toArray⟩) (.string ⟨t1.s.toArray⟩) (.int .i64 t1.n) (.slice ao1 t1.L.length cap1) 24 W (by rw [hv1]; exact hW)
  have T1 : Hid (TV (fun _ => True) v1 ao1 cap1 t1) := tv1.keepB A1.out
  have R1 := Go.Proofs.YtbkeaajnhalekaaGreatDoor.Hid.mk' hr1
  clear tv1 hb1 hr1
  go_wp2_with fail
  refine (HP.out _ V1.out _).mono ?_
  intro e w2 h2
  obtain ⟨t2, ao2, cap2, st2, rfl, tv2, hb2, hr2⟩ := h2.uni
  clear h2
  obtain ⟨v2, hv2⟩ : ∃ v, w2.alloc (.cells #[.string ⟨t2.op.toArray⟩, .string ⟨t2.s.toArray⟩, .int .i64 t2.n, .slice ao2 t2.L.length cap2] 24) = v := ⟨_, rfl⟩
  have A2 : Hid (Below w2.heap.size w2 v2) := by rw [← hv2]; exact (Below.refl _ _).alloc (Nat.le_refl _) _
  have V2 : Hid (Below w.heap.size w v2) := (V1.out.trans (hb2.mono V1.out.size)).trans (A2.out.mono (V1.out.trans (hb2.mono V1.out.size)).size)
  have D2 : Hid (Below v1.heap.size v1 v2) := hb2.trans (A2.out.mono hb2.size)
  have X2 : Hid (∀ W, Below v2.heap.size v2 W → _) := fun W hW => box4 w2 (.string ⟨t2.op.toArray⟩) (.string ⟨t2.s.toArray⟩) (.int .i64 t2.n) (.slice ao2 t2.L.length cap2) 24 W (by rw [hv2]; exact hW)
  have T2 : Hid (TV (fun _ => True) v2 ao2 cap2 t2) := tv2.keepB A2.out
  have R2 := Go.Proofs.YtbkeaajnhalekaaGreatDoor.Hid.mk' hr2
  clear tv2 hb2 hr2
  go_wp2_with fail
  refine (HP.out _ V2.out _).mono ?_
  intro e w3 h3
  obtain ⟨t3, ao3, cap3, st3, rfl, tv3, hb3, hr3⟩ := h3.uni
  clear h3
  obtain ⟨v3, hv3⟩ : ∃ v, w3.alloc (.cells #[.string ⟨t3.op.toArray⟩, .string ⟨t3.s.toArray⟩, .int .i64 t3.n, .slice ao3 t3.L.length cap3] 24) = v := ⟨_, rfl⟩
  have A3 : Hid (Below w3.heap.size w3 v3) := by rw [← hv3]; exact (Below.refl _ _).alloc (Nat.le_refl _) _
  have V3 : Hid (Below w.heap.size w v3) := (V2.out.trans (hb3.mono V2.out.size)).trans (A3.out.mono (V2.out.trans (hb3.mono V2.out.size)).size)
  have D3 : Hid (Below v2.heap.size v2 v3) := hb3.trans (A3.out.mono hb3.size)
  have X3 : Hid (∀ W, Below v3.heap.size v3 W → _) := fun W hW => box4 w3 (.string ⟨t3.op.toArray⟩) (.string ⟨t3.s.toArray⟩) (.int .i64 t3.n) (.slice ao3 t3.L.length cap3) 24 W (by rw [hv3]; exact hW)
  have T3 : Hid (TV (fun _ => True) v3 ao3 cap3 t3) := tv3.keepB A3.out
  have R3 := Go.Proofs.YtbkeaajnhalekaaGreatDoor.Hid.mk' hr3
  clear tv3 hb3 hr3
  go_wp2_with fail
  refine (HP.out _ V3.out _).mono ?_
  intro e w4 h4
  obtain ⟨t4, ao4, cap4, st4, rfl, tv4, hb4, hr4⟩ := h4.uni
  clear h4
  obtain ⟨v4, hv4⟩ : ∃ v, w4.alloc (.cells #[.string ⟨t4.op.toArray⟩, .string ⟨t4.s.toArray⟩, .int .i64 t4.n, .slice ao4 t4.L.length cap4] 24) = v := ⟨_, rfl⟩
  have A4 : Hid (Below w4.heap.size w4 v4) := by rw [← hv4]; exact (Below.refl _ _).alloc (Nat.le_refl _) _
  have V4 : Hid (Below w.heap.size w v4) := (V3.out.trans (hb4.mono V3.out.size)).trans (A4.out.mono (V3.out.trans (hb4.mono V3.out.size)).size)
  have D4 : Hid (Below v3.heap.size v3 v4) := hb4.trans (A4.out.mono hb4.size)
  have X4 : Hid (∀ W, Below v4.heap.size v4 W → _) := fun W hW => box4 w4 (.string ⟨t4.op.toArray⟩) (.string ⟨t4.s.toArray⟩) (.int .i64 t4.n) (.slice ao4 t4.L.length cap4) 24 W (by rw [hv4]; exact hW)
  have T4 : Hid (TV (fun _ => True) v4 ao4 cap4 t4) := tv4.keepB A4.out
  have R4 := Go.Proofs.YtbkeaajnhalekaaGreatDoor.Hid.mk' hr4
  clear tv4 hb4 hr4
  have E1_2 : Hid (Below v1.heap.size v1 v2) := (Below.refl v1.heap.size v1).trans (D2.out.mono (Below.refl v1.heap.size v1).size)
  have E1_3 : Hid (Below v1.heap.size v1 v3) := E1_2.out.trans (D3.out.mono E1_2.out.size)
  have E2_3 : Hid (Below v2.heap.size v2 v3) := (Below.refl v2.heap.size v2).trans (D3.out.mono (Below.refl v2.heap.size v2).size)
  have E1_4 : Hid (Below v1.heap.size v1 v4) := E1_3.out.trans (D4.out.mono E1_3.out.size)
  have E2_4 : Hid (Below v2.heap.size v2 v4) := E2_3.out.trans (D4.out.mono E2_3.out.size)
  have E3_4 : Hid (Below v3.heap.size v3 v4) := (Below.refl v3.heap.size v3).trans (D4.out.mono (Below.refl v3.heap.size v3).size)
  rcases R1.out with ⟨rfl, p1⟩ | n1
  rotate_left
  · rcases n1 with rfl | rfl | rfl | rfl | rfl
    all_goals
      go_wp2_with (first
        | (go_at_call 11; refine (HAL.out _ V4.out).mono ?_; rintro e w9 ⟨rfl, hb9⟩))
      go_ret
      exact ⟨rfl, V4.out.trans (hb9.mono V4.out.size)⟩
  rcases R2.out with ⟨rfl, p2⟩ | n2
  rotate_left
  · rcases n2 with rfl | rfl | rfl | rfl | rfl
    all_goals
      go_wp2_with (first
        | (go_at_call 11; refine (HAL.out _ V4.out).mono ?_; rintro e w9 ⟨rfl, hb9⟩))
      go_ret
      exact ⟨rfl, V4.out.trans (hb9.mono V4.out.size)⟩
  rcases R3.out with ⟨rfl, p3⟩ | n3
  rotate_left
  · rcases n3 with rfl | rfl | rfl | rfl | rfl
    all_goals
      go_wp2_with (first
        | (go_at_call 11; refine (HAL.out _ V4.out).mono ?_; rintro e w9 ⟨rfl, hb9⟩))
      go_ret
      exact ⟨rfl, V4.out.trans (hb9.mono V4.out.size)⟩
  rcases R4.out with ⟨rfl, p4⟩ | n4
  rotate_left
  · rcases n4 with rfl | rfl | rfl | rfl | rfl
    all_goals
      go_wp2_with (first
        | (go_at_call 11; refine (HAL.out _ V4.out).mono ?_; rintro e w9 ⟨rfl, hb9⟩))
      go_ret
      exact ⟨rfl, V4.out.trans (hb9.mono V4.out.size)⟩
  rw [wt1] at p1
  replace p1 : prF (P1 ++ s.data.toList) = .ok t1 := p1
  obtain ⟨b1, o1, rfl, f1⟩ := pr_form p1
  have PP1 := Go.Proofs.YtbkeaajnhalekaaGreatDoor.Hid.mk' p1
  have F1 := Go.Proofs.YtbkeaajnhalekaaGreatDoor.Hid.mk' f1
  clear p1 f1
  rw [wt2] at p2
  replace p2 : prF (P1 ++ 40 :: (s.data.toList ++ [10, 41])) = .ok t2 := p2
  obtain ⟨b2, o2, rfl, f2⟩ := pr_form p2
  have PP2 := Go.Proofs.YtbkeaajnhalekaaGreatDoor.Hid.mk' p2
  have F2 := Go.Proofs.YtbkeaajnhalekaaGreatDoor.Hid.mk' f2
  clear p2 f2
  rw [wt2] at p3
  replace p3 : prF (P1 ++ 40 :: 32 :: 40 :: (s.data.toList ++ [10, 41, 32, 41, 32])) = .ok t3 := p3
  obtain ⟨b3, o3, rfl, f3⟩ := pr_form p3
  have PP3 := Go.Proofs.YtbkeaajnhalekaaGreatDoor.Hid.mk' p3
  have F3 := Go.Proofs.YtbkeaajnhalekaaGreatDoor.Hid.mk' f3
  clear p3 f3
  clear R1 R2 R3 R4 HP p4 z1 z2 z3 z4 z5 z6 z7
  obtain ⟨c10, c11, c12, c13⟩ := X1.out v4 E1_4.out
  replace c10 : v4.cell? ⟨w1.heap.size, 0, none⟩ = some (.string ⟨#[113, 117, 101, 114, 121]⟩) := c10
  replace c11 : v4.cell? ⟨w1.heap.size, 1, none⟩ = some (.string ⟨#[]⟩) := c11
  replace c12 : v4.cell? ⟨w1.heap.size, 2, none⟩ = some (.int .i64 0) := c12
  replace c13 : v4.cell? ⟨w1.heap.size, 3, none⟩ = some (.slice ao1 2 cap1) := c13
  have hc1 := cond_any (T1.out.keepB E1_4.out) F1.out
  go_wp2_with fail
  refine hc1.mono ?_
  intro e w5 h5
  obtain ⟨x1, a1, k1, pb1, rfl, tv5, hb5, hg1⟩ := h5.uni
  clear h5 hc1 c10 c11 c12 c13
  obtain ⟨v5, hv5⟩ : ∃ v, w5.alloc (.cells #[.string ⟨x1.op.toArray⟩, .string ⟨x1.s.toArray⟩, .int .i64 x1.n, .slice a1 x1.L.length k1] 24) = v := ⟨_, rfl⟩
  have A5 : Hid (Below w5.heap.size w5 v5) := by rw [← hv5]; exact (Below.refl _ _).alloc (Nat.le_refl _) _
  have V5 : Hid (Below w.heap.size w v5) := (V4.out.trans (hb5.mono V4.out.size)).trans (A5.out.mono (V4.out.trans (hb5.mono V4.out.size)).size)
  have D5 : Hid (Below v4.heap.size v4 v5) := hb5.trans (A5.out.mono hb5.size)
  have X5 : Hid (∀ W, Below v5.heap.size v5 W → _) := fun W hW => box4 w5 (.string ⟨x1.op.toArray⟩) (.string ⟨x1.s.toArray⟩) (.int .i64 x1.n) (.slice a1 x1.L.length k1) 24 W (by rw [hv5]; exact hW)
  have T5 : Hid (TV (fun _ => True) v5 a1 k1 x1) := tv5.keepB A5.out
  have G1 := Go.Proofs.YtbkeaajnhalekaaGreatDoor.Hid.mk' hg1
  clear tv5 hb5 hg1
  have E1_5 : Hid (Below v1.heap.size v1 v5) := E1_4.out.trans (D5.out.mono E1_4.out.size)
  have E2_5 : Hid (Below v2.heap.size v2 v5) := E2_4.out.trans (D5.out.mono E2_4.out.size)
  have E3_5 : Hid (Below v3.heap.size v3 v5) := E3_4.out.trans (D5.out.mono E3_4.out.size)
  have E4_5 : Hid (Below v4.heap.size v4 v5) := (Below.refl v4.heap.size v4).trans (D5.out.mono (Below.refl v4.heap.size v4).size)
  obtain ⟨c20, c21, c22, c23⟩ := X2.out v5 E2_5.out
  replace c20 : v5.cell? ⟨w2.heap.size, 0, none⟩ = some (.string ⟨#[113, 117, 101, 114, 121]⟩) := c20
  replace c21 : v5.cell? ⟨w2.heap.size, 1, none⟩ = some (.string ⟨#[]⟩) := c21
  replace c22 : v5.cell? ⟨w2.heap.size, 2, none⟩ = some (.int .i64 0) := c22
  replace c23 : v5.cell? ⟨w2.heap.size, 3, none⟩ = some (.slice ao2 2 cap2) := c23
  have hc2 := cond_any (T2.out.keepB E2_5.out) F2.out
  go_wp2_with fail
  refine hc2.mono ?_
  intro e w6 h6
  obtain ⟨x2, a2, k2, pb2, rfl, tv6, hb6, hg2⟩ := h6.uni
  clear h6 hc2 c20 c21 c22 c23
  obtain ⟨v6, hv6⟩ : ∃ v, w6.alloc (.cells #[.string ⟨x2.op.toArray⟩, .string ⟨x2.s.toArray⟩, .int .i64 x2.n, .slice a2 x2.L.length k2] 24) = v := ⟨_, rfl⟩
  have A6 : Hid (Below w6.heap.size w6 v6) := by rw [← hv6]; exact (Below.refl _ _).alloc (Nat.le_refl _) _
  have V6 : Hid (Below w.heap.size w v6) := (V5.out.trans (hb6.mono V5.out.size)).trans (A6.out.mono (V5.out.trans (hb6.mono V5.out.size)).size)
  have D6 : Hid (Below v5.heap.size v5 v6) := hb6.trans (A6.out.mono hb6.size)
  have X6 : Hid (∀ W, Below v6.heap.size v6 W → _) := fun W hW => box4 w6 (.string ⟨x2.op.toArray⟩) (.string ⟨x2.s.toArray⟩) (.int .i64 x2.n) (.slice a2 x2.L.length k2) 24 W (by rw [hv6]; exact hW)
  have T6 : Hid (TV (fun _ => True) v6 a2 k2 x2) := tv6.keepB A6.out
  have G2 := Go.Proofs.YtbkeaajnhalekaaGreatDoor.Hid.mk' hg2
  clear tv6 hb6 hg2
  have E1_6 : Hid (Below v1.heap.size v1 v6) := E1_5.out.trans (D6.out.mono E1_5.out.size)
  have E2_6 : Hid (Below v2.heap.size v2 v6) := E2_5.out.trans (D6.out.mono E2_5.out.size)
  have E3_6 : Hid (Below v3.heap.size v3 v6) := E3_5.out.trans (D6.out.mono E3_5.out.size)
  have E4_6 : Hid (Below v4.heap.size v4 v6) := E4_5.out.trans (D6.out.mono E4_5.out.size)
  have E5_6 : Hid (Below v5.heap.size v5 v6) := (Below.refl v5.heap.size v5).trans (D6.out.mono (Below.refl v5.heap.size v5).size)
  obtain ⟨c30, c31, c32, c33⟩ := X3.out v6 E3_6.out
  replace c30 : v6.cell? ⟨w3.heap.size, 0, none⟩ = some (.string ⟨#[113, 117, 101, 114, 121]⟩) := c30
  replace c31 : v6.cell? ⟨w3.heap.size, 1, none⟩ = some (.string ⟨#[]⟩) := c31
  replace c32 : v6.cell? ⟨w3.heap.size, 2, none⟩ = some (.int .i64 0) := c32
  replace c33 : v6.cell? ⟨w3.heap.size, 3, none⟩ = some (.slice ao3 2 cap3) := c33
  have hc3 := cond_any (T3.out.keepB E3_6.out) F3.out
  go_wp2_with fail
  refine hc3.mono ?_
  intro e w7 h7
  obtain ⟨x3, a3, k3, pb3, rfl, tv7, hb7, hg3⟩ := h7.uni
  clear h7 hc3 c30 c31 c32 c33
  obtain ⟨v7, hv7⟩ : ∃ v, w7.alloc (.cells #[.string ⟨x3.op.toArray⟩, .string ⟨x3.s.toArray⟩, .int .i64 x3.n, .slice a3 x3.L.length k3] 24) = v := ⟨_, rfl⟩
  have A7 : Hid (Below w7.heap.size w7 v7) := by rw [← hv7]; exact (Below.refl _ _).alloc (Nat.le_refl _) _
  have V7 : Hid (Below w.heap.size w v7) := (V6.out.trans (hb7.mono V6.out.size)).trans (A7.out.mono (V6.out.trans (hb7.mono V6.out.size)).size)
  have D7 : Hid (Below v6.heap.size v6 v7) := hb7.trans (A7.out.mono hb7.size)
  have X7 : Hid (∀ W, Below v7.heap.size v7 W → _) := fun W hW => box4 w7 (.string ⟨x3.op.toArray⟩) (.string ⟨x3.s.toArray⟩) (.int .i64 x3.n) (.slice a3 x3.L.length k3) 24 W (by rw [hv7]; exact hW)
  have T7 : Hid (TV (fun _ => True) v7 a3 k3 x3) := tv7.keepB A7.out
  have G3 := Go.Proofs.YtbkeaajnhalekaaGreatDoor.Hid.mk' hg3
  clear tv7 hb7 hg3
  have E1_7 : Hid (Below v1.heap.size v1 v7) := E1_6.out.trans (D7.out.mono E1_6.out.size)
  have E2_7 : Hid (Below v2.heap.size v2 v7) := E2_6.out.trans (D7.out.mono E2_6.out.size)
  have E3_7 : Hid (Below v3.heap.size v3 v7) := E3_6.out.trans (D7.out.mono E3_6.out.size)
  have E4_7 : Hid (Below v4.heap.size v4 v7) := E4_6.out.trans (D7.out.mono E4_6.out.size)
  have E5_7 : Hid (Below v5.heap.size v5 v7) := E5_6.out.trans (D7.out.mono E5_6.out.size)
  have E6_7 : Hid (Below v6.heap.size v6 v7) := (Below.refl v6.heap.size v6).trans (D7.out.mono (Below.refl v6.heap.size v6).size)
  cases pb1 with
  | false =>
    go_wp2_with (first
      | (go_at_call 11; refine (HAL.out _ V7.out).mono ?_; rintro e w9 ⟨rfl, hb9⟩))
    go_ret
    exact ⟨rfl, V7.out.trans (hb9.mono V7.out.size)⟩
  | true =>
  cases pb2 with
  | false =>
    go_wp2_with (first
      | (go_at_call 11; refine (HAL.out _ V7.out).mono ?_; rintro e w9 ⟨rfl, hb9⟩))
    go_ret
    exact ⟨rfl, V7.out.trans (hb9.mono V7.out.size)⟩
  | true =>
  cases pb3 with
  | false =>
    go_wp2_with (first
      | (go_at_call 11; refine (HAL.out _ V7.out).mono ?_; rintro e w9 ⟨rfl, hb9⟩))
    go_ret
    exact ⟨rfl, V7.out.trans (hb9.mono V7.out.size)⟩
  | true =>
  obtain ⟨g1, e1, rfl⟩ := G1.out rfl
  obtain ⟨g2, e2, rfl⟩ := G2.out rfl
  obtain ⟨g3, e3, rfl⟩ := G3.out rfl
  clear G1 G2 G3 F1 F2 F3
  have TT := T1.out.keepB E1_7.out
  obtain ⟨c10, c11, c12, c13⟩ := X1.out v7 E1_7.out
  replace c13 : v7.cell? ⟨w1.heap.size, 3, none⟩ = some (.slice ao1 2 cap1) := c13
  obtain ⟨q0, aq, cq, rfl, _, _, hc0, _, _, _, y3, tvs⟩ := TT.part (i := 0) rfl
  obtain ⟨q1, ar, cr, rfl, _, _, hc1, _, _, _, yg, _⟩ := tvs.part (i := 3) rfl
  obtain ⟨q1', as', cs, he2, _, _, _, _, _, _, yh, _⟩ := tvs.part (i := 4) rfl
  obtain ⟨q0', at', ct, he3, _, _, _, _, _, _, yo, _⟩ := TT.part (i := 1) rfl
  cases he2
  cases he3
  replace hc0 : 2 ≤ cap1 := hc0
  replace hc1 : 5 ≤ cq := hc1
  replace y3 : v7.cell? ⟨q0, 3, none⟩ = some (.slice (some ⟨q1, 0, none⟩) 5 cq) := cell0 y3
  replace yg : v7.cell? ⟨q1, 15, none⟩ = some (.slice ar g1.L.length cr) := yg
  replace yh : v7.cell? ⟨q1, 19, none⟩ = some (.slice as' e1.L.length cs) := yh
  replace yo : v7.cell? ⟨q0, 7, none⟩ = some (.slice at' o1.L.length ct) := yo
  clear TT tvs c10 c11 c12
  generalize hng : g1.L.length = ng at yg
  have Ng := Go.Proofs.YtbkeaajnhalekaaGreatDoor.Hid.mk' hng
  clear hng
  rcases Nat.eq_zero_or_pos ng with rfl | ig
  rotate_left
  · have ig2 : (ng : Int) > 0 := by omega
    have ig3 : decide ((ng : Int) > 0) = true := decide_eq_true ig2
    go_wp2_with (first
      | (go_at_call 11; refine (HAL.out _ V7.out).mono ?_; rintro e w9 ⟨rfl, hb9⟩))
    go_ret
    exact ⟨rfl, V7.out.trans (hb9.mono V7.out.size)⟩
  generalize hnh : e1.L.length = nh at yh
  have Nh := Go.Proofs.YtbkeaajnhalekaaGreatDoor.Hid.mk' hnh
  clear hnh
  rcases Nat.eq_zero_or_pos nh with rfl | ih
  rotate_left
  · have ih2 : (nh : Int) > 0 := by omega
    have ih3 : decide ((nh : Int) > 0) = true := decide_eq_true ih2
    go_wp2_with (first
      | (go_at_call 11; refine (HAL.out _ V7.out).mono ?_; rintro e w9 ⟨rfl, hb9⟩))
    go_ret
    exact ⟨rfl, V7.out.trans (hb9.mono V7.out.size)⟩
  generalize hno : o1.L.length = no at yo
  have No := Go.Proofs.YtbkeaajnhalekaaGreatDoor.Hid.mk' hno
  clear hno
  rcases Nat.eq_zero_or_pos no with rfl | io
  rotate_left
  · have io2 : (no : Int) > 0 := by omega
    have io3 : decide ((no : Int) > 0) = true := decide_eq_true io2
    go_wp2_with (first
      | (go_at_call 11; refine (HAL.out _ V7.out).mono ?_; rintro e w9 ⟨rfl, hb9⟩))
    go_ret
    exact ⟨rfl, V7.out.trans (hb9.mono V7.out.size)⟩
  have e0 := within_sel PP1.out PP2.out PP3.out (List.eq_nil_of_length_eq_zero Ng.out) (List.eq_nil_of_length_eq_zero Nh.out) (List.eq_nil_of_length_eq_zero No.out)
  obtain ⟨rfl, rfl⟩ := e0
  have HS : Hid (∀ W, Below v7.heap.size v7 W → Calls Tryz.prog 10 #[nv x3.op x3.s x3.n a1 x3.L.length k1, nv x3.op x3.s x3.n a2 x3.L.length k2] W fun e w' => e = .returned (.bool true) ∧ Below W.heap.size W w') := fun W hW => q_same _ (Nat.lt_succ_self _) ((T5.out.keepB E5_7.out).keepB hW) ((T6.out.keepB E6_7.out).keepB hW)
  have HS2 : Hid (∀ W, Below v7.heap.size v7 W → Calls Tryz.prog 10 #[nv x3.op x3.s x3.n a1 x3.L.length k1, nv x3.op x3.s x3.n a3 x3.L.length k3] W fun e w' => e = .returned (.bool true) ∧ Below W.heap.size W w') := fun W hW => q_same _ (Nat.lt_succ_self _) ((T5.out.keepB E5_7.out).keepB hW) (T7.out.keepB hW)
  obtain ⟨m50, m51, m52, m53⟩ := X5.out v7 E5_7.out
  obtain ⟨m60, m61, m62, m63⟩ := X6.out v7 E6_7.out
  have hs1 := HS.out v7 (Below.refl _ _)
  clear T1 T2 T3 T4 T5 T6 T7 X1 X2 X3 X4 PP1 PP2 PP3
  go_wp2_with fail
  refine hs1.mono ?_
  rintro e w8 ⟨rfl, hb8⟩
  have V8 := Go.Proofs.YtbkeaajnhalekaaGreatDoor.Hid.mk' (V7.out.trans (hb8.mono V7.out.size))
  obtain ⟨l50, l51, l52, l53⟩ := X5.out w8 (E5_7.out.trans (hb8.mono E5_7.out.size))
  obtain ⟨l70, l71, l72, l73⟩ := X7.out w8 hb8
  have hs2 := HS2.out w8 hb8
  clear HS HS2 m50 m51 m52 m53 m60 m61 m62 m63 hs1 hb8 yg yh yo y3 c13 X5 X6 X7
  go_wp2_with fail
  refine hs2.mono ?_
  rintro e w9 ⟨rfl, hb9⟩
  have V9 := Go.Proofs.YtbkeaajnhalekaaGreatDoor.Hid.mk' (V8.out.trans (hb9.mono V8.out.size))
  clear l50 l51 l52 l53 l70 l71 l72 l73 hs2 hb9
  go_wp2_with (first
    | (go_at_call 11; refine (HAL.out _ V9.out).mono ?_; rintro e w10 ⟨rfl, hb10⟩))
  go_ret
  exact ⟨rfl, V9.out.trans (hb10.mono V9.out.size)⟩
end Go.Proofs.YtbkeaajnhalekaaGreatDoor

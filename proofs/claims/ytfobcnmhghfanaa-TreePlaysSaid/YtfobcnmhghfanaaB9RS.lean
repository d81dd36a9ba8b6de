/- An op of both: they answer alike. -/
import Derived.Test.YtfobcnmhghfanaaB9RQ
import Derived.Test.YtfobcnmhghfanaaTWWalk
import Derived.Deep.QuietTactic
import Derived.BigQuiet
namespace Go.Proofs.Ytfobcnmhghfanaa
open Go.RowKit Go.Shelf
set_option linter.unusedVariables false
set_option linter.unusedSimpArgs false

set_option maxRecDepth 100000 in
set_option maxHeartbeats 8000000 in
theorem step_far {w0 w : World} {a b m : Nat} (h : PR w0 w a b m) (hm : m ≤ 79000) (kd nn : Int) (hnn : -9223372036854775808 ≤ nn ∧ nn ≤ 9223372036854775807) (key : ByteArray) (is : Bool) :
    Calls Try.prog 10 #[pt a, pt b, .agg #[.int .i64 kd, .int .i64 nn, .string key, .bool is, .bool false]] w fun e w' => e = .returned (.bool true) ∧ PR w0 w' a b (m + 60) := by
  obtain ⟨L, hL, hp⟩ := h.box ⟨kd, nn, key, is, false⟩
  obtain ⟨c0, c1, c2, c3, c4⟩ := hp.blk
  have HP : Hid (MR w0 (w.alloc (.cells #[.int .i64 kd, .int .i64 nn, .string key, .bool is, .bool false] 32)) a b w.heap.size ⟨kd, nn, key, is, false⟩ L L) := hp
  simp only at c0 c1 c2 c3 c4
  clear hp h
  go_enter Try.func10, Try.ntmps10
  go_upto_if 33 with fail
  generalize hBB : w.heap.size = B at *
  generalize (w.alloc (.cells #[.int .i64 kd, .int .i64 nn, .string key, .bool is, .bool false] 32)) = wq at *
  clear hBB
  rcases (show kd = 1 ∨ kd = 2 ∨ kd = 3 ∨ kd = 4 ∨ kd = 5 ∨ kd = 6 ∨ kd = 7 ∨ (kd ≠ 1 ∧ kd ≠ 2 ∧ kd ≠ 3 ∧ kd ≠ 4 ∧ kd ≠ 5 ∧ kd ≠ 6 ∧ kd ≠ 7) by omega) with rfl | rfl | rfl | rfl | rfl | rfl | rfl | ⟨m1, m2, m3, m4, m5, m6, m7⟩
  · have HI : Hid (∀ wx, Below wq.heap.size wq wx → Calls Try.prog 14 #[pt a, .string key, .int .i64 nn] wx fun e w' => e = .returned (.int .i64 (insO L key nn).1) ∧ MR w0 w' a b B ⟨1, nn, key, is, false⟩ (insO L key nn).2 L) := fun wx hb => (HP.out.below hb).tins (by omega) key nn
    have hB0 : Below wq.heap.size wq wq := Below.refl _ _
    have hB1 : Below wq.heap.size wq wq.drew := (Below.refl _ _).drew
    have hl2 := len_ins L key nn
    clear HP c2 c3 c4
    go_wp2_with fail
    go_region_held_law (fun w' => w'.cell? ⟨B, 1, none⟩ = some (.int .i64 nn)) (first | exact c1 | exact S1 | exact S2)
      (first
        | (go_at_call 14; refine (HI.out _ (by assumption)).mono ?_; rintro e wb ⟨rfl, hb⟩; have S1 : wb.cell? ⟨B, 1, none⟩ = some (.int .i64 nn) := hb.blk.2.1; have HM1 : Hid (MR w0 wb a b B ⟨1, nn, key, is, false⟩ (insO L key nn).2 L) := hb; clear hb)
        | (go_at_call 21; refine (MR.wins HM1.out (by omega) key nn).mono ?_; rintro e wd ⟨rfl, hb⟩; have S2 : wd.cell? ⟨B, 1, none⟩ = some (.int .i64 nn) := hb.blk.2.1; have HM2 : Hid (MR w0 wd a b B ⟨1, nn, key, is, false⟩ (insO L key nn).2 (insO L key nn).2) := hb; clear hb))
    have HR : Hid (PR w0 wd a b (m + 60)) := MR.pr HM2.out (by omega)
    clear HM1 HM2 S1 S2 HI hB0 hB1 c0 c1
    go_wp2_with fail
    go_ret
    exact ⟨rfl, HR.out⟩
  · have hi := HP.out.tgho (by omega) key
    have hl2 := len_gho L key
    clear HP c1 c2 c3 c4
    go_wp2_with fail
    refine hi.mono ?_
    clear hi c0
    rintro e wb ⟨rfl, hb⟩
    have hi := hb.wgho (by omega) key
    clear hb
    simp only
    go_wp2_with fail
    refine hi.mono ?_
    clear hi
    rintro e wd ⟨rfl, hb⟩
    have HR : Hid (PR w0 wd a b (m + 60)) := hb.pr (by omega)
    clear hb
    simp only
    go_wp2_with fail
    go_ret
    exact ⟨rfl, HR.out⟩
  · have hi := HP.out.tpur (by omega) key
    have hl2 := len_pur L key
    clear HP c1 c2 c3 c4
    go_wp2_with fail
    refine hi.mono ?_
    clear hi c0
    rintro e wb ⟨rfl, hb⟩
    have hi := hb.wpur (by omega) key
    clear hb
    simp only
    go_wp2_with fail
    refine hi.mono ?_
    clear hi
    rintro e wd ⟨rfl, hb⟩
    have HR : Hid (PR w0 wd a b (m + 60)) := hb.pr (by omega)
    clear hb
    simp only
    go_wp2_with fail
    go_ret
    exact ⟨rfl, HR.out⟩
  · have hi := HP.out.tget (by omega) key
    obtain ⟨n0, g0, e0, hq⟩ : ∃ n0 g0 e0, getV (getL L key) = .tuple #[.int .i64 n0, .bool g0, .int .i64 e0] := by unfold getV; split <;> exact ⟨_, _, _, rfl⟩
    rw [hq] at hi
    clear HP c1 c2 c4
    go_wp2_with fail
    refine hi.mono ?_
    clear hi c0 c3
    rintro e wb ⟨rfl, hb⟩
    have hi := hb.wget (by omega) key
    rw [hq] at hi
    have c3 : wb.cell? ⟨B, 3, none⟩ = some (.bool is) := hb.blk.2.2.2.1
    clear hb hq
    simp only
    go_wp2_with fail
    refine hi.mono ?_
    clear hi c3
    rintro e wd ⟨rfl, hb⟩
    have HR : Hid (PR w0 wd a b (m + 60)) := hb.pr (by omega)
    clear hb
    simp only
    go_wp2_with fail
    go_ret
    exact ⟨rfl, HR.out⟩
  · have hi := HP.out.tnext (by omega) key is
    obtain ⟨k0, n0, g0, e0, hq⟩ : ∃ k0 n0 g0 e0, nextV (nextL L key is) = .tuple #[.string k0, .int .i64 n0, .bool g0, .int .i64 e0] := by unfold nextV; split <;> exact ⟨_, _, _, _, rfl⟩
    rw [hq] at hi
    clear HP c1 c2 c4
    go_wp2_with fail
    refine hi.mono ?_
    clear hi c0 c3
    rintro e wb ⟨rfl, hb⟩
    have hi := hb.wnext (by omega) key is
    rw [hq] at hi
    have c3 : wb.cell? ⟨B, 3, none⟩ = some (.bool is) := hb.blk.2.2.2.1
    clear hb hq
    simp only
    go_wp2_with fail
    refine hi.mono ?_
    clear hi c3
    rintro e wd ⟨rfl, hb⟩
    have HR : Hid (PR w0 wd a b (m + 60)) := hb.pr (by omega)
    clear hb
    simp only
    go_wp2_with fail
    go_ret
    exact ⟨rfl, HR.out⟩
  · have hmn := many_6 (HP.out.pr (m := m) (by omega)) (by omega) nn hnn key is false
    have hrb : wq.rangeAt B 0 [.int .i64 6, .int .i64 nn, .string key, .bool is, .bool false] := fun j u hu => by
      match j, hu with
      | 0, hu => cases hu; exact c0
      | 1, hu => cases hu; exact c1
      | 2, hu => cases hu; exact c2
      | 3, hu => cases hu; exact c3
      | 4, hu => cases hu; exact c4
    clear HP c1 c2 c3 c4
    go_wp2_with (guard_target = wpList _ _ _ (Oper.mk _ (Op.load 32 _) _ _ _ _ :: _) _ _; refine wpList_load_mid rfl 32 _ rfl B 0 (by rfl) [.int .i64 6, .int .i64 nn, .string key, .bool is, .bool false] _ hrb Try.underlying32 rfl infoOp9 ?_)
    refine hmn.mono ?_
    clear hmn hrb c0
    rintro e wd ⟨rfl, hb⟩
    have HR : Hid (PR w0 wd a b (m + 60)) := hb
    clear hb
    simp only
    go_wp2_with fail
    go_ret
    exact ⟨rfl, HR.out⟩
  · have hmn := many_7 (HP.out.pr (m := m) (by omega)) (by omega) nn hnn key is false
    have hrb : wq.rangeAt B 0 [.int .i64 7, .int .i64 nn, .string key, .bool is, .bool false] := fun j u hu => by
      match j, hu with
      | 0, hu => cases hu; exact c0
      | 1, hu => cases hu; exact c1
      | 2, hu => cases hu; exact c2
      | 3, hu => cases hu; exact c3
      | 4, hu => cases hu; exact c4
    clear HP c1 c2 c3 c4
    go_wp2_with (guard_target = wpList _ _ _ (Oper.mk _ (Op.load 32 _) _ _ _ _ :: _) _ _; refine wpList_load_mid rfl 32 _ rfl B 0 (by rfl) [.int .i64 7, .int .i64 nn, .string key, .bool is, .bool false] _ hrb Try.underlying32 rfl infoOp9 ?_)
    refine hmn.mono ?_
    clear hmn hrb c0
    rintro e wd ⟨rfl, hb⟩
    have HR : Hid (PR w0 wd a b (m + 60)) := hb
    clear hb
    simp only
    go_wp2_with fail
    go_ret
    exact ⟨rfl, HR.out⟩
  · have HR : Hid (PR w0 wq a b (m + 60)) := HP.out.pr (by omega)
    clear HP c1 c2 c3 c4
    go_wp2_with fail
    go_ret
    exact ⟨rfl, HR.out⟩
set_option maxRecDepth 100000 in
set_option maxHeartbeats 8000000 in
theorem step_near {w0 w : World} {a b m : Nat} (h : PR w0 w a b m) (hm : m ≤ 79000) (kd nn : Int) (hnn : -9223372036854775808 ≤ nn ∧ nn ≤ 9223372036854775807) (key : ByteArray) (is : Bool) :
    Calls Try.prog 10 #[pt a, pt b, .agg #[.int .i64 kd, .int .i64 nn, .string key, .bool is, .bool true]] w fun e w' => e = .returned (.bool true) ∧ PR w0 w' a b (m + 60) := by
  obtain ⟨L, hL, hp⟩ := h.box ⟨kd, nn, key, is, true⟩
  obtain ⟨c0, c1, c2, c3, c4⟩ := hp.blk
  have HP : Hid (MR w0 (w.alloc (.cells #[.int .i64 kd, .int .i64 nn, .string key, .bool is, .bool true] 32)) a b w.heap.size ⟨kd, nn, key, is, true⟩ L L) := hp
  simp only at c0 c1 c2 c3 c4
  obtain ⟨lo, lc, hlc, hrc, hre⟩ : ∃ lo lc, L.length ≤ lc ∧ (w.alloc (.cells #[.int .i64 kd, .int .i64 nn, .string key, .bool is, .bool true] 32)).cell? ⟨b, 0, none⟩ = some (.slice lo L.length lc) ∧ (L = [] ∨ ∃ g, lo = some ⟨g, 0, none⟩ ∧ ∀ i (hi : i < L.length), (w.alloc (.cells #[.int .i64 kd, .int .i64 nn, .string key, .bool is, .bool true] 32)).cell? ⟨g, i * 3, none⟩ = some (.string L[i].key)) := by
    obtain ⟨ro, lv, h1, h2, _⟩ := hp
    rcases id h2.row with ⟨_, ⟨hv, hn⟩ | ⟨g, cap, cur, hv, hg, hh, hc, hm, _⟩⟩
    · have e : L = [] := List.eq_nil_of_length_eq_zero hn
      subst e hv
      exact ⟨none, 0, Nat.le_refl _, h2.cell, Or.inl rfl⟩
    · subst hv
      exact ⟨_, cap, hc, h2.cell, Or.inr ⟨g, rfl, fun i hi => (h2.ent i hi).1⟩⟩
  clear hp h
  by_cases hL0 : 0 < L.length
  · rcases hre with h0 | ⟨g, rfl, hre⟩
    · rw [h0] at hL0; simp at hL0
    have hL1 : (0 : Int) < (L.length : Int) := by omega
    have hL2 : decide ((L.length : Int) > 0) = true := decide_eq_true (by omega)
    have hpk : ∀ wx : World, Calls Try.prog 18 #[.int .i64 nn, .int .i64 L.length] wx fun e w' => e = .returned (.int .i64 (pickN nn L.length)) ∧ w' = wx := fun wx => pick9 nn L.length wx hnn hL0 (by omega)
    have hpl := pickN_lt nn L.length hL0
    generalize pickN nn L.length = p at *
    have hpc := hre p hpl
    generalize L[p].key = kk at *
    clear hre
    go_enter Try.func10, Try.ntmps10
    go_upto_if 33 with fail
    generalize hBB : w.heap.size = B at *
    generalize (w.alloc (.cells #[.int .i64 kd, .int .i64 nn, .string key, .bool is, .bool true] 32)) = wq at *
    clear hBB
    go_wp2_with fail
    go_quiet ((go_at_call 18; exact Calls.quiet_of_same (hpk _)))
    rename Nat => nq
    have hp2 := HP.out.below (w' := wq.drewN nq) ⟨rfl, rfl, rfl, Nat.le_refl _, fun _ _ => rfl⟩
    clear c0 c1 c2 c3 c4 HP hpk hpc hrc
    obtain ⟨c0, c1, c2, c3, c4⟩ := hp2.blk
    have HP : Hid (MR w0 (wq.drewN nq) a b B ⟨kd, nn, key, is, true⟩ L L) := hp2
    simp only at c0 c1 c2 c3 c4
    clear hp2
    generalize wq.drewN nq = wq2 at *
    rcases (show kd = 1 ∨ kd = 2 ∨ kd = 3 ∨ kd = 4 ∨ kd = 5 ∨ kd = 6 ∨ kd = 7 ∨ (kd ≠ 1 ∧ kd ≠ 2 ∧ kd ≠ 3 ∧ kd ≠ 4 ∧ kd ≠ 5 ∧ kd ≠ 6 ∧ kd ≠ 7) by omega) with rfl | rfl | rfl | rfl | rfl | rfl | rfl | ⟨m1, m2, m3, m4, m5, m6, m7⟩
    · have HI : Hid (∀ wx, Below wq2.heap.size wq2 wx → Calls Try.prog 14 #[pt a, .string kk, .int .i64 nn] wx fun e w' => e = .returned (.int .i64 (insO L kk nn).1) ∧ MR w0 w' a b B ⟨1, nn, key, is, true⟩ (insO L kk nn).2 L) := fun wx hb => (HP.out.below hb).tins (by omega) kk nn
      have hB0 : Below wq2.heap.size wq2 wq2 := Below.refl _ _
      have hB1 : Below wq2.heap.size wq2 wq2.drew := (Below.refl _ _).drew
      have hl2 := len_ins L kk nn
      clear HP c2 c3 c4
      go_wp2_with fail
      go_region_held_law (fun w' => w'.cell? ⟨B, 1, none⟩ = some (.int .i64 nn)) (first | exact c1 | exact S1 | exact S2)
        (first
          | (go_at_call 14; refine (HI.out _ (by assumption)).mono ?_; rintro e wb ⟨rfl, hb⟩; have S1 : wb.cell? ⟨B, 1, none⟩ = some (.int .i64 nn) := hb.blk.2.1; have HM1 : Hid (MR w0 wb a b B ⟨1, nn, key, is, true⟩ (insO L kk nn).2 L) := hb; clear hb)
          | (go_at_call 21; refine (MR.wins HM1.out (by omega) kk nn).mono ?_; rintro e wd ⟨rfl, hb⟩; have S2 : wd.cell? ⟨B, 1, none⟩ = some (.int .i64 nn) := hb.blk.2.1; have HM2 : Hid (MR w0 wd a b B ⟨1, nn, key, is, true⟩ (insO L kk nn).2 (insO L kk nn).2) := hb; clear hb))
      have HR : Hid (PR w0 wd a b (m + 60)) := MR.pr HM2.out (by omega)
      clear HM1 HM2 S1 S2 HI hB0 hB1 c0 c1
      go_wp2_with fail
      go_ret
      exact ⟨rfl, HR.out⟩
    · have hi := HP.out.tgho (by omega) kk
      have hl2 := len_gho L kk
      clear HP c1 c2 c3 c4
      go_wp2_with fail
      refine hi.mono ?_
      clear hi c0
      rintro e wb ⟨rfl, hb⟩
      have hi := hb.wgho (by omega) kk
      clear hb
      simp only
      go_wp2_with fail
      refine hi.mono ?_
      clear hi
      rintro e wd ⟨rfl, hb⟩
      have HR : Hid (PR w0 wd a b (m + 60)) := hb.pr (by omega)
      clear hb
      simp only
      go_wp2_with fail
      go_ret
      exact ⟨rfl, HR.out⟩
    · have hi := HP.out.tpur (by omega) kk
      have hl2 := len_pur L kk
      clear HP c1 c2 c3 c4
      go_wp2_with fail
      refine hi.mono ?_
      clear hi c0
      rintro e wb ⟨rfl, hb⟩
      have hi := hb.wpur (by omega) kk
      clear hb
      simp only
      go_wp2_with fail
      refine hi.mono ?_
      clear hi
      rintro e wd ⟨rfl, hb⟩
      have HR : Hid (PR w0 wd a b (m + 60)) := hb.pr (by omega)
      clear hb
      simp only
      go_wp2_with fail
      go_ret
      exact ⟨rfl, HR.out⟩
    · have hi := HP.out.tget (by omega) kk
      obtain ⟨n0, g0, e0, hq⟩ : ∃ n0 g0 e0, getV (getL L kk) = .tuple #[.int .i64 n0, .bool g0, .int .i64 e0] := by unfold getV; split <;> exact ⟨_, _, _, rfl⟩
      rw [hq] at hi
      clear HP c1 c2 c4
      go_wp2_with fail
      refine hi.mono ?_
      clear hi c0 c3
      rintro e wb ⟨rfl, hb⟩
      have hi := hb.wget (by omega) kk
      rw [hq] at hi
      have c3 : wb.cell? ⟨B, 3, none⟩ = some (.bool is) := hb.blk.2.2.2.1
      clear hb hq
      simp only
      go_wp2_with fail
      refine hi.mono ?_
      clear hi c3
      rintro e wd ⟨rfl, hb⟩
      have HR : Hid (PR w0 wd a b (m + 60)) := hb.pr (by omega)
      clear hb
      simp only
      go_wp2_with fail
      go_ret
      exact ⟨rfl, HR.out⟩
    · have hi := HP.out.tnext (by omega) kk is
      obtain ⟨k0, n0, g0, e0, hq⟩ : ∃ k0 n0 g0 e0, nextV (nextL L kk is) = .tuple #[.string k0, .int .i64 n0, .bool g0, .int .i64 e0] := by unfold nextV; split <;> exact ⟨_, _, _, _, rfl⟩
      rw [hq] at hi
      clear HP c1 c2 c4
      go_wp2_with fail
      refine hi.mono ?_
      clear hi c0 c3
      rintro e wb ⟨rfl, hb⟩
      have hi := hb.wnext (by omega) kk is
      rw [hq] at hi
      have c3 : wb.cell? ⟨B, 3, none⟩ = some (.bool is) := hb.blk.2.2.2.1
      clear hb hq
      simp only
      go_wp2_with fail
      refine hi.mono ?_
      clear hi c3
      rintro e wd ⟨rfl, hb⟩
      have HR : Hid (PR w0 wd a b (m + 60)) := hb.pr (by omega)
      clear hb
      simp only
      go_wp2_with fail
      go_ret
      exact ⟨rfl, HR.out⟩
    · have hmn := many_6 (HP.out.pr (m := m) (by omega)) (by omega) nn hnn key is true
      have hrb : wq2.rangeAt B 0 [.int .i64 6, .int .i64 nn, .string key, .bool is, .bool true] := fun j u hu => by
        match j, hu with
        | 0, hu => cases hu; exact c0
        | 1, hu => cases hu; exact c1
        | 2, hu => cases hu; exact c2
        | 3, hu => cases hu; exact c3
        | 4, hu => cases hu; exact c4
      clear HP c1 c2 c3 c4
      go_wp2_with (guard_target = wpList _ _ _ (Oper.mk _ (Op.load 32 _) _ _ _ _ :: _) _ _; refine wpList_load_mid rfl 32 _ rfl B 0 (by rfl) [.int .i64 6, .int .i64 nn, .string key, .bool is, .bool true] _ hrb Try.underlying32 rfl infoOp9 ?_)
      refine hmn.mono ?_
      clear hmn hrb c0
      rintro e wd ⟨rfl, hb⟩
      have HR : Hid (PR w0 wd a b (m + 60)) := hb
      clear hb
      simp only
      go_wp2_with fail
      go_ret
      exact ⟨rfl, HR.out⟩
    · have hmn := many_7 (HP.out.pr (m := m) (by omega)) (by omega) nn hnn key is true
      have hrb : wq2.rangeAt B 0 [.int .i64 7, .int .i64 nn, .string key, .bool is, .bool true] := fun j u hu => by
        match j, hu with
        | 0, hu => cases hu; exact c0
        | 1, hu => cases hu; exact c1
        | 2, hu => cases hu; exact c2
        | 3, hu => cases hu; exact c3
        | 4, hu => cases hu; exact c4
      clear HP c1 c2 c3 c4
      go_wp2_with (guard_target = wpList _ _ _ (Oper.mk _ (Op.load 32 _) _ _ _ _ :: _) _ _; refine wpList_load_mid rfl 32 _ rfl B 0 (by rfl) [.int .i64 7, .int .i64 nn, .string key, .bool is, .bool true] _ hrb Try.underlying32 rfl infoOp9 ?_)
      refine hmn.mono ?_
      clear hmn hrb c0
      rintro e wd ⟨rfl, hb⟩
      have HR : Hid (PR w0 wd a b (m + 60)) := hb
      clear hb
      simp only
      go_wp2_with fail
      go_ret
      exact ⟨rfl, HR.out⟩
    · have HR : Hid (PR w0 wq2 a b (m + 60)) := HP.out.pr (by omega)
      clear HP c1 c2 c3 c4
      go_wp2_with fail
      go_ret
      exact ⟨rfl, HR.out⟩
  · have hL1 : ¬ ((L.length : Int) > 0) := by omega
    have hL2 : decide ((L.length : Int) > 0) = false := decide_eq_false (by omega)
    clear hre
    go_enter Try.func10, Try.ntmps10
    go_upto_if 33 with fail
    generalize hBB : w.heap.size = B at *
    generalize (w.alloc (.cells #[.int .i64 kd, .int .i64 nn, .string key, .bool is, .bool true] 32)) = wq at *
    clear hBB
    rcases (show kd = 1 ∨ kd = 2 ∨ kd = 3 ∨ kd = 4 ∨ kd = 5 ∨ kd = 6 ∨ kd = 7 ∨ (kd ≠ 1 ∧ kd ≠ 2 ∧ kd ≠ 3 ∧ kd ≠ 4 ∧ kd ≠ 5 ∧ kd ≠ 6 ∧ kd ≠ 7) by omega) with rfl | rfl | rfl | rfl | rfl | rfl | rfl | ⟨m1, m2, m3, m4, m5, m6, m7⟩
    · have HI : Hid (∀ wx, Below wq.heap.size wq wx → Calls Try.prog 14 #[pt a, .string key, .int .i64 nn] wx fun e w' => e = .returned (.int .i64 (insO L key nn).1) ∧ MR w0 w' a b B ⟨1, nn, key, is, true⟩ (insO L key nn).2 L) := fun wx hb => (HP.out.below hb).tins (by omega) key nn
      have hB0 : Below wq.heap.size wq wq := Below.refl _ _
      have hB1 : Below wq.heap.size wq wq.drew := (Below.refl _ _).drew
      have hl2 := len_ins L key nn
      clear HP c2 c3 c4
      go_wp2_with fail
      go_region_held_law (fun w' => w'.cell? ⟨B, 1, none⟩ = some (.int .i64 nn)) (first | exact c1 | exact S1 | exact S2)
        (first
          | (go_at_call 14; refine (HI.out _ (by assumption)).mono ?_; rintro e wb ⟨rfl, hb⟩; have S1 : wb.cell? ⟨B, 1, none⟩ = some (.int .i64 nn) := hb.blk.2.1; have HM1 : Hid (MR w0 wb a b B ⟨1, nn, key, is, true⟩ (insO L key nn).2 L) := hb; clear hb)
          | (go_at_call 21; refine (MR.wins HM1.out (by omega) key nn).mono ?_; rintro e wd ⟨rfl, hb⟩; have S2 : wd.cell? ⟨B, 1, none⟩ = some (.int .i64 nn) := hb.blk.2.1; have HM2 : Hid (MR w0 wd a b B ⟨1, nn, key, is, true⟩ (insO L key nn).2 (insO L key nn).2) := hb; clear hb))
      have HR : Hid (PR w0 wd a b (m + 60)) := MR.pr HM2.out (by omega)
      clear HM1 HM2 S1 S2 HI hB0 hB1 c0 c1
      go_wp2_with fail
      go_ret
      exact ⟨rfl, HR.out⟩
    · have hi := HP.out.tgho (by omega) key
      have hl2 := len_gho L key
      clear HP c1 c2 c3 c4
      go_wp2_with fail
      refine hi.mono ?_
      clear hi c0
      rintro e wb ⟨rfl, hb⟩
      have hi := hb.wgho (by omega) key
      clear hb
      simp only
      go_wp2_with fail
      refine hi.mono ?_
      clear hi
      rintro e wd ⟨rfl, hb⟩
      have HR : Hid (PR w0 wd a b (m + 60)) := hb.pr (by omega)
      clear hb
      simp only
      go_wp2_with fail
      go_ret
      exact ⟨rfl, HR.out⟩
    · have hi := HP.out.tpur (by omega) key
      have hl2 := len_pur L key
      clear HP c1 c2 c3 c4
      go_wp2_with fail
      refine hi.mono ?_
      clear hi c0
      rintro e wb ⟨rfl, hb⟩
      have hi := hb.wpur (by omega) key
      clear hb
      simp only
      go_wp2_with fail
      refine hi.mono ?_
      clear hi
      rintro e wd ⟨rfl, hb⟩
      have HR : Hid (PR w0 wd a b (m + 60)) := hb.pr (by omega)
      clear hb
      simp only
      go_wp2_with fail
      go_ret
      exact ⟨rfl, HR.out⟩
    · have hi := HP.out.tget (by omega) key
      obtain ⟨n0, g0, e0, hq⟩ : ∃ n0 g0 e0, getV (getL L key) = .tuple #[.int .i64 n0, .bool g0, .int .i64 e0] := by unfold getV; split <;> exact ⟨_, _, _, rfl⟩
      rw [hq] at hi
      clear HP c1 c2 c4
      go_wp2_with fail
      refine hi.mono ?_
      clear hi c0 c3
      rintro e wb ⟨rfl, hb⟩
      have hi := hb.wget (by omega) key
      rw [hq] at hi
      have c3 : wb.cell? ⟨B, 3, none⟩ = some (.bool is) := hb.blk.2.2.2.1
      clear hb hq
      simp only
      go_wp2_with fail
      refine hi.mono ?_
      clear hi c3
      rintro e wd ⟨rfl, hb⟩
      have HR : Hid (PR w0 wd a b (m + 60)) := hb.pr (by omega)
      clear hb
      simp only
      go_wp2_with fail
      go_ret
      exact ⟨rfl, HR.out⟩
    · have hi := HP.out.tnext (by omega) key is
      obtain ⟨k0, n0, g0, e0, hq⟩ : ∃ k0 n0 g0 e0, nextV (nextL L key is) = .tuple #[.string k0, .int .i64 n0, .bool g0, .int .i64 e0] := by unfold nextV; split <;> exact ⟨_, _, _, _, rfl⟩
      rw [hq] at hi
      clear HP c1 c2 c4
      go_wp2_with fail
      refine hi.mono ?_
      clear hi c0 c3
      rintro e wb ⟨rfl, hb⟩
      have hi := hb.wnext (by omega) key is
      rw [hq] at hi
      have c3 : wb.cell? ⟨B, 3, none⟩ = some (.bool is) := hb.blk.2.2.2.1
      clear hb hq
      simp only
      go_wp2_with fail
      refine hi.mono ?_
      clear hi c3
      rintro e wd ⟨rfl, hb⟩
      have HR : Hid (PR w0 wd a b (m + 60)) := hb.pr (by omega)
      clear hb
      simp only
      go_wp2_with fail
      go_ret
      exact ⟨rfl, HR.out⟩
    · have hmn := many_6 (HP.out.pr (m := m) (by omega)) (by omega) nn hnn key is true
      have hrb : wq.rangeAt B 0 [.int .i64 6, .int .i64 nn, .string key, .bool is, .bool true] := fun j u hu => by
        match j, hu with
        | 0, hu => cases hu; exact c0
        | 1, hu => cases hu; exact c1
        | 2, hu => cases hu; exact c2
        | 3, hu => cases hu; exact c3
        | 4, hu => cases hu; exact c4
      clear HP c1 c2 c3 c4
      go_wp2_with (guard_target = wpList _ _ _ (Oper.mk _ (Op.load 32 _) _ _ _ _ :: _) _ _; refine wpList_load_mid rfl 32 _ rfl B 0 (by rfl) [.int .i64 6, .int .i64 nn, .string key, .bool is, .bool true] _ hrb Try.underlying32 rfl infoOp9 ?_)
      refine hmn.mono ?_
      clear hmn hrb c0
      rintro e wd ⟨rfl, hb⟩
      have HR : Hid (PR w0 wd a b (m + 60)) := hb
      clear hb
      simp only
      go_wp2_with fail
      go_ret
      exact ⟨rfl, HR.out⟩
    · have hmn := many_7 (HP.out.pr (m := m) (by omega)) (by omega) nn hnn key is true
      have hrb : wq.rangeAt B 0 [.int .i64 7, .int .i64 nn, .string key, .bool is, .bool true] := fun j u hu => by
        match j, hu with
        | 0, hu => cases hu; exact c0
        | 1, hu => cases hu; exact c1
        | 2, hu => cases hu; exact c2
        | 3, hu => cases hu; exact c3
        | 4, hu => cases hu; exact c4
      clear HP c1 c2 c3 c4
      go_wp2_with (guard_target = wpList _ _ _ (Oper.mk _ (Op.load 32 _) _ _ _ _ :: _) _ _; refine wpList_load_mid rfl 32 _ rfl B 0 (by rfl) [.int .i64 7, .int .i64 nn, .string key, .bool is, .bool true] _ hrb Try.underlying32 rfl infoOp9 ?_)
      refine hmn.mono ?_
      clear hmn hrb c0
      rintro e wd ⟨rfl, hb⟩
      have HR : Hid (PR w0 wd a b (m + 60)) := hb
      clear hb
      simp only
      go_wp2_with fail
      go_ret
      exact ⟨rfl, HR.out⟩
    · have HR : Hid (PR w0 wq a b (m + 60)) := HP.out.pr (by omega)
      clear HP c1 c2 c3 c4
      go_wp2_with fail
      go_ret
      exact ⟨rfl, HR.out⟩
end Go.Proofs.Ytfobcnmhghfanaa

/- The walk of the law PoolPlays. -/
import Derived.Test.YtpmbpadckbkglaaP7RV
import Derived.Test.YtpmbpadckbkglaaP7NB
import Derived.Test.YtpmbpadckbkglaaP7Q
import Derived.Deep.CutBlock
import Derived.Deep.DeepCutAuto
namespace Go.Proofs.Ytpmbpadckbkglaa
open Go.RowKit Go.Maps
set_option linter.unusedVariables false
set_option linter.unusedSimpArgs false

theorem ref_new7 (base : Nat) (w : World) (N : Int) (hb : base ≤ w.heap.size) : RefAt base (w.alloc (.cells #[.int .i64 N, .slice none 0 0, .slice none 0 0] 38)) (fun k => k = w.heap.size) (.pointer (some ⟨w.heap.size, 0, none⟩)) N [] [] := by
  refine ⟨_, _, _, rfl, ⟨heap_alloc_new w _, ⟨rfl, Or.inl ⟨rfl, rfl⟩⟩, ⟨rfl, Or.inl ⟨rfl, rfl⟩⟩, by simp, by simp, rfl, by simp [Value.ownBlock], by simp [Value.ownBlock], by simp [Value.ownBlock], fun k hk => ?_, by simp⟩⟩
  subst hk
  exact ⟨hb, by simp⟩
theorem rp_new (base : Nat) (w : World) (dq : Value) (first pages frames : Int) (hb : base ≤ w.heap.size) : RPIn base (w.alloc (.cells #[dq, .int .i64 first, .int .i64 pages, .int .i64 frames, .slice none 0 0, .int .u64 0, .int .i64 0, .bool false] 42)) (fun k => k = w.heap.size) w.heap.size dq (.slice none 0 0) ⟨first, pages, frames, [], 0, 0, false⟩ := by
  refine ⟨heap_alloc_new w _, ⟨rfl, Or.inl ⟨rfl, rfl⟩⟩, by simp, rfl, by simp [Value.ownBlock], by simp, fun k hk => ?_⟩
  subst hk
  exact ⟨hb, by simp⟩
theorem Ints.keep7 {w w' : World} {v : Value} {ks : List Int} (h : Ints w v ks) (hb : Below w.heap.size w w') : Ints w' v ks := by
  obtain ⟨a, c, hv, hc, hx⟩ := h
  refine ⟨a, c, hv, hc, ?_⟩
  rcases hx with hx | ⟨g, hg, hx⟩
  · exact Or.inl hx
  · exact Or.inr ⟨g, hg, fun j hj => cell_keep hb (hx j hj)⟩
theorem infoOp7 : (Try.prog.info? 45).map (·.size) = some 4 := by kernel_rfl
set_option maxRecDepth 100000 in
set_option maxHeartbeats 20000000 in
theorem poolPlays_law (sz first pages frames : Int) (v : Value) (rs : List OpP) (w : World) (hsz : -9223372036854775808 ≤ sz ∧ sz ≤ 9223372036854775807) (hfi : -9223372036854775808 ≤ first ∧ first ≤ 9223372036854775807) (hpa : -9223372036854775808 ≤ pages ∧ pages ≤ 9223372036854775807) (hfr : -9223372036854775808 ≤ frames ∧ frames ≤ 9223372036854775807) (hv : OpsP w v rs) (hok : ∀ x ∈ rs, OpPOk x) (hl : rs.length ≤ 4398046511104) :
    Calls Try.prog 3 #[.agg #[.int .i64 sz, .int .i64 first, .int .i64 pages, .int .i64 frames], v] w fun e w' => e = .returned (.bool true) ∧ Below w.heap.size w w' := by
  obtain ⟨ao, cap, rfl, hcap, hcl⟩ := hv
  have HOK : Hid (∀ x ∈ rs, OpPOk x) := hok
  have HCL : Hid (rs = [] ∨ ∃ g o, ao = some ⟨g, o, none⟩ ∧ ∀ k (h : k < rs.length), w.rangeAt g (o + k * 4) (cellsP rs[k])) := hcl
  clear hok hcl
  have h0 : Below w.heap.size w (w.alloc (.cells #[.int .i64 sz, .int .i64 first, .int .i64 pages, .int .i64 frames] 23)) := (Below.refl _ _).alloc (Nat.le_refl _) _
  have hob := heap_alloc_new w (.cells #[.int .i64 sz, .int .i64 first, .int .i64 pages, .int .i64 frames] 23)
  have HSZ : Hid ((w.alloc (.cells #[.int .i64 sz, .int .i64 first, .int .i64 pages, .int .i64 frames] 23)).heap.size = w.heap.size + 1) := by
    show (w.alloc (.cells #[.int .i64 sz, .int .i64 first, .int .i64 pages, .int .i64 frames] 23)).heap.size = w.heap.size + 1
    simp
  generalize hwo : w.alloc (.cells #[.int .i64 sz, .int .i64 first, .int .i64 pages, .int .i64 frames] 23) = wo at *
  have HX : Hid (wo.heap[w.heap.size]? = some (.cells #[.int .i64 sz, .int .i64 first, .int .i64 pages, .int .i64 frames] 23 (0, 0))) := hob
  have x0 : wo.cell? ⟨w.heap.size, 0, none⟩ = some (.int .i64 sz) := by rw [cell_of_row wo _ 0 _ _ _ hob]; rfl
  go_enter Try.func3, Try.ntmps3
  have HB00 : Hid (Below w.heap.size w wo) := h0
  clear hob h0
  go_upto_if 24 with fail
  go_cut [5] (fun v0 wx => ∃ q : Int, v0 = .int .i64 q ∧ (0 ≤ q ∧ q ≤ 9223372036854775807) ∧ wx = wo)
  case first =>
    as_aux_lemma =>
      by_cases hz0 : sz < 0
      · go_wp2_with fail
        go_meet
        case rel => exact ⟨_, rfl, by omega, rfl⟩
      · go_wp2_with fail
        go_meet
        case rel => exact ⟨_, rfl, by omega, rfl⟩
  case rest =>
  obtain ⟨q, rfl, hq, hwx⟩ := hcut
  rw [hwx]
  clear hwx x0
  obtain ⟨r, hr⟩ : ∃ r, q % 200 = r := ⟨_, rfl⟩
  have hrr : 0 ≤ r ∧ r ≤ 199 := by omega
  have hrem : Int.tmod q 200 = r := by rw [← hr]; exact Int.tmod_eq_emod_of_nonneg hq.1
  clear hr hq
  go_wp2_with fail
  refine (new_any (1 + r) wo (by omega)).mono ?_
  rintro e w1 ⟨gd, rfl, hD1, hb1⟩
  have hs1 := hb1.size
  have HD1 : Hid (DiskAt wo.heap.size w1 (fun k => wo.heap.size ≤ k ∧ k < w1.heap.size) (.pointer (some ⟨gd, 0, none⟩)) 0 ⟨1 + r, fun _ => zsec, fun _ => zsec, [], 0⟩) := hD1
  clear hD1
  go_wp2_with fail
  refine (alive_any w1).mono ?_
  rintro e w2 ⟨rfl, hb2⟩
  have hs2 := hb2.size
  have hb02 : Below wo.heap.size wo w2 := hb1.trans (hb2.mono hs1)
  obtain ⟨z, hz⟩ : ∃ z : Int, 1 + r = z := ⟨_, rfl⟩
  have HD2 : Hid (DiskAt wo.heap.size w2 (fun k => wo.heap.size ≤ k ∧ k < w1.heap.size) (.pointer (some ⟨gd, 0, none⟩)) 0 ⟨z, fun _ => zsec, fun _ => zsec, [], 0⟩) := by
    show DiskAt _ _ _ _ _ _
    rw [← hz]; exact HD1.out.keepB hb2
  have hx2 := (hb02.block _ (by have := HSZ.out; omega)).trans HX.out
  have y1 : w2.cell? ⟨w.heap.size, 1, none⟩ = some (.int .i64 first) := by rw [cell_of_row w2 _ 1 _ _ _ hx2]; rfl
  have y2 : w2.cell? ⟨w.heap.size, 2, none⟩ = some (.int .i64 pages) := by rw [cell_of_row w2 _ 2 _ _ _ hx2]; rfl
  have y3 : w2.cell? ⟨w.heap.size, 3, none⟩ = some (.int .i64 frames) := by rw [cell_of_row w2 _ 3 _ _ _ hx2]; rfl
  have HBW2 : Hid (Below w.heap.size w w2) := HB00.out.trans (hb02.mono HB00.out.size)
  clear HD1 hb1 hb2 hx2
  have HS2 : Hid (∀ nq, Calls Try.prog 10 #[.pointer (some ⟨gd, 0, none⟩)] (w2.drewN nq) fun e w' => e = .returned (.int .i64 z) ∧ w' = w2.drewN nq) := fun nq => size_any (HD2.out.keepB (below_drewN (Below.refl _ _) nq))
  by_cases hA : first < 0 ∨ frames < 1 ∨ frames > 64 ∨ pages < 1 ∨ pages > 256
  · skip
    as_aux_lemma =>
      have hnw := pnew_arg gd first pages frames w2 hA
      have hts : (decide (first < 0) = true) ∨ (decide (first < 0) = false ∧ decide (frames < 1) = true) ∨ (decide (first < 0) = false ∧ decide (frames < 1) = false ∧ decide (frames > 64) = true) ∨ (decide (first < 0) = false ∧ decide (frames < 1) = false ∧ decide (frames > 64) = false ∧ decide (pages < 1) = true) ∨ (decide (first < 0) = false ∧ decide (frames < 1) = false ∧ decide (frames > 64) = false ∧ decide (pages < 1) = false ∧ decide (pages > 256) = true) := by
        by_cases a1 : first < 0
        · exact Or.inl (by simpa using a1)
        · by_cases a2 : frames < 1
          · exact Or.inr (Or.inl ⟨by simpa using a1, by simpa using a2⟩)
          · by_cases a3 : frames > 64
            · exact Or.inr (Or.inr (Or.inl ⟨by simpa using a1, by simpa using a2, by simpa using a3⟩))
            · by_cases a4 : pages < 1
              · exact Or.inr (Or.inr (Or.inr (Or.inl ⟨by simpa using a1, by simpa using a2, by simpa using a3, by simpa using a4⟩)))
              · exact Or.inr (Or.inr (Or.inr (Or.inr ⟨by simpa using a1, by simpa using a2, by simpa using a3, by simpa using a4, by simp; omega⟩)))
      clear hA
      rcases hts with t1 | ⟨t1, t2⟩ | ⟨t1, t2, t3⟩ | ⟨t1, t2, t3, t4⟩ | ⟨t1, t2, t3, t4, t5⟩
      all_goals
        go_wp2_with (first
          | (go_at_call 9; refine hnw.mono ?_; rintro e wx ⟨rfl, hwx⟩; rw [hwx]; clear hwx wx))
        go_ret
        exact ⟨rfl, HBW2.out⟩
  · have t1 : decide (first < 0) = false := by simp; omega
    have t2 : decide (frames < 1) = false := by simp; omega
    have t3 : decide (frames > 64) = false := by simp; omega
    have t4 : decide (pages < 1) = false := by simp; omega
    have t5 : decide (pages > 256) = false := by simp; omega
    have hw1 : IntKind.i64.wrap (16 * pages) = 16 * pages := by rw [IntKind.wrap_i64]; omega
    have hw2 : IntKind.i64.wrap (z - 16 * pages) = z - 16 * pages := by rw [IntKind.wrap_i64]; omega
    by_cases hF : first > z - pages * 16
    · skip
      as_aux_lemma =>
        have hnw := pnew_range HD2.out first pages frames (by omega) (by omega) (by omega) hF
        have t6 : decide (first > z - 16 * pages) = true := by simp; omega
        have t7 : decide (z - 16 * pages < first) = true := by simp; omega
        go_wp2_with (first
          | (go_at_call 9; refine hnw.mono ?_; rintro e wx ⟨rfl, hwx⟩; rw [hwx]; clear hwx wx))
        go_quiet ((go_at_call 10; exact Calls.quiet_of_same (HS2.out _)))
        go_wp2
        go_ret
        exact ⟨rfl, below_drewN HBW2.out _⟩
    · skip
      as_aux_lemma =>
        have t6 : decide (first > z - 16 * pages) = false := by simp; omega
        have t7 : decide (z - 16 * pages < first) = false := by simp; omega
        have hnw := pd_new HD2.out first pages frames (by omega) (by omega) (by omega) (by show first ≤ z - pages * 16; omega) hb02.size
        clear HS2
        go_wp2_with fail
        refine hnw.mono ?_
        rintro e w3 ⟨rfl, hP3, hb3⟩
        have hs3 := hb3.size
        obtain ⟨gp, hgp⟩ : ∃ gp, w2.heap.size + 1 = gp := ⟨_, rfl⟩
        rw [hgp] at hP3 ⊢
        have HP3 : Hid (PD wo.heap.size w3 (fun i => w2.heap.size ≤ i ∧ i < w3.heap.size) (fun k => wo.heap.size ≤ k ∧ k < w1.heap.size) (.pointer (some ⟨gp, 0, none⟩)) (.pointer (some ⟨gd, 0, none⟩)) 0 (PS.new first pages frames) ⟨z, fun _ => zsec, fun _ => zsec, [], 0⟩) := hP3
        have hb03 : Below wo.heap.size wo w3 := hb02.trans (hb3.mono hb02.size)
        have HS3 : Hid (∀ wx, Below w3.heap.size w3 wx → Calls Try.prog 10 #[.pointer (some ⟨gd, 0, none⟩)] wx fun e w' => e = .returned (.int .i64 z) ∧ w' = wx) := fun wx hb => size_any (HP3.out.disk.keepB hb)
        have hx3 := (hb03.block _ (by have := HSZ.out; omega)).trans HX.out
        have z1 : w3.cell? ⟨w.heap.size, 1, none⟩ = some (.int .i64 first) := by rw [cell_of_row w3 _ 1 _ _ _ hx3]; rfl
        have z2 : w3.cell? ⟨w.heap.size, 2, none⟩ = some (.int .i64 pages) := by rw [cell_of_row w3 _ 2 _ _ _ hx3]; rfl
        have z3 : w3.cell? ⟨w.heap.size, 3, none⟩ = some (.int .i64 frames) := by rw [cell_of_row w3 _ 3 _ _ _ hx3]; rfl
        clear hP3 hnw y1 y2 y3 HD2 hx3
        go_wp2_with fail
        go_quiet ((go_at_call 10; exact Calls.quiet_of_same (HS3.out _ (below_drewN (Below.refl _ _) _))))
        go_wp2_with fail
        have hbd := below_drewN (Below.refl w3.heap.size w3) nq
        have hsd : (w3.drewN nq).heap.size = w3.heap.size := by simp
        have k1 := cell_keep hbd z1
        have k2 := cell_keep hbd z2
        have k3 := cell_keep hbd z3
        have HSD : Hid ((w3.drewN nq).heap.size = w3.heap.size) := hsd
        generalize hwd : w3.drewN nq = wd at *
        have HBD : Hid (Below w3.heap.size w3 wd) := hbd
        have HK : Hid (∀ wx, Below wd.heap.size wd wx → wx.cell? ⟨w.heap.size, 1, none⟩ = some (.int .i64 first) ∧ wx.cell? ⟨w.heap.size, 2, none⟩ = some (.int .i64 pages) ∧ wx.cell? ⟨w.heap.size, 3, none⟩ = some (.int .i64 frames)) := fun wx hb => ⟨cell_keep hb k1, cell_keep hb k2, cell_keep hb k3⟩
        clear z1 z2 z3 hbd hwd hsd
        go_region_held_law (fun w' => w'.cell? ⟨w.heap.size, 1, none⟩ = some (.int .i64 first) ∧ w'.cell? ⟨w.heap.size, 2, none⟩ = some (.int .i64 pages) ∧ w'.cell? ⟨w.heap.size, 3, none⟩ = some (.int .i64 frames)) (first | exact ⟨k1, k2, k3⟩ | exact HK.out _ ((Below.refl _ _).alloc (Nat.le_refl _) _) | exact HK.out _ ((Below.refl _ _).alloc (Nat.le_refl _) _).drew | exact HK.out _ (((Below.refl _ _).alloc (Nat.le_refl _) _).alloc (by simp) _) | exact HK.out _ (((Below.refl _ _).alloc (Nat.le_refl _) _).alloc (by simp) _).drew)
          (first
            | (go_at_call 10; refine (HS3.out _ (by first | exact HBD.out | exact HBD.out.drew)).mono ?_; rintro e wx ⟨rfl, hwx⟩; rw [hwx]; clear hwx wx))
        have hsd := HSD.out
        have hbw4 : Below wd.heap.size wd ((wd.alloc (.cells #[.int .i64 z, .slice none 0 0, .slice none 0 0] 38)).alloc (.cells #[.pointer (some ⟨wd.heap.size, 0, none⟩), .int .i64 first, .int .i64 pages, .int .i64 frames, .slice none 0 0, .int .u64 0, .int .i64 0, .bool false] 42)).drew := (((Below.refl _ _).alloc (Nat.le_refl _) _).alloc (by simp) _).drew
        have hRD : RefAt wo.heap.size ((wd.alloc (.cells #[.int .i64 z, .slice none 0 0, .slice none 0 0] 38)).alloc (.cells #[.pointer (some ⟨wd.heap.size, 0, none⟩), .int .i64 first, .int .i64 pages, .int .i64 frames, .slice none 0 0, .int .u64 0, .int .i64 0, .bool false] 42)).drew (fun k => k = wd.heap.size) (.pointer (some ⟨wd.heap.size, 0, none⟩)) z [] [] := (ref_new7 wo.heap.size wd z (by have := hb03.size; omega)).keepB (((Below.refl _ _).alloc (Nat.le_refl _) _).drew)
        have hRP : RPIn wo.heap.size ((wd.alloc (.cells #[.int .i64 z, .slice none 0 0, .slice none 0 0] 38)).alloc (.cells #[.pointer (some ⟨wd.heap.size, 0, none⟩), .int .i64 first, .int .i64 pages, .int .i64 frames, .slice none 0 0, .int .u64 0, .int .i64 0, .bool false] 42)).drew (fun k => k = wd.heap.size + 1) (wd.heap.size + 1) (.pointer (some ⟨wd.heap.size, 0, none⟩)) (.slice none 0 0) ⟨first, pages, frames, [], 0, 0, false⟩ := by
          have h := (rp_new wo.heap.size (wd.alloc (.cells #[.int .i64 z, .slice none 0 0, .slice none 0 0] 38)) (.pointer (some ⟨wd.heap.size, 0, none⟩)) first pages frames (by have := hb03.size; simp; omega)).keepB (Below.refl _ _).drew
          have e : (wd.alloc (.cells #[.int .i64 z, .slice none 0 0, .slice none 0 0] 38)).heap.size = wd.heap.size + 1 := by simp
          rw [e] at h
          exact h
        obtain ⟨gq, hgq⟩ : ∃ gq, wd.heap.size + 1 = gq := ⟨_, rfl⟩
        obtain ⟨dq, hdq⟩ : ∃ dq, wd.heap.size = dq := ⟨_, rfl⟩
        generalize hw4 : ((wd.alloc (.cells #[.int .i64 z, .slice none 0 0, .slice none 0 0] 38)).alloc (.cells #[.pointer (some ⟨wd.heap.size, 0, none⟩), .int .i64 first, .int .i64 pages, .int .i64 frames, .slice none 0 0, .int .u64 0, .int .i64 0, .bool false] 42)).drew = w4 at *
        have hb34 : Below w3.heap.size w3 w4 := HBD.out.trans (hbw4.mono (by omega))
        have hT4 : Two7 wo.heap.size w4 (fun i => w2.heap.size ≤ i ∧ i < w3.heap.size) (fun k => wo.heap.size ≤ k ∧ k < w1.heap.size) (fun k => k = wd.heap.size + 1) (fun k => k = wd.heap.size) (.pointer (some ⟨gp, 0, none⟩)) (.pointer (some ⟨gd, 0, none⟩)) (wd.heap.size + 1) (.pointer (some ⟨wd.heap.size, 0, none⟩)) (PS.new first pages frames) ⟨z, fun _ => zsec, fun _ => zsec, [], 0⟩ z [] ⟨first, pages, frames, [], 0, 0, false⟩ 0 := by
          refine ⟨⟨HP3.out.keepB hb34, ⟨_, hRP⟩, hRD, fun i hi hx => ?_, fun i hi hx => by omega⟩, Rel.new _ _ _, rfl, rfl, by show first + 16 * pages ≤ z; omega, by show pages ≤ 12; omega, by show (0 : Int) ≤ 0; omega, Nat.le_refl _, Nat.le_refl _⟩
          rcases hi with hi | hi <;> rcases hx with hx | hx <;> omega
        have hbw : Below wo.heap.size wo w4 := hb03.trans (hb34.mono hb03.size)
        rw [hgq] at hT4 ⊢
        rw [hdq] at hT4
        have HT4 : Hid (Two7 wo.heap.size w4 (fun i => w2.heap.size ≤ i ∧ i < w3.heap.size) (fun k => wo.heap.size ≤ k ∧ k < w1.heap.size) (fun k => k = gq) (fun k => k = dq) (.pointer (some ⟨gp, 0, none⟩)) (.pointer (some ⟨gd, 0, none⟩)) gq (.pointer (some ⟨dq, 0, none⟩)) (PS.new first pages frames) ⟨z, fun _ => zsec, fun _ => zsec, [], 0⟩ z [] ⟨first, pages, frames, [], 0, 0, false⟩ 0) := hT4
        clear hT4 hRP hRD hbw4 hb34 hb03 HK k1 k2 k3 HS3 HP3 hgq hdq hw4 hgp
        go_wp2_with fail
        go_loopw [12] (fun i wr => ∃ (k : Nat) (F G H K : Nat → Prop) (P : PS) (D : DS) (L : List EV) (R : RPS), k ≤ rs.length ∧ k ≤ 150 ∧ i = .int .i64 k ∧ Below wo.heap.size wo wr ∧ Hid (Two7 wo.heap.size wr F G H K (.pointer (some ⟨gp, 0, none⟩)) (.pointer (some ⟨gd, 0, none⟩)) gq (.pointer (some ⟨dq, 0, none⟩)) P D z L R k)) (fun i _ => 150 - (intOf i).toNat)
        case atStart => exact ⟨0, _, _, _, _, _, _, [], _, Nat.zero_le _, Nat.zero_le _, rfl, hbw, HT4⟩
        case round =>
          obtain ⟨k, F, G, H, K, P, D, L, R, hk, hk150, rfl, hbr, HT⟩ := hrel
          clear HT4 hbw
          by_cases h1 : k < rs.length ∧ k < 150
          · skip
            as_aux_lemma =>
              have t8 : decide ((k : Int) < (rs.length : Int)) = true := by simpa using h1.1
              have t9 : decide ((k : Int) < 150) = true := by simp; omega
              rcases HCL.out with h0 | ⟨g, o, rfl, hcl0⟩
              · rw [h0] at h1; simp at h1
              have r0 := hcl0 k h1.1
              have ho := HOK.out _ (List.getElem_mem h1.1)
              generalize rs[k] = x at *
              obtain ⟨Q, I, c, M⟩ := x
              obtain ⟨hoQ, hoI, hoM⟩ := ho
              simp only at hoQ hoI hoM
              have hbwr : Below w.heap.size w wr := HB00.out.trans (hbr.mono HB00.out.size)
              have hrb : wr.rangeAt g (o + k * 4) [.int .i64 Q, .int .i64 I, bv c, .int .u64 M] := fun j u hu => by
                have := r0 j u hu
                exact (hbwr.cell (World.block_lt_of_cell? w _ this)).trans this
              clear r0 hcl0
              have hst := step_any HT.out h1.2 Q I c M hoI hoM
              go_wp2_with (guard_target = wpList _ _ _ (Oper.mk _ (Op.load 45 _) _ _ _ _ :: _) _ _; refine wpList_load_mid rfl 45 _ rfl g (o + k * 4) (by rfl) [.int .i64 Q, .int .i64 I, bv c, .int .u64 M] _ hrb Try.underlying45 rfl infoOp7 ?_)
              refine hst.mono ?_
              intro e w5 hso
              obtain ⟨he, F5, G5, H5, K5, P5, D5, L5, R5, hT5, hb5⟩ := hso
              subst he
              have HT5 : Hid (Two7 wo.heap.size w5 F5 G5 H5 K5 (.pointer (some ⟨gp, 0, none⟩)) (.pointer (some ⟨gd, 0, none⟩)) gq (.pointer (some ⟨dq, 0, none⟩)) P5 D5 z L5 R5 (k + 1)) := hT5
              have hb05 : Below wo.heap.size wo w5 := hbr.trans hb5
              clear hst hT5 hrb HT hbr hbwr hb5
              go_wp2_with fail
              refine (pd_held HT5.out.two.a).mono ?_
              rintro e w6 ⟨v6, rfl, ho6, hb6⟩
              have hi6 := ints_of_own ho6
              have HT6 : Hid (Two7 wo.heap.size w6 F5 G5 H5 K5 (.pointer (some ⟨gp, 0, none⟩)) (.pointer (some ⟨gd, 0, none⟩)) gq (.pointer (some ⟨dq, 0, none⟩)) P5 D5 z L5 R5 (k + 1)) := HT5.out.keepB hb6
              have hok5 := HT5.out.two.a.ok
              have hkl : P5.keys.length ≤ 64 := by have := hok5.len; have := hok5.size; omega
              obtain ⟨np, hnp⟩ : ∃ np : Nat, P5.pages = np := ⟨P5.pages.toNat, by have := hok5.pages; omega⟩
              have hnp2 : np ≤ 256 := by have := hok5.pages; omega
              obtain ⟨vL6, hr6⟩ := HT6.out.two.r
              have hhd := refHeld_any hr6 (by have := HT6.out.len; omega) np (by rw [HT6.out.rel.pages]; exact hnp) hnp2
              rw [HT6.out.rel.held hok5 hnp] at hhd
              have hb06 : Below wo.heap.size wo w6 := hb05.trans (hb6.mono hb05.size)
              clear ho6 HT5 hr6
              go_wp2_with fail
              refine hhd.mono ?_
              rintro e w7 ⟨v7, rfl, ho7, hb7⟩
              have hi7 := ints_of_own ho7
              have hsi := sameInts_any (Ints.keep7 hi6 hb7) hi7 (by omega) (by omega)
              rw [decide_eq_true rfl] at hsi
              clear hhd ho7
              go_wp2_with fail
              refine hsi.mono ?_
              rintro e w8 ⟨rfl, hb8⟩
              have HT8 : Hid (Two7 wo.heap.size w8 F5 G5 H5 K5 (.pointer (some ⟨gp, 0, none⟩)) (.pointer (some ⟨gd, 0, none⟩)) gq (.pointer (some ⟨dq, 0, none⟩)) P5 D5 z L5 R5 (k + 1)) := (HT6.out.keepB hb7).keepB hb8
              have hb08 : Below wo.heap.size wo w8 := hb06.trans ((hb7.trans (hb8.mono hb7.size)).mono hb06.size)
              clear HT6 hi6 hi7 hsi hb6 hb7 hb8
              go_wp2
              go_roundw
              case rel => exact ⟨k + 1, F5, G5, H5, K5, P5, D5, L5, R5, by omega, by omega, by go_num, hb08, HT8⟩
              case measure => simp [intOf]; omega
          · skip
            as_aux_lemma =>
              have hsz0 := HT.out.size
              have hzz : 0 ≤ z ∧ z ≤ 200 := by omega
              by_cases h2 : k < rs.length
              · have h3 : ¬ k < 150 := fun h => h1 ⟨h2, h⟩
                have t8 : decide ((k : Int) < (rs.length : Int)) = true := by simpa using h2
                have t9 : decide ((k : Int) < 150) = false := by simp; omega
                clear h1
                go_wp2_with fail
                go_loopw [15] (fun i wq => ∃ (j : Nat), (j : Int) ≤ z ∧ i = .int .i64 j ∧ Below wr.heap.size wr wq) (fun i _ => 201 - (intOf i).toNat)
                case atStart => exact ⟨0, by omega, rfl, Below.refl _ _⟩
                case round =>
                  rename World => wq
                  obtain ⟨j, hj, rfl, hbq⟩ := hrel
                  have HTq : Hid (Two7 wo.heap.size wq F G H K (.pointer (some ⟨gp, 0, none⟩)) (.pointer (some ⟨gd, 0, none⟩)) gq (.pointer (some ⟨dq, 0, none⟩)) P D z L R k) := HT.out.keepB hbq
                  have hsq : Calls Try.prog 10 #[.pointer (some ⟨gd, 0, none⟩)] wq fun e w' => e = .returned (.int .i64 z) ∧ w' = wq := by
                    have := size_any HTq.out.two.a.disk
                    rw [hsz0] at this
                    exact this
                  by_cases hlt : (j : Int) < z
                  · have tj : decide ((j : Int) < z) = true := by simpa using hlt
                    have hrd1 := read_any HTq.out.two.a.disk (j : Int) (by rw [hsz0]; omega)
                    go_wp2_with (go_at_call 10; refine hsq.mono ?_; rintro e wx ⟨rfl, hwx⟩; rw [hwx]; clear hwx wx)
                    refine hrd1.mono ?_
                    rintro e w5 ⟨k5, hk5, rfl, hr5, hb5⟩
                    obtain ⟨vLq, hrq⟩ := HTq.out.two.r
                    have c0 := (hrq.keepB hb5).cells.c0
                    have hrd2 := refRead_any (HTq.out.two.d.keepB hb5) (j : Int) ⟨by omega, hlt⟩
                    have e2 : rdL L (j : Int) (rdF [] (j : Int) zsec) = D.now (j : Int) := congrFun HTq.out.rd (j : Int)
                    rw [e2] at hrd2
                    have hnl : (D.now (j : Int)).length = 128 := HTq.out.two.a.disk.nowLen (j : Int)
                    clear hrq hrd1 hsq
                    go_wp2_with fail
                    refine hrd2.mono ?_
                    rintro e w6 ⟨k6, rfl, hr6, hb6⟩
                    have hsm := same7 (sl k5) (sl k6) _ _ w6 ((bytes_row hr5 hnl).keep hb6) (bytes_row hr6 hnl)
                    rw [decide_eq_true rfl] at hsm
                    have hbq6 : Below wr.heap.size wr w6 := hbq.trans ((hb5.trans (hb6.mono hb5.size)).mono hbq.size)
                    clear hr5 hr6 hrd2 c0
                    go_wp2_with (go_at_call 17; refine hsm.mono ?_; rintro e wx ⟨rfl, hwx⟩; rw [hwx]; clear hwx wx)
                    go_roundw
                    case rel => exact ⟨j + 1, by omega, by go_num, hbq6⟩
                    case measure => simp [intOf]; omega
                  · have tj : decide ((j : Int) < z) = false := by simpa using hlt
                    go_wp2_with (go_at_call 10; refine hsq.mono ?_; rintro e wx ⟨rfl, hwx⟩; rw [hwx]; clear hwx wx)
                    go_ret
                    exact ⟨rfl, HB00.out.trans ((hbr.trans (hbq.mono hbr.size)).mono HB00.out.size)⟩
              · have t8 : decide ((k : Int) < (rs.length : Int)) = false := by simpa using h2
                clear h1
                go_wp2_with fail
                go_loopw [15] (fun i wq => ∃ (j : Nat), (j : Int) ≤ z ∧ i = .int .i64 j ∧ Below wr.heap.size wr wq) (fun i _ => 201 - (intOf i).toNat)
                case atStart => exact ⟨0, by omega, rfl, Below.refl _ _⟩
                case round =>
                  rename World => wq
                  obtain ⟨j, hj, rfl, hbq⟩ := hrel
                  have HTq : Hid (Two7 wo.heap.size wq F G H K (.pointer (some ⟨gp, 0, none⟩)) (.pointer (some ⟨gd, 0, none⟩)) gq (.pointer (some ⟨dq, 0, none⟩)) P D z L R k) := HT.out.keepB hbq
                  have hsq : Calls Try.prog 10 #[.pointer (some ⟨gd, 0, none⟩)] wq fun e w' => e = .returned (.int .i64 z) ∧ w' = wq := by
                    have := size_any HTq.out.two.a.disk
                    rw [hsz0] at this
                    exact this
                  by_cases hlt : (j : Int) < z
                  · have tj : decide ((j : Int) < z) = true := by simpa using hlt
                    have hrd1 := read_any HTq.out.two.a.disk (j : Int) (by rw [hsz0]; omega)
                    go_wp2_with (go_at_call 10; refine hsq.mono ?_; rintro e wx ⟨rfl, hwx⟩; rw [hwx]; clear hwx wx)
                    refine hrd1.mono ?_
                    rintro e w5 ⟨k5, hk5, rfl, hr5, hb5⟩
                    obtain ⟨vLq, hrq⟩ := HTq.out.two.r
                    have c0 := (hrq.keepB hb5).cells.c0
                    have hrd2 := refRead_any (HTq.out.two.d.keepB hb5) (j : Int) ⟨by omega, hlt⟩
                    have e2 : rdL L (j : Int) (rdF [] (j : Int) zsec) = D.now (j : Int) := congrFun HTq.out.rd (j : Int)
                    rw [e2] at hrd2
                    have hnl : (D.now (j : Int)).length = 128 := HTq.out.two.a.disk.nowLen (j : Int)
                    clear hrq hrd1 hsq
                    go_wp2_with fail
                    refine hrd2.mono ?_
                    rintro e w6 ⟨k6, rfl, hr6, hb6⟩
                    have hsm := same7 (sl k5) (sl k6) _ _ w6 ((bytes_row hr5 hnl).keep hb6) (bytes_row hr6 hnl)
                    rw [decide_eq_true rfl] at hsm
                    have hbq6 : Below wr.heap.size wr w6 := hbq.trans ((hb5.trans (hb6.mono hb5.size)).mono hbq.size)
                    clear hr5 hr6 hrd2 c0
                    go_wp2_with (go_at_call 17; refine hsm.mono ?_; rintro e wx ⟨rfl, hwx⟩; rw [hwx]; clear hwx wx)
                    go_roundw
                    case rel => exact ⟨j + 1, by omega, by go_num, hbq6⟩
                    case measure => simp [intOf]; omega
                  · have tj : decide ((j : Int) < z) = false := by simpa using hlt
                    go_wp2_with (go_at_call 10; refine hsq.mono ?_; rintro e wx ⟨rfl, hwx⟩; rw [hwx]; clear hwx wx)
                    go_ret
                    exact ⟨rfl, HB00.out.trans ((hbr.trans (hbq.mono hbr.size)).mono HB00.out.size)⟩
end Go.Proofs.Ytpmbpadckbkglaa

/- Two trees as they lie are one tree: the document's Same. -/
import Derived.Test.YtaenpacfbheppaaGreatDoorM14G
import Derived.Test.YtaenpacfbheppaaGreatDoorC13
import Derived.Lib.QuietBelow
set_option maxHeartbeats 16000000
set_option maxRecDepth 100000
set_option linter.unusedVariables false
set_option linter.unusedSimpArgs false
namespace Go.Proofs.YtaenpacfbheppaaGreatDoor
open Go.RowKit Go.Sort

theorem TV.len {P : Nat → Prop} {w : World} {ao : Option Addr} {cap : Nat} {t : Tr} (h : TV P w ao cap t) : t.L.length ≤ 9223372036854775807 := by
  cases h with
  | leaf => simp [Tr.L]
  | row g cap op s n L kids hP hlt h0 hcap hl cells sub =>
    have := hcap.1
    have := hcap.2
    show L.length ≤ _
    unfold maxLen at this
    omega
theorem size_kid {t : Tr} {i : Nat} (h : i < t.L.length) : SizeOf.sizeOf t.L[i] < SizeOf.sizeOf t := by
  have h1 := List.sizeOf_lt_of_mem (List.getElem_mem h)
  cases t with
  | mk o s n L => simp only [Tr.L, Tr.mk.sizeOf_spec] at h1 ⊢; omega
theorem q_same {P Q : Nat → Prop} : ∀ (m : Nat) {w : World} {ao1 ao2 : Option Addr} {c1 c2 : Nat} {t : Tr}, SizeOf.sizeOf t < m → TV P w ao1 c1 t → TV Q w ao2 c2 t →
    Calls Tryz.prog 6 #[nv t.op t.s t.n ao1 t.L.length c1, nv t.op t.s t.n ao2 t.L.length c2] w fun e w' => e = .returned (.bool true) ∧ Below w.heap.size w w'
  | 0, _, _, _, _, _, _, h, _, _ => absurd h (by omega)
  | m + 1, w, ao1, ao2, c1, c2, t, hm, T1, T2 => by
    have IH := @q_same P Q m
    have hlen := T1.len
    obtain ⟨w1, hw1⟩ : ∃ w1, w.alloc (.cells #[.string ⟨t.op.toArray⟩, .string ⟨t.s.toArray⟩, .int .i64 t.n, .slice ao1 t.L.length c1] 24) = w1 := ⟨_, rfl⟩
    obtain ⟨w2, hw2⟩ : ∃ w2, w1.alloc (.cells #[.string ⟨t.op.toArray⟩, .string ⟨t.s.toArray⟩, .int .i64 t.n, .slice ao2 t.L.length c2] 24) = w2 := ⟨_, rfl⟩
    have hs1 : w1.heap.size = w.heap.size + 1 := by rw [← hw1]; simp
    have hs2 : w2.heap.size = w.heap.size + 2 := by rw [← hw2]; simp [hs1]
    have B1 : Below w1.heap.size w1 w2 := by rw [← hw2]; exact (Below.refl _ _).alloc (Nat.le_refl _) _
    have B0 : Below w.heap.size w w2 := by
      have : Below w.heap.size w w1 := by rw [← hw1]; exact (Below.refl _ _).alloc (Nat.le_refl _) _
      exact this.trans (B1.mono (by omega))
    have X1 : Hid (∀ W, Below w1.heap.size w1 W → _) := fun W hW => box4 w (.string ⟨t.op.toArray⟩) (.string ⟨t.s.toArray⟩) (.int .i64 t.n) (.slice ao1 t.L.length c1) 24 W (by rw [hw1]; exact hW)
    have X2 : Hid (∀ W, Below w2.heap.size w2 W → _) := fun W hW => box4 w1 (.string ⟨t.op.toArray⟩) (.string ⟨t.s.toArray⟩) (.int .i64 t.n) (.slice ao2 t.L.length c2) 24 W (by rw [hw2]; exact hW)
    have HK : Hid (∀ W, Below w2.heap.size w2 W → ∀ i (h : i < t.L.length), ∃ g1 a1 d1 g2 a2 d2, ao1 = some ⟨g1, 0, none⟩ ∧ ao2 = some ⟨g2, 0, none⟩ ∧ t.L.length ≤ c1 ∧ t.L.length ≤ c2 ∧ W.cell? ⟨g1, i * 4, none⟩ = some (.string ⟨t.L[i].op.toArray⟩) ∧ W.cell? ⟨g1, i * 4 + 1, none⟩ = some (.string ⟨t.L[i].s.toArray⟩) ∧ W.cell? ⟨g1, i * 4 + 2, none⟩ = some (.int .i64 t.L[i].n) ∧ W.cell? ⟨g1, i * 4 + 3, none⟩ = some (.slice a1 t.L[i].L.length d1)
        ∧ W.cell? ⟨g2, i * 4, none⟩ = some (.string ⟨t.L[i].op.toArray⟩) ∧ W.cell? ⟨g2, i * 4 + 1, none⟩ = some (.string ⟨t.L[i].s.toArray⟩) ∧ W.cell? ⟨g2, i * 4 + 2, none⟩ = some (.int .i64 t.L[i].n) ∧ W.cell? ⟨g2, i * 4 + 3, none⟩ = some (.slice a2 t.L[i].L.length d2)
        ∧ ∀ W', Below W.heap.size W W' → Calls Tryz.prog 6 #[nv t.L[i].op t.L[i].s t.L[i].n a1 t.L[i].L.length d1, nv t.L[i].op t.L[i].s t.L[i].n a2 t.L[i].L.length d2] W' fun e w' => e = .returned (.bool true) ∧ Below W'.heap.size W' w') := fun W hW i h => by
      have hB : Below w.heap.size w W := B0.trans (hW.mono (by omega))
      obtain ⟨g1, a1, d1, e1, _, _, k1, x0, x1, x2, x3, tv1⟩ := (T1.keepB hB).part (List.getElem?_eq_getElem h)
      obtain ⟨g2, a2, d2, e2, _, _, k2, y0, y1, y2, y3, tv2⟩ := (T2.keepB hB).part (List.getElem?_eq_getElem h)
      exact ⟨g1, a1, d1, g2, a2, d2, e1, e2, k1, k2, x0, x1, x2, x3, y0, y1, y2, y3, fun W' h' => IH (by have := size_kid h; omega) (tv1.keepB h') (tv2.keepB h')⟩
    have HB0 := hidk B0
    have HB1 := hidk B1
    obtain ⟨z0, z1, z2, z3⟩ := X1.out w2 B1
    obtain ⟨v0, v1, v2, v3⟩ := X2.out w2 (Below.refl _ _)
    clear IH T1 T2 B0 B1 hs1 hs2
    generalize ht : t.L = L at *
    generalize t.op = op at *
    generalize t.s = s at *
    generalize t.n = n at *
    clear ht
    go_enter Tryz.func6, Tryz.ntmps6
    go_wp2_with fail
    go_loopw [5] (fun x wr => ∃ i : Nat, x = .int .i64 i ∧ i ≤ L.length ∧ Hid (Below w2.heap.size w2 wr)) (fun x _ => L.length - (intOf x).toNat)
    case atStart => exact ⟨0, rfl, Nat.zero_le _, Below.refl _ _⟩
    case round =>
      rename World => wr
      obtain ⟨i, rfl, hi, HB⟩ := hrel
      have hB1 : Below w1.heap.size w1 wr := HB1.out.trans (HB.out.mono HB1.out.size)
      obtain ⟨z0, z1, z2, z3⟩ := X1.out wr hB1
      obtain ⟨v0, v1, v2, v3⟩ := X2.out wr HB.out
      by_cases hlt : i < L.length
      · have tl : (i : Int) < (L.length : Int) := by omega
        obtain ⟨g1, a1, d1, g2, a2, d2, rfl, rfl, k1, k2, x0, x1, x2, x3, y0, y1, y2, y3, hc⟩ := HK.out wr HB.out i hlt
        replace hc := fun (d : Nat) (os : Array Obj) => hc _ (below_regrown wr d os)
        have z3 := fun (d : Nat) (os : Array Obj) => cell_regrown z3 d os
        have v3 := fun (d : Nat) (os : Array Obj) => cell_regrown v3 d os
        have x0 := fun (d : Nat) (os : Array Obj) => cell_regrown x0 d os
        have x1 := fun (d : Nat) (os : Array Obj) => cell_regrown x1 d os
        have x2 := fun (d : Nat) (os : Array Obj) => cell_regrown x2 d os
        have x3 := fun (d : Nat) (os : Array Obj) => cell_regrown x3 d os
        have y0 := fun (d : Nat) (os : Array Obj) => cell_regrown y0 d os
        have y1 := fun (d : Nat) (os : Array Obj) => cell_regrown y1 d os
        have y2 := fun (d : Nat) (os : Array Obj) => cell_regrown y2 d os
        have y3 := fun (d : Nat) (os : Array Obj) => cell_regrown y3 d os
        generalize L[i] = k at *
        generalize k.op = kop at *
        generalize k.s = ks at *
        generalize k.n = kn at *
        generalize k.L.length = kl at *
        go_wp2_with fail
        refine wp_region_quiet_below (by kernel_rfl) (by kernel_rfl) ?_
        repeat (go_big_quiet_step (with_reducible exact Calls.regrown_of (hc _ _)))
        refine wpQuiet_nil ?_
        intro _ hw'
        obtain ⟨⟨dq, osq⟩, hw''⟩ := hw'
        subst hw''
        have HB4 : Hid (Below w2.heap.size w2 (grow (redrawn wr dq) osq)) := HB.out.trans ((below_regrown wr dq osq).mono HB.out.size)
        clear hc x0 x1 x2 x3 y0 y1 y2 y3 z3 v3
        go_wp2_with fail
        exact ⟨⟨i + 1, by go_num, by omega, HB4⟩, by simp [intOf]; omega⟩
      · have tl : ¬ (i : Int) < (L.length : Int) := by omega
        have HE := hidk (HB0.out.trans (HB.out.mono HB0.out.size))
        go_wp2_with fail
        go_ret
        exact ⟨rfl, HE.out⟩
end Go.Proofs.YtaenpacfbheppaaGreatDoor
namespace Go.Proofs.YtaenpacfbheppaaGreatDoor
open Go.RowKit Go.Sort

theorem q_depthR {P : Nat → Prop} : ∀ (m : Nat) {w : World} {ao1 : Option Addr} {c1 : Nat} {t : Tr}, SizeOf.sizeOf t < m → TV P w ao1 c1 t →
    Calls Tryz.prog 9 #[nv t.op t.s t.n ao1 t.L.length c1] w fun e w' => e = .returned (.int .i64 t.wd) ∧ Below w.heap.size w w'
  | 0, _, _, _, _, h, _ => absurd h (by omega)
  | m + 1, w, ao1, c1, t, hm, T1 => by
    have IH := @q_depthR P m
    have hlen := T1.len
    obtain ⟨w1, hw1⟩ : ∃ w1, w.alloc (.cells #[.string ⟨t.op.toArray⟩, .string ⟨t.s.toArray⟩, .int .i64 t.n, .slice ao1 t.L.length c1] 24) = w1 := ⟨_, rfl⟩
    have hs1 : w1.heap.size = w.heap.size + 1 := by rw [← hw1]; simp
    have B0 : Below w.heap.size w w1 := by rw [← hw1]; exact (Below.refl _ _).alloc (Nat.le_refl _) _
    have X1 : Hid (∀ W, Below w1.heap.size w1 W → _) := fun W hW => box4 w (.string ⟨t.op.toArray⟩) (.string ⟨t.s.toArray⟩) (.int .i64 t.n) (.slice ao1 t.L.length c1) 24 W (by rw [hw1]; exact hW)
    have HK : Hid (∀ W, Below w1.heap.size w1 W → ∀ i (h : i < t.L.length), ∃ g1 a1 d1, ao1 = some ⟨g1, 0, none⟩ ∧ t.L.length ≤ c1 ∧ W.cell? ⟨g1, i * 4, none⟩ = some (.string ⟨t.L[i].op.toArray⟩) ∧ W.cell? ⟨g1, i * 4 + 1, none⟩ = some (.string ⟨t.L[i].s.toArray⟩) ∧ W.cell? ⟨g1, i * 4 + 2, none⟩ = some (.int .i64 t.L[i].n) ∧ W.cell? ⟨g1, i * 4 + 3, none⟩ = some (.slice a1 t.L[i].L.length d1)
        ∧ ∀ W', Below W.heap.size W W' → Calls Tryz.prog 9 #[nv t.L[i].op t.L[i].s t.L[i].n a1 t.L[i].L.length d1] W' fun e w' => e = .returned (.int .i64 t.L[i].wd) ∧ Below W'.heap.size W' w') := fun W hW i h => by
      have hB : Below w.heap.size w W := B0.trans (hW.mono (by omega))
      obtain ⟨g1, a1, d1, e1, _, _, k1, x0, x1, x2, x3, tv1⟩ := (T1.keepB hB).part (List.getElem?_eq_getElem h)
      exact ⟨g1, a1, d1, e1, k1, x0, x1, x2, x3, fun W' h' => IH (by have := size_kid h; omega) (tv1.keepB h')⟩
    have HB0 := hidk B0
    have HT : Hid (∀ i (h : i < t.L.length), wdL (t.L.take (i + 1)) = max (wdL (t.L.take i)) t.L[i].wd) := fun i h => by rw [wdL_take h, ← Tr.wd_eq]
    have HE : Hid (t.wd = IntKind.i64.wrap (1 + wdL t.L)) := Tr.wd_eq t
    obtain ⟨z0, z1, z2, z3⟩ := X1.out w1 (Below.refl _ _)
    clear IH T1 B0 hs1
    generalize t.wd = td at *
    generalize ht : t.L = L at *
    generalize t.op = op at *
    generalize t.s = s at *
    generalize t.n = n at *
    clear ht
    go_enter Tryz.func9, Tryz.ntmps9
    go_wp2_with fail
    have hlW := wdL_rg L
    go_loopw [3, 4] (fun dv x wr => ∃ i : Nat, x = .int .i64 i ∧ dv = .int .i64 (wdL (L.take i)) ∧ i ≤ L.length ∧ Hid (Below w1.heap.size w1 wr)) (fun _ x _ => L.length - (intOf x).toNat)
    case atStart => exact ⟨0, rfl, rfl, Nat.zero_le _, Below.refl _ _⟩
    case round =>
      rename World => wr
      obtain ⟨i, rfl, rfl, hi, HB⟩ := hrel
      obtain ⟨z0, z1, z2, z3⟩ := X1.out wr HB.out
      by_cases hlt : i < L.length
      · have tl : (i : Int) < (L.length : Int) := by omega
        obtain ⟨g1, a1, d1, rfl, k1, x0, x1, x2, x3, hc⟩ := HK.out wr HB.out i hlt
        have hT := HT.out i hlt
        generalize L[i] = k at *
        generalize k.wd = kw at *
        generalize k.op = kop at *
        generalize k.s = ks at *
        generalize k.n = kn at *
        generalize k.L.length = kl at *
        go_wp2_with (go_at_call 9; refine (hc _ (Below.refl _ _)).mono ?_; clear hc; rintro e w3 ⟨rfl, hb3⟩)
        go_roundw
        case rel => exact ⟨i + 1, by go_num, by rw [hT], by omega, HB.out.trans (hb3.mono HB.out.size)⟩
        case measure => simp [intOf]; omega
      · have tl : ¬ (i : Int) < (L.length : Int) := by omega
        obtain rfl : i = L.length := by omega
        rw [List.take_length]
        have HE2 := hidk (HB0.out.trans (HB.out.mono HB0.out.size))
        go_wp2_with fail
        go_ret
        have h9 : td = wrap64 (wdL L + 1) := by
          rw [HE.out, Int.add_comm]
          unfold wrap64
          rw [IntKind.wrap_i64]
        refine ⟨?_, HE2.out⟩
        rw [h9]
        rfl
end Go.Proofs.YtaenpacfbheppaaGreatDoor

/- The document's left. -/
import Derived.Test.YtggkclnnneoohaaD5W
import Derived.Deep.CutBlock
import Derived.Deep.DeepCutAuto
namespace Go.Proofs.Ytggkclnnneoohaa
open Go.RowKit Go.Maps
set_option linter.unusedVariables false
set_option linter.unusedSimpArgs false

set_option maxRecDepth 100000 in
set_option maxHeartbeats 4000000 in
theorem left_any {base : Nat} {w : World} {G : Nat → Prop} {q : Value} {N : Int} {F L : List EV} (h : RefAt base w G q N F L) (lv : Value) (l : List EV) (hlv : ERow w lv l) (hok : ∀ e ∈ l, EOk w G e) (vk : Value) (ks : List Bool) (hks : Bools w vk ks) (hlen : F.length + l.length ≤ 1000) :
    Calls Try.prog 28 #[q, lv, vk] w fun e w' => ∃ c, e = .returned (.pointer (some ⟨c, 0, none⟩)) ∧ RefAt base w' (fun k => G k ∨ w.heap.size ≤ k ∧ k < w'.heap.size) (.pointer (some ⟨c, 0, none⟩)) N (leftE ks (lastS l) l F).1 [] ∧ Below w.heap.size w w' := by
  obtain ⟨g, vF, vL, rfl, h⟩ := h
  obtain ⟨c0, c1, c2, fz⟩ := cells3 h.hg
  have HD : Hid (RefIn base w G g vF vL N F L) := h
  have hgl := (h.lo g h.gg).2
  have hbg := (h.lo g h.gg).1
  have HGl : Hid (∀ k, G k → k < w.heap.size) := fun k hk => (h.lo k hk).2
  have HOK : Hid (∀ e ∈ l, EOk w G e) := hok
  have HKS : Hid (Bools w vk ks) := hks
  obtain ⟨al, cap, rfl, hcap, hcl⟩ := hlv
  have HCL : Hid (l = [] ∨ ∃ g o, al = some ⟨g, o, none⟩ ∧ ∀ k (h : k < l.length), w.rangeAt g (o + k * 3) (cellsE l[k])) := hcl
  clear h hok hks hcl c2 fz
  go_enter Try.func28, Try.ntmps28
  go_upto_block 0 with fail
  go_cut [7, 8] (fun sv _ wx => sv = .int .i64 (lastS l) ∧ wx = w)
  case first =>
    go_wp2_with fail
    go_loopw [7, 8] (fun nv iv wr => ∃ k : Nat, k ≤ l.length ∧ iv = .int .i64 k ∧ nv = .int .i64 (lastS (l.take k)) ∧ wr = w) (fun _ iv _ => l.length - (intOf iv).toNat)
    case atStart => exact ⟨0, Nat.zero_le _, rfl, rfl, rfl⟩
    case round =>
      obtain ⟨k, hk, rfl, rfl, rfl⟩ := hrel
      by_cases h1 : k < l.length
      · rcases HCL.out with h0 | ⟨g', o, rfl, hcl⟩
        · rw [h0] at h1; simp at h1
        obtain ⟨q0, q1, q2⟩ := cells_e (hcl k h1)
        have hs := lastS_succ l k h1
        generalize l[k].sync = b at *
        clear hcl q0 q1
        cases b
        · go_wp2
          go_roundw
          case rel => exact ⟨k + 1, by omega, by go_num, by rw [hs]; simp, by first | rfl | trivial⟩
          case measure => simp [intOf]; omega
        · go_wp2
          go_roundw
          case rel => exact ⟨k + 1, by omega, by go_num, by rw [hs]; simp, by first | rfl | trivial⟩
          case measure => simp [intOf]; omega
      · obtain rfl : k = l.length := by omega
        rw [List.take_length]
        go_wp2
        go_meet
        exact ⟨rfl, rfl⟩
  case rest =>
  obtain ⟨rfl, hwc⟩ := hcut
  have hwc' := hwc.symm
  subst hwc'
  have hsafe : lastS l ≤ l.length := by have := lastS_le l l.length (Nat.le_refl _); rwa [List.take_length] at this
  generalize hS : lastS l = safe at *
  go_upto_region 8 with fail
  have hL0 : LeftIn w (w.alloc (.cells #[.int .i64 N, .slice none 0 0, .slice none 0 0] 31)) base G w.heap.size (.slice none 0 0) N [] :=
    ⟨⟨heap_alloc_new w _, World.ownsRow_nil _ _ _ _, World.ownsRow_nil _ _ _ _, (fun e he => by cases he), (fun e he => by cases he), Or.inr ⟨Nat.le_refl _, by simp⟩, (fun k hk => by cases hk), (fun k hk => by cases hk), (fun k hk => by cases hk), (fun k hk => by
      rcases hk with hk | hk
      · exact ⟨(HD.out.lo k hk).1, by have := HGl.out k hk; simp; omega⟩
      · exact ⟨by omega, hk.2⟩), by simp⟩, Nat.le_refl _, (fun k hk => by cases hk), (Below.refl _ _).alloc (Nat.le_refl _) _⟩
  obtain ⟨w1, hw1⟩ : ∃ w1, w.alloc (.cells #[.int .i64 N, .slice none 0 0, .slice none 0 0] 31) = w1 := ⟨_, rfl⟩
  rw [hw1] at hL0 ⊢
  have hs1 : w.heap.size < w1.heap.size := by rw [← hw1]; simp
  have m1 : w1.cell? ⟨g, 1, none⟩ = some vF := cell_keep hL0.below c1
  obtain ⟨o0, o1, o2, of1⟩ := cells3 hL0.ref.hg
  clear hw1
  go_cut [30] (fun _ wx => ∃ vO, LeftIn w wx base G w.heap.size vO N F)
  case first =>
    rcases own_range (c := cellsE) (n := 3) (fun x _ => cellsE_len x) HD.out.rF with ⟨hv, hF⟩ | ⟨gF, cF, hv, hcF, hbF, hgF, hrF⟩
    · subst hv
      have hsame := hL0.same hF
      refine wp_region_held_drew (S := fun w' => w'.cell? ⟨g, 1, none⟩ = some (.slice none 0 0)) (by kernel_rfl) m1 (fun hHeld => ?_)
      refine wpAnyH_take (i := 0) (v := .pointer (some ⟨w.heap.size, 0, none⟩)) rfl (by kernel_rfl) (by kernel_rfl) (by kernel_rfl) (fun _ _ _ h => h) (Or.inl ⟨by rfl, ?_⟩) hHeld ?_
      · intro wq hSw; (try obtain ⟨hA_, hB_, hC_⟩ := hSw); go_simp
      simp only [List.getElem_toArray, List.getElem_cons_zero, List.getElem_cons_succ, Act.put, List.setIfInBounds_toArray, List.set_cons_zero, List.set_cons_succ]
      refine wpAnyH_take (i := 1) (v := .pointer (some ⟨w.heap.size, 0, none⟩)) rfl (by kernel_rfl) (by kernel_rfl) (by kernel_rfl) (fun _ _ _ h => h) (Or.inl ⟨by rfl, ?_⟩) hHeld ?_
      · intro wq hSw; (try obtain ⟨hA_, hB_, hC_⟩ := hSw); go_simp
      simp only [List.getElem_toArray, List.getElem_cons_zero, List.getElem_cons_succ, Act.put, List.setIfInBounds_toArray, List.set_cons_zero, List.set_cons_succ]
      refine wpAnyH_take (i := 2) (v := .pointer (some ⟨w.heap.size, 0, none⟩)) rfl (by kernel_rfl) (by kernel_rfl) (by kernel_rfl) (fun _ _ _ h => h) (Or.inl ⟨by rfl, ?_⟩) hHeld ?_
      · intro wq hSw; (try obtain ⟨hA_, hB_, hC_⟩ := hSw); go_simp
      simp only [List.getElem_toArray, List.getElem_cons_zero, List.getElem_cons_succ, Act.put, List.setIfInBounds_toArray, List.set_cons_zero, List.set_cons_succ]
      refine wpAnyH_take (i := 3) (v := .pointer (some ⟨w.heap.size, 1, none⟩)) rfl (by kernel_rfl) (by kernel_rfl) (by kernel_rfl) (fun _ _ _ h => h) (Or.inl ⟨by rfl, ?_⟩) hHeld ?_
      · intro wq hSw; (try obtain ⟨hA_, hB_, hC_⟩ := hSw); go_simp
      simp only [List.getElem_toArray, List.getElem_cons_zero, List.getElem_cons_succ, Act.put, List.setIfInBounds_toArray, List.set_cons_zero, List.set_cons_succ]
      refine wpAnyH_take (i := 5) (v := .pointer (some ⟨g, 0, none⟩)) rfl (by kernel_rfl) (by kernel_rfl) (by kernel_rfl) (fun _ _ _ h => h) (Or.inl ⟨by rfl, ?_⟩) hHeld ?_
      · intro wq hSw; (try obtain ⟨hA_, hB_, hC_⟩ := hSw); go_simp
      simp only [List.getElem_toArray, List.getElem_cons_zero, List.getElem_cons_succ, Act.put, List.setIfInBounds_toArray, List.set_cons_zero, List.set_cons_succ]
      refine wpAnyH_take (i := 6) (v := .pointer (some ⟨g, 0, none⟩)) rfl (by kernel_rfl) (by kernel_rfl) (by kernel_rfl) (fun _ _ _ h => h) (Or.inl ⟨by rfl, ?_⟩) hHeld ?_
      · intro wq hSw; (try obtain ⟨hA_, hB_, hC_⟩ := hSw); go_simp
      simp only [List.getElem_toArray, List.getElem_cons_zero, List.getElem_cons_succ, Act.put, List.setIfInBounds_toArray, List.set_cons_zero, List.set_cons_succ]
      refine wpAnyH_take (i := 7) (v := .pointer (some ⟨g, 1, none⟩)) rfl (by kernel_rfl) (by kernel_rfl) (by kernel_rfl) (fun _ _ _ h => h) (Or.inl ⟨by rfl, ?_⟩) hHeld ?_
      · intro wq hSw; (try obtain ⟨hA_, hB_, hC_⟩ := hSw); go_simp
      simp only [List.getElem_toArray, List.getElem_cons_zero, List.getElem_cons_succ, Act.put, List.setIfInBounds_toArray, List.set_cons_zero, List.set_cons_succ]
      refine wpAnyH_take (i := 8) (v := .slice none 0 0) rfl (by kernel_rfl) (by kernel_rfl) (by kernel_rfl) (fun _ _ _ h => h) (Or.inl ⟨by rfl, ?_⟩) hHeld ?_
      · intro wq hSw; (try obtain ⟨hA_, hB_, hC_⟩ := hSw); go_simp
      simp only [List.getElem_toArray, List.getElem_cons_zero, List.getElem_cons_succ, Act.put, List.setIfInBounds_toArray, List.set_cons_zero, List.set_cons_succ]
      refine wpAnyH_ready (rs := [4]) (by kernel_rfl) (by simp) ?_
      refine AllReadyH.cons rfl (fun K hK => ?_) AllReadyH.nil
      go_simp
      refine hK.out _ _ m1 (fun hHeld => ?_)
      clear hK K
      refine wpAnyH_ready (rs := [9]) (by kernel_rfl) (by simp) ?_
      refine AllReadyH.cons rfl (fun K hK => ?_) AllReadyH.nil
      go_simp
      refine hK.out _ _ m1 (fun hHeld => ?_)
      clear hK K
      refine wpAnyH_take (i := 10) (v := .pointer (some ⟨w.heap.size, 0, none⟩)) rfl (by kernel_rfl) (by kernel_rfl) (by kernel_rfl) (fun _ _ _ h => h) (Or.inl ⟨by rfl, ?_⟩) hHeld ?_
      · intro wq hSw; (try obtain ⟨hA_, hB_, hC_⟩ := hSw); go_simp
      simp only [List.getElem_toArray, List.getElem_cons_zero, List.getElem_cons_succ, Act.put, List.setIfInBounds_toArray, List.set_cons_zero, List.set_cons_succ]
      refine wpAnyH_take (i := 11) (v := .pointer (some ⟨w.heap.size, 1, none⟩)) rfl (by kernel_rfl) (by kernel_rfl) (by kernel_rfl) (fun _ _ _ h => h) (Or.inl ⟨by rfl, ?_⟩) hHeld ?_
      · intro wq hSw; (try obtain ⟨hA_, hB_, hC_⟩ := hSw); go_simp
      simp only [List.getElem_toArray, List.getElem_cons_zero, List.getElem_cons_succ, Act.put, List.setIfInBounds_toArray, List.set_cons_zero, List.set_cons_succ]
      refine wpAnyH_ready (rs := [12]) (by kernel_rfl) (by simp) ?_
      refine AllReadyH.cons rfl (fun K hK => ?_) AllReadyH.nil
      go_simp
      refine hK.out _ _ (by show (w1.setCell ⟨w.heap.size, 1, none⟩ (.slice none 0 0)).cell? _ = _; rw [World.cell?_setCell_other _ _ _ _ (by simp <;> omega)]; exact m1) (fun hHeld => ?_)
      clear hK K
      refine wpAnyH_done (by kernel_rfl) ?_ _
      go_wp2_with fail
      go_meet
      exact ⟨_, hsame⟩
    · by_cases hF0 : F.length = 0
      · have hF : F = [] := List.eq_nil_of_length_eq_zero hF0
        have hsame := hL0.same hF
        rw [hF0] at hv
        subst hv
        refine wp_region_held_drew (S := fun w' => w'.cell? ⟨g, 1, none⟩ = some (.slice (some ⟨gF, 0, none⟩) 0 cF)) (by kernel_rfl) m1 (fun hHeld => ?_)
        refine wpAnyH_take (i := 0) (v := .pointer (some ⟨w.heap.size, 0, none⟩)) rfl (by kernel_rfl) (by kernel_rfl) (by kernel_rfl) (fun _ _ _ h => h) (Or.inl ⟨by rfl, ?_⟩) hHeld ?_
        · intro wq hSw; (try obtain ⟨hA_, hB_, hC_⟩ := hSw); go_simp
        simp only [List.getElem_toArray, List.getElem_cons_zero, List.getElem_cons_succ, Act.put, List.setIfInBounds_toArray, List.set_cons_zero, List.set_cons_succ]
        refine wpAnyH_take (i := 1) (v := .pointer (some ⟨w.heap.size, 0, none⟩)) rfl (by kernel_rfl) (by kernel_rfl) (by kernel_rfl) (fun _ _ _ h => h) (Or.inl ⟨by rfl, ?_⟩) hHeld ?_
        · intro wq hSw; (try obtain ⟨hA_, hB_, hC_⟩ := hSw); go_simp
        simp only [List.getElem_toArray, List.getElem_cons_zero, List.getElem_cons_succ, Act.put, List.setIfInBounds_toArray, List.set_cons_zero, List.set_cons_succ]
        refine wpAnyH_take (i := 2) (v := .pointer (some ⟨w.heap.size, 0, none⟩)) rfl (by kernel_rfl) (by kernel_rfl) (by kernel_rfl) (fun _ _ _ h => h) (Or.inl ⟨by rfl, ?_⟩) hHeld ?_
        · intro wq hSw; (try obtain ⟨hA_, hB_, hC_⟩ := hSw); go_simp
        simp only [List.getElem_toArray, List.getElem_cons_zero, List.getElem_cons_succ, Act.put, List.setIfInBounds_toArray, List.set_cons_zero, List.set_cons_succ]
        refine wpAnyH_take (i := 3) (v := .pointer (some ⟨w.heap.size, 1, none⟩)) rfl (by kernel_rfl) (by kernel_rfl) (by kernel_rfl) (fun _ _ _ h => h) (Or.inl ⟨by rfl, ?_⟩) hHeld ?_
        · intro wq hSw; (try obtain ⟨hA_, hB_, hC_⟩ := hSw); go_simp
        simp only [List.getElem_toArray, List.getElem_cons_zero, List.getElem_cons_succ, Act.put, List.setIfInBounds_toArray, List.set_cons_zero, List.set_cons_succ]
        refine wpAnyH_take (i := 5) (v := .pointer (some ⟨g, 0, none⟩)) rfl (by kernel_rfl) (by kernel_rfl) (by kernel_rfl) (fun _ _ _ h => h) (Or.inl ⟨by rfl, ?_⟩) hHeld ?_
        · intro wq hSw; (try obtain ⟨hA_, hB_, hC_⟩ := hSw); go_simp
        simp only [List.getElem_toArray, List.getElem_cons_zero, List.getElem_cons_succ, Act.put, List.setIfInBounds_toArray, List.set_cons_zero, List.set_cons_succ]
        refine wpAnyH_take (i := 6) (v := .pointer (some ⟨g, 0, none⟩)) rfl (by kernel_rfl) (by kernel_rfl) (by kernel_rfl) (fun _ _ _ h => h) (Or.inl ⟨by rfl, ?_⟩) hHeld ?_
        · intro wq hSw; (try obtain ⟨hA_, hB_, hC_⟩ := hSw); go_simp
        simp only [List.getElem_toArray, List.getElem_cons_zero, List.getElem_cons_succ, Act.put, List.setIfInBounds_toArray, List.set_cons_zero, List.set_cons_succ]
        refine wpAnyH_take (i := 7) (v := .pointer (some ⟨g, 1, none⟩)) rfl (by kernel_rfl) (by kernel_rfl) (by kernel_rfl) (fun _ _ _ h => h) (Or.inl ⟨by rfl, ?_⟩) hHeld ?_
        · intro wq hSw; (try obtain ⟨hA_, hB_, hC_⟩ := hSw); go_simp
        simp only [List.getElem_toArray, List.getElem_cons_zero, List.getElem_cons_succ, Act.put, List.setIfInBounds_toArray, List.set_cons_zero, List.set_cons_succ]
        refine wpAnyH_take (i := 8) (v := .slice (some ⟨gF, 0, none⟩) 0 cF) rfl (by kernel_rfl) (by kernel_rfl) (by kernel_rfl) (fun _ _ _ h => h) (Or.inl ⟨by rfl, ?_⟩) hHeld ?_
        · intro wq hSw; (try obtain ⟨hA_, hB_, hC_⟩ := hSw); go_simp
        simp only [List.getElem_toArray, List.getElem_cons_zero, List.getElem_cons_succ, Act.put, List.setIfInBounds_toArray, List.set_cons_zero, List.set_cons_succ]
        refine wpAnyH_ready (rs := [4]) (by kernel_rfl) (by simp) ?_
        refine AllReadyH.cons rfl (fun K hK => ?_) AllReadyH.nil
        go_simp
        refine hK.out _ _ m1 (fun hHeld => ?_)
        clear hK K
        refine wpAnyH_ready (rs := [9]) (by kernel_rfl) (by simp) ?_
        refine AllReadyH.cons rfl (fun K hK => ?_) AllReadyH.nil
        go_simp
        refine hK.out _ _ m1 (fun hHeld => ?_)
        clear hK K
        refine wpAnyH_take (i := 10) (v := .pointer (some ⟨w.heap.size, 0, none⟩)) rfl (by kernel_rfl) (by kernel_rfl) (by kernel_rfl) (fun _ _ _ h => h) (Or.inl ⟨by rfl, ?_⟩) hHeld ?_
        · intro wq hSw; (try obtain ⟨hA_, hB_, hC_⟩ := hSw); go_simp
        simp only [List.getElem_toArray, List.getElem_cons_zero, List.getElem_cons_succ, Act.put, List.setIfInBounds_toArray, List.set_cons_zero, List.set_cons_succ]
        refine wpAnyH_take (i := 11) (v := .pointer (some ⟨w.heap.size, 1, none⟩)) rfl (by kernel_rfl) (by kernel_rfl) (by kernel_rfl) (fun _ _ _ h => h) (Or.inl ⟨by rfl, ?_⟩) hHeld ?_
        · intro wq hSw; (try obtain ⟨hA_, hB_, hC_⟩ := hSw); go_simp
        simp only [List.getElem_toArray, List.getElem_cons_zero, List.getElem_cons_succ, Act.put, List.setIfInBounds_toArray, List.set_cons_zero, List.set_cons_succ]
        refine wpAnyH_ready (rs := [12]) (by kernel_rfl) (by simp) ?_
        refine AllReadyH.cons rfl (fun K hK => ?_) AllReadyH.nil
        go_simp
        refine hK.out _ _ (by show (w1.setCell ⟨w.heap.size, 1, none⟩ (.slice none 0 0)).cell? _ = _; rw [World.cell?_setCell_other _ _ _ _ (by simp <;> omega)]; exact m1) (fun hHeld => ?_)
        clear hK K
        refine wpAnyH_done (by kernel_rfl) ?_ _
        go_wp2_with fail
        go_meet
        exact ⟨_, hsame⟩
      · subst hv
        have HN : Hid (∀ jj u, (F.flatMap cellsE)[jj]? = some u → w1.cell? ((⟨gF, 0, none⟩ : Addr).add jj) = some u) := flat_cellsE (fun k hk => rangeAt_keep hL0.below (hrF k hk))
        have HO1 : Hid (∀ u ∈ F.flatMap cellsE, u.oneCell' = true) := fun u hu => by
          obtain ⟨x, hx, hu⟩ := List.mem_flatMap.1 hu
          exact one_cellsE x (by rcases HD.out.oF x hx with ⟨h1, _⟩ | ⟨k, h1, _⟩ <;> rw [h1] <;> rfl) u hu
        have HFL : Hid ((F.flatMap cellsE).length = F.length * 3) := flat_len cellsE 3 F (fun x _ => cellsE_len x)
        obtain ⟨i0, hi0, hz0, hz1, hz2⟩ := info_parts infoE
        clear hrF
        refine wp_region_held_drew (S := fun w' => w'.cell? ⟨g, 1, none⟩ = some (.slice (some ⟨gF, 0, none⟩) F.length cF)) (by kernel_rfl) m1 (fun hHeld => ?_)
        refine wpAnyH_take (i := 0) (v := .pointer (some ⟨w.heap.size, 0, none⟩)) rfl (by kernel_rfl) (by kernel_rfl) (by kernel_rfl) (fun _ _ _ h => h) (Or.inl ⟨by rfl, ?_⟩) hHeld ?_
        · intro wq hSw; (try obtain ⟨hA_, hB_, hC_⟩ := hSw); go_simp
        simp only [List.getElem_toArray, List.getElem_cons_zero, List.getElem_cons_succ, Act.put, List.setIfInBounds_toArray, List.set_cons_zero, List.set_cons_succ]
        refine wpAnyH_take (i := 1) (v := .pointer (some ⟨w.heap.size, 0, none⟩)) rfl (by kernel_rfl) (by kernel_rfl) (by kernel_rfl) (fun _ _ _ h => h) (Or.inl ⟨by rfl, ?_⟩) hHeld ?_
        · intro wq hSw; (try obtain ⟨hA_, hB_, hC_⟩ := hSw); go_simp
        simp only [List.getElem_toArray, List.getElem_cons_zero, List.getElem_cons_succ, Act.put, List.setIfInBounds_toArray, List.set_cons_zero, List.set_cons_succ]
        refine wpAnyH_take (i := 2) (v := .pointer (some ⟨w.heap.size, 0, none⟩)) rfl (by kernel_rfl) (by kernel_rfl) (by kernel_rfl) (fun _ _ _ h => h) (Or.inl ⟨by rfl, ?_⟩) hHeld ?_
        · intro wq hSw; (try obtain ⟨hA_, hB_, hC_⟩ := hSw); go_simp
        simp only [List.getElem_toArray, List.getElem_cons_zero, List.getElem_cons_succ, Act.put, List.setIfInBounds_toArray, List.set_cons_zero, List.set_cons_succ]
        refine wpAnyH_take (i := 3) (v := .pointer (some ⟨w.heap.size, 1, none⟩)) rfl (by kernel_rfl) (by kernel_rfl) (by kernel_rfl) (fun _ _ _ h => h) (Or.inl ⟨by rfl, ?_⟩) hHeld ?_
        · intro wq hSw; (try obtain ⟨hA_, hB_, hC_⟩ := hSw); go_simp
        simp only [List.getElem_toArray, List.getElem_cons_zero, List.getElem_cons_succ, Act.put, List.setIfInBounds_toArray, List.set_cons_zero, List.set_cons_succ]
        refine wpAnyH_take (i := 5) (v := .pointer (some ⟨g, 0, none⟩)) rfl (by kernel_rfl) (by kernel_rfl) (by kernel_rfl) (fun _ _ _ h => h) (Or.inl ⟨by rfl, ?_⟩) hHeld ?_
        · intro wq hSw; (try obtain ⟨hA_, hB_, hC_⟩ := hSw); go_simp
        simp only [List.getElem_toArray, List.getElem_cons_zero, List.getElem_cons_succ, Act.put, List.setIfInBounds_toArray, List.set_cons_zero, List.set_cons_succ]
        refine wpAnyH_take (i := 6) (v := .pointer (some ⟨g, 0, none⟩)) rfl (by kernel_rfl) (by kernel_rfl) (by kernel_rfl) (fun _ _ _ h => h) (Or.inl ⟨by rfl, ?_⟩) hHeld ?_
        · intro wq hSw; (try obtain ⟨hA_, hB_, hC_⟩ := hSw); go_simp
        simp only [List.getElem_toArray, List.getElem_cons_zero, List.getElem_cons_succ, Act.put, List.setIfInBounds_toArray, List.set_cons_zero, List.set_cons_succ]
        refine wpAnyH_take (i := 7) (v := .pointer (some ⟨g, 1, none⟩)) rfl (by kernel_rfl) (by kernel_rfl) (by kernel_rfl) (fun _ _ _ h => h) (Or.inl ⟨by rfl, ?_⟩) hHeld ?_
        · intro wq hSw; (try obtain ⟨hA_, hB_, hC_⟩ := hSw); go_simp
        simp only [List.getElem_toArray, List.getElem_cons_zero, List.getElem_cons_succ, Act.put, List.setIfInBounds_toArray, List.set_cons_zero, List.set_cons_succ]
        refine wpAnyH_take (i := 8) (v := .slice (some ⟨gF, 0, none⟩) F.length cF) rfl (by kernel_rfl) (by kernel_rfl) (by kernel_rfl) (fun _ _ _ h => h) (Or.inl ⟨by rfl, ?_⟩) hHeld ?_
        · intro wq hSw; (try obtain ⟨hA_, hB_, hC_⟩ := hSw); go_simp
        simp only [List.getElem_toArray, List.getElem_cons_zero, List.getElem_cons_succ, Act.put, List.setIfInBounds_toArray, List.set_cons_zero, List.set_cons_succ]
        refine wpAnyH_ready (rs := [4]) (by kernel_rfl) (by simp) ?_
        refine AllReadyH.cons rfl (fun K hK => ?_) AllReadyH.nil
        go_simp
        refine hK.out _ _ m1 (fun hHeld => ?_)
        clear hK K
        refine wpAnyH_ready (rs := [9]) (by kernel_rfl) (by simp) ?_
        refine AllReadyH.cons rfl (fun K hK => ?_) AllReadyH.nil
        refine step_append_lies _ rfl _ _ 29 rfl base 65 i0 _ 3 40 Try.underlying29 hi0 hz0 hz1 hz2 rfl (by decide) (.slice none 0 0) 0 [] rfl (World.ownsRow_nil _ _ _ _) ⟨gF, 0, none⟩ F.length cF (F.flatMap cellsE) rfl HFL.out HN.out HO1.out (by omega) (by unfold maxLen; omega) (by omega) (by simp; omega) w1.heap.size rfl ?_
        intro gk cap2 w4 hown hg4 hk hgk
        have hown' : OwnE base w4 (.slice (some ⟨gk, 0, none⟩) (0 + F.length) cap2) ([] ++ F) := by unfold OwnE; simpa using hown
        have HP := hL0.put (es := F) (wA := w1.drew) (Below.refl _ _).drew hg4 hown' hk HGl.out HD.out.oF (by simp; omega)
        have d1 : w4.cell? ⟨w.heap.size, 1, none⟩ = some (.slice none 0 0) := (hg4.cell_far ⟨w.heap.size, 1, none⟩ (by simp; omega) (by simp [Value.ownBlock])).trans o1
        have f1 : w4.frozen? ⟨w.heap.size, 1, none⟩ = false := by
          rw [hg4.frozen_far ⟨w.heap.size, 1, none⟩ (by simp; omega) (by simp [Value.ownBlock])]
          exact of1 1
        have d2 : w4.cell? ⟨g, 1, none⟩ = some (.slice (some ⟨gF, 0, none⟩) F.length cF) := (hg4.cell_far ⟨g, 1, none⟩ (by simp; omega) (by simp [Value.ownBlock])).trans m1
        simp only [List.getElem_toArray, List.getElem_cons_zero, List.getElem_cons_succ, Act.put, List.setIfInBounds_toArray, List.set_cons_zero, List.set_cons_succ]
        refine hK.out _ _ d2 (fun hHeld => ?_)
        clear hK K hown hown' hg4 hk
        refine wpAnyH_take (i := 10) (v := .pointer (some ⟨w.heap.size, 0, none⟩)) rfl (by kernel_rfl) (by kernel_rfl) (by kernel_rfl) (fun _ _ _ h => h) (Or.inl ⟨by rfl, ?_⟩) hHeld ?_
        · intro wq hSw; (try obtain ⟨hA_, hB_, hC_⟩ := hSw); go_simp
        simp only [List.getElem_toArray, List.getElem_cons_zero, List.getElem_cons_succ, Act.put, List.setIfInBounds_toArray, List.set_cons_zero, List.set_cons_succ]
        refine wpAnyH_take (i := 11) (v := .pointer (some ⟨w.heap.size, 1, none⟩)) rfl (by kernel_rfl) (by kernel_rfl) (by kernel_rfl) (fun _ _ _ h => h) (Or.inl ⟨by rfl, ?_⟩) hHeld ?_
        · intro wq hSw; (try obtain ⟨hA_, hB_, hC_⟩ := hSw); go_simp
        simp only [List.getElem_toArray, List.getElem_cons_zero, List.getElem_cons_succ, Act.put, List.setIfInBounds_toArray, List.set_cons_zero, List.set_cons_succ]
        refine wpAnyH_ready (rs := [12]) (by kernel_rfl) (by simp) ?_
        refine AllReadyH.cons rfl (fun K hK => ?_) AllReadyH.nil
        go_simp
        refine hK.out _ _ (by show World.cell? _ _ = _; rw [World.cell?_setCell_other _ _ _ _ (by simp <;> omega)]; exact d2) (fun hHeld => ?_)
        clear hK K
        refine wpAnyH_done (by kernel_rfl) ?_ _
        go_wp2_with fail
        go_meet
        exact ⟨_, by simpa using HP⟩
  case rest =>
  obtain ⟨vO0, hLe0⟩ := hcut
  rename World => w2
  clear hL0 m1 o0 o1 o2 of1
  go_wp2_with fail
  go_loopw [10, 11] (fun kv iv wr => ∃ (j : Nat) (vO : Value) (A : List EV) (kk : Nat), j ≤ l.length ∧ iv = .int .i64 j ∧ kv = .int .i64 kk ∧ leftE ks safe (l.take j) F = (A, kk) ∧ LeftIn w wr base G w.heap.size vO N A) (fun _ iv _ => l.length - (intOf iv).toNat)
  case atStart => exact ⟨0, vO0, F, 0, Nat.zero_le _, rfl, rfl, rfl, hLe0⟩
  case round =>
    obtain ⟨j, vO, A, kk, hj, rfl, rfl, hst, hLe⟩ := hrel
    clear hLe0 hs1
    have hlenA := leftE_len ks safe l F j hj
    rw [hst] at hlenA
    obtain ⟨hA1, hkk1⟩ : A.length ≤ F.length + j ∧ kk ≤ j := hlenA
    have hgo := (hLe.ref.lo _ hLe.ref.gg).2
    by_cases h1 : j < l.length
    · rcases HCL.out with h0 | ⟨g', o, rfl, hcl⟩
      · rw [h0] at h1; simp at h1
      have hsu := leftE_succ ks safe l F j h1
      rw [hst] at hsu
      have hxok := HOK.out _ (List.getElem_mem h1)
      have hr0 := hcl j h1
      generalize l[j] = x at *
      clear hcl
      obtain ⟨p0, p1, p2⟩ := cells_e hr0
      have hlt : g' < w.heap.size := World.block_lt_of_cell? w _ p0
      cases hsy : x.sync
      · rw [hsy] at p2
        have HQ : Hid (∀ wb, Below w.heap.size w wb → wb.cell? ⟨g', o + j * 3, none⟩ = some (.int .i64 x.i) ∧ wb.cell? ⟨g', o + j * 3 + 1, none⟩ = some x.v ∧ wb.cell? ⟨g', o + j * 3 + 2, none⟩ = some (.bool false)) := fun wb hb => ⟨(hb.cell (p := ⟨g', o + j * 3, none⟩) hlt).trans p0, (hb.cell (p := ⟨g', o + j * 3 + 1, none⟩) hlt).trans p1, (hb.cell (p := ⟨g', o + j * 3 + 2, none⟩) hlt).trans p2⟩
        obtain ⟨q0, q1, q2⟩ := HQ.out _ hLe.below
        obtain ⟨_, m1, _, of1⟩ := cells3 hLe.ref.hg
        have hA0 : Below wr.heap.size wr (wr.drew.alloc (.cells #[.int .i64 x.i, x.v, .bool false] 65)) := (Below.refl _ wr).drew.alloc (by simp) _
        have HOw : Hid (OwnE base (wr.drew.alloc (.cells #[.int .i64 x.i, x.v, .bool false] 65)) vO A) := own_of_block hLe.ref.rF (fun b hb => hA0.block b (hLe.ref.lo b (hLe.ref.gF b hb)).2)
        have m1A : (wr.drew.alloc (.cells #[.int .i64 x.i, x.v, .bool false] 65)).cell? ⟨w.heap.size, 1, none⟩ = some vO := (World.cell?_alloc_lt _ _ _ (by simp; omega)).trans m1
        have m1B : (wr.alloc (.cells #[.int .i64 x.i, x.v, .bool false] 65)).cell? ⟨w.heap.size, 1, none⟩ = some vO := (World.cell?_alloc_lt _ _ _ (by simp; omega)).trans m1
        have hcE : (cellsE x).toArray = #[.int .i64 x.i, x.v, .bool false] := by simp [cellsE, hsy]
        have hx1 : x.v.oneCell' = true := by rcases hxok with ⟨e1, _⟩ | ⟨k, e1, _⟩ <;> rw [e1] <;> rfl
        have hbw := hLe.below.size
        clear p0 p1 p2 hr0
        by_cases h2 : j < safe
        · have t2 : decide ((j : Int) < (safe : Int)) = true := by simp; omega
          have t4 : decide ((j : Int) ≥ (safe : Int)) = false := by simp; omega
          have hst' : leftE ks safe (l.take (j + 1)) F = (A ++ [x], kk) := by rw [hsu]; simp [leftStep, hsy, leftB2, h2] <;> omega
          go_wp2_with fail
          refine wp_region_held_drew (S := fun w' => w'.cell? ⟨g', o + j * 3, none⟩ = some (.int .i64 x.i) ∧ w'.cell? ⟨g', o + j * 3 + 1, none⟩ = some x.v ∧ w'.cell? ⟨g', o + j * 3 + 2, none⟩ = some (.bool false)) (by kernel_rfl) ⟨q0, q1, q2⟩ (fun hHeld => ?_)
          refine wpAnyH_take (i := 0) (v := .pointer (some ⟨w.heap.size, 0, none⟩)) rfl (by kernel_rfl) (by kernel_rfl) (by kernel_rfl) (fun _ _ _ h => h) (Or.inl ⟨by rfl, ?_⟩) hHeld ?_
          · intro wq hSw; (try obtain ⟨hA_, hB_, hC_⟩ := hSw); go_simp
          simp only [List.getElem_toArray, List.getElem_cons_zero, List.getElem_cons_succ, Act.put, List.setIfInBounds_toArray, List.set_cons_zero, List.set_cons_succ]
          refine wpAnyH_take (i := 1) (v := .pointer (some ⟨w.heap.size, 0, none⟩)) rfl (by kernel_rfl) (by kernel_rfl) (by kernel_rfl) (fun _ _ _ h => h) (Or.inl ⟨by rfl, ?_⟩) hHeld ?_
          · intro wq hSw; (try obtain ⟨hA_, hB_, hC_⟩ := hSw); go_simp
          simp only [List.getElem_toArray, List.getElem_cons_zero, List.getElem_cons_succ, Act.put, List.setIfInBounds_toArray, List.set_cons_zero, List.set_cons_succ]
          refine wpAnyH_take (i := 2) (v := .pointer (some ⟨w.heap.size, 0, none⟩)) rfl (by kernel_rfl) (by kernel_rfl) (by kernel_rfl) (fun _ _ _ h => h) (Or.inl ⟨by rfl, ?_⟩) hHeld ?_
          · intro wq hSw; (try obtain ⟨hA_, hB_, hC_⟩ := hSw); go_simp
          simp only [List.getElem_toArray, List.getElem_cons_zero, List.getElem_cons_succ, Act.put, List.setIfInBounds_toArray, List.set_cons_zero, List.set_cons_succ]
          refine wpAnyH_take (i := 3) (v := .pointer (some ⟨w.heap.size, 1, none⟩)) rfl (by kernel_rfl) (by kernel_rfl) (by kernel_rfl) (fun _ _ _ h => h) (Or.inl ⟨by rfl, ?_⟩) hHeld ?_
          · intro wq hSw; (try obtain ⟨hA_, hB_, hC_⟩ := hSw); go_simp
          simp only [List.getElem_toArray, List.getElem_cons_zero, List.getElem_cons_succ, Act.put, List.setIfInBounds_toArray, List.set_cons_zero, List.set_cons_succ]
          refine wpAnyH_take (i := 5) (v := .slice (some ⟨g', o, none⟩) l.length cap) rfl (by kernel_rfl) (by kernel_rfl) (by kernel_rfl) (fun _ _ _ h => h) (Or.inl ⟨by rfl, ?_⟩) hHeld ?_
          · intro wq hSw; (try obtain ⟨hA_, hB_, hC_⟩ := hSw); go_simp
          simp only [List.getElem_toArray, List.getElem_cons_zero, List.getElem_cons_succ, Act.put, List.setIfInBounds_toArray, List.set_cons_zero, List.set_cons_succ]
          refine wpAnyH_take (i := 6) (v := .int .i64 (j : Int)) rfl (by kernel_rfl) (by kernel_rfl) (by kernel_rfl) (fun _ _ _ h => h) (Or.inl ⟨by rfl, ?_⟩) hHeld ?_
          · intro wq hSw; (try obtain ⟨hA_, hB_, hC_⟩ := hSw); go_simp
          simp only [List.getElem_toArray, List.getElem_cons_zero, List.getElem_cons_succ, Act.put, List.setIfInBounds_toArray, List.set_cons_zero, List.set_cons_succ]
          refine wpAnyH_take (i := 7) (v := .pointer (some ⟨g', o + j * 3, none⟩)) rfl (by kernel_rfl) (by kernel_rfl) (by kernel_rfl) (fun _ _ _ h => h) (Or.inl ⟨by rfl, ?_⟩) hHeld ?_
          · intro wq hSw; (try obtain ⟨hA_, hB_, hC_⟩ := hSw); go_simp
          simp only [List.getElem_toArray, List.getElem_cons_zero, List.getElem_cons_succ, Act.put, List.setIfInBounds_toArray, List.set_cons_zero, List.set_cons_succ]
          refine wpAnyH_take (i := 8) (v := .agg #[.int .i64 x.i, x.v, .bool false]) rfl (by kernel_rfl) (by kernel_rfl) (by kernel_rfl) (fun _ _ _ h => h) (Or.inl ⟨by rfl, ?_⟩) hHeld ?_
          · intro wq hSw; (try obtain ⟨hA_, hB_, hC_⟩ := hSw); go_simp
          simp only [List.getElem_toArray, List.getElem_cons_zero, List.getElem_cons_succ, Act.put, List.setIfInBounds_toArray, List.set_cons_zero, List.set_cons_succ]
          refine wpAnyH_ready (rs := [4, 9]) (by kernel_rfl) (by simp) ?_
          refine AllReadyH.cons rfl (fun K hK => ?_) (AllReadyH.cons rfl (fun K hK => ?_) AllReadyH.nil)
          · go_simp
            refine hK.out _ _ ⟨q0, q1, q2⟩ (fun hHeld => ?_)
            clear hK K
            refine wpAnyH_ready (rs := [9]) (by kernel_rfl) (by simp) ?_
            refine AllReadyH.cons rfl (fun K hK => ?_) AllReadyH.nil
            go_simp
            refine hK.out _ _ (HQ.out _ (hLe.below.drew.alloc (by simp; omega) _)) (fun hHeld => ?_)
            clear hK K
            refine wpAnyH_ready (rs := [10]) (by kernel_rfl) (by simp) ?_
            refine AllReadyH.cons rfl (fun K hK => ?_) AllReadyH.nil
            refine step_appE _ rfl _ _ rfl base vO A rfl HOw.out x hx1 wr.heap.size rfl (by rw [hcE]; exact heap_alloc_new wr.drew _) (by omega) (by simp; omega) ?_
            intro gk cap2 w4 hown hg4 hk
            have HP := hLe.put (es := [x]) (hA0) hg4 hown hk HGl.out (fun e he => by rw [List.mem_singleton.1 he]; exact hxok) (by simp; omega)
            have d1 : w4.cell? ⟨w.heap.size, 1, none⟩ = some vO := (hg4.cell_far ⟨w.heap.size, 1, none⟩ (by simp; omega) (Ne.symm hLe.nv)).trans m1A
            have f1 : w4.frozen? ⟨w.heap.size, 1, none⟩ = false := by
              rw [hg4.frozen_far ⟨w.heap.size, 1, none⟩ (by simp; omega) (Ne.symm hLe.nv)]
              exact frozen_row ((Below.heap_alloc _ _ w.heap.size (by first | omega | (simp; omega))).trans hLe.ref.hg) 1
            have b4 : Below w.heap.size w w4 := (hLe.below.drew.alloc (by simp; omega) _).grown hg4 (by simp; omega) (fun b hb => hLe.lv b hb)
            simp only [List.getElem_toArray, List.getElem_cons_zero, List.getElem_cons_succ, Act.put, List.setIfInBounds_toArray, List.set_cons_zero, List.set_cons_succ]
            refine hK.out _ _ (HQ.out _ b4) (fun hHeld => ?_)
            clear hK K
            refine wpAnyH_take (i := 11) (v := .pointer (some ⟨w.heap.size, 0, none⟩)) rfl (by kernel_rfl) (by kernel_rfl) (by kernel_rfl) (fun _ _ _ h => h) (Or.inl ⟨by rfl, ?_⟩) hHeld ?_
            · intro wq hSw; (try obtain ⟨hA_, hB_, hC_⟩ := hSw); go_simp
            simp only [List.getElem_toArray, List.getElem_cons_zero, List.getElem_cons_succ, Act.put, List.setIfInBounds_toArray, List.set_cons_zero, List.set_cons_succ]
            refine wpAnyH_take (i := 12) (v := .pointer (some ⟨w.heap.size, 1, none⟩)) rfl (by kernel_rfl) (by kernel_rfl) (by kernel_rfl) (fun _ _ _ h => h) (Or.inl ⟨by rfl, ?_⟩) hHeld ?_
            · intro wq hSw; (try obtain ⟨hA_, hB_, hC_⟩ := hSw); go_simp
            simp only [List.getElem_toArray, List.getElem_cons_zero, List.getElem_cons_succ, Act.put, List.setIfInBounds_toArray, List.set_cons_zero, List.set_cons_succ]
            refine wpAnyH_ready (rs := [13]) (by kernel_rfl) (by simp) ?_
            refine AllReadyH.cons rfl (fun K hK => ?_) AllReadyH.nil
            go_simp
            refine hK.out _ _ (HQ.out _ HP.below) (fun hHeld => ?_)
            clear hK K
            refine wpAnyH_done (by kernel_rfl) ?_ _
            clear hown hg4 hk d1 f1 b4
            clear HOw m1 m1A m1B of1 q0 q1 q2
            go_wp2
            go_roundw
            case rel => exact ⟨j + 1, _, _, _, by omega, by go_num, rfl, hst', HP⟩
            case measure => simp [intOf]; omega
          · go_simp
            refine hK.out _ _ (HQ.out _ (hLe.below.drew.alloc (by simp; omega) _)) (fun hHeld => ?_)
            clear hK K
            refine wpAnyH_ready (rs := [4]) (by kernel_rfl) (by simp) ?_
            refine AllReadyH.cons rfl (fun K hK => ?_) AllReadyH.nil
            go_simp
            refine hK.out _ _ (HQ.out _ (hLe.below.drew.alloc (by simp; omega) _)) (fun hHeld => ?_)
            clear hK K
            refine wpAnyH_ready (rs := [10]) (by kernel_rfl) (by simp) ?_
            refine AllReadyH.cons rfl (fun K hK => ?_) AllReadyH.nil
            refine step_appE _ rfl _ _ rfl base vO A rfl HOw.out x hx1 wr.heap.size rfl (by rw [hcE]; exact heap_alloc_new wr.drew _) (by omega) (by simp; omega) ?_
            intro gk cap2 w4 hown hg4 hk
            have HP := hLe.put (es := [x]) (hA0) hg4 hown hk HGl.out (fun e he => by rw [List.mem_singleton.1 he]; exact hxok) (by simp; omega)
            have d1 : w4.cell? ⟨w.heap.size, 1, none⟩ = some vO := (hg4.cell_far ⟨w.heap.size, 1, none⟩ (by simp; omega) (Ne.symm hLe.nv)).trans m1A
            have f1 : w4.frozen? ⟨w.heap.size, 1, none⟩ = false := by
              rw [hg4.frozen_far ⟨w.heap.size, 1, none⟩ (by simp; omega) (Ne.symm hLe.nv)]
              exact frozen_row ((Below.heap_alloc _ _ w.heap.size (by first | omega | (simp; omega))).trans hLe.ref.hg) 1
            have b4 : Below w.heap.size w w4 := (hLe.below.drew.alloc (by simp; omega) _).grown hg4 (by simp; omega) (fun b hb => hLe.lv b hb)
            simp only [List.getElem_toArray, List.getElem_cons_zero, List.getElem_cons_succ, Act.put, List.setIfInBounds_toArray, List.set_cons_zero, List.set_cons_succ]
            refine hK.out _ _ (HQ.out _ b4) (fun hHeld => ?_)
            clear hK K
            refine wpAnyH_take (i := 11) (v := .pointer (some ⟨w.heap.size, 0, none⟩)) rfl (by kernel_rfl) (by kernel_rfl) (by kernel_rfl) (fun _ _ _ h => h) (Or.inl ⟨by rfl, ?_⟩) hHeld ?_
            · intro wq hSw; (try obtain ⟨hA_, hB_, hC_⟩ := hSw); go_simp
            simp only [List.getElem_toArray, List.getElem_cons_zero, List.getElem_cons_succ, Act.put, List.setIfInBounds_toArray, List.set_cons_zero, List.set_cons_succ]
            refine wpAnyH_take (i := 12) (v := .pointer (some ⟨w.heap.size, 1, none⟩)) rfl (by kernel_rfl) (by kernel_rfl) (by kernel_rfl) (fun _ _ _ h => h) (Or.inl ⟨by rfl, ?_⟩) hHeld ?_
            · intro wq hSw; (try obtain ⟨hA_, hB_, hC_⟩ := hSw); go_simp
            simp only [List.getElem_toArray, List.getElem_cons_zero, List.getElem_cons_succ, Act.put, List.setIfInBounds_toArray, List.set_cons_zero, List.set_cons_succ]
            refine wpAnyH_ready (rs := [13]) (by kernel_rfl) (by simp) ?_
            refine AllReadyH.cons rfl (fun K hK => ?_) AllReadyH.nil
            go_simp
            refine hK.out _ _ (HQ.out _ HP.below) (fun hHeld => ?_)
            clear hK K
            refine wpAnyH_done (by kernel_rfl) ?_ _
            clear hown hg4 hk d1 f1 b4
            clear HOw m1 m1A m1B of1 q0 q1 q2
            go_wp2
            go_roundw
            case rel => exact ⟨j + 1, _, _, _, by omega, by go_num, rfl, hst', HP⟩
            case measure => simp [intOf]; omega
        · have t2 : decide ((j : Int) < (safe : Int)) = false := by simp; omega
          have t4 : decide ((j : Int) ≥ (safe : Int)) = true := by simp; omega
          obtain ⟨ao', cap', hvk, hkc⟩ := bools_form (HKS.out.keep hLe.below)
          subst hvk
          by_cases h3 : kk < ks.length
          · obtain ⟨a0, rfl, hcell⟩ := hkc kk h3
            cases hB : ks.getD kk false
            · rw [hB] at hcell
              have hst' : leftE ks safe (l.take (j + 1)) F = (A, kk + 1) := by rw [hsu]; simp only [leftStep, hsy, leftB2, hB]; simp; omega
              clear hB hkc
              go_wp2
              go_roundw
              case rel => exact ⟨j + 1, vO, A, kk + 1, by omega, by go_num, by go_num, hst', hLe⟩
              case measure => simp [intOf]; omega
            · rw [hB] at hcell
              have hst' : leftE ks safe (l.take (j + 1)) F = (A ++ [x], kk + 1) := by rw [hsu]; simp only [leftStep, hsy, leftB2, hB]; simp; omega
              clear hB hkc
              go_wp2_with fail
              refine wp_region_held_drew (S := fun w' => w'.cell? ⟨g', o + j * 3, none⟩ = some (.int .i64 x.i) ∧ w'.cell? ⟨g', o + j * 3 + 1, none⟩ = some x.v ∧ w'.cell? ⟨g', o + j * 3 + 2, none⟩ = some (.bool false)) (by kernel_rfl) ⟨q0, q1, q2⟩ (fun hHeld => ?_)
              refine wpAnyH_take (i := 0) (v := .pointer (some ⟨w.heap.size, 0, none⟩)) rfl (by kernel_rfl) (by kernel_rfl) (by kernel_rfl) (fun _ _ _ h => h) (Or.inl ⟨by rfl, ?_⟩) hHeld ?_
              · intro wq hSw; (try obtain ⟨hA_, hB_, hC_⟩ := hSw); go_simp
              simp only [List.getElem_toArray, List.getElem_cons_zero, List.getElem_cons_succ, Act.put, List.setIfInBounds_toArray, List.set_cons_zero, List.set_cons_succ]
              refine wpAnyH_take (i := 1) (v := .pointer (some ⟨w.heap.size, 0, none⟩)) rfl (by kernel_rfl) (by kernel_rfl) (by kernel_rfl) (fun _ _ _ h => h) (Or.inl ⟨by rfl, ?_⟩) hHeld ?_
              · intro wq hSw; (try obtain ⟨hA_, hB_, hC_⟩ := hSw); go_simp
              simp only [List.getElem_toArray, List.getElem_cons_zero, List.getElem_cons_succ, Act.put, List.setIfInBounds_toArray, List.set_cons_zero, List.set_cons_succ]
              refine wpAnyH_take (i := 2) (v := .pointer (some ⟨w.heap.size, 0, none⟩)) rfl (by kernel_rfl) (by kernel_rfl) (by kernel_rfl) (fun _ _ _ h => h) (Or.inl ⟨by rfl, ?_⟩) hHeld ?_
              · intro wq hSw; (try obtain ⟨hA_, hB_, hC_⟩ := hSw); go_simp
              simp only [List.getElem_toArray, List.getElem_cons_zero, List.getElem_cons_succ, Act.put, List.setIfInBounds_toArray, List.set_cons_zero, List.set_cons_succ]
              refine wpAnyH_take (i := 3) (v := .pointer (some ⟨w.heap.size, 1, none⟩)) rfl (by kernel_rfl) (by kernel_rfl) (by kernel_rfl) (fun _ _ _ h => h) (Or.inl ⟨by rfl, ?_⟩) hHeld ?_
              · intro wq hSw; (try obtain ⟨hA_, hB_, hC_⟩ := hSw); go_simp
              simp only [List.getElem_toArray, List.getElem_cons_zero, List.getElem_cons_succ, Act.put, List.setIfInBounds_toArray, List.set_cons_zero, List.set_cons_succ]
              refine wpAnyH_take (i := 5) (v := .slice (some ⟨g', o, none⟩) l.length cap) rfl (by kernel_rfl) (by kernel_rfl) (by kernel_rfl) (fun _ _ _ h => h) (Or.inl ⟨by rfl, ?_⟩) hHeld ?_
              · intro wq hSw; (try obtain ⟨hA_, hB_, hC_⟩ := hSw); go_simp
              simp only [List.getElem_toArray, List.getElem_cons_zero, List.getElem_cons_succ, Act.put, List.setIfInBounds_toArray, List.set_cons_zero, List.set_cons_succ]
              refine wpAnyH_take (i := 6) (v := .int .i64 (j : Int)) rfl (by kernel_rfl) (by kernel_rfl) (by kernel_rfl) (fun _ _ _ h => h) (Or.inl ⟨by rfl, ?_⟩) hHeld ?_
              · intro wq hSw; (try obtain ⟨hA_, hB_, hC_⟩ := hSw); go_simp
              simp only [List.getElem_toArray, List.getElem_cons_zero, List.getElem_cons_succ, Act.put, List.setIfInBounds_toArray, List.set_cons_zero, List.set_cons_succ]
              refine wpAnyH_take (i := 7) (v := .pointer (some ⟨g', o + j * 3, none⟩)) rfl (by kernel_rfl) (by kernel_rfl) (by kernel_rfl) (fun _ _ _ h => h) (Or.inl ⟨by rfl, ?_⟩) hHeld ?_
              · intro wq hSw; (try obtain ⟨hA_, hB_, hC_⟩ := hSw); go_simp
              simp only [List.getElem_toArray, List.getElem_cons_zero, List.getElem_cons_succ, Act.put, List.setIfInBounds_toArray, List.set_cons_zero, List.set_cons_succ]
              refine wpAnyH_take (i := 8) (v := .agg #[.int .i64 x.i, x.v, .bool false]) rfl (by kernel_rfl) (by kernel_rfl) (by kernel_rfl) (fun _ _ _ h => h) (Or.inl ⟨by rfl, ?_⟩) hHeld ?_
              · intro wq hSw; (try obtain ⟨hA_, hB_, hC_⟩ := hSw); go_simp
              simp only [List.getElem_toArray, List.getElem_cons_zero, List.getElem_cons_succ, Act.put, List.setIfInBounds_toArray, List.set_cons_zero, List.set_cons_succ]
              refine wpAnyH_ready (rs := [4, 9]) (by kernel_rfl) (by simp) ?_
              refine AllReadyH.cons rfl (fun K hK => ?_) (AllReadyH.cons rfl (fun K hK => ?_) AllReadyH.nil)
              · go_simp
                refine hK.out _ _ ⟨q0, q1, q2⟩ (fun hHeld => ?_)
                clear hK K
                refine wpAnyH_ready (rs := [9]) (by kernel_rfl) (by simp) ?_
                refine AllReadyH.cons rfl (fun K hK => ?_) AllReadyH.nil
                go_simp
                refine hK.out _ _ (HQ.out _ (hLe.below.drew.alloc (by simp; omega) _)) (fun hHeld => ?_)
                clear hK K
                refine wpAnyH_ready (rs := [10]) (by kernel_rfl) (by simp) ?_
                refine AllReadyH.cons rfl (fun K hK => ?_) AllReadyH.nil
                refine step_appE _ rfl _ _ rfl base vO A rfl HOw.out x hx1 wr.heap.size rfl (by rw [hcE]; exact heap_alloc_new wr.drew _) (by omega) (by simp; omega) ?_
                intro gk cap2 w4 hown hg4 hk
                have HP := hLe.put (es := [x]) (hA0) hg4 hown hk HGl.out (fun e he => by rw [List.mem_singleton.1 he]; exact hxok) (by simp; omega)
                have d1 : w4.cell? ⟨w.heap.size, 1, none⟩ = some vO := (hg4.cell_far ⟨w.heap.size, 1, none⟩ (by simp; omega) (Ne.symm hLe.nv)).trans m1A
                have f1 : w4.frozen? ⟨w.heap.size, 1, none⟩ = false := by
                  rw [hg4.frozen_far ⟨w.heap.size, 1, none⟩ (by simp; omega) (Ne.symm hLe.nv)]
                  exact frozen_row ((Below.heap_alloc _ _ w.heap.size (by first | omega | (simp; omega))).trans hLe.ref.hg) 1
                have b4 : Below w.heap.size w w4 := (hLe.below.drew.alloc (by simp; omega) _).grown hg4 (by simp; omega) (fun b hb => hLe.lv b hb)
                simp only [List.getElem_toArray, List.getElem_cons_zero, List.getElem_cons_succ, Act.put, List.setIfInBounds_toArray, List.set_cons_zero, List.set_cons_succ]
                refine hK.out _ _ (HQ.out _ b4) (fun hHeld => ?_)
                clear hK K
                refine wpAnyH_take (i := 11) (v := .pointer (some ⟨w.heap.size, 0, none⟩)) rfl (by kernel_rfl) (by kernel_rfl) (by kernel_rfl) (fun _ _ _ h => h) (Or.inl ⟨by rfl, ?_⟩) hHeld ?_
                · intro wq hSw; (try obtain ⟨hA_, hB_, hC_⟩ := hSw); go_simp
                simp only [List.getElem_toArray, List.getElem_cons_zero, List.getElem_cons_succ, Act.put, List.setIfInBounds_toArray, List.set_cons_zero, List.set_cons_succ]
                refine wpAnyH_take (i := 12) (v := .pointer (some ⟨w.heap.size, 1, none⟩)) rfl (by kernel_rfl) (by kernel_rfl) (by kernel_rfl) (fun _ _ _ h => h) (Or.inl ⟨by rfl, ?_⟩) hHeld ?_
                · intro wq hSw; (try obtain ⟨hA_, hB_, hC_⟩ := hSw); go_simp
                simp only [List.getElem_toArray, List.getElem_cons_zero, List.getElem_cons_succ, Act.put, List.setIfInBounds_toArray, List.set_cons_zero, List.set_cons_succ]
                refine wpAnyH_ready (rs := [13]) (by kernel_rfl) (by simp) ?_
                refine AllReadyH.cons rfl (fun K hK => ?_) AllReadyH.nil
                go_simp
                refine hK.out _ _ (HQ.out _ HP.below) (fun hHeld => ?_)
                clear hK K
                refine wpAnyH_done (by kernel_rfl) ?_ _
                clear hown hg4 hk d1 f1 b4
                clear HOw m1 m1A m1B of1 q0 q1 q2
                go_wp2
                go_roundw
                case rel => exact ⟨j + 1, _, _, _, by omega, by go_num, by go_num, hst', HP⟩
                case measure => simp [intOf]; omega
              · go_simp
                refine hK.out _ _ (HQ.out _ (hLe.below.drew.alloc (by simp; omega) _)) (fun hHeld => ?_)
                clear hK K
                refine wpAnyH_ready (rs := [4]) (by kernel_rfl) (by simp) ?_
                refine AllReadyH.cons rfl (fun K hK => ?_) AllReadyH.nil
                go_simp
                refine hK.out _ _ (HQ.out _ (hLe.below.drew.alloc (by simp; omega) _)) (fun hHeld => ?_)
                clear hK K
                refine wpAnyH_ready (rs := [10]) (by kernel_rfl) (by simp) ?_
                refine AllReadyH.cons rfl (fun K hK => ?_) AllReadyH.nil
                refine step_appE _ rfl _ _ rfl base vO A rfl HOw.out x hx1 wr.heap.size rfl (by rw [hcE]; exact heap_alloc_new wr.drew _) (by omega) (by simp; omega) ?_
                intro gk cap2 w4 hown hg4 hk
                have HP := hLe.put (es := [x]) (hA0) hg4 hown hk HGl.out (fun e he => by rw [List.mem_singleton.1 he]; exact hxok) (by simp; omega)
                have d1 : w4.cell? ⟨w.heap.size, 1, none⟩ = some vO := (hg4.cell_far ⟨w.heap.size, 1, none⟩ (by simp; omega) (Ne.symm hLe.nv)).trans m1A
                have f1 : w4.frozen? ⟨w.heap.size, 1, none⟩ = false := by
                  rw [hg4.frozen_far ⟨w.heap.size, 1, none⟩ (by simp; omega) (Ne.symm hLe.nv)]
                  exact frozen_row ((Below.heap_alloc _ _ w.heap.size (by first | omega | (simp; omega))).trans hLe.ref.hg) 1
                have b4 : Below w.heap.size w w4 := (hLe.below.drew.alloc (by simp; omega) _).grown hg4 (by simp; omega) (fun b hb => hLe.lv b hb)
                simp only [List.getElem_toArray, List.getElem_cons_zero, List.getElem_cons_succ, Act.put, List.setIfInBounds_toArray, List.set_cons_zero, List.set_cons_succ]
                refine hK.out _ _ (HQ.out _ b4) (fun hHeld => ?_)
                clear hK K
                refine wpAnyH_take (i := 11) (v := .pointer (some ⟨w.heap.size, 0, none⟩)) rfl (by kernel_rfl) (by kernel_rfl) (by kernel_rfl) (fun _ _ _ h => h) (Or.inl ⟨by rfl, ?_⟩) hHeld ?_
                · intro wq hSw; (try obtain ⟨hA_, hB_, hC_⟩ := hSw); go_simp
                simp only [List.getElem_toArray, List.getElem_cons_zero, List.getElem_cons_succ, Act.put, List.setIfInBounds_toArray, List.set_cons_zero, List.set_cons_succ]
                refine wpAnyH_take (i := 12) (v := .pointer (some ⟨w.heap.size, 1, none⟩)) rfl (by kernel_rfl) (by kernel_rfl) (by kernel_rfl) (fun _ _ _ h => h) (Or.inl ⟨by rfl, ?_⟩) hHeld ?_
                · intro wq hSw; (try obtain ⟨hA_, hB_, hC_⟩ := hSw); go_simp
                simp only [List.getElem_toArray, List.getElem_cons_zero, List.getElem_cons_succ, Act.put, List.setIfInBounds_toArray, List.set_cons_zero, List.set_cons_succ]
                refine wpAnyH_ready (rs := [13]) (by kernel_rfl) (by simp) ?_
                refine AllReadyH.cons rfl (fun K hK => ?_) AllReadyH.nil
                go_simp
                refine hK.out _ _ (HQ.out _ HP.below) (fun hHeld => ?_)
                clear hK K
                refine wpAnyH_done (by kernel_rfl) ?_ _
                clear hown hg4 hk d1 f1 b4
                clear HOw m1 m1A m1B of1 q0 q1 q2
                go_wp2
                go_roundw
                case rel => exact ⟨j + 1, _, _, _, by omega, by go_num, by go_num, hst', HP⟩
                case measure => simp [intOf]; omega
          · have hB : ks.getD kk false = false := by rw [List.getD_eq_getElem?_getD, List.getElem?_eq_none (by omega)]; rfl
            have hst' : leftE ks safe (l.take (j + 1)) F = (A, kk + 1) := by rw [hsu]; simp only [leftStep, hsy, leftB2, hB]; simp; omega
            clear hB hkc
            go_wp2
            go_roundw
            case rel => exact ⟨j + 1, vO, A, kk + 1, by omega, by go_num, by go_num, hst', hLe⟩
            case measure => simp [intOf]; omega
      · rw [hsy] at p2
        have q2 := (hLe.below.cell (p := ⟨g', o + j * 3 + 2, none⟩) hlt).trans p2
        have hst' : leftE ks safe (l.take (j + 1)) F = (A, kk) := by rw [hsu]; simp [leftStep, hsy]
        clear p0 p1 p2 hr0
        go_wp2
        go_roundw
        case rel => exact ⟨j + 1, vO, A, kk, by omega, by go_num, rfl, hst', hLe⟩
        case measure => simp [intOf]; omega
    · obtain rfl : j = l.length := by omega
      rw [List.take_length] at hst
      go_wp2
      go_ret
      exact ⟨_, rfl, ⟨_, vO, _, rfl, by rw [hS, hst]; exact hLe.ref⟩, hLe.below⟩
end Go.Proofs.Ytggkclnnneoohaa


/- Rows of entries: one comes between others. -/
import Derived.Test.YtfobcnmhghfanaaB9RE
namespace Go.Proofs.Ytfobcnmhghfanaa
open Go.RowKit
set_option linter.unusedVariables false
set_option linter.unusedSimpArgs false

set_option maxHeartbeats 2000000 in
set_option maxRecDepth 1000000 in
/-- slices.Insert ahead of the end, in a row that has room. -/
theorem insRoomE {base : Nat} {w : World} {g n cap : Nat} {l : List E} (h : OwnE base w (.slice (some ⟨g, 0, none⟩) n cap) l) (i : Nat) (hi : i < n) (hroom : n + 1 ≤ cap) (x : E) {vb : Nat} {tv : TypeId} (hv : w.heap[vb]? = some (.cells (cE x).toArray tv (0, 0))) (hvb : vb ≠ g) (hn : n ≤ 1000) (hb : base ≤ w.heap.size) :
    Calls Try.prog 39 #[.slice (some ⟨g, 0, none⟩) n cap, .int .i64 i, .slice (some ⟨vb, 0, none⟩) 1 1] w fun e w' => InsE base w (.slice (some ⟨g, 0, none⟩) n cap) (l.take i ++ x :: l.drop i) (n + 1) e w' := by
  obtain rfl := h.len
  rcases id h with ⟨h1, ⟨hv', _⟩ | ⟨g', cap', cur, hv', hbg, hh, hc, hm, hs, hx⟩⟩
  · cases hv'
  cases hv'
  obtain ⟨i0, hi0, hz0, hz1, hz2⟩ := info_parts infoE
  have hd : ((l.drop i).flatMap cE).length = (l.length - i) * 3 := by rw [flat_len cE 3 _ (cE_len _), List.length_drop]
  have hxl : (cE x).length = 3 := rfl
  have hmax : maxLen = 9223372036854775807 := rfl
  obtain ⟨W1, hW1⟩ : ∃ W1, w.drew.setRow g (splice cur.toList ((i + 1) * 3) ((l.drop i).flatMap cE)).toArray = W1 := ⟨_, rfl⟩
  have HC1 : Hid (∀ ty c1 c2, (Builtin.copy_ #[49, 49] ty #[.slice (some ⟨g, (i + 1) * 3, none⟩) (l.length + 1 - (i + 1)) c1, .slice (some ⟨g, i * 3, none⟩) (l.length + 1 - i) c2]).run Try.prog w.drew = .ok (goInt (l.length - i : Nat)) W1) := fun ty c1 c2 => by
    have hmin : Nat.min (l.length + 1 - i) (l.length + 1 - (i + 1)) = l.length - i := by simp only [Nat.min_def]; split <;> omega
    have := run_copyZ Try.prog w.drew 49 49 ty 66 3 g ((i + 1) * 3) (l.length + 1 - (i + 1)) c1 ⟨g, i * 3, none⟩ (l.length + 1 - i) c2 cur 66 ((l.drop i).flatMap cE) Try.underlying49 sizeE hh (by rw [hmin, hd]) (row_dropE h i) (by rw [hd, hs]; omega) (cE_one _)
    rw [this, hmin, hW1]
  have hh1 : W1.heap[g]? = some (.cells (splice cur.toList ((i + 1) * 3) ((l.drop i).flatMap cE)).toArray 66 (0, 0)) := by rw [← hW1]; exact setRow_heap _ g cur _ _ _ hh
  have hv1 : W1.heap[vb]? = some (.cells (cE x).toArray tv (0, 0)) := by rw [← hW1]; exact (setRow_other _ g vb _ hvb).trans hv
  have hl1 : (splice cur.toList ((i + 1) * 3) ((l.drop i).flatMap cE)).length = cap * 3 := by
    rw [length_splice _ _ _ (by rw [hd]; simp [hs]; omega)]; simpa using hs
  obtain ⟨W2, hW2⟩ : ∃ W2, W1.setRow g (splice (splice cur.toList ((i + 1) * 3) ((l.drop i).flatMap cE)) (i * 3) (cE x)).toArray = W2 := ⟨_, rfl⟩
  have HC2 : Hid (∀ ty c1, (Builtin.copy_ #[49, 49] ty #[.slice (some ⟨g, i * 3, none⟩) (l.length + 1 - i) c1, .slice (some ⟨vb, 0, none⟩) 1 1]).run Try.prog W1 = .ok (goInt (1 : Nat)) W2) := fun ty c1 => by
    have hmin : Nat.min 1 (l.length + 1 - i) = 1 := by simp only [Nat.min_def]; split <;> omega
    have := run_copyZ Try.prog W1 49 49 ty 66 3 g (i * 3) (l.length + 1 - i) c1 ⟨vb, 0, none⟩ 1 1 _ 66 (cE x) Try.underlying49 sizeE hh1 (by rw [hmin]; rfl) (World.news_of_block hv1) (by rw [hxl]; simp [hl1]; omega) (by simpa using cE_one [x])
    rw [this, hmin, ← hW2]
  have HE : Hid (InsE base w (.slice (some ⟨g, 0, none⟩) l.length cap) (l.take i ++ x :: l.drop i) (l.length + 1) (.returned (.slice (some ⟨g, 0, none⟩) (l.length + 1) cap)) W2) := by
    obtain ⟨c1, c2⟩ := roomE x hi hroom (by simpa using hs) hx
    have hle : (l.take i ++ x :: l.drop i).length = l.length + 1 := by simp; omega
    refine .mk g cap rfl ⟨by rw [flat_len cE 3 _ (cE_len _)], Or.inr ⟨g, cap, _, by rw [hle], hbg, by rw [← hW2]; exact setRow_heap W1 g _ _ _ _ hh1, by rw [hle]; omega, hm, by simpa using c1, by rw [hle]; simpa using c2⟩⟩ ⟨?_, Or.inl rfl⟩
    exact grownBy_trans (grownBy_trans (grownBy_drew w _) (hW1 ▸ setRow_grown w.drew g _)) (hW2 ▸ setRow_grown W1 g _)
  have hov : ∀ lb cb, (callFunc 46 #[.slice (some ⟨vb, 0, none⟩) 1 1, .slice (some ⟨g, (i + 1) * 3, none⟩) lb cb]).run Try.prog w = .ok (.value (.bool false)) w := fun lb cb => by
    rw [run_callFunc_extern Try.func46 (by kernel_rfl) (by kernel_rfl) (by kernel_rfl) (e := Extern.SlicesOverlaps.overlaps #[49, 49] #[4]) (by kernel_rfl),
      Lib.run_overlaps_apart w 49 4 66 Try.underlying49 3 (by intro w; kernel_rfl) ⟨vb, 0, none⟩ ⟨g, (i + 1) * 3, none⟩ 1 1 lb cb hvb tv 66 3 cur.size (by simp [World.shape?, hv]; rfl) (by simp [World.shape?, hh]) (by rw [hs]; omega) (frozen_row hv _) (frozen_row hv _)]
    rfl
  have hw1 : IntKind.i64.wrap ((i : Int) + 1) = (i : Int) + 1 := by rw [IntKind.wrap_i64]; omega
  have hp1 : (0 : Int) ≤ (i : Int) + 1 := by omega
  have hp2 : ((i : Int) + 1).toNat = i + 1 := by omega
  have hp3 : (i : Int) ≤ (l.length : Int) := by omega
  have hp4 : ¬ (cap = i + 1) := by omega
  have hp5 : ¬ (cap = i) := by omega
  have hp6 : ¬ ((i : Int) = (l.length : Int)) := by omega
  have hp7 : (i : Int) ≤ (l.length : Int) + 1 := by omega
  have hp8 : ((l.length : Int) + 1 > (cap : Int)) = False := by simp; omega
  have hp9 : (l.length : Int) + 1 ≤ (cap : Int) := by omega
  clear h hh hx hs hd hxl hW1 hh1 hv1 hl1 hW2 h1 hz0 hz1 hz2 hi0 i0 hv hmax
  generalize l.length = n at *
  go_enter Try.func39, Try.ntmps39
  go_wp2_with (simp only [hov])
  have e1 : n + 1 - (i + 1) = n - i := by omega
  rw [e1] at HC1
  go_region_law (refine step_copyZ rfl (.tmp 73) (.tmp 76) 49 49 rfl (by simp [Act.eval, Act.put]) (by simp [Act.eval, Act.put]) (HC1.out _ (cap - (i + 1)) (cap - i)) ?_)
  go_wp2_with fail
  rw [HC2.out]
  simp only [Result.andThen]
  rw [Oper.upon_value]
  go_wp2
  go_ret
  exact HE.out
set_option maxHeartbeats 2000000 in
set_option maxRecDepth 1000000 in
/-- slices.Insert ahead of the end, in a row that has no room. -/
theorem insGrowE {base : Nat} {w : World} {g n cap : Nat} {l : List E} (h : OwnE base w (.slice (some ⟨g, 0, none⟩) n cap) l) (i : Nat) (hi : i < n) (hroom : cap < n + 1) (x : E) {vb : Nat} {tv : TypeId} (hv : w.heap[vb]? = some (.cells (cE x).toArray tv (0, 0))) (hn : n ≤ 1000) (hb : base ≤ w.heap.size) :
    Calls Try.prog 39 #[.slice (some ⟨g, 0, none⟩) n cap, .int .i64 i, .slice (some ⟨vb, 0, none⟩) 1 1] w fun e w' => InsE base w (.slice (some ⟨g, 0, none⟩) n cap) (l.take i ++ x :: l.drop i) (n + 1) e w' := by
  obtain rfl := h.len
  rcases id h with ⟨h1, ⟨hv', _⟩ | ⟨g', cap', cur, hv', hbg, hh, hc, hm, hs, hx⟩⟩
  · cases hv'
  cases hv'
  obtain rfl : cap = l.length := by omega
  obtain ⟨i0, hi0, hz0, hz1, hz2⟩ := info_parts infoE
  have hd : ((l.drop i).flatMap cE).length = (l.length - i) * 3 := by rw [flat_len cE 3 _ (cE_len _), List.length_drop]
  have hxl : (cE x).length = 3 := rfl
  have ht : ((l.take i).flatMap cE).length = i * 3 := by rw [flat_len cE 3 _ (cE_len _), List.length_take]; omega
  have hgl := (h.lo g rfl).2
  have hvl : vb < w.heap.size := (Array.getElem?_eq_some_iff.1 hv).1
  obtain ⟨nc, hnc⟩ : ∃ nc, grownCap w (l.length + 1) l.length 66 = nc := ⟨_, rfl⟩
  have hnc1 : l.length + 1 ≤ nc := hnc ▸ grownCap_ge w _ _ _
  have hnc2 : nc ≤ maxLen := hnc ▸ grownCap_le_maxLen w _ _ _ (by unfold maxLen; omega)
  obtain ⟨zs, hzs⟩ : ∃ zs, (Builtin.zeroCells (Value.agg #[.string ByteArray.empty, .int .i64 0, .bool false]).cells (l.length + 1 - i)).toList ++ (Builtin.zeroCells (Value.agg #[.string ByteArray.empty, .int .i64 0, .bool false]).cells (nc - (l.length + 1))).toList = zs := ⟨_, rfl⟩
  have hzl : zs.length = (l.length + 1 - i) * 3 + (nc - (l.length + 1)) * 3 := by rw [← hzs, List.length_append, zeroCells_len, zeroCells_len]; rfl
  obtain ⟨W0, hW0⟩ : ∃ W0, w.drew.alloc (.cells ((l.take i).flatMap cE ++ zs).toArray 66) = W0 := ⟨_, rfl⟩
  have HA : Hid (∀ ty, (Builtin.append_ #[49, 3] ty #[.slice (some ⟨g, 0, none⟩) i l.length, .int .i64 ((l.length : Int) + 1 - i)]).run Try.prog w = .ok (.slice (some ⟨w.heap.size, 0, none⟩) (l.length + 1) nc) W0) := fun ty => by
    have hfit : Builtin.nextslicecap (i + (l.length + 1 - i)) l.length * i0.bytes ≤ 281474976710656 := by
      rw [hz2]
      unfold Builtin.nextslicecap
      split
      · omega
      · split
        · omega
        · rename_i h1 h2
          have : Builtin.growBy (i + (l.length + 1 - i)) 4 l.length ≤ 100000 := by
            rw [growBy_four]
            repeat' split
            all_goals omega
          omega
    have := Lib.run_append_grow_zeros (P := Try.prog) w 49 3 ty 66 i0 (Value.agg #[.string ByteArray.empty, .int .i64 0, .bool false]) .i64 .i64 Try.underlying49 Try.underlying3 hi0 hz0 (some ⟨g, 0, none⟩) i l.length ((l.take i).flatMap cE) (by rw [hz1]; exact run_firstCells_some (P := Try.prog) w.drew 3 i ⟨g, 0, none⟩ i l.length _ ht (row_takeE h i)) (l.length + 1 - i) (by omega) (by omega) (by omega) (by omega) (by rw [hz2]; omega) hfit
    rw [show i + (l.length + 1 - i) = l.length + 1 by omega, hnc, show ((l.length + 1 - i : Nat) : Int) = (l.length : Int) + 1 - i by omega] at this
    rw [this, ← hW0, ← hzs]
    congr 4
    simp
  have hH : W0.heap[w.heap.size]? = some (.cells ((l.take i).flatMap cE ++ zs).toArray 66 (0, 0)) := by rw [← hW0]; exact heap_alloc_new w.drew _
  have b0 : Below w.heap.size w W0 := by rw [← hW0]; exact ((Below.refl _ _).drew).alloc (Nat.le_refl _) _
  obtain ⟨W1, hW1⟩ : ∃ W1, W0.setRow w.heap.size (splice ((l.take i).flatMap cE ++ zs) (i * 3) (cE x)).toArray = W1 := ⟨_, rfl⟩
  have HC1 : Hid (∀ ty c1, (Builtin.copy_ #[49, 49] ty #[.slice (some ⟨w.heap.size, i * 3, none⟩) (l.length + 1 - i) c1, .slice (some ⟨vb, 0, none⟩) 1 1]).run Try.prog W0 = .ok (goInt (1 : Nat)) W1) := fun ty c1 => by
    have hmin : Nat.min 1 (l.length + 1 - i) = 1 := by simp only [Nat.min_def]; split <;> omega
    have := run_copyZ Try.prog W0 49 49 ty 66 3 w.heap.size (i * 3) (l.length + 1 - i) c1 ⟨vb, 0, none⟩ 1 1 _ 66 (cE x) Try.underlying49 sizeE hH (by rw [hmin]; rfl) (World.news_of_block ((b0.block vb hvl).trans hv)) (by rw [hxl]; simp [-List.length_flatMap, ht, hzl]; omega) (by simpa using cE_one [x])
    rw [this, hmin, ← hW1]
  have hH1 : W1.heap[w.heap.size]? = some (.cells (splice ((l.take i).flatMap cE ++ zs) (i * 3) (cE x)).toArray 66 (0, 0)) := by rw [← hW1]; exact setRow_heap _ _ _ _ _ _ hH
  have b1 : Below w.heap.size w W1 := by rw [← hW1]; exact below_setRow b0 (Nat.le_refl _) _
  have hl1 : (splice ((l.take i).flatMap cE ++ zs) (i * 3) (cE x)).length = i * 3 + zs.length := by
    rw [length_splice _ _ _ (by rw [List.length_append, ht, hxl, hzl]; omega), List.length_append, ht]
  obtain ⟨W2, hW2⟩ : ∃ W2, W1.drew.setRow w.heap.size (splice (splice ((l.take i).flatMap cE ++ zs) (i * 3) (cE x)) ((i + 1) * 3) ((l.drop i).flatMap cE)).toArray = W2 := ⟨_, rfl⟩
  have HC2 : Hid (∀ ty c1 c2, (Builtin.copy_ #[49, 49] ty #[.slice (some ⟨w.heap.size, (i + 1) * 3, none⟩) (l.length - i) c1, .slice (some ⟨g, i * 3, none⟩) (l.length - i) c2]).run Try.prog W1.drew = .ok (goInt (l.length - i : Nat)) W2) := fun ty c1 c2 => by
    have hmin : Nat.min (l.length - i) (l.length - i) = l.length - i := Nat.min_self _
    have := run_copyZ Try.prog W1.drew 49 49 ty 66 3 w.heap.size ((i + 1) * 3) (l.length - i) c1 ⟨g, i * 3, none⟩ (l.length - i) c2 _ 66 ((l.drop i).flatMap cE) Try.underlying49 sizeE hH1 (by rw [hmin, hd]) (fun j u hu => (b1.cell (p := (⟨g, i * 3, none⟩ : Addr).add j) (by rw [Addr.add_lit]; exact hgl)).trans (row_dropE h i j u hu)) (by rw [hd]; simp [-List.length_flatMap, hl1, hzl]; omega) (cE_one _)
    rw [this, hmin, ← hW2]
  have HE : Hid (InsE base w (.slice (some ⟨g, 0, none⟩) l.length l.length) (l.take i ++ x :: l.drop i) (l.length + 1) (.returned (.slice (some ⟨w.heap.size, 0, none⟩) (l.length + 1) nc)) W2) := by
    obtain ⟨c1, c2⟩ := growE x zs hi hzl
    have hle : (l.take i ++ x :: l.drop i).length = l.length + 1 := by simp; omega
    have b2 : Below w.heap.size w W2 := by rw [← hW2]; exact below_setRow b1.drew (Nat.le_refl _) _
    refine .mk w.heap.size nc rfl ⟨by rw [flat_len cE 3 _ (cE_len _)], Or.inr ⟨w.heap.size, nc, _, by rw [hle], hb, by rw [← hW2]; exact setRow_heap W1.drew _ _ _ _ _ hH1, by rw [hle]; omega, hnc2, by simp only [List.size_toArray]; rw [c1]; congr 1; omega, by rw [hle]; simpa using c2⟩⟩ ⟨⟨b2.os, b2.tape, b2.output, b2.size, fun k hk _ => b2.block k hk⟩, Or.inr (fun k hk => by cases hk; exact Nat.le_refl _)⟩
  have hw1 : IntKind.i64.wrap ((i : Int) + 1) = (i : Int) + 1 := by rw [IntKind.wrap_i64]; omega
  have hp1 : (0 : Int) ≤ (i : Int) + 1 := by omega
  have hp2 : ((i : Int) + 1).toNat = i + 1 := by omega
  have hp3 : (i : Int) ≤ (l.length : Int) := by omega
  have hp4 : ¬ (nc = i + 1) := by omega
  have hp5 : ¬ (nc = i) := by omega
  have hp6 : ¬ ((i : Int) = (l.length : Int)) := by omega
  have hp7 : (i : Int) ≤ (l.length : Int) + 1 := by omega
  have hp8 : ¬ (l.length = i) := by omega
  have hp9 : i ≤ l.length := by omega
  have hw2 : IntKind.i64.wrap ((l.length : Int) + 1 - (i : Int)) = (l.length : Int) + 1 - i := by rw [IntKind.wrap_i64]; omega
  clear h hh hx hs hd hxl hW0 hH hW1 hH1 hl1 hW2 h1 hz0 hz1 hz2 hi0 i0 hv hzl hzs ht hnc b0 b1 hc hm
  generalize l.length = n at *
  go_enter Try.func39, Try.ntmps39
  go_wp2_with (first | (at_builtin; refine Lib.wpList_append_run _ rfl _ _ _ _ rfl _ _ rfl rfl _ _ (HA.out _) ?_))
  rw [HC1.out]
  simp only [Result.andThen]
  rw [Oper.upon_value]
  go_wp2_with fail
  go_region_law (refine step_copyZ rfl (.tmp 50) (.tmp 53) 49 49 rfl (by simp [Act.eval, Act.put]) (by simp [Act.eval, Act.put]) (HC2.out _ (nc - (i + 1)) (n - i)) ?_)
  go_wp2
  go_ret
  exact HE.out
/-- slices.Insert of one. -/
theorem insAnyE {base : Nat} {w : World} {ao : Option Addr} {n cap : Nat} {l : List E} (h : OwnE base w (.slice ao n cap) l) (i : Nat) (hi : i ≤ n) (x : E) {vb : Nat} {tv : TypeId} (hv : w.heap[vb]? = some (.cells (cE x).toArray tv (0, 0))) (hvb : ∀ k, (Value.slice ao n cap).ownBlock = some k → vb ≠ k) (hn : n ≤ 1000) (hb : base ≤ w.heap.size) :
    Calls Try.prog 39 #[.slice ao n cap, .int .i64 i, .slice (some ⟨vb, 0, none⟩) 1 1] w fun e w' => InsE base w (.slice ao n cap) (l.take i ++ x :: l.drop i) (n + 1) e w' := by
  by_cases e : i = n
  · subst e
    have := insEndE h x hv hn hb
    obtain rfl := h.len
    rwa [List.take_length, List.drop_length]
  · obtain rfl := h.len
    obtain ⟨g, c, hs, hc, _⟩ := h.at_ (by omega)
    obtain rfl : ao = some ⟨g, 0, none⟩ := by simp at hs; exact hs.1
    by_cases hr : l.length + 1 ≤ cap
    · exact insRoomE h i (by omega) hr x hv (hvb g rfl) hn hb
    · exact insGrowE h i (by omega) (by omega) x hv hn hb
end Go.Proofs.Ytfobcnmhghfanaa

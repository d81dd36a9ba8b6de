/- An entry comes: add, the walk. -/
import Derived.Test.YtfobcnmhghfanaaB9V
namespace Go.Proofs.Ytfobcnmhghfanaa
open Go.RowKit Go.Shelf
set_option linter.unusedVariables false
set_option linter.unusedSimpArgs false

theorem enters_sf : Enters Try.prog 38 := enters_of Try.func38 (by kernel_rfl) rfl
/-- add, from the going down on. -/
theorem add_leaf {base : Nat} {w0 W : World} {ro0 ro : Ro} {nd0 nd : Nat → Nd} {r H0 H : Nat} {lv0 lv : Nat → List Br} {dep : Nat → Nat} (hm0 : Mem base w0 ro0 nd0) (ts : TS base W ro nd r H lv dep) (mt : MTo base w0 ro0 nd0 W ro nd) (en : ents nd (lv H) = ents nd0 (lv0 H0)) {x : E} (h8 : (nd r).sz < 8) (hr0 : 0 < H → 2 ≤ (nd r).bs.length ∨ ∀ q ∈ (nd r).bs, ¬ (nd q.2).sz < 8) (hno : getL (ents nd0 (lv0 H0)) x.key = none) {bx : Nat} (hbx : W.heap[bx]? = some (.cells #[.string x.key, .int .i64 x.num, .bool x.ghost] 66 (0, 0))) (hbl : bx < w0.heap.size) (hbn : ro0 bx = none) (hb : base ≤ W.heap.size) :
    Calls Try.prog 37 #[pt r, .string x.key, .func (.func 38) #[] #[]] W fun e w' => ∃ pb, e = .returned (pt pb) ∧ AddT base w0 bx x w' pb (fun e w' => AdOut base w0 ro0 nd0 r H0 lv0 x e w') := by
  refine (leafFor_any enters_sf (splitFull_any base r x.key) (fun j n h => h) ts h8 hr0 hb).mono ?_
  rintro e w' ⟨ro', nd', lv', dep', A, p, B, he, ts', mt', en', pa, gp, rq⟩
  have hrb : ro bx = none := by
    cases h : ro bx with
    | none => rfl
    | some y => rcases mt.gr bx (by rw [h]; simp) with h' | h'
                · exact absurd hbn h'
                · omega
  refine ⟨p.2, he, addT ts' (mt.trans mt') (en'.trans en) pa gp hno rq ?_ (Nat.le_trans hb mt'.fr.size)⟩
  rw [mt'.fr.block bx (Nat.lt_of_lt_of_le hbl mt.fr.size) (fun h => h hrb)]
  exact hbx
theorem AdOut.start {base : Nat} {w w0 : World} {ro : Ro} {nd : Nat → Nd} {r H : Nat} {lv : Nat → List Br} {x : E} {e : Ending} {w' : World} (hm : Mem base w ro nd) (hb : Below w.heap.size w w0) (h : AdOut base w0 ro nd r H lv x e w') : AdOut base w ro nd r H lv x e w' := by
  obtain ⟨ro', nd', H', lv', dep', he, ts, mt, en, h2⟩ := h
  exact .mk ro' nd' H' lv' dep' he ts ((MTo.of_below hm hb).trans mt) en h2
set_option maxHeartbeats 4000000 in
set_option maxRecDepth 100000 in
/-- add's last statement. -/
theorem add_any {base : Nat} {w : World} {ro : Ro} {nd : Nat → Nd} {r H : Nat} {lv : Nat → List Br} {dep : Nat → Nat} (ts : TS base w ro nd r H lv dep) (h2 : 0 < H → 2 ≤ (nd r).bs.length) (x : E) (hno : getL (ents nd (lv H)) x.key = none) (hb : base ≤ w.heap.size) :
    Calls Try.prog 29 #[pt r, .agg #[.string x.key, .int .i64 x.num, .bool x.ghost]] w fun e w' => AdOut base w ro nd r H lv x e w' := by
  obtain ⟨W0, hW0⟩ : ∃ W0, w.alloc (.cells #[.string x.key, .int .i64 x.num, .bool x.ghost] 66) = W0 := ⟨_, rfl⟩
  have b0 : Below w.heap.size w W0 := by rw [← hW0]; exact (Below.refl _ _).alloc (Nat.le_refl _) _
  have hbx : W0.heap[w.heap.size]? = some (.cells #[.string x.key, .int .i64 x.num, .bool x.ghost] 66 (0, 0)) := by rw [← hW0]; exact heap_alloc_new w _
  have hbl : w.heap.size < W0.heap.size := (Array.getElem?_eq_some_iff.1 hbx).1
  have hbn : ro w.heap.size = none := by
    cases h : ro w.heap.size with
    | none => rfl
    | some y => have := (ts.mem.lo _ (by rw [h]; simp)).2; omega
  have ts0 := ts.below b0
  have hr := ts.toTM.root
  have hsz := msize_any ts0.mem hr (by have := ts.top; omega)
  have HS : Hid (∀ e w', AdOut base W0 ro nd r H lv x e w' → AdOut base w ro nd r H lv x e w') := fun e w' h => h.start ts.mem b0
  have htop := ts.top
  -- the way down, from wherever it begins
  have HL : Hid (∀ q, (nd r).sz < 8 → Calls Try.prog 37 #[pt r, .string x.key, .func (.func 38) #[] #[]] (W0.drewN q) fun e w' => ∃ pb, e = .returned (pt pb) ∧ AddT base W0 w.heap.size x w' pb (fun e w' => AdOut base W0 ro nd r H lv x e w')) := fun q h8 => by
    have bq : Below W0.heap.size W0 (W0.drewN q) := ⟨rfl, rfl, rfl, Nat.le_refl _, fun _ _ => rfl⟩
    exact add_leaf ts0.mem (ts0.below bq) (MTo.of_below ts0.mem bq) rfl h8 (fun h0 => Or.inl (h2 h0)) hno hbx hbl hbn (Nat.le_trans hb b0.size)
  have HG : Hid (∀ q, (nd r).sz = 8 → Calls Try.prog 36 #[pt r] (W0.drewN q) fun e w1 => e = .returned (.tuple #[]) ∧ w1.heap[w.heap.size]? = some (.cells #[.string x.key, .int .i64 x.num, .bool x.ghost] 66 (0, 0)) ∧ Calls Try.prog 37 #[pt r, .string x.key, .func (.func 38) #[] #[]] w1 fun e w' => ∃ pb, e = .returned (pt pb) ∧ AddT base W0 w.heap.size x w' pb (fun e w' => AdOut base W0 ro nd r H lv x e w')) := fun q h8 => by
    have bq : Below W0.heap.size W0 (W0.drewN q) := ⟨rfl, rfl, rfl, Nat.le_refl _, fun _ _ => rfl⟩
    refine (grow_any (ts0.below bq) h8 (Nat.le_trans hb b0.size)).mono ?_
    rintro e w1 ⟨ro1, nd1, lv1, dep1, c, he, ts1, mt1, en1, hbs, hes, hc⟩
    have hbx1 : w1.heap[w.heap.size]? = some (.cells #[.string x.key, .int .i64 x.num, .bool x.ghost] 66 (0, 0)) := by
      rw [mt1.fr.block _ hbl (fun h => h hbn)]; exact hbx
    refine ⟨he, hbx1, add_leaf ts0.mem ts1 ((MTo.of_below ts0.mem bq).trans mt1) en1 (by unfold Nd.sz; rw [hbs, hes]; simp) (fun _ => Or.inr (fun q hq => by rw [hbs] at hq; simp at hq; rw [hq]; simp only; omega)) hno hbx1 hbl hbn (Nat.le_trans (Nat.le_trans hb b0.size) mt1.fr.size)⟩
  have k0 : W0.cell? ⟨w.heap.size, 0, none⟩ = some (.string x.key) := by rw [cell_of_row _ _ 0 _ _ _ hbx]; rfl
  have HBX : Hid (W0.heap[w.heap.size]? = some (.cells #[.string x.key, .int .i64 x.num, .bool x.ghost] 66 (0, 0))) := hbx
  have HK : Hid (∀ W : World, W.heap[w.heap.size]? = some (.cells #[.string x.key, .int .i64 x.num, .bool x.ghost] 66 (0, 0)) → W.cell? ⟨w.heap.size, 0, none⟩ = some (.string x.key) ∧ W.cell? ⟨w.heap.size, 1, none⟩ = some (.int .i64 x.num) ∧ W.cell? ⟨w.heap.size, 2, none⟩ = some (.bool x.ghost)) := fun W h => ⟨by rw [cell_of_row _ _ 0 _ _ _ h]; rfl, by rw [cell_of_row _ _ 1 _ _ _ h]; rfl, by rw [cell_of_row _ _ 2 _ _ _ h]; rfl⟩
  have hbes := build_es
  clear ts ts0 h2 hno hbx hbl hbn b0
  obtain ⟨key, num, gh⟩ := x
  simp only at *
  obtain ⟨LC, hLC⟩ : ∃ LC : World → Prop, LC = fun w1 => w1.heap[w.heap.size]? = some (.cells #[.string key, .int .i64 num, .bool gh] 66 (0, 0)) ∧ Calls Try.prog 37 #[pt r, .string key, .func (.func 38) #[] #[]] w1 fun e w' => ∃ pb, e = .returned (pt pb) ∧ AddT base W0 w.heap.size ⟨key, num, gh⟩ w' pb (fun e w' => AdOut base W0 ro nd r H lv ⟨key, num, gh⟩ e w') := ⟨_, rfl⟩
  have HG2 : Hid (∀ q, (nd r).sz = 8 → Calls Try.prog 36 #[pt r] (W0.drewN q) fun e w1 => e = .returned (.tuple #[]) ∧ LC w1) := fun q h8 => by rw [hLC]; exact HG.out q h8
  have HL2 : Hid (∀ q, (nd r).sz < 8 → LC (W0.drewN q)) := fun q h8 => by rw [hLC]; exact ⟨HBX.out, HL.out q h8⟩
  have HLC : Hid (LC = _) := hLC
  clear hLC HG HL
  generalize (nd r).sz = s at *
  go_enter Try.func29, Try.ntmps29
  go_upto_if 9 with (go_at_call 33; refine hsz.mono ?_; clear hsz; rintro e wx ⟨rfl, nq, rfl⟩)
  go_cut [3] (fun v3 wx => v3 = .pointer (some ⟨w.heap.size, 0, none⟩) ∧ Hid (LC wx))
  case first =>
    by_cases h8 : s = 8
    · have hG := HG2.out nq h8
      subst h8
      go_wp2_with (go_at_call 36; refine hG.mono ?_; clear hG; rintro e w1 ⟨rfl, hl⟩; have HLL : Hid (LC w1) := hl; clear hl)
      go_meet
      case rel => exact ⟨rfl, HLL⟩
    · have hz : ¬ ((s : Int) = 8) := by omega
      have HLL : Hid (LC (W0.drewN nq)) := HL2.out nq (by omega)
      go_wp2
      go_meet
      case rel => exact ⟨rfl, HLL⟩
  case rest =>
  obtain ⟨rfl, hl⟩ := hcut
  have hl2 := hl.out
  rw [HLC.out] at hl2
  obtain ⟨hx1, hlf⟩ := hl2
  have k1 := (HK.out _ hx1).1
  clear hl HL2 HG2 HLC
  go_wp2_with (first
    | (go_at_call 37; refine hlf.mono ?_; clear hlf; rintro e w2 ⟨pb, rfl, hT⟩; obtain ⟨⟨ao, n, cap, y1, y2, y3⟩, y4⟩ := hT; obtain ⟨z0, z1, z2⟩ := HK.out w2 y4; have HEF : Hid _ := y3; clear y3))
  have hB1 : Below w2.heap.size w2 w2.drew := (Below.refl _ _).drew
  have hB2 : Below w2.heap.size w2 (w2.alloc (.cells #[.string key, .int .i64 num, .bool gh] 66)).drew := ((Below.refl _ _).alloc (Nat.le_refl _) _).drew
  have hBx : (w2.alloc (.cells #[.string key, .int .i64 num, .bool gh] 66)).drew.heap[w2.heap.size]? = some (.cells #[.string key, .int .i64 num, .bool gh] 66) := heap_alloc_new w2 _
  have HC : Hid (∀ W w3, Below w2.heap.size w2 W → Below W.heap.size W w3 → (w3.cell? ⟨pb, 0, none⟩ = some (.slice ao n cap) ∧ w3.cell? ⟨w.heap.size, 0, none⟩ = some (.string key) ∧ w3.cell? ⟨w.heap.size, 1, none⟩ = some (.int .i64 num) ∧ w3.cell? ⟨w.heap.size, 2, none⟩ = some (.bool gh)) ∧ Below w2.heap.size w2 w3 ∧ Below w2.heap.size w2 (w3.alloc (.cells #[.string key, .int .i64 num, .bool gh] 66)) ∧ (w3.alloc (.cells #[.string key, .int .i64 num, .bool gh] 66)).heap[w3.heap.size]? = some (.cells #[.string key, .int .i64 num, .bool gh] 66) ∧ w2.heap.size ≤ w3.heap.size ∧ (W.heap[w2.heap.size]? = some (.cells #[.string key, .int .i64 num, .bool gh] 66) → w3.heap[w2.heap.size]? = some (.cells #[.string key, .int .i64 num, .bool gh] 66))) := fun W w3 h1 h2 => by
    have h3 : Below w2.heap.size w2 w3 := h1.trans (h2.mono h1.size)
    exact ⟨⟨(h3.cell (World.block_lt_of_cell? w2 _ y1)).trans y1, (h3.cell (World.block_lt_of_cell? w2 _ z0)).trans z0, (h3.cell (World.block_lt_of_cell? w2 _ z1)).trans z1, (h3.cell (World.block_lt_of_cell? w2 _ z2)).trans z2⟩, h3, h3.alloc h3.size _, heap_alloc_new w3 _, h3.size, fun h => (h2.block _ (Array.getElem?_eq_some_iff.1 h).1).trans h⟩
  have hr2 : w2.heap.size ≤ w2.heap.size := Nat.le_refl _
  have ya : ∀ o, (w2.alloc o).cell? ⟨pb, 0, none⟩ = some (.slice ao n cap) := fun o => box_old o y1
  have za : ∀ o, (w2.alloc o).cell? ⟨w.heap.size, 0, none⟩ = some (.string key) := fun o => box_old o z0
  go_region_with (first
    | (go_at_call 40; refine (HEF.out _ (by assumption)).mono ?_; rintro e w3 ⟨i, rfl, hb3, hins⟩; obtain ⟨⟨v0, v1, v2, v3⟩, hb4, hb5, hb6, hb7, hb8⟩ := HC.out _ w3 (by assumption) hb3; have va : ∀ o, (w3.alloc o).cell? ⟨pb, 0, none⟩ = some (.slice ao n cap) := (fun o => box_old o v0); have HI : Hid _ := hins; clear hins hb3; try (have hb9 := hb8 (by assumption)); clear hb8)
    | (go_at_call 39; refine (HI.out _ _ (by assumption) (by assumption) (by assumption)).mono ?_; rintro e w5 ⟨g5, c5, rfl, p5, q5, hO⟩))
  all_goals
    have HF := HS.out _ _ hO
    clear hO HI HEF HC
    refine bodyPost_ret (v := .tuple #[]) (by simp [results, Try.results29, go_sem]) rfl ?_
    exact HF
end Go.Proofs.Ytfobcnmhghfanaa

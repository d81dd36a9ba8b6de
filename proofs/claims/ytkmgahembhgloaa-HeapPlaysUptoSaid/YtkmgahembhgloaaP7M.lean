/- The pool: Pin of a page that no frame holds. -/
import Derived.Test.YtkmgahembhgloaaP7L
namespace Go.Proofs.Ytkmgahembhgloaa
open Go.RowKit Go.Maps
set_option linter.unusedVariables false
set_option linter.unusedSimpArgs false

set_option maxRecDepth 20000 in
set_option maxHeartbeats 1000000 in
theorem pin_new {base : Nat} {w : World} {F G : Nat → Prop} {g b n : Nat} {dp : Value} {blk : Int → Nat} {cv : Int → Value} {P : PS} {D : DS} (h : PoolIn base w F g dp b blk cv P) (hD : DiskAt base w G dp n D) (hdis : ∀ i, F i → ¬ G i) (hok : POk P) (hfit : P.first + 16 * P.pages ≤ D.size) (hcnt : n + D.ws.length + 16 < 900000) {k : Int} (hk : k ∉ P.keys) (hkr : 0 ≤ k ∧ k < P.pages) :
    Calls Try.prog 54 #[.pointer (some ⟨g, 0, none⟩), .int .i64 k] w fun e w' => PinOut base w F G g dp b n P D k e w' := by
  have hpg := hok.pages
  have c2 := h.cells.c2
  have c4 := h.cells.c4
  have hl := h.hm.look_ok (i := k) (by omega)
  simp only [hk, if_false, decide_false] at hl
  have t1 : decide (k < 0) = false := by simp; omega
  have t2 : decide (k ≥ P.pages) = false := by simp; omega
  have hroom := room_any h hD hdis hok hfit hcnt
  have HP : Hid (PoolIn base w F g dp b blk cv P) := h
  have HD : Hid (DiskAt base w G dp n D) := hD
  have HOK : Hid (POk P) := hok
  clear h hok hD
  generalize hZ : P.pages = Z at *
  go_enter Try.func54, Try.ntmps54
  go_wp2_with fail
  refine hroom.mono ?_
  rintro e w1 hR
  clear hroom
  cases hR with
  | err c he hc hb =>
    subst he
    have hO : PinOut base w F G g dp b n P D k (.returned (.tuple #[.slice none 0 0, .int .i64 c])) w1 := .err c rfl hk hc hb
    have hcc : c = 74 ∨ c = 71 := by cases hc <;> simp
    clear hc
    rcases hcc with rfl | rfl
    all_goals
      go_wp2
      exact bodyPost_ret (v := .tuple #[.slice none 0 0, .int .i64 _]) (by simp [results, Try.results54, go_sem]) rfl hO
  | ok P1 D1 he hm hP1 G' hD1 hf1 ho1 =>
    subst he
    have hM := hm.ok HOK.out
    have hk1 : k ∉ P1.keys := fun h => hk (hM.sub k h)
    have hload := load_any hP1 hD1 hM.ok.first hM.ok.pages (by rw [hM.first, hM.pages, hM.dsize, hZ]; exact hfit) k (by rw [hM.pages, hZ]; exact hkr)
    rw [hM.first] at hload
    have hblen : (getN D1.now (P.first + 16 * k) 16).length = 2048 := getN_len hD1.nowLen _ _
    have HB : Hid ((getN D1.now (P.first + 16 * k) 16).length = 2048) := hblen
    have Hm : Hid (Made P D P1 D1) := hm
    have HM : Hid (MadeOk P D P1 D1) := hM
    have HP1 : Hid (PoolIn base w1 F g dp b blk cv P1) := hP1
    have HD1 : Hid (DiskAt base w1 G' dp n D1) := hD1
    have hs1 := hf1.size
    have Hdis1 : Hid (∀ i, F i → ¬ G' i) := fun i hi hg => by
      rcases ho1 i hg with h | h
      · exact hdis i hi h
      · have := (HP.out.lo i hi).2; omega
    clear hm hM hP1 hD1 hblen c2 c4 hl
    obtain ⟨bs, hbs⟩ : ∃ bs, getN D1.now (P.first + 16 * k) 16 = bs := ⟨_, rfl⟩
    have Hbs : Hid (getN D1.now (P.first + 16 * k) 16 = bs) := hbs
    rw [hbs] at hload HB
    clear hbs
    go_wp2_with fail
    refine hload.mono ?_
    rintro e w2 ⟨v, rfl, ho, hb2⟩
    have hs2 := hb2.size
    have ho2 : OwnB base w2 v bs := own_base ho (by have := HP1.out.base_le; omega)
    have hvn : ∀ c, v.ownBlock = some c → w1.heap.size ≤ c := own_ge ho
    have h3 : Below w1.heap.size w1 (w2.alloc (.cells #[v, .int .i64 0, .bool false, .int .u64 0, .int .i64 0] 109)) := hb2.alloc (by omega) _
    have hP3 := HP1.out.keepB h3
    have q4 := hP3.cells.c4
    have HM3 : Hid (FMap (w2.alloc (.cells #[v, .int .i64 0, .bool false, .int .u64 0, .int .i64 0] 109)) b P1.keys blk) := hP3.hm
    have HP3 : Hid (PoolIn base (w2.alloc (.cells #[v, .int .i64 0, .bool false, .int .u64 0, .int .i64 0] 109)) F g dp b blk cv P1) := hP3
    have HO3 : Hid (OwnB base (w2.alloc (.cells #[v, .int .i64 0, .bool false, .int .u64 0, .int .i64 0] 109)) v bs) := ho2.alloc _
    obtain ⟨ao, cap, hv, _⟩ := ho.toBytes.form
    rw [HB.out] at hv
    subst hv
    have hkl : P1.keys.length < 1000000 := by have := HM.out.ok.len; have := HM.out.ok.size; omega
    clear hload ho ho2 hP3
    go_wp2_with (at_mapUpdate; refine wp_putF _ rfl _ _ _ rfl b P1.keys blk k w2.heap.size rfl rfl rfl HM3.out hkl HM.out.ok.rise (by omega) hk1 ?_)
    intro w4 hm4 hg4
    have hs4 : w2.heap.size + 1 ≤ w4.heap.size := by have := hg4.size; simpa using this
    have hP4 : PoolIn base w4 (fun i => F i ∨ (w1.heap.size ≤ i ∧ i < w4.heap.size)) g dp b (updA blk k w2.heap.size) (updA cv k (.slice ao 2048 cap)) (P1.add k ⟨bs, 0, false, 0, 0⟩) := HP3.out.add hk1 (f := ⟨bs, 0, false, 0, 0⟩) (heap_alloc_new w2 _) (fun h => by have := (HP1.out.lo _ h).2; omega) HO3.out hm4 hg4 (fun i hi => Or.inl hi) (Or.inr ⟨by omega, by omega⟩) (fun c hc => Or.inr ⟨hvn c hc, by have := own_lt HO3.out c hc; have := hg4.size; omega⟩) (fun i hi => by
      rcases hi with hi | hi
      · have := HP1.out.lo i hi; exact ⟨this.1, by omega⟩
      · exact ⟨by have := HP1.out.base_le; omega, hi.2⟩)
    have hb4 : Fr w1 w4 F := ((Fr.of_below h3).trans (Fr.of_grown (F := fun i => i = b) hg4 (fun i hi => by cases hi; rfl)) (fun i hi => Or.inl (hi ▸ HP1.out.fb)))
    have hk4 : k ∈ (P1.add k ⟨bs, 0, false, 0, 0⟩).keys := (mem_insS _ _ _).2 (Or.inl rfl)
    have hfr4 : (P1.add k ⟨bs, 0, false, 0, 0⟩).fr k = ⟨bs, 0, false, 0, 0⟩ := updA_same _ _ _
    have d1 := (hP4.cellsF hk4).c1
    have fz := (hP4.cellsF hk4).f
    rw [hfr4, updA_same] at d1
    rw [updA_same] at fz
    have hU := use_any (hP4.storeF hk4 1 (.int .i64 1) ⟨bs, 1, false, 0, 0⟩ (by rw [hfr4]) (by rw [hfr4]; rfl)) (by show 0 ≤ P1.uses ∧ P1.uses ≤ _; exact HM.out.ok.uses) hk4
    rw [updA_same] at hU
    have HU : Hid (Calls Try.prog 67 #[.pointer (some ⟨g, 0, none⟩), .pointer (some ⟨w2.heap.size, 0, none⟩)] (w4.setCell ⟨w2.heap.size, 1, none⟩ (.int .i64 1)) fun e w' => e = .returned (.tuple #[]) ∧ PoolIn base w' (fun i => F i ∨ (w1.heap.size ≤ i ∧ i < w4.heap.size)) g dp b (updA blk k w2.heap.size) (updA cv k (.slice ao 2048 cap)) ((P1.add k ⟨bs, 0, false, 0, 0⟩).touch k ⟨bs, 1, false, 0, 0⟩) ∧ Fr w4 w' (fun i => F i ∨ (w1.heap.size ≤ i ∧ i < w4.heap.size))) := by
      refine hU.mono ?_
      rintro e w' ⟨he, hP5, hf5⟩
      refine ⟨he, ?_, ((fr_set _ _ _ _).mono (fun i hi => Or.inr ⟨by omega, by omega⟩)).trans hf5 (fun i hi => Or.inl hi)⟩
      unfold PS.touch
      simp only [updA_twice, updA_same] at hP5 ⊢
      exact hP5
    clear hU hP4 hm4 hg4 HP3 HO3 HM3 q4 h3
    go_wp2_with fail
    refine HU.out.mono ?_
    rintro e w6 ⟨rfl, hP6, hf6⟩
    clear HU
    have q0 := (hP6.cellsF hk4).c0
    rw [updA_same, updA_same] at q0
    have hby := hP6.hc k hk4
    have hb6 : ((P1.add k ⟨bs, 0, false, 0, 0⟩).touch k ⟨bs, 1, false, 0, 0⟩).fr k = ⟨bs, 1, false, 0, P1.uses + 1⟩ := by unfold PS.touch; simp only [updA_same]; rfl
    rw [hb6, updA_same] at hby
    have hs6 := hf6.size
    have HC : Hid (Calls Try.prog 68 #[.slice ao 2048 cap] w6 fun e w' => ∃ v', e = .returned v' ∧ OwnB w.heap.size w' v' bs ∧ (∀ c, v'.ownBlock = some c → w6.heap.size ≤ c) ∧ Below w6.heap.size w6 w') := clone_bytes w.heap.size _ bs w6 hby.toBytes (by rw [HB.out]; omega) (by rw [HB.out]; omega) (by omega)
    have HP6 : Hid (PoolIn base w6 (fun i => F i ∨ (w1.heap.size ≤ i ∧ i < w4.heap.size)) g dp b (updA blk k w2.heap.size) (updA cv k (.slice ao 2048 cap)) ((P1.add k ⟨bs, 0, false, 0, 0⟩).touch k ⟨bs, 1, false, 0, 0⟩)) := hP6
    have hf16 : Fr w1 w6 F := hb4.trans hf6 (fun i hi => by
      rcases hi with hi | hi
      · exact Or.inl hi
      · exact Or.inr hi.1)
    have HD6 : Hid (DiskAt base w6 G' dp n D1) := HD1.out.keep hf16 (fun i hg hf => Hdis1.out i hf hg)
    clear hP6 hby hf6 hb4 fz d1
    go_wp2_with fail
    refine HC.out.mono ?_
    rintro e w7 ⟨v', rfl, ho7, hn7, hb7⟩
    have hO : PinOut base w F G g dp b n P D k (.returned (.tuple #[v', .int .i64 0])) w7 := by
      have hto := PinTo.came (P := P) (D := D) (k := k) hk P1 D1 Hm.out
      rw [Hbs.out] at hto
      refine .ok _ _ _ hto v' rfl ho7 _ G' _ _ (HP6.out.keepB hb7) (HD6.out.keepB hb7) ((hf1.trans hf16 (fun i hi => Or.inl (Or.inl hi))).trans (Fr.of_below (F := fun _ => False) hb7) (fun i hi => hi.elim)) (fun i hi => ?_) (fun i hi => ho1 i hi) (fun i hi hg => ?_) (fun c hc => ?_)
      · rcases hi with hi | hi
        · exact Or.inl hi
        · exact Or.inr (by omega)
      · rcases hi with hi | hi
        · exact Hdis1.out i hi hg
        · have := (HD1.out.lo i hg).2; omega
      · have h1 := hn7 c hc
        exact ⟨fun h => by have := (HP6.out.lo c h).2; omega, fun h => by have := (HD6.out.lo c h).2; omega⟩
    clear HC HP6 HD6 HP HD ho7 hn7 q0
    go_wp2
    exact bodyPost_ret (v := .tuple #[v', .int .i64 0]) (by simp [results, Try.results54, go_sem]) rfl hO
theorem pin_any {base : Nat} {w : World} {F G : Nat → Prop} {g b n : Nat} {dp : Value} {blk : Int → Nat} {cv : Int → Value} {P : PS} {D : DS} (h : PoolIn base w F g dp b blk cv P) (hD : DiskAt base w G dp n D) (hdis : ∀ i, F i → ¬ G i) (hok : POk P) (hfit : P.first + 16 * P.pages ≤ D.size) (hcnt : n + D.ws.length + 16 < 900000) {k : Int} (hkr : 0 ≤ k ∧ k < P.pages) :
    Calls Try.prog 54 #[.pointer (some ⟨g, 0, none⟩), .int .i64 k] w fun e w' => PinOut base w F G g dp b n P D k e w' := by
  by_cases hk : k ∈ P.keys
  · exact pin_held h hD hdis hok hk
  · exact pin_new h hD hdis hok hfit hcnt hk hkr
end Go.Proofs.Ytkmgahembhgloaa

/- Package disk: a copy of a map, begin, New, has, Size, Writes, Pending, Sync, kept. -/
import Derived.Test.YtggkclnnneoohaaD5A
namespace Go.Proofs.Ytggkclnnneoohaa
open Go.RowKit Go.Maps
set_option linter.unusedVariables false
set_option linter.unusedSimpArgs false

theorem below_drewN {B : Nat} {w w' : World} (h : Below B w w') (n : Nat) : Below B w (w'.drewN n) :=
  h.trans ⟨rfl, rfl, rfl, Nat.le_refl _, fun _ _ => rfl⟩
theorem fr_set (w : World) (g o : Nat) (u : Value) : Fr w (w.setCell ⟨g, o, none⟩ u) (fun k => k = g) :=
  ⟨rfl, rfl, rfl, by simp [World.setCell], fun k _ hk => Below.heap_setCell _ _ _ _ (fun e => hk e)⟩
set_option maxRecDepth 20000 in
set_option maxHeartbeats 2000000 in
theorem clone_any (b : Nat) (es : Array MapEntry) (clock : Nat) (w : World) (hb : w.heap[b]? = some (.map es clock)) :
    Calls Try.prog 32 #[.map (some b)] w fun e w' => e = .returned (.map (some w.heap.size)) ∧ w' = w.alloc (.map es clock) := by
  have hq := fun w => run_eql_map_nil_sl (P := Try.prog) w 55 _ _ (some b) Try.underlying55
  go_enter Try.func32, Try.ntmps32
  go_wp2
  rw [run_callFunc_extern Try.func34 (by kernel_rfl) (by kernel_rfl) (by kernel_rfl) (e := Extern.MapsClone.clone) (by kernel_rfl), run_maps_clone_sl w 55 hb]
  simp only [Result.andThen]
  rw [Oper.upon_value]
  go_wp2
  rw [run_typeAssert_map_sl _ 55 20 _ _ _ Try.underlying55]
  simp only [Result.andThen]
  rw [Oper.upon_value]
  go_wp2
  go_ret
  exact ⟨rfl, rfl⟩
/-- A copy of a map of sectors. -/
theorem clone_sec {b n : Nat} {f : Int → List UInt8} {w : World} (h : SecMap w b n f) :
    Calls Try.prog 32 #[.map (some b)] w fun e w' => e = .returned (.map (some w.heap.size)) ∧ SecMap w' w.heap.size n f ∧ Below w.heap.size w w' := by
  obtain ⟨D, ⟨es, clock, hb, F, hs, hD⟩, h2⟩ := h
  refine (clone_any b es clock w hb).mono fun e w' ⟨he, hw⟩ => ?_
  subst hw
  exact ⟨he, ⟨D, ⟨es, clock, (MapKept.heap_alloc w _).1, F, hs, hD⟩, h2⟩, (Below.refl _ w).alloc (Nat.le_refl _) _⟩

theorem DiskIn.wide {base : Nat} {w : World} {F G : Nat → Prop} {g b1 b2 : Nat} {v : Value} {n : Nat} {D : DS} (h : DiskIn base w F g b1 b2 v n D) (h1 : ∀ k, F k → G k) (h2 : ∀ k, G k → base ≤ k ∧ k < w.heap.size) : DiskIn base w G g b1 b2 v n D :=
  { h with fg := h1 _ h.fg, f1 := h1 _ h.f1, f2 := h1 _ h.f2, fv := fun k hk => h1 _ (h.fv k hk), lo := h2 }
theorem DiskAt.wide {base : Nat} {w : World} {F G : Nat → Prop} {p : Value} {n : Nat} {D : DS} (h : DiskAt base w F p n D) (h1 : ∀ k, F k → G k) (h2 : ∀ k, G k → base ≤ k ∧ k < w.heap.size) : DiskAt base w G p n D := by
  obtain ⟨g, b1, b2, v, hp, h⟩ := h
  exact ⟨g, b1, b2, v, hp, h.wide h1 h2⟩
/-- What is new: F is made of blocks that were not there. -/
def NewF (w : World) (F : Nat → Prop) : Prop := ∀ k, F k → w.heap.size ≤ k
set_option maxHeartbeats 400000 in
theorem begin_any (base : Nat) (size : Int) (b n : Nat) (f : Int → List UInt8) (w : World) (h : SecMap w b n f) (hb : base ≤ b) (hs : 0 ≤ size ∧ size ≤ 4096) (hn : n ≤ 100000) :
    Calls Try.prog 25 #[.int .i64 size, .map (some b)] w fun e w' => ∃ (p : Value) (g : Nat), p = .pointer (some ⟨g, 0, none⟩) ∧ e = .returned p ∧ DiskAt base w' (fun k => k = b ∨ w.heap.size ≤ k ∧ k < w'.heap.size) p n ⟨size, f, f, [], 0⟩ ∧ Below w.heap.size w w' := by
  go_enter Try.func25, Try.ntmps25
  go_wp2_with fail
  refine (clone_sec h).mono ?_
  rintro e w1 ⟨rfl, hm2, hb1⟩
  have hm1 := h.of_block (hb1.block b h.lt)
  have hlt := h.lt
  have hlt2 := hm2.lt
  go_wp2
  go_ret
  refine ⟨_, w1.heap.size, rfl, rfl, ⟨w1.heap.size, b, w.heap.size, .slice none 0 0, rfl, ?_⟩, hb1.alloc (Nat.le_of_lt (by omega)) _⟩
  have hB : Below w1.heap.size w1 (w1.alloc (.cells #[.int .i64 size, .map (some b), .map (some w.heap.size), .slice none 0 0, .int .i64 0] 61)) := (Below.refl _ _).alloc (Nat.le_refl _) _
  exact {
    hg := heap_alloc_new w1 _
    m1 := hm1.of_block (hB.block b (by omega))
    m2 := by simpa using hm2.of_block (hB.block _ (by omega))
    row := World.ownsRow_nil _ _ _ _
    fg := Or.inr ⟨by omega, by simp⟩
    f1 := Or.inl rfl
    f2 := Or.inr ⟨Nat.le_refl _, by simp; omega⟩
    fv := fun k hk => by cases hk
    ne := by omega
    nv := by simp [Value.ownBlock]
    oks := fun x hx => by cases hx
    lo := fun k hk => by rcases hk with rfl | hk <;> simp at * <;> omega
    sz := hs
    sf := by simp
    cnt := by simpa using hn
    wsafe := fun k hk => by simp at hk }

theorem makeMap_run (w : World) : (Instr.makeMap 55 none).run Try.prog w = .ok (.map (some w.heap.size)) (w.alloc (.map #[] 0)) := run_makeMap _ _
set_option maxHeartbeats 400000 in
theorem new_any (n : Int) (w : World) (hn : 1 ≤ n ∧ n ≤ 4096) :
    Calls Try.prog 7 #[.int .i64 n] w fun e w' => ∃ (g : Nat), e = .returned (.tuple #[.pointer (some ⟨g, 0, none⟩), .int .i64 0]) ∧ DiskAt w.heap.size w' (fun k => w.heap.size ≤ k ∧ k < w'.heap.size) (.pointer (some ⟨g, 0, none⟩)) 0 ⟨n, fun _ => zsec, fun _ => zsec, [], 0⟩ ∧ Below w.heap.size w w' := by
  have t1 : decide (n < 1) = false := by simp; omega
  have t2 : decide (n > 4096) = false := by simp; omega
  have hmk := makeMap_run w
  go_enter Try.func7, Try.ntmps7
  go_wp2_with fail
  refine (begin_any w.heap.size n w.heap.size 0 (fun _ => zsec) _ (SecMap.made w) (Nat.le_refl _) (by omega) (by omega)).mono ?_
  rintro e w1 ⟨p, g, rfl, rfl, hD, hb⟩
  have h0 : Below w.heap.size w (w.alloc (.map #[] 0)) := (Below.refl _ _).alloc (Nat.le_refl _) _
  have hs : w.heap.size + 1 ≤ w1.heap.size := by simpa using hb.size
  have hb2 : Below w.heap.size w w1 := h0.trans (hb.mono h0.size)
  have hD2 : DiskAt w.heap.size w1 (fun k => w.heap.size ≤ k ∧ k < w1.heap.size) (.pointer (some ⟨g, 0, none⟩)) 0 ⟨n, fun _ => zsec, fun _ => zsec, [], 0⟩ := hD.wide (fun k hk => by simp at hk; omega) (fun k hk => hk)
  clear hD hb hmk h0
  go_wp2
  exact bodyPost_ret (v := .tuple #[.pointer (some ⟨g, 0, none⟩), .int .i64 0]) (by simp [results, Try.results7, go_sem]) rfl ⟨g, rfl, hD2, hb2⟩
theorem new_bad (n : Int) (w : World) (hn : n < 1 ∨ 4096 < n) :
    Calls Try.prog 7 #[.int .i64 n] w fun e w' => e = .returned (.tuple #[.pointer none, .int .i64 1]) ∧ w' = w := by
  by_cases h : n < 1
  · have t1 : decide (n < 1) = true := by simp; omega
    go_enter Try.func7, Try.ntmps7
    go_wp2
    exact bodyPost_ret (v := .tuple #[.pointer none, .int .i64 1]) (by simp [results, Try.results7, go_sem]) rfl ⟨rfl, rfl⟩
  · have t1 : decide (n < 1) = false := by simp; omega
    have t2 : decide (n > 4096) = true := by simp; omega
    go_enter Try.func7, Try.ntmps7
    go_wp2
    exact bodyPost_ret (v := .tuple #[.pointer none, .int .i64 1]) (by simp [results, Try.results7, go_sem]) rfl ⟨rfl, rfl⟩

theorem has_any {base : Nat} {F : Nat → Prop} {g b1 b2 : Nat} {v : Value} {n : Nat} {D : DS} {w : World} (h : DiskIn base w F g b1 b2 v n D) (i : Int) :
    Calls Try.prog 26 #[.pointer (some ⟨g, 0, none⟩), .int .i64 i] w fun e w' => e = .returned (.bool (decide (0 ≤ i) && decide (i < D.size))) ∧ w' = w := by
  obtain ⟨c0, c1, c2, c3, c4, fz⟩ := cells5 h.hg
  clear h
  by_cases h1 : 0 ≤ i
  · have t1 : decide (i ≥ 0) = true := by simpa using h1
    go_enter Try.func26, Try.ntmps26
    go_wp2
    go_ret
    exact ⟨by simp [h1], rfl⟩
  · have t1 : decide (i ≥ 0) = false := by simpa using h1
    go_enter Try.func26, Try.ntmps26
    go_wp2
    go_ret
    exact ⟨by simp [h1], rfl⟩
theorem size_any {base : Nat} {F : Nat → Prop} {p : Value} {n : Nat} {D : DS} {w : World} (h : DiskAt base w F p n D) :
    Calls Try.prog 23 #[p] w fun e w' => e = .returned (.int .i64 D.size) ∧ w' = w := by
  obtain ⟨g, b1, b2, v, rfl, h⟩ := h
  obtain ⟨c0, c1, c2, c3, c4, fz⟩ := cells5 h.hg
  clear h
  go_enter Try.func23, Try.ntmps23
  go_wp2
  go_ret
  exact ⟨rfl, rfl⟩
theorem OwnW.form {base : Nat} {w : World} {v : Value} {l : List W3} (h : OwnW base w v l) : ∃ ao cap, v = .slice ao l.length cap ∧ l.length ≤ cap := by
  rcases h with ⟨h1, ⟨hv, hn⟩ | ⟨g, cap, cur, hv, hg, hh, hc, _⟩⟩
  · exact ⟨none, 0, by rw [hv, hn], by omega⟩
  · exact ⟨_, cap, hv, hc⟩
theorem writes_any {base : Nat} {F : Nat → Prop} {p : Value} {n : Nat} {D : DS} {w : World} (h : DiskAt base w F p n D) :
    Calls Try.prog 24 #[p] w fun e w' => e = .returned (.int .i64 D.ws.length) ∧ w' = w := by
  obtain ⟨g, b1, b2, v, rfl, h⟩ := h
  obtain ⟨c0, c1, c2, c3, c4, fz⟩ := cells5 h.hg
  obtain ⟨ao, cap, rfl, _⟩ := h.row.form
  clear h
  go_enter Try.func24, Try.ntmps24
  go_wp2
  go_ret
  exact ⟨rfl, rfl⟩
set_option maxHeartbeats 400000 in
theorem pending_any {base : Nat} {F : Nat → Prop} {p : Value} {n : Nat} {D : DS} {w : World} (h : DiskAt base w F p n D) :
    Calls Try.prog 22 #[p] w fun e w' => e = .returned (.int .i64 ((D.ws.length : Int) - D.safe)) ∧ Below w.heap.size w w' := by
  obtain ⟨g, b1, b2, v, rfl, h⟩ := h
  obtain ⟨c0, c1, c2, c3, c4, fz⟩ := cells5 h.hg
  obtain ⟨ao, cap, rfl, _⟩ := h.row.form
  have hc := h.cnt
  have hs := h.sf
  clear h
  generalize D.ws.length = L at *
  generalize D.safe = S at *
  go_enter Try.func22, Try.ntmps22
  go_wp2
  go_quiet (fail)
  go_wp2
  go_ret
  exact ⟨by first | rfl | (congr 2; omega), below_drewN (Below.refl _ _) _⟩
theorem sync_any {base : Nat} {F : Nat → Prop} {p : Value} {n : Nat} {D : DS} {w : World} (h : DiskAt base w F p n D) :
    Calls Try.prog 11 #[p] w fun e w' => e = .returned (.tuple #[]) ∧ DiskAt base w' F p n { D with safe := D.ws.length } ∧ Fr w w' F := by
  obtain ⟨g, b1, b2, v, rfl, h⟩ := h
  obtain ⟨c0, c1, c2, c3, c4, fz⟩ := cells5 h.hg
  obtain ⟨ao, cap, hv, _⟩ := h.row.form
  have HD : Hid (DiskIn base w F g b1 b2 v n D) := h
  clear h
  subst hv
  go_enter Try.func11, Try.ntmps11
  go_wp2
  refine bodyPost_end (v := .tuple #[]) (by simp [results, Try.results11, go_sem]) rfl ⟨rfl, ?_⟩
  have h := HD.out
  have hset := setCell_eq_setRow w g 4 _ _ _ (.int .i64 D.ws.length) h.hg
  have hgr : Fr w (w.setCell ⟨g, 4, none⟩ (.int .i64 D.ws.length)) (fun k => k = g) := fr_set _ _ _ _
  have hmap : ∀ b n f, SecMap w b n f → b ≠ g := fun b n f hm e => by
    obtain ⟨es, clock, hx⟩ := hm.isMap
    rw [e, h.hg] at hx; cases hx
  refine ⟨⟨g, b1, b2, _, rfl, { h with
    hg := by rw [hset, setRow_heap w g _ _ _ _ h.hg]; rfl
    m1 := h.m1.of_block (hgr.block _ h.m1.lt (hmap _ _ _ h.m1))
    m2 := h.m2.of_block (hgr.block _ h.m2.lt (hmap _ _ _ h.m2))
    row := own_of_block h.row (fun k hk => hgr.block k (h.lo k (h.fv k hk)).2 (fun e => h.nv (by rw [← e]; exact hk)))
    lo := fun k hk => ⟨(h.lo k hk).1, Nat.lt_of_lt_of_le (h.lo k hk).2 hgr.size⟩
    sf := Nat.le_refl _ }⟩, hgr.mono (fun k hk => by rw [hk]; exact h.fg)⟩
theorem kept_any (v : Value) (ks : List Bool) (p : Nat) (w : World) (h : Bools w v ks) (hp : p ≤ 1000000) :
    Calls Try.prog 33 #[v, .int .i64 p] w fun e w' => e = .returned (.bool (ks.getD p false)) ∧ w' = w := by
  have key : ∃ ao cap, v = .slice ao ks.length cap ∧ ks.length ≤ cap ∧ (p < ks.length → ∃ a, ao = some a ∧ w.cell? (a.add p) = some (.bool (ks.getD p false))) := by
    rcases h with ⟨rfl, rfl⟩ | ⟨a, cap, rfl, hc, h⟩
    · exact ⟨none, 0, rfl, Nat.le_refl _, fun h => by simp at h⟩
    · refine ⟨some a, cap, rfl, hc, fun hp => ⟨a, rfl, ?_⟩⟩
      rw [h p hp]; simp [List.getD, hp]
  obtain ⟨ao, cap, rfl, hc, h1⟩ := key
  by_cases h2 : p < ks.length
  · obtain ⟨a, rfl, hcell⟩ := h1 h2
    generalize ks.getD p false = B at *
    generalize ks.length = L at *
    clear h h1
    go_enter Try.func33, Try.ntmps33
    go_wp2
    go_ret
    exact ⟨rfl, rfl⟩
  · have hB : ks.getD p false = false := by rw [List.getD_eq_getElem?_getD, List.getElem?_eq_none (by omega)]; rfl
    rw [hB]
    generalize ks.length = L at *
    clear h h1
    go_enter Try.func33, Try.ntmps33
    go_wp2
    go_ret
    exact ⟨rfl, rfl⟩
end Go.Proofs.Ytggkclnnneoohaa

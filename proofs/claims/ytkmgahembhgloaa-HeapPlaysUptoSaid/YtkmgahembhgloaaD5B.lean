/- Package disk: a copy of a map, begin, New, has, Size, Writes, Pending, Sync, kept. -/
import Derived.Test.YtkmgahembhgloaaD5A
namespace Go.Proofs.Ytkmgahembhgloaa
open Go.RowKit Go.Maps
set_option linter.unusedVariables false
set_option linter.unusedSimpArgs false

theorem below_drewN {B : Nat} {w w' : World} (h : Below B w w') (n : Nat) : Below B w (w'.drewN n) :=
  h.trans ⟨rfl, rfl, rfl, Nat.le_refl _, fun _ _ => rfl⟩
theorem fr_set (w : World) (g o : Nat) (u : Value) : Fr w (w.setCell ⟨g, o, none⟩ u) (fun k => k = g) :=
  ⟨rfl, rfl, rfl, by simp [World.setCell], fun k _ hk => Below.heap_setCell _ _ _ _ (fun e => hk e)⟩
set_option maxRecDepth 20000 in
set_option maxHeartbeats 2000000 in
theorem clone_any (b : Nat) (es : Array MapEntry) (clock : Nat) (w : World) (hb : w.heap[b]? = some (.map es clock)) :
    Calls Try.prog 64 #[.map (some b)] w fun e w' => e = .returned (.map (some w.heap.size)) ∧ w' = w.alloc (.map es clock) := by
  have hq := fun w => run_eql_map_nil_sl (P := Try.prog) w 84 _ _ (some b) Try.underlying84
  go_enter Try.func64, Try.ntmps64
  go_wp2
  rw [run_callFunc_extern Try.func70 (by kernel_rfl) (by kernel_rfl) (by kernel_rfl) (e := Extern.MapsClone.clone) (by kernel_rfl), run_maps_clone_sl w 84 hb]
  simp only [Result.andThen]
  rw [Oper.upon_value]
  go_wp2
  rw [run_typeAssert_map_sl _ 84 20 _ _ _ Try.underlying84]
  simp only [Result.andThen]
  rw [Oper.upon_value]
  go_wp2
  go_ret
  exact ⟨rfl, rfl⟩
/-- A copy of a map of sectors. -/
theorem clone_sec {b n : Nat} {f : Int → List UInt8} {w : World} (h : SecMap w b n f) :
    Calls Try.prog 64 #[.map (some b)] w fun e w' => e = .returned (.map (some w.heap.size)) ∧ SecMap w' w.heap.size n f ∧ Below w.heap.size w w' := by
  obtain ⟨D, ⟨es, clock, hb, F, hs, hD⟩, h2⟩ := h
  refine (clone_any b es clock w hb).mono fun e w' ⟨he, hw⟩ => ?_
  subst hw
  exact ⟨he, ⟨D, ⟨es, clock, (MapKept.heap_alloc w _).1, F, hs, hD⟩, h2⟩, (Below.refl _ w).alloc (Nat.le_refl _) _⟩

theorem DiskIn.wide {base : Nat} {w : World} {F G : Nat → Prop} {g b1 b2 : Nat} {v : Value} {n : Nat} {D : DS} (h : DiskIn base w F g b1 b2 v n D) (h1 : ∀ k, F k → G k) (h2 : ∀ k, G k → base ≤ k ∧ k < w.heap.size) : DiskIn base w G g b1 b2 v n D :=
  { h with fg := h1 _ h.fg, f1 := h1 _ h.f1, f2 := h1 _ h.f2, fv := fun k hk => h1 _ (h.fv k hk), lo := h2 }
theorem DiskAt.wide {base : Nat} {w : World} {F G : Nat → Prop} {p : Value} {n : Nat} {D : DS} (h : DiskAt base w F p n D) (h1 : ∀ k, F k → G k) (h2 : ∀ k, G k → base ≤ k ∧ k < w.heap.size) : DiskAt base w G p n D := by
  obtain ⟨g, b1, b2, v, hp, h⟩ := h
  exact ⟨g, b1, b2, v, hp, h.wide h1 h2⟩
/-- What is new: F is made of blocks that were not there. -/
def NewF (w : World) (F : Nat → Prop) : Prop := ∀ k, F k → w.heap.size ≤ k
set_option maxHeartbeats 400000 in
theorem begin_any (base : Nat) (size : Int) (b n : Nat) (f : Int → List UInt8) (w : World) (h : SecMap w b n f) (hb : base ≤ b) (hs : 0 ≤ size ∧ size ≤ 4096) (hn : n ≤ 900000) :
    Calls Try.prog 49 #[.int .i64 size, .map (some b)] w fun e w' => ∃ (p : Value) (g : Nat), p = .pointer (some ⟨g, 0, none⟩) ∧ e = .returned p ∧ DiskAt base w' (fun k => k = b ∨ w.heap.size ≤ k ∧ k < w'.heap.size) p n ⟨size, f, f, [], 0⟩ ∧ Below w.heap.size w w' := by
  go_enter Try.func49, Try.ntmps49
  go_wp2_with fail
  refine (clone_sec h).mono ?_
  rintro e w1 ⟨rfl, hm2, hb1⟩
  have hm1 := h.of_block (hb1.block b h.lt)
  have hlt := h.lt
  have hlt2 := hm2.lt
  go_wp2
  go_ret
  refine ⟨_, w1.heap.size, rfl, rfl, ⟨w1.heap.size, b, w.heap.size, .slice none 0 0, rfl, ?_⟩, hb1.alloc (Nat.le_of_lt (by omega)) _⟩
  have hB : Below w1.heap.size w1 (w1.alloc (.cells #[.int .i64 size, .map (some b), .map (some w.heap.size), .slice none 0 0, .int .i64 0] 89)) := (Below.refl _ _).alloc (Nat.le_refl _) _
  exact {
    hg := heap_alloc_new w1 _
    m1 := hm1.of_block (hB.block b (by omega))
    m2 := by simpa using hm2.of_block (hB.block _ (by omega))
    row := World.ownsRow_nil _ _ _ _
    fg := Or.inr ⟨by omega, by simp⟩
    f1 := Or.inl rfl
    f2 := Or.inr ⟨Nat.le_refl _, by simp; omega⟩
    fv := fun k hk => by cases hk
    ne := by omega
    nv := by simp [Value.ownBlock]
    oks := fun x hx => by cases hx
    lo := fun k hk => by rcases hk with rfl | hk <;> simp at * <;> omega
    sz := hs
    sf := by simp
    cnt := by simpa using hn
    wsafe := fun k hk => by simp at hk }

theorem makeMap_run (w : World) : (Instr.makeMap 84 none).run Try.prog w = .ok (.map (some w.heap.size)) (w.alloc (.map #[] 0)) := run_makeMap _ _
set_option maxHeartbeats 400000 in
theorem new_any (n : Int) (w : World) (hn : 1 ≤ n ∧ n ≤ 4096) :
    Calls Try.prog 23 #[.int .i64 n] w fun e w' => ∃ (g : Nat), e = .returned (.tuple #[.pointer (some ⟨g, 0, none⟩), .int .i64 0]) ∧ DiskAt w.heap.size w' (fun k => w.heap.size ≤ k ∧ k < w'.heap.size) (.pointer (some ⟨g, 0, none⟩)) 0 ⟨n, fun _ => zsec, fun _ => zsec, [], 0⟩ ∧ Below w.heap.size w w' := by
  have t1 : decide (n < 1) = false := by simp; omega
  have t2 : decide (n > 4096) = false := by simp; omega
  have hmk := makeMap_run w
  go_enter Try.func23, Try.ntmps23
  go_wp2_with fail
  refine (begin_any w.heap.size n w.heap.size 0 (fun _ => zsec) _ (SecMap.made w) (Nat.le_refl _) (by omega) (by omega)).mono ?_
  rintro e w1 ⟨p, g, rfl, rfl, hD, hb⟩
  have h0 : Below w.heap.size w (w.alloc (.map #[] 0)) := (Below.refl _ _).alloc (Nat.le_refl _) _
  have hs : w.heap.size + 1 ≤ w1.heap.size := by simpa using hb.size
  have hb2 : Below w.heap.size w w1 := h0.trans (hb.mono h0.size)
  have hD2 : DiskAt w.heap.size w1 (fun k => w.heap.size ≤ k ∧ k < w1.heap.size) (.pointer (some ⟨g, 0, none⟩)) 0 ⟨n, fun _ => zsec, fun _ => zsec, [], 0⟩ := hD.wide (fun k hk => by simp at hk; omega) (fun k hk => hk)
  clear hD hb hmk h0
  go_wp2
  exact bodyPost_ret (v := .tuple #[.pointer (some ⟨g, 0, none⟩), .int .i64 0]) (by simp [results, Try.results23, go_sem]) rfl ⟨g, rfl, hD2, hb2⟩
theorem new_bad (n : Int) (w : World) (hn : n < 1 ∨ 4096 < n) :
    Calls Try.prog 23 #[.int .i64 n] w fun e w' => e = .returned (.tuple #[.pointer none, .int .i64 1]) ∧ w' = w := by
  by_cases h : n < 1
  · have t1 : decide (n < 1) = true := by simp; omega
    go_enter Try.func23, Try.ntmps23
    go_wp2
    exact bodyPost_ret (v := .tuple #[.pointer none, .int .i64 1]) (by simp [results, Try.results23, go_sem]) rfl ⟨rfl, rfl⟩
  · have t1 : decide (n < 1) = false := by simp; omega
    have t2 : decide (n > 4096) = true := by simp; omega
    go_enter Try.func23, Try.ntmps23
    go_wp2
    exact bodyPost_ret (v := .tuple #[.pointer none, .int .i64 1]) (by simp [results, Try.results23, go_sem]) rfl ⟨rfl, rfl⟩

theorem has_any {base : Nat} {F : Nat → Prop} {g b1 b2 : Nat} {v : Value} {n : Nat} {D : DS} {w : World} (h : DiskIn base w F g b1 b2 v n D) (i : Int) :
    Calls Try.prog 50 #[.pointer (some ⟨g, 0, none⟩), .int .i64 i] w fun e w' => e = .returned (.bool (decide (0 ≤ i) && decide (i < D.size))) ∧ w' = w := by
  obtain ⟨c0, c1, c2, c3, c4, fz⟩ := cells5 h.hg
  clear h
  by_cases h1 : 0 ≤ i
  · have t1 : decide (i ≥ 0) = true := by simpa using h1
    go_enter Try.func50, Try.ntmps50
    go_wp2
    go_ret
    exact ⟨by simp [h1], rfl⟩
  · have t1 : decide (i ≥ 0) = false := by simpa using h1
    go_enter Try.func50, Try.ntmps50
    go_wp2
    go_ret
    exact ⟨by simp [h1], rfl⟩
theorem size_any {base : Nat} {F : Nat → Prop} {p : Value} {n : Nat} {D : DS} {w : World} (h : DiskAt base w F p n D) :
    Calls Try.prog 51 #[p] w fun e w' => e = .returned (.int .i64 D.size) ∧ w' = w := by
  obtain ⟨g, b1, b2, v, rfl, h⟩ := h
  obtain ⟨c0, c1, c2, c3, c4, fz⟩ := cells5 h.hg
  clear h
  go_enter Try.func51, Try.ntmps51
  go_wp2
  go_ret
  exact ⟨rfl, rfl⟩
theorem OwnW.form {base : Nat} {w : World} {v : Value} {l : List W3} (h : OwnW base w v l) : ∃ ao cap, v = .slice ao l.length cap ∧ l.length ≤ cap := by
  rcases h with ⟨h1, ⟨hv, hn⟩ | ⟨g, cap, cur, hv, hg, hh, hc, _⟩⟩
  · exact ⟨none, 0, by rw [hv, hn], by omega⟩
  · exact ⟨_, cap, hv, hc⟩
end Go.Proofs.Ytkmgahembhgloaa

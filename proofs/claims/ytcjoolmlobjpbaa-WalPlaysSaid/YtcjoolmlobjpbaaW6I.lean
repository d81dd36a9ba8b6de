/- Package wal: taker, Format, Open. -/
import Derived.Test.YtcjoolmlobjpbaaW6H
namespace Go.Proofs.Ytcjoolmlobjpbaa
open Go.RowKit Go.Maps
set_option linter.unusedVariables false
set_option linter.unusedSimpArgs false

/-- Where records stand among their frames. -/
def spansFrom (off : Nat) : List (List UInt8) → List (Nat × Nat)
  | [] => []
  | r :: l => (off + 8, off + 8 + r.length) :: spansFrom (off + (8 + rnd r.length)) l
def spans (l : List (List UInt8)) : List (Nat × Nat) := spansFrom 0 l
theorem spansFrom_snoc (off : Nat) (l : List (List UInt8)) (r : List UInt8) : spansFrom off (l ++ [r]) = spansFrom off l ++ [(off + sizeL l + 8, off + sizeL l + 8 + r.length)] := by
  induction l generalizing off with
  | nil => simp [spansFrom, sizeL, frames]
  | cons x l ih =>
    rw [List.cons_append, spansFrom, ih, spansFrom, sizeL_cons]
    simp only [List.cons_append]
    congr 3
    simp only [Prod.mk.injEq]
    omega
theorem spans_snoc (l : List (List UInt8)) (r : List UInt8) : spans (l ++ [r]) = spans l ++ [(sizeL l + 8, sizeL l + 8 + r.length)] := by
  unfold spans; rw [spansFrom_snoc]; simp
theorem spans_len (l : List (List UInt8)) : (spans l).length = l.length := by
  unfold spans
  suffices h : ∀ off, (spansFrom off l).length = l.length from h 0
  induction l with
  | nil => intro off; rfl
  | cons x l ih => intro off; simp [spansFrom, ih]
theorem spansFrom_at (off : Nat) (l : List (List UInt8)) (k : Nat) (h : k < l.length) : (spansFrom off l)[k]? = some (off + sizeL (l.take k) + 8, off + sizeL (l.take k) + 8 + l[k].length) := by
  induction l generalizing off k with
  | nil => simp at h
  | cons x l ih =>
    cases k with
    | zero => simp [spansFrom, sizeL, frames]
    | succ k =>
      rw [spansFrom, List.getElem?_cons_succ, ih _ k (by simpa using h)]
      simp only [List.take_succ_cons, sizeL_cons, List.getElem_cons_succ, Option.some.injEq, Prod.mk.injEq]
      omega
theorem spans_at (l : List (List UInt8)) (k : Nat) (h : k < l.length) : (spans l)[k]? = some (sizeL (l.take k) + 8, sizeL (l.take k) + 8 + l[k].length) := by
  unfold spans; rw [spansFrom_at 0 l k h]; simp
/-- A log of records. -/
def LSof (first : Int) (n : Nat) (recs : List (List UInt8)) (fl : Nat) : LS := ⟨first, n, frames recs, spans recs, fl⟩
theorem LSof_snoc (first : Int) (n : Nat) (recs : List (List UInt8)) (fl : Nat) (r : List UInt8) : { LSof first n recs fl with fr := (LSof first n recs fl).fr ++ frame r, sp := (LSof first n recs fl).sp ++ [((LSof first n recs fl).fr.length + 8, (LSof first n recs fl).fr.length + 8 + r.length)] } = LSof first n (recs ++ [r]) fl := by
  unfold LSof
  rw [frames_snoc, spans_snoc]
  rfl
theorem log_new (base : Nat) (w : World) (pd : Value) (first : Int) (n : Nat) (h1 : 0 ≤ first ∧ first ≤ 4096) (h2 : 1 ≤ n ∧ n ≤ 1024) (hb : base ≤ w.heap.size) :
    LogIn base (w.alloc (.cells #[pd, .int .i64 first, .int .i64 n, .slice none 0 0, .slice none 0 0, .int .i64 0] 66)) (fun k => k = w.heap.size) w.heap.size pd (.slice none 0 0) (.slice none 0 0) (LSof first n [] 0) where
  hg := heap_alloc_new w _
  fr := World.ownsRow_nil _ _ _ _
  sp := World.ownsRow_nil _ _ _ _
  gg := rfl
  gf := fun k hk => by cases hk
  gr := fun k hk => by cases hk
  nf := by simp [Value.ownBlock]
  nr := by simp [Value.ownBlock]
  nfr := fun k hk => by cases hk
  lo := fun k hk => by simp; omega
  first := h1
  n := h2
  len := by simp [LSof, frames]
  spl := by simp [LSof, spans, spansFrom]
  fll := Nat.zero_le _
/-- A log that has just been opened, and its disk. -/
structure Opened (base : Nat) (w w' : World) (F F' G : Nat → Prop) (p pl : Value) (n : Nat) (D : DS) (L : LS) : Prop where
  d : DPost base w w' F F' p n D
  l : LogAt base w' G pl p L
  a : ∀ k, F' k → ¬ G k
  o : ∀ k, G k → w.heap.size ≤ k
set_option maxHeartbeats 2000000 in
theorem format_ok {base : Nat} {w : World} {F : Nat → Prop} {p : Value} {n : Nat} {D : DS} (hD : DiskAt base w F p n D) (first : Int) (m : Nat) (h1 : 0 ≤ first) (h2 : 1 ≤ m ∧ m ≤ 1024) (h3 : first + m ≤ D.size) (hcnt : n + D.ws.length + m + 1 < 100000) :
    Calls Try.prog 11 #[p, .int .i64 first, .int .i64 m] w fun e w' => ∃ (g : Nat) (F' G : Nat → Prop), e = .returned (.tuple #[.pointer (some ⟨g, 0, none⟩), .int .i64 0]) ∧ Opened base w w' F F' G p (.pointer (some ⟨g, 0, none⟩)) n (D.settle first m []) (LSof first m [] 0) := by
  have hz : 0 ≤ D.size ∧ D.size ≤ 4096 := by obtain ⟨_, _, _, _, _, h⟩ := hD; exact h.sz
  have hbase : base ≤ w.heap.size := by obtain ⟨g, _, _, _, _, h⟩ := hD; have := h.lo g h.fg; omega
  have hck := check_fit hD first m h1 (by omega) (by omega) (by omega)
  rw [if_neg (by omega)] at hck
  have hlo : ∀ k, F k → k < w.heap.size := fun k hk => (hD.lo k hk).2
  have ha : Below w.heap.size w (w.alloc (.cells #[p, .int .i64 first, .int .i64 m, .slice none 0 0, .slice none 0 0, .int .i64 0] 66)) := (Below.refl _ _).alloc (Nat.le_refl _) _
  have hst := settle_any (hD.keepB ha) ⟨w.heap.size, _, _, rfl, log_new base w p first m ⟨h1, by omega⟩ h2 hbase⟩ (fun k hk hg => by have := hlo k hk; omega) h3 hcnt
  have HST : Hid (Calls Try.prog 30 #[.pointer (some ⟨w.heap.size, 0, none⟩)] (w.alloc (.cells #[p, .int .i64 first, .int .i64 m, .slice none 0 0, .slice none 0 0, .int .i64 0] 66)) fun e w' => e = .returned (.tuple #[]) ∧ ∃ F', DPost base w w' F F' p n (D.settle first m []) ∧ LogAt base w' (fun k => k = w.heap.size) (.pointer (some ⟨w.heap.size, 0, none⟩)) p (LSof first m [] 0) ∧ ∀ k, F' k → ¬ k = w.heap.size) := by
    refine hst.mono ?_
    rintro e w' ⟨he, F', hP⟩
    have hL : LogAt base w' (fun k => k = w.heap.size) (.pointer (some ⟨w.heap.size, 0, none⟩)) p (LSof first m [] 0) := LogAt.keep ⟨w.heap.size, _, _, rfl, log_new base w p first m ⟨h1, by omega⟩ h2 hbase⟩ hP.f (fun k hk hg => by have := hlo k hg; omega)
    refine ⟨he, F', ⟨hP.d, (Fr.of_below (F := F) ha).trans hP.f (fun i hi => Or.inl hi), fun k hk => ?_⟩, hL, fun k hk e => ?_⟩
    · rcases hP.o k hk with h | h
      · exact Or.inl h
      · right; simp at h; omega
    · rcases hP.o k hk with h | h
      · have := hlo k h; omega
      · simp at h; omega
  clear hst ha
  obtain ⟨dg, _, _, _, rfl, _⟩ := hD
  go_enter Try.func11, Try.ntmps11
  go_wp2_with (first
    | (go_at_call 29; refine hck.mono ?_; rintro e wx ⟨rfl, hwx⟩; subst hwx)
    | (go_at_call 30; refine HST.out.mono ?_; rintro e w1 ⟨rfl, F1, hP1, hL1, hd1⟩))
  exact bodyPost_ret (v := .tuple #[.pointer (some ⟨_, 0, none⟩), .int .i64 0]) (by simp [results, Try.results11, go_sem]) rfl ⟨_, F1, _, rfl, hP1, hL1, hd1, fun k hk => by rw [hk]; exact Nat.le_refl _⟩
end Go.Proofs.Ytcjoolmlobjpbaa

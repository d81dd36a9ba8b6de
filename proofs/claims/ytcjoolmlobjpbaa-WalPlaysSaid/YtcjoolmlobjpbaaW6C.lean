/- Package wal: a log as it lies; add, Append, Free, Flushed. -/
import Derived.Test.YtcjoolmlobjpbaaW6B
namespace Go.Proofs.Ytcjoolmlobjpbaa
open Go.RowKit Go.Maps
set_option linter.unusedVariables false
set_option linter.unusedSimpArgs false

/-- Where a record stands. -/
def cellsP (x : Nat × Nat) : List Value := [.int .i64 x.1, .int .i64 x.2]
theorem cellsP_len (x : Nat × Nat) : (cellsP x).length = 2 := rfl
def OwnP (base : Nat) (w : World) (v : Value) (l : List (Nat × Nat)) : Prop := w.ownsRow base 76 2 v l.length (l.flatMap cellsP)
theorem infoP : (Try.prog.info? 76).map (fun i => (i.zero, i.size, i.bytes)) = some (some (.agg #[.int .i64 0, .int .i64 0]), 2, 16) := by kernel_rfl
theorem OwnP.form {base : Nat} {w : World} {v : Value} {l : List (Nat × Nat)} (h : OwnP base w v l) : ∃ ao cap, v = .slice ao l.length cap ∧ l.length ≤ cap := by
  rcases h with ⟨h1, ⟨hv, hn⟩ | ⟨g, cap, cur, hv, hg, hh, hc, _⟩⟩
  · exact ⟨none, 0, by rw [hv, hn], by omega⟩
  · exact ⟨_, cap, hv, hc⟩
theorem OwnP.at {base : Nat} {w : World} {v : Value} {l : List (Nat × Nat)} (h : OwnP base w v l) (hl : 0 < l.length) : ∃ g cap, v = .slice (some ⟨g, 0, none⟩) l.length cap ∧ l.length ≤ cap ∧ ∀ k (hk : k < l.length), w.cell? ⟨g, k * 2, none⟩ = some (.int .i64 l[k].1) ∧ w.cell? ⟨g, k * 2 + 1, none⟩ = some (.int .i64 l[k].2) := by
  rcases own_range (c := cellsP) (n := 2) (fun x _ => rfl) h with ⟨_, h0⟩ | ⟨g, cap, hv, hc, _, _, hr⟩
  · rw [h0] at hl; simp at hl
  · exact ⟨g, cap, hv, hc, fun k hk => ⟨hr k hk 0 _ rfl, hr k hk 1 _ rfl⟩⟩

/-- A log, as the program has it. -/
structure LS where
  first : Int
  n : Nat
  fr : List UInt8
  sp : List (Nat × Nat)
  fl : Nat
structure LogIn (base : Nat) (w : World) (G : Nat → Prop) (g : Nat) (pd vf vr : Value) (L : LS) : Prop where
  hg : w.heap[g]? = some (.cells #[pd, .int .i64 L.first, .int .i64 L.n, vf, vr, .int .i64 L.fl] 66 (0, 0))
  fr : OwnB base w vf L.fr
  sp : OwnP base w vr L.sp
  gg : G g
  gf : ∀ k, vf.ownBlock = some k → G k
  gr : ∀ k, vr.ownBlock = some k → G k
  nf : vf.ownBlock ≠ some g
  nr : vr.ownBlock ≠ some g
  nfr : ∀ k, vf.ownBlock = some k → vr.ownBlock ≠ some k
  lo : ∀ k, G k → base ≤ k ∧ k < w.heap.size
  first : 0 ≤ L.first ∧ L.first ≤ 4096
  n : 1 ≤ L.n ∧ L.n ≤ 1024
  len : L.fr.length ≤ 128 * L.n
  spl : L.sp.length ≤ 10000
  fll : L.fl ≤ L.sp.length
def LogAt (base : Nat) (w : World) (G : Nat → Prop) (pl pd : Value) (L : LS) : Prop := ∃ g vf vr, pl = .pointer (some ⟨g, 0, none⟩) ∧ LogIn base w G g pd vf vr L
theorem LogIn.keep {base : Nat} {w w' : World} {F G : Nat → Prop} {g : Nat} {pd vf vr : Value} {L : LS} (h : LogIn base w G g pd vf vr L) (hf : Fr w w' F) (hd : ∀ k, G k → ¬ F k) : LogIn base w' G g pd vf vr L := by
  have hb : ∀ k, G k → w'.heap[k]? = w.heap[k]? := fun k hk => hf.block k (h.lo k hk).2 (hd k hk)
  exact { h with
    hg := (hb g h.gg).trans h.hg
    fr := own_of_block h.fr (fun k hk => hb k (h.gf k hk))
    sp := own_of_block h.sp (fun k hk => hb k (h.gr k hk))
    lo := fun k hk => ⟨(h.lo k hk).1, Nat.lt_of_lt_of_le (h.lo k hk).2 hf.size⟩ }
theorem LogAt.keep {base : Nat} {w w' : World} {F G : Nat → Prop} {pl pd : Value} {L : LS} (h : LogAt base w G pl pd L) (hf : Fr w w' F) (hd : ∀ k, G k → ¬ F k) : LogAt base w' G pl pd L := by
  obtain ⟨g, vf, vr, hp, h⟩ := h
  exact ⟨g, vf, vr, hp, h.keep hf hd⟩
theorem LogAt.keepB {base : Nat} {w w' : World} {G : Nat → Prop} {pl pd : Value} {L : LS} (h : LogAt base w G pl pd L) (hf : Below w.heap.size w w') : LogAt base w' G pl pd L :=
  h.keep (Fr.of_below (F := fun _ => False) hf) (fun _ _ => id)
theorem LogAt.lo {base : Nat} {w : World} {G : Nat → Prop} {pl pd : Value} {L : LS} (h : LogAt base w G pl pd L) : ∀ k, G k → base ≤ k ∧ k < w.heap.size := by
  obtain ⟨g, vf, vr, hp, h⟩ := h; exact h.lo
theorem LogAt.ok {base : Nat} {w : World} {G : Nat → Prop} {pl pd : Value} {L : LS} (h : LogAt base w G pl pd L) : (0 ≤ L.first ∧ L.first ≤ 4096) ∧ (1 ≤ L.n ∧ L.n ≤ 1024) ∧ L.fr.length ≤ 128 * L.n ∧ L.sp.length ≤ 10000 ∧ L.fl ≤ L.sp.length := by
  obtain ⟨g, vf, vr, hp, h⟩ := h; exact ⟨h.first, h.n, h.len, h.spl, h.fll⟩
/-- The six cells. -/
structure Cells6 (w : World) (g : Nat) (c0 c1 c2 c3 c4 c5 : Value) : Prop where
  c0 : w.cell? ⟨g, 0, none⟩ = some c0
  c1 : w.cell? ⟨g, 1, none⟩ = some c1
  c2 : w.cell? ⟨g, 2, none⟩ = some c2
  c3 : w.cell? ⟨g, 3, none⟩ = some c3
  c4 : w.cell? ⟨g, 4, none⟩ = some c4
  c5 : w.cell? ⟨g, 5, none⟩ = some c5
  f : ∀ o, w.frozen? ⟨g, o, none⟩ = false
theorem cells6 {w : World} {g : Nat} {c0 c1 c2 c3 c4 c5 : Value} {t : TypeId} (h : w.heap[g]? = some (.cells #[c0, c1, c2, c3, c4, c5] t (0, 0))) : Cells6 w g c0 c1 c2 c3 c4 c5 :=
  ⟨by rw [cell_of_row w g 0 _ _ _ h]; rfl, by rw [cell_of_row w g 1 _ _ _ h]; rfl, by rw [cell_of_row w g 2 _ _ _ h]; rfl, by rw [cell_of_row w g 3 _ _ _ h]; rfl, by rw [cell_of_row w g 4 _ _ _ h]; rfl, by rw [cell_of_row w g 5 _ _ _ h]; rfl, frozen_row h⟩
/-- What the log has now: its footprint, one row turned. -/
def Gplus (G : Nat → Prop) (w w1 : World) : Nat → Prop := fun k => G k ∨ (w.heap.size ≤ k ∧ k < w1.heap.size)
theorem Gplus.out {G : Nat → Prop} {w w1 : World} : ∀ k, Gplus G w w1 k → G k ∨ w.heap.size ≤ k := fun k hk => by
  rcases hk with h | h
  · exact Or.inl h
  · exact Or.inr h.1
theorem LogIn.newSp {base : Nat} {w w1 : World} {G : Nat → Prop} {g : Nat} {pd vf vr vr' : Value} {L : LS} {sp' : List (Nat × Nat)} (h : LogIn base w G g pd vf vr L) (hg : GrowB w vr w1 vr') (ho : OwnP base w1 vr' sp') (hl : sp'.length ≤ 10000) (hl2 : L.fl ≤ sp'.length) :
    LogIn base (w1.setCell ⟨g, 4, none⟩ vr') (Gplus G w w1) g pd vf vr' { L with sp := sp' } ∧ Fr w (w1.setCell ⟨g, 4, none⟩ vr') G := by
  have hgl := h.lo g h.gg
  have hg1 : w1.heap[g]? = some (.cells #[pd, .int .i64 L.first, .int .i64 L.n, vf, vr, .int .i64 L.fl] 66 (0, 0)) := (hg.grown.block g hgl.2 (fun e => h.nr e.symm)).trans h.hg
  have hset := setCell_eq_setRow w1 g 4 _ _ _ vr' hg1
  have hfs : Fr w1 (w1.setCell ⟨g, 4, none⟩ vr') (fun k => k = g) := fr_set _ _ _ _
  have hne : vr'.ownBlock ≠ some g := by
    rcases hg.own with e | e
    · rw [e]; exact h.nr
    · intro e2; have := e g e2; omega
  have f1 : Fr w w1 G := Fr.of_grown hg.grown (fun k hk => h.gr k hk)
  refine ⟨{ h with
    hg := by rw [hset, setRow_heap w1 g _ _ _ _ hg1]; rfl
    fr := own_of_block (own_of_block h.fr (w' := w1) (fun k hk => hg.grown.block k (h.lo k (h.gf k hk)).2 (fun e => h.nfr k hk e.symm))) (fun k hk => hfs.block k (Nat.lt_of_lt_of_le (h.lo k (h.gf k hk)).2 hg.grown.size) (fun e => h.nf (by rw [← e]; exact hk)))
    sp := own_of_block ho (fun k hk => hfs.block k (World.ownsRow.lt ho k hk).2 (fun e => hne (by rw [← e]; exact hk)))
    gg := Or.inl h.gg
    gf := fun k hk => Or.inl (h.gf k hk)
    gr := fun k hk => ?_
    nf := h.nf
    nr := hne
    nfr := fun k hk e => ?_
    lo := fun k hk => ?_
    spl := hl
    fll := hl2 }, f1.trans hfs (fun i hi => Or.inl (by rw [hi]; exact h.gg))⟩
  · rcases hg.own with e | e
    · exact Or.inl (h.gr k (by rw [← e]; exact hk))
    · exact Or.inr ⟨e k hk, (World.ownsRow.lt ho k hk).2⟩
  · rcases hg.own with e1 | e1
    · exact h.nfr k hk (by rw [← e1]; exact e)
    · have := e1 k e; have := (h.lo k (h.gf k hk)).2; omega
  · have hs := hg.grown.size
    have hsz : (w1.setCell ⟨g, 4, none⟩ vr').heap.size = w1.heap.size := by simp [World.setCell]
    rcases hk with hk | hk
    · have := h.lo k hk; omega
    · omega
theorem LogIn.newFr {base : Nat} {w w1 : World} {G : Nat → Prop} {g : Nat} {pd vf vf' vr : Value} {L : LS} {fr' : List UInt8} (h : LogIn base w G g pd vf vr L) (hg : GrowB w vf w1 vf') (ho : OwnB base w1 vf' fr') (hl : fr'.length ≤ 128 * L.n) :
    LogIn base (w1.setCell ⟨g, 3, none⟩ vf') (Gplus G w w1) g pd vf' vr { L with fr := fr' } ∧ Fr w (w1.setCell ⟨g, 3, none⟩ vf') G := by
  have hgl := h.lo g h.gg
  have hg1 : w1.heap[g]? = some (.cells #[pd, .int .i64 L.first, .int .i64 L.n, vf, vr, .int .i64 L.fl] 66 (0, 0)) := (hg.grown.block g hgl.2 (fun e => h.nf e.symm)).trans h.hg
  have hset := setCell_eq_setRow w1 g 3 _ _ _ vf' hg1
  have hfs : Fr w1 (w1.setCell ⟨g, 3, none⟩ vf') (fun k => k = g) := fr_set _ _ _ _
  have hne : vf'.ownBlock ≠ some g := by
    rcases hg.own with e | e
    · rw [e]; exact h.nf
    · intro e2; have := e g e2; omega
  have f1 : Fr w w1 G := Fr.of_grown hg.grown (fun k hk => h.gf k hk)
  refine ⟨{ h with
    hg := by rw [hset, setRow_heap w1 g _ _ _ _ hg1]; rfl
    sp := own_of_block (own_of_block h.sp (w' := w1) (fun k hk => hg.grown.block k (h.lo k (h.gr k hk)).2 (fun e => h.nfr k e.symm hk))) (fun k hk => hfs.block k (Nat.lt_of_lt_of_le (h.lo k (h.gr k hk)).2 hg.grown.size) (fun e => h.nr (by rw [← e]; exact hk)))
    fr := own_of_block ho (fun k hk => hfs.block k (World.ownsRow.lt ho k hk).2 (fun e => hne (by rw [← e]; exact hk)))
    gg := Or.inl h.gg
    gr := fun k hk => Or.inl (h.gr k hk)
    gf := fun k hk => ?_
    nr := h.nr
    nf := hne
    nfr := fun k hk e => ?_
    lo := fun k hk => ?_
    len := hl }, f1.trans hfs (fun i hi => Or.inl (by rw [hi]; exact h.gg))⟩
  · rcases hg.own with e | e
    · exact Or.inl (h.gf k (by rw [← e]; exact hk))
    · exact Or.inr ⟨e k hk, (World.ownsRow.lt ho k hk).2⟩
  · rcases hg.own with e1 | e1
    · exact h.nfr k (by rw [← e1]; exact hk) e
    · have := e1 k hk; have := (h.lo k (h.gr k e)).2; omega
  · have hs := hg.grown.size
    have hsz : (w1.setCell ⟨g, 3, none⟩ vf').heap.size = w1.heap.size := by simp [World.setCell]
    rcases hk with hk | hk
    · have := h.lo k hk; omega
    · omega
/-- Bytes that do not lie in a footprint. -/
def OffF (G : Nat → Prop) (rv : Value) : Prop := ∀ a n c, rv = .slice (some a) n c → ¬ G a.block
theorem Bytes.fr {w w' : World} {rv : Value} {r : List UInt8} {G : Nat → Prop} (h : Bytes w rv r) (ha : OffF G rv) (hf : Fr w w' G) : Bytes w' rv r := by
  rcases h with h | ⟨a, cap, hv, hc, h⟩
  · exact Or.inl h
  · refine Or.inr ⟨a, cap, hv, hc, fun j hj => ?_⟩
    have h1 := h j hj
    have hlt := World.block_lt_of_cell? w _ h1
    rw [World.cell?_of_block (hf.block _ hlt (by rw [add_block]; exact ha a _ _ hv))]
    exact h1
set_option maxHeartbeats 2000000 in
theorem add_any {base : Nat} {w : World} {G : Nat → Prop} {pl pd : Value} {L : LS} (h : LogAt base w G pl pd L) (rv : Value) (r : List UInt8) (hB : Bytes w rv r) (ho : OffF G rv) (hr : OkR r) (hfit : L.fr.length + 8 + rnd r.length ≤ 128 * L.n) (hs : L.sp.length < 10000) :
    Calls Try.prog 33 #[pl, rv] w fun e w' => e = .returned (.tuple #[]) ∧ ∃ G', LogAt base w' G' pl pd { L with fr := L.fr ++ frame r, sp := L.sp ++ [(L.fr.length + 8, L.fr.length + 8 + r.length)] } ∧ Fr w w' G ∧ ∀ k, G' k → G k ∨ w.heap.size ≤ k := by
  obtain ⟨g, vf, vr, rfl, h⟩ := h
  obtain ⟨c0, c1, c2, c3, c4, c5, fz⟩ := cells6 h.hg
  obtain ⟨aof, capf, rfl, hcf, _⟩ := h.fr.toBytes.form
  obtain ⟨aor, capr, rfl, hcr⟩ := h.sp.form
  obtain ⟨rao, rcap, rfl, hrc, _⟩ := hB.form
  obtain ⟨hr1, hr2⟩ := id hr
  have hn := h.n
  have hlen := h.len
  have hbase : base ≤ w.heap.size := by have := h.lo g h.gg; omega
  have HD : Hid (LogIn base w G g pd (.slice aof L.fr.length capf) (.slice aor L.sp.length capr) L) := h
  have HB : Hid (Bytes w (.slice rao r.length rcap) r) := hB
  clear hB h
  obtain ⟨i0, hi, hz0, hz1, hz2⟩ := info_parts infoP
  go_enter Try.func33, Try.ntmps33
  go_wp2_with (first
    | (at_builtin; refine wpList_append_lies _ rfl _ _ 64 rfl base 76 i0 (.agg #[.int .i64 0, .int .i64 0]) 2 16 Try.underlying64 hi hz0 hz1 hz2 rfl (by decide) _ L.sp.length (L.sp.flatMap cellsP) rfl (World.ownsRow.alloc HD.out.sp _) ⟨w.heap.size, 0, none⟩ 1 1 (cellsP (L.fr.length + 8, L.fr.length + 8 + r.length)) rfl rfl ?hn (by intro u hu; simp [cellsP] at hu; rcases hu with rfl | rfl <;> rfl) (by decide) (by unfold maxLen; omega) (by omega) (by simp; omega) _ rfl ?_))
  case hn => exact World.news_of_block (heap_alloc_new w _)
  intro gk cap w1 hown1 hgr1 hat1 hlt1
  have hB1 : GrowB w (.slice aor L.sp.length capr) w1 (.slice (some ⟨gk, 0, none⟩) (L.sp.length + 1) cap) := by
    refine ((GrowB.refl w (.slice aor L.sp.length capr)).alloc _).trans ⟨hgr1, ?_⟩
    rcases hat1 with e | e
    · exact Or.inl (by rw [e]; rfl)
    · exact Or.inr fun k hk => by simp [Value.ownBlock] at hk; rw [← hk, e]; simp
  have hP1 : OwnP base w1 (.slice (some ⟨gk, 0, none⟩) (L.sp.length + 1) cap) (L.sp ++ [(L.fr.length + 8, L.fr.length + 8 + r.length)]) := by
    unfold OwnP
    rw [List.length_append, List.flatMap_append]
    simpa using hown1
  obtain ⟨hL2, hF2⟩ := HD.out.newSp hB1 hP1 (by simp; omega) (by have := HD.out.fll; simp; omega)
  have hg1 : w1.heap[g]? = _ := (hB1.grown.block g (HD.out.lo g HD.out.gg).2 (fun e => HD.out.nr e.symm)).trans HD.out.hg
  obtain ⟨d0, d1, d2, d3, d4, d5, fz1⟩ := cells6 hg1
  have HL2 : Hid (LogIn _ _ _ _ _ _ _ _) := hL2
  clear hown1 hgr1 hat1 hB1 hP1 hg1 hL2 c0 c1 c2 c3 c4 c5 fz hi hz0 hz1 hz2
  go_wp2_with fail
  have hL2 := HL2.out
  have hBy := HB.out.fr ho hF2
  have hap : Apart (.slice rao r.length rcap) (.slice aof L.fr.length capf) := fun a n c e hx => ho a n c e (HD.out.gf _ hx)
  refine (appendFrame_any base _ L.fr _ r _ hL2.fr (by have := hF2.size; omega) (by omega) hBy hap hr).mono ?_
  rintro e w3 ⟨vf', rfl, hown3, hg3⟩
  obtain ⟨ao3, cap3, hv3, hc3, _⟩ := hown3.toBytes.form
  rw [List.length_append] at hv3
  subst hv3
  obtain ⟨hL4, hF4⟩ := hL2.newFr hg3 hown3 (by rw [List.length_append, frame_len]; show _ ≤ 128 * L.n; omega)
  have hg3' : w3.heap[g]? = _ := (hg3.grown.block g (hL2.lo g hL2.gg).2 (fun e => hL2.nf e.symm)).trans hL2.hg
  obtain ⟨e0, e1, e2, e3, e4, e5, fz3⟩ := cells6 hg3'
  have hFF := hF2.trans hF4 (Gplus.out)
  have hsz := hF2.size
  have HL4 : Hid (LogIn _ _ _ _ _ _ _ _) := hL4
  clear hL4 hg3' hL2 HL2 hg3 hown3 hF4 hBy hap
  go_wp2
  refine bodyPost_end (v := .tuple #[]) (by simp [results, Try.results33, go_sem]) rfl ⟨rfl, ?_⟩
  refine ⟨_, ⟨g, _, _, rfl, HL4.out⟩, hFF, fun k hk => ?_⟩
  rcases hk with hk | hk
  · exact Gplus.out k hk
  · right; omega
theorem checked_spans {L : LS} (h : L.sp.length ≤ 10000) : True := trivial
set_option maxHeartbeats 400000 in
theorem free_any {base : Nat} {w : World} {G : Nat → Prop} {pl pd : Value} {L : LS} (h : LogAt base w G pl pd L) :
    Calls Try.prog 25 #[pl] w fun e w' => e = .returned (.int .i64 (128 * L.n - L.fr.length : Nat)) ∧ Below w.heap.size w w' := by
  obtain ⟨g, vf, vr, rfl, h⟩ := h
  obtain ⟨c0, c1, c2, c3, c4, c5, fz⟩ := cells6 h.hg
  obtain ⟨aof, capf, rfl, hcf, _⟩ := h.fr.toBytes.form
  have hn := h.n
  have hlen := h.len
  clear h
  generalize L.fr.length = m at *
  generalize L.n = n at *
  go_enter Try.func25, Try.ntmps25
  go_wp2
  go_quiet (fail)
  go_wp2
  go_ret
  exact ⟨ret_int (by omega), below_drewN (Below.refl _ _) _⟩
theorem flushed_any {base : Nat} {w : World} {G : Nat → Prop} {pl pd : Value} {L : LS} (h : LogAt base w G pl pd L) :
    Calls Try.prog 24 #[pl] w fun e w' => e = .returned (.int .i64 L.fl) ∧ w' = w := by
  obtain ⟨g, vf, vr, rfl, h⟩ := h
  obtain ⟨c0, c1, c2, c3, c4, c5, fz⟩ := cells6 h.hg
  clear h
  go_enter Try.func24, Try.ntmps24
  go_wp2
  go_ret
  exact ⟨rfl, rfl⟩
theorem append_nil (v : Value) (w : World) : Calls Try.prog 15 #[.pointer none, v] w fun e w' => e = .returned (.int .i64 1) ∧ w' = w := by
  go_enter Try.func15, Try.ntmps15
  go_wp2
  go_ret
  exact ⟨rfl, rfl⟩
theorem append_long (pl : Value) (g : Nat) (hp : pl = .pointer (some ⟨g, 0, none⟩)) (rv : Value) (r : List UInt8) (w : World) (hB : Bytes w rv r) (hr : ¬ OkR r) (hrl : r.length ≤ 140737488355328) :
    Calls Try.prog 15 #[pl, rv] w fun e w' => e = .returned (.int .i64 62) ∧ w' = w := by
  subst hp
  obtain ⟨ao, cap, rfl, hc, _⟩ := hB.form
  unfold OkR at hr
  clear hB
  generalize r.length = m at *
  by_cases h1 : m < 1
  · have t1 : decide ((m : Int) < 1) = true := by simp; omega
    go_enter Try.func15, Try.ntmps15
    go_wp2
    go_ret
    exact ⟨rfl, rfl⟩
  · have t1 : decide ((m : Int) < 1) = false := by simp; omega
    have t2 : decide ((m : Int) > 8192) = true := by simp; omega
    go_enter Try.func15, Try.ntmps15
    go_wp2
    go_ret
    exact ⟨rfl, rfl⟩
set_option maxHeartbeats 1000000 in
theorem append_full {base : Nat} {w : World} {G : Nat → Prop} {pl pd : Value} {L : LS} (h : LogAt base w G pl pd L) (rv : Value) (r : List UInt8) (hB : Bytes w rv r) (hr : OkR r) (hfit : 128 * L.n < L.fr.length + 8 + rnd r.length) :
    Calls Try.prog 15 #[pl, rv] w fun e w' => e = .returned (.int .i64 61) ∧ Below w.heap.size w w' := by
  have hfree := free_any h
  obtain ⟨h1, h2, h3, _⟩ := h.ok
  obtain ⟨g, vf, vr, rfl, _⟩ := h
  obtain ⟨ao, cap, rfl, hc, _⟩ := hB.form
  obtain ⟨hr1, hr2⟩ := hr
  have t1 : decide ((r.length : Int) < 1) = false := by simp; omega
  have t2 : decide ((r.length : Int) > 8192) = false := by simp; omega
  clear hB
  generalize r.length = m at *
  go_enter Try.func15, Try.ntmps15
  go_wp2_with (first
    | (go_at_call 35; refine (frameBytes_any m _ (by omega)).mono ?_; rintro e wx ⟨rfl, rfl⟩)
    | (go_at_call 25; refine hfree.mono ?_; rintro e w1 ⟨rfl, hb1⟩))
  all_goals first
    | (go_ret; exact ⟨rfl, hb1⟩)
    | (exfalso; omega)
set_option maxHeartbeats 1000000 in
theorem append_ok {base : Nat} {w : World} {G : Nat → Prop} {pl pd : Value} {L : LS} (h : LogAt base w G pl pd L) (rv : Value) (r : List UInt8) (hB : Bytes w rv r) (ho : OffF G rv) (hr : OkR r) (hfit : L.fr.length + 8 + rnd r.length ≤ 128 * L.n) (hs : L.sp.length < 10000) :
    Calls Try.prog 15 #[pl, rv] w fun e w' => e = .returned (.int .i64 0) ∧ ∃ G', LogAt base w' G' pl pd { L with fr := L.fr ++ frame r, sp := L.sp ++ [(L.fr.length + 8, L.fr.length + 8 + r.length)] } ∧ Fr w w' G ∧ ∀ k, G' k → G k ∨ w.heap.size ≤ k := by
  have hfree := free_any h
  obtain ⟨h1, h2, h3, _⟩ := h.ok
  have HK : Hid (∀ w1, Below w.heap.size w w1 → Calls Try.prog 33 #[pl, rv] w1 fun e w' => e = .returned (.tuple #[]) ∧ ∃ G', LogAt base w' G' pl pd { L with fr := L.fr ++ frame r, sp := L.sp ++ [(L.fr.length + 8, L.fr.length + 8 + r.length)] } ∧ Fr w w' G ∧ ∀ k, G' k → G k ∨ w.heap.size ≤ k) := by
    intro w1 hb
    refine (add_any (h.keepB hb) rv r (hB.keep hb) ho hr hfit hs).mono ?_
    rintro e w2 ⟨he, G', hL, hf, hg⟩
    exact ⟨he, G', hL, (Fr.of_below hb).trans hf (fun i hi => Or.inl hi), fun k hk => by rcases hg k hk with h | h; exact Or.inl h; exact Or.inr (Nat.le_trans hb.size h)⟩
  obtain ⟨g, vf, vr, rfl, _⟩ := h
  obtain ⟨ao, cap, rfl, hc, _⟩ := hB.form
  obtain ⟨hr1, hr2⟩ := hr
  have t1 : decide ((r.length : Int) < 1) = false := by simp; omega
  have t2 : decide ((r.length : Int) > 8192) = false := by simp; omega
  clear hB
  go_enter Try.func15, Try.ntmps15
  go_wp2_with (first
    | (go_at_call 35; refine (frameBytes_any r.length _ (by omega)).mono ?_; rintro e wx ⟨rfl, hwx⟩; subst hwx)
    | (go_at_call 25; refine hfree.mono ?_; rintro e w1 ⟨rfl, hb1⟩)
    | (go_at_call 33; refine (HK.out _ hb1).mono ?_; rintro e w2 ⟨rfl, G', hL, hf, hg⟩))
  all_goals first
    | (go_ret; exact ⟨rfl, G', hL, hf, hg⟩)
    | (exfalso; omega)
end Go.Proofs.Ytcjoolmlobjpbaa

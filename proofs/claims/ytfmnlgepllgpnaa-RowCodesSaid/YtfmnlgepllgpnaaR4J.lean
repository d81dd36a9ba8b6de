/- The walk of rowcode.Decode at every list of bytes: the row whose form it is; or it is none. -/
import Derived.Test.YtfmnlgepllgpnaaR4I
namespace Go.Proofs.Ytfmnlgepllgpnaa
open Go.RowKit
set_option linter.unusedVariables false

theorem catch_panicking (b1 b2 : Nat) (v1 v2 : Value) (older : List PanicEntry) (w : World) (h1 : w.heap[b1]? = some (.cells #[v1] 24 (0, 0))) (h2 : w.heap[b2]? = some (.cells #[v2] 27 (0, 0))) :
    CallsD Try.prog 21 #[.pointer (some ⟨b1, 0, none⟩), .pointer (some ⟨b2, 0, none⟩)] (.panicking ({ v := noRowV, recovered := false } :: older)) w fun e u' w' =>
      e = .returned (.tuple #[]) ∧ u' = .panicking ({ v := noRowV, recovered := true } :: older) ∧ w' = ((w.alloc (.cells #[] 51)).setCell ⟨b1, 0, none⟩ (.slice none 0 0)).setCell ⟨b2, 0, none⟩ (.int .i64 41) := by
  have hne : b1 ≠ b2 := by
    rintro rfl
    have := h1.symm.trans h2
    simp at this
  have k1 : (w.alloc (.cells #[] 51)).heap[b1]? = some (.cells #[v1] 24 (0, 0)) := (Below.heap_alloc _ _ _ (lt_of_block h1)).trans h1
  have k2 : ((w.alloc (.cells #[] 51)).setCell ⟨b1, 0, none⟩ (.slice none 0 0)).heap[b2]? = some (.cells #[v2] 27 (0, 0)) := by
    rw [Below.heap_setCell _ _ _ _ (Ne.symm hne)]
    exact (Below.heap_alloc _ _ _ (lt_of_block h2)).trans h2
  have c1 := cell_of_one k1
  have f1 := free_of_one k1
  have c2 := cell_of_one k2
  have f2 := free_of_one k2
  clear k1 k2 h1 h2
  have hta : ∀ w : World, (Instr.typeAssert noRowV 20 51 true).run Try.prog w = .ok (.tuple #[.agg #[], .bool true]) w := fun _ => by kernel_rfl
  refine callsD_of_wpS Try.func21 rfl fun c₀ cs hu => ?_
  apply wpS_seq
  apply wpS_region
  simp [wpOpsS, go_sem, recoverD, hu, Try.ntmps21, Exit.thenS]
  refine wpS_of_wp ?_
  rw [show (#[Value.pointer (some ⟨b1, 0, none⟩), Value.pointer (some ⟨b2, 0, none⟩)] ++ ((Array.replicate 14 undef).setIfInBounds 3 noRowV).setIfInBounds 0 noRowV) = #[Value.pointer (some ⟨b1, 0, none⟩), Value.pointer (some ⟨b2, 0, none⟩), noRowV, undef, undef, noRowV, undef, undef, undef, undef, undef, undef, undef, undef, undef, undef] from rfl]
  go_wp2
  exact ⟨rfl, _, rfl, _, results_none rfl _ _ _, rfl, rfl, rfl⟩
theorem catch_idle (b1 b2 : Nat) (w : World) :
    CallsD Try.prog 21 #[.pointer (some ⟨b1, 0, none⟩), .pointer (some ⟨b2, 0, none⟩)] .returning w fun e u' w' => e = .returned (.tuple #[]) ∧ u' = .returning ∧ w' = w := by
  refine callsD_of_wpS Try.func21 rfl fun c₀ cs hu => ?_
  apply wpS_seq
  apply wpS_region
  simp [wpOpsS, go_sem, recoverD, hu, Try.ntmps21, Exit.thenS]
  refine wpS_of_wp ?_
  rw [show (#[Value.pointer (some ⟨b1, 0, none⟩), Value.pointer (some ⟨b2, 0, none⟩)] ++ ((Array.replicate 14 undef).setIfInBounds 3 Value.nilIface).setIfInBounds 0 Value.nilIface) = #[Value.pointer (some ⟨b1, 0, none⟩), Value.pointer (some ⟨b2, 0, none⟩), Value.nilIface, undef, undef, Value.nilIface, undef, undef, undef, undef, undef, undef, undef, undef, undef, undef] from rfl]
  go_wp2
  refine ⟨rfl, _, rfl, _, results_none rfl _ _ _, rfl, ?_, rfl⟩
  exact hu

/-- What Decode keeps while it reads. -/
structure Mid (w : World) (bs : List UInt8) (c : UInt8) (wr : World) (r : List UInt8) (l : List V4) (rv sv : Value) : Prop where
  cur : Cur wr (w.heap.size + 1 + 1) w.heap.size sv r
  hr : wr.heap[w.heap.size]? = some (.cells #[rv] 24 (0, 0))
  he : wr.heap[w.heap.size + 1]? = some (.cells #[.int .i64 0] 27 (0, 0))
  own : OwnR (w.heap.size + 1 + 1 + 1) wr rv l
  rvs : RVs l
  code : bs = c :: (rcL l ++ r)
  len : l.length ≤ c.toNat
  below : Below w.heap.size w wr
  size : w.heap.size + 1 + 1 + 1 ≤ wr.heap.size
theorem Mid.drew {w wr : World} {bs : List UInt8} {c : UInt8} {r : List UInt8} {l : List V4} {rv sv : Value} (M : Mid w bs c wr r l rv sv) : Mid w bs c wr.drew r l rv sv :=
  ⟨M.cur.drew, M.hr, M.he, M.own.drew, M.rvs, M.code, M.len, M.below.drew, M.size⟩
theorem Mid.far {w wr : World} {bs : List UInt8} {c : UInt8} {r : List UInt8} {l : List V4} {rv sv : Value} (M : Mid w bs c wr r l rv sv) {b : Nat} (hb : b < w.heap.size + 1 + 1 + 1) : rv.ownBlock ≠ some b := fun e => by
  have := M.own.ge b e; omega
theorem mid_fail {w wr w2 : World} {bs : List UInt8} {c : UInt8} {r : List UInt8} {l : List V4} {rv sv : Value} (M : Mid w bs c wr r l rv sv) (hg : wr.grownBy w2 (some (w.heap.size + 1 + 1))) :
    w2.heap[w.heap.size]? = some (.cells #[rv] 24 (0, 0)) ∧ w2.heap[w.heap.size + 1]? = some (.cells #[.int .i64 0] 27 (0, 0)) ∧ Below w.heap.size w w2 := by
  have hs := M.size
  refine ⟨(hg.block _ (by omega) (by simp; omega)).trans M.hr, (hg.block _ (by omega) (by simp)).trans M.he, ?_⟩
  exact M.below.trans ⟨hg.os, hg.tape, hg.output, hg.size, fun k hk => hg.block k (by omega) (by simp; omega)⟩
theorem fail_cells {B : Nat} {w2 : World} {rv : Value} (h1 : w2.heap[B]? = some (.cells #[rv] 24 (0, 0))) (h2 : w2.heap[B + 1]? = some (.cells #[.int .i64 0] 27 (0, 0))) (o : Obj) :
    (((w2.alloc o).setCell ⟨B, 0, none⟩ (.slice none 0 0)).setCell ⟨B + 1, 0, none⟩ (.int .i64 41)).cell? ⟨B, 0, none⟩ = some (.slice none 0 0) ∧
    (((w2.alloc o).setCell ⟨B, 0, none⟩ (.slice none 0 0)).setCell ⟨B + 1, 0, none⟩ (.int .i64 41)).cell? ⟨B + 1, 0, none⟩ = some (.int .i64 41) := by
  have k1 : (w2.alloc o).heap[B]? = some (.cells #[rv] 24 (0, 0)) := (Below.heap_alloc _ _ _ (lt_of_block h1)).trans h1
  have k2 : (w2.alloc o).heap[B + 1]? = some (.cells #[.int .i64 0] 27 (0, 0)) := (Below.heap_alloc _ _ _ (lt_of_block h2)).trans h2
  refine ⟨cell_of_one (t := 24) ((Below.heap_setCell _ _ _ _ (by simp)).trans (one_setCell k1)), cell_of_one (t := 27) (one_setCell ((Below.heap_setCell _ _ _ _ (by simp)).trans k2))⟩

/-- What Decode tells. -/
def Told (w : World) (bs : List UInt8) (e : Ending) (w' : World) : Prop :=
      ((∃ (l : List V4) (rv : Value), e = .returned (.tuple #[rv, .int .i64 0]) ∧ OkR l ∧ form l = bs ∧ RowAt w' rv l) ∨
       (e = .returned (.tuple #[.slice none 0 0, .int .i64 41]) ∧ NoForm bs)) ∧ Below w.heap.size w w'
theorem door_panic {w w2 : World} {bs : List UInt8} {rv : Value} (k1 : w2.heap[w.heap.size]? = some (.cells #[rv] 24 (0, 0))) (k2 : w2.heap[w.heap.size + 1]? = some (.cells #[.int .i64 0] 27 (0, 0))) (k3 : Below w.heap.size w w2) (HF : NoForm bs)
    (a : Act) (hd : a.defers = [{ target := .fn (.func 21) #[.pointer (some ⟨w.heap.size, 0, none⟩), .pointer (some ⟨w.heap.size + 1, 0, none⟩)], args := #[] }])
    (h2 : a.tmps[2]?.getD undef = .pointer (some ⟨w.heap.size, 0, none⟩)) (h3 : a.tmps[3]?.getD undef = .pointer (some ⟨w.heap.size + 1, 0, none⟩)) :
    bodyPostD Try.prog Try.f11 (Told w bs) (Exit.panic noRowP) a w2 := by
  obtain ⟨tm, df⟩ := a
  simp only at hd h2 h3
  subst hd
  refine leaves_cons (f := 21) (args := #[.pointer (some ⟨w.heap.size, 0, none⟩), .pointer (some ⟨w.heap.size + 1, 0, none⟩)]) (by simp) (by simp [go_sem]) ?_
  refine (catch_panicking _ _ _ _ [] _ k1 k2).mono ?_
  rintro e u' w'' ⟨rfl, rfl, rfl⟩
  obtain ⟨q1, q2⟩ := fail_cells k1 k2 (.cells #[] 51)
  refine ⟨.tuple #[.slice none 0 0, .int .i64 41], ?_, ?_⟩
  · simp [results, Try.results11, go_sem, q1, q2, h2, h3]
  · refine ⟨Or.inr ⟨rfl, HF⟩, ?_⟩
    exact ((k3.alloc k3.size _).setCell (by simp) _).setCell (by simp) _
theorem takeValue_ok (p B : Nat) (sv : Value) (r : List UInt8) (w : World) (x : V4) (y : List UInt8) (h : Cur w p B sv r) (hr : r.length ≤ 200000000000000) (hx : RV x) (hxy : r = rc x ++ y) :
    Calls Try.prog 23 #[.pointer (some ⟨p, 0, none⟩)] w fun e w' => e = .returned (valV x) ∧ w.grownBy w' (some p) ∧ ∃ sv', Cur w' p B sv' y := by
  refine (takeValue_any p B sv r w h hr).mono fun e w' hh => ?_
  rcases hh with ⟨x', he, ⟨sv', r', hc, hr'⟩, hg, hx'⟩ | ⟨_, hn⟩
  · obtain ⟨rfl, hy⟩ := read_one hx' hx (hr'.symm.trans hxy)
    exact ⟨he, hg, sv', by rw [← hy]; exact hc⟩
  · exact absurd hxy (hn.noV x y hx)
theorem takeValue_bad (p B : Nat) (sv : Value) (r : List UInt8) (w : World) (h : Cur w p B sv r) (hr : r.length ≤ 200000000000000) (hn : NoV r) :
    Calls Try.prog 23 #[.pointer (some ⟨p, 0, none⟩)] w fun e w' => e = .panicked noRowP ∧ w.grownBy w' (some p) := by
  refine (takeValue_any p B sv r w h hr).mono fun e w' hh => ?_
  rcases hh with ⟨x', he, ⟨sv', r', hc, hr'⟩, hg, hx'⟩ | ⟨he, hn'⟩
  · exact absurd hr' (hn x' r' hx')
  · exact ⟨he, hn'.grown⟩

/-- A value has been read, and is not yet put behind the others. -/
structure Half (w : World) (bs : List UInt8) (c : UInt8) (wr : World) (y : List UInt8) (l : List V4) (x : V4) (rv sv : Value) : Prop where
  cur : Cur wr (w.heap.size + 1 + 1) w.heap.size sv y
  hr : wr.heap[w.heap.size]? = some (.cells #[rv] 24 (0, 0))
  he : wr.heap[w.heap.size + 1]? = some (.cells #[.int .i64 0] 27 (0, 0))
  own : OwnR (w.heap.size + 1 + 1 + 1) wr rv l
  rvs : RVs (l ++ [x])
  code : bs = c :: (rcL (l ++ [x]) ++ y)
  below : Below w.heap.size w wr
  size : w.heap.size + 1 + 1 + 1 ≤ wr.heap.size
theorem Mid.read {w wr w2 : World} {bs : List UInt8} {c : UInt8} {r : List UInt8} {l : List V4} {x : V4} {y : List UInt8} {rv sv sv' : Value} (M : Mid w bs c wr r l rv sv) (hg : wr.grownBy w2 (some (w.heap.size + 1 + 1))) (hc : Cur w2 (w.heap.size + 1 + 1) w.heap.size sv' y) (hx : RV x) (hxy : r = rc x ++ y) :
    Half w bs c w2 y l x rv sv' := by
  obtain ⟨k1, k2, k3⟩ := mid_fail M hg
  refine ⟨hc, k1, k2, ?_, rvs_app.2 ⟨M.rvs, fun v hv => by rw [List.mem_singleton.1 hv]; exact hx⟩, ?_, k3, Nat.le_trans M.size hg.size⟩
  · refine World.ownsRow.kept M.own hg ?_
    cases e : rv.ownBlock with
    | none => exact Or.inl rfl
    | some k => exact Or.inr (fun e' => by have := M.own.ge k e; simp at e'; omega)
  · rw [M.code, hxy, rcL_app, rcL_one, List.append_assoc]
theorem Half.push {w w2 w3 : World} {bs : List UInt8} {c : UInt8} {y : List UInt8} {l : List V4} {x : V4} {rv sv v' : Value} {o : Obj} (M : Half w bs c w2 y l x rv sv) (hlt : l.length < c.toNat) (hg : GrowB (w2.alloc o) rv w3 v') (hown : OwnR (w.heap.size + 1 + 1 + 1) w3 v' (l ++ [x])) :
    w3.heap[w.heap.size]? = some (.cells #[rv] 24 (0, 0)) ∧ Mid w bs c (w3.setCell ⟨w.heap.size, 0, none⟩ v') y (l ++ [x]) v' sv := by
  have hs := M.size
  have far : ∀ b, b < w.heap.size + 1 + 1 + 1 → w3.heap[b]? = w2.heap[b]? := fun b hb =>
    (hg.grown.block b (by simp; omega) (fun e => by have := M.own.ge b e.symm; omega)).trans (Below.heap_alloc _ _ _ (by omega))
  have h1 : w3.heap[w.heap.size]? = some (.cells #[rv] 24 (0, 0)) := (far _ (by omega)).trans M.hr
  have h2 : w3.heap[w.heap.size + 1]? = some (.cells #[.int .i64 0] 27 (0, 0)) := (far _ (by omega)).trans M.he
  have hsz := hg.grown.size
  simp at hsz
  have hby : Bytes w3 sv y := by
    rcases M.cur.by_ with h | ⟨a, cap, hv, hc, h⟩
    · exact Or.inl h
    · refine Or.inr ⟨a, cap, hv, hc, fun j hj => ?_⟩
      have h1 := h j hj
      have hb : (a.add j).block < w.heap.size := by rw [add_block]; exact M.cur.old a _ _ hv (by intro e; subst e; simp at hj)
      rw [← h1]
      exact Below.cell (B := w.heap.size + 1 + 1 + 1) (w := w2) (w' := w3) ⟨hg.grown.os, hg.grown.tape, hg.grown.output, by omega, fun k hk => far k hk⟩ (p := a.add j) (by omega)
  have hc : Cur w3 (w.heap.size + 1 + 1) w.heap.size sv y := ⟨(far _ (by omega)).trans M.cur.hp, hby, M.cur.old, M.cur.le⟩
  refine ⟨h1, hc.other (b := w.heap.size) (by omega) (Nat.le_refl _) _, one_setCell h1, (Below.heap_setCell _ _ _ _ (by simp)).trans h2, ?_, M.rvs, M.code, by rw [List.length_append]; exact hlt, ?_, by simp [World.setCell]; omega⟩
  · exact ownsRow_setCell_other hown (fun e => by have := hown.ge _ e; simp at this; omega) _
  · refine Below.setCell ?_ (by simp) _
    exact M.below.trans ⟨hg.grown.os, hg.grown.tape, hg.grown.output, by omega, fun k hk => far k (by omega)⟩
theorem Half.later {w w2 : World} {bs : List UInt8} {c : UInt8} {y : List UInt8} {l : List V4} {x : V4} {rv sv : Value} (M : Half w bs c w2 y l x rv sv) (x : V4) : (w2.alloc (.cells #[.int .i64 x.1, .int .i64 x.2.1, .string ⟨x.2.2.1.toArray⟩, .bool x.2.2.2] 40)).cell? ⟨w.heap.size, 0, none⟩ = some rv :=
  cell_of_one ((Below.heap_alloc _ _ _ (lt_of_block M.hr)).trans M.hr)
theorem slice_form {w : World} {v : Value} {l : List V4} (h : RowAt w v l) : ∃ ao n cap, v = .slice ao n cap := by
  obtain ⟨ao, cap, h1, _⟩ := h
  exact ⟨ao, _, cap, h1⟩
/-- The end: all has been read. -/
theorem mid_end {w wr : World} {bs : List UInt8} {c : UInt8} {l : List V4} {rv sv : Value} (M : Mid w bs c wr [] l rv sv) (hl : l.length = c.toNat) (h12 : c.toNat ≤ 12) :
    ((wr.setCell ⟨w.heap.size, 0, none⟩ rv).setCell ⟨w.heap.size + 1, 0, none⟩ (.int .i64 0)).cell? ⟨w.heap.size, 0, none⟩ = some rv ∧
    ((wr.setCell ⟨w.heap.size, 0, none⟩ rv).setCell ⟨w.heap.size + 1, 0, none⟩ (.int .i64 0)).cell? ⟨w.heap.size + 1, 0, none⟩ = some (.int .i64 0) ∧
    OkR l ∧ form l = bs ∧ RowAt ((wr.setCell ⟨w.heap.size, 0, none⟩ rv).setCell ⟨w.heap.size + 1, 0, none⟩ (.int .i64 0)) rv l ∧
    Below w.heap.size w ((wr.setCell ⟨w.heap.size, 0, none⟩ rv).setCell ⟨w.heap.size + 1, 0, none⟩ (.int .i64 0)) := by
  have h1 : (wr.setCell ⟨w.heap.size, 0, none⟩ rv).heap[w.heap.size]? = some (.cells #[rv] 24 (0, 0)) := one_setCell M.hr
  have h2 : (wr.setCell ⟨w.heap.size, 0, none⟩ rv).heap[w.heap.size + 1]? = some (.cells #[.int .i64 0] 27 (0, 0)) := (Below.heap_setCell _ _ _ _ (by simp)).trans M.he
  refine ⟨cell_of_one ((Below.heap_setCell _ _ _ _ (by simp)).trans h1), cell_of_one (one_setCell h2), ⟨by omega, M.rvs⟩, ?_, ?_, ?_⟩
  · have := M.code
    rw [List.append_nil] at this
    rw [this]; exact form_is hl
  · exact OwnR.row (base := w.heap.size + 1 + 1 + 1) (ownsRow_setCell_other (ownsRow_setCell_other M.own (M.far (by first | (simp; done) | (simp; omega))) _) (M.far (by first | (simp; done) | (simp; omega))) _)
  · exact (M.below.setCell (by simp) _).setCell (by simp) _

abbrev startW (w : World) (v : Value) : World := ((w.alloc (.cells #[.slice none 0 0] 24)).alloc (.cells #[.int .i64 0] 27)).alloc (.cells #[v] 54)
structure Start (w : World) (bs : List UInt8) (wr : World) (sv : Value) : Prop where
  cur : Cur wr (w.heap.size + 1 + 1) w.heap.size sv bs
  hr : wr.heap[w.heap.size]? = some (.cells #[.slice none 0 0] 24 (0, 0))
  he : wr.heap[w.heap.size + 1]? = some (.cells #[.int .i64 0] 27 (0, 0))
  below : Below w.heap.size w wr
  size : w.heap.size + 1 + 1 + 1 ≤ wr.heap.size
theorem bytes_old {w : World} {v : Value} {xs : List UInt8} (h : Bytes w v xs) : Old w.heap.size v xs := by
  intro a n cap e hne
  rcases h with ⟨h, _⟩ | ⟨b, c, hv, _, hc⟩
  · rw [h] at e; cases e
  · rw [hv] at e
    cases e
    have := hc 0 (List.length_pos_iff.2 hne)
    have := World.block_lt_of_cell? w _ this
    rwa [add_block] at this
theorem start_cur (w : World) (v : Value) (bs : List UInt8) (hb : Bytes w v bs) : Start w bs (startW w v) v := by
  have hbel : Below w.heap.size w (startW w v) := ((((Below.refl _ _).alloc (Nat.le_refl _) _).alloc (by simp) _).alloc (by simp; omega) _)
  refine ⟨⟨new_at _ _ (by simp), hb.keep hbel, bytes_old hb, by omega⟩, ?_, ?_, hbel, by simp⟩
  · rw [Below.heap_alloc _ _ _ (by simp; omega), Below.heap_alloc _ _ _ (by simp)]; exact new_at _ _ (by simp)
  · rw [Below.heap_alloc _ _ _ (by simp)]; exact new_at _ _ (by simp)
theorem Start.fail {w wr w2 : World} {bs : List UInt8} {sv : Value} (M : Start w bs wr sv) (hg : wr.grownBy w2 (some (w.heap.size + 1 + 1))) :
    w2.heap[w.heap.size]? = some (.cells #[.slice none 0 0] 24 (0, 0)) ∧ w2.heap[w.heap.size + 1]? = some (.cells #[.int .i64 0] 27 (0, 0)) ∧ Below w.heap.size w w2 := by
  have hs := M.size
  refine ⟨(hg.block _ (by omega) (by simp; omega)).trans M.hr, (hg.block _ (by omega) (by simp)).trans M.he, ?_⟩
  exact M.below.trans ⟨hg.os, hg.tape, hg.output, hg.size, fun k hk => hg.block k (by omega) (by simp; omega)⟩
theorem Start.mid {w wr w2 : World} {c : UInt8} {t : List UInt8} {sv sv2 : Value} (M : Start w (c :: t) wr sv) (hg : wr.grownBy w2 (some (w.heap.size + 1 + 1))) (hc : Cur w2 (w.heap.size + 1 + 1) w.heap.size sv2 ((c :: t).drop 1)) : Mid w (c :: t) c w2 t [] (.slice none 0 0) sv2 := by
  obtain ⟨k1, k2, k3⟩ := M.fail hg
  exact ⟨hc, k1, k2, World.ownsRow_nil _ _ _ _, rvs_nil, rfl, Nat.zero_le _, k3, Nat.le_trans M.size hg.size⟩

set_option maxHeartbeats 4000000 in
theorem decode_any (v : Value) (bs : List UInt8) (w : World) (hb : Bytes w v bs) (hl : bs.length ≤ 200000000000000) :
    Calls Try.prog 11 #[v] w (Told w bs) := by
  have hmf : ∀ (fn : Fn) (first cap : Array Value) (w : World), (Instr.makeFunc fn first cap).run Try.prog w = .ok (.func fn first cap) w := fun _ _ _ _ => rfl
  have S0 := start_cur w v bs hb
  obtain ⟨vo, vcap, rfl⟩ := S0.cur.slice
  clear hb
  go_enter_defers Try.func11, Try.ntmps11
  go_wp2_with fail
  refine (takeLength_any (w.heap.size + 1 + 1) w.heap.size 1 12 _ bs _ S0.cur hl (by decide) (by decide) (by decide)).mono ?_
  rintro e w1 (⟨rfl, hR, HL⟩ | ⟨rfl, hN⟩)
  · obtain ⟨hle, ⟨sv1, hC1⟩, hg1⟩ := hR
    obtain ⟨c, t, rfl⟩ := head_of hle
    have hc : leV ((c :: t).take 1) = c.toNat := by simp [leV]
    have M1 : Mid w (c :: t) c w1 t [] (.slice none 0 0) sv1 := S0.mid hg1 hC1
    have h12 : c.toNat ≤ 12 := by have := HL.out; omega
    rw [hc]
    have hrl0 : t.length ≤ 200000000000000 := by simp only [List.length_cons] at hl; omega
    clear hc HL
    go_wp2
    go_loopw [9] (fun i wr => ∃ (r : List UInt8) (l : List V4) (rv sv : Value), i = .int .i64 l.length ∧ Mid w (c :: t) c wr r l rv sv) (fun i _ => 12 - (intOf i).toNat)
    case atStart => exact ⟨t, [], _, sv1, rfl, M1⟩
    case round =>
      obtain ⟨r, l, rv, sv, rfl, M⟩ := hrel
      obtain ⟨ao, cap, rfl, hcap⟩ := M.own.row.cap
      have cr := cell_of_one M.hr
      have fr := free_of_one M.hr
      have ce := cell_of_one M.he
      have fe := free_of_one M.he
      have hlen := M.len
      have hrl : r.length ≤ 200000000000000 := by
        have := congrArg List.length M.code
        simp only [List.length_cons, List.length_append] at this
        omega
      by_cases hlc : l.length < c.toNat
      · by_cases hv : ∃ x y, RV x ∧ r = rc x ++ y
        · obtain ⟨x, y, hx, hxy⟩ := hv
          have HX : Hid (RV x) := hx
          have HXY : Hid (r = rc x ++ y) := hxy
          clear hx hxy
          go_wp2_with fail
          refine wp_region_any (by kernel_rfl) ?_
          change wpAny _ _ _ _ _ _ _ (World.drew _)
          refine wpAny_ready (rs := [0, 1]) (by kernel_rfl) (by simp) ?_
          refine (AllReady.cons rfl (fun K hK => ?_) (AllReady.cons rfl (fun K hK => ?_) AllReady.nil))
          · go_simp
            refine hK _ _ ?_
            clear hK K
            refine wpAny_ready (rs := [1]) (by kernel_rfl) (by simp) ?_
            refine (AllReady.cons rfl (fun K hK => ?_) AllReady.nil)
            · go_simp
              go_wp2_with (go_at_call 23; refine (takeValue_ok (w.heap.size + 1 + 1) w.heap.size _ r _ x y M.cur.drew hrl HX.out HXY.out).mono ?_; rintro e w2 ⟨rfl, hg, sv2, hc2⟩; have M2 := M.drew.read hg hc2 HX.out HXY.out; have cr2 := cell_of_one M2.hr; have cra := M2.later x; have hs2 := M2.size)
              refine wpAny_ready (rs := [2]) (by kernel_rfl) (by simp) ?_
              refine (AllReady.cons rfl (fun K hK => ?_) AllReady.nil)
              · go_simp
                refine hK _ _ ?_
                clear hK K
                refine wpAny_ready (rs := [3]) (by kernel_rfl) (by simp) ?_
                refine (AllReady.cons rfl (fun K hK => ?_) AllReady.nil)
                · refine step_appR _ (by rfl) _ _ (by rfl) (w.heap.size + 1 + 1 + 1) (.slice ao l.length cap) l (by rfl) (M2.own.alloc _) w2.heap.size 1 1 [x] (by rfl) (row_one w2 x) rfl (by decide) (by omega) (by simp; omega) ?_
                  intro v' w3 hown3 hgrow
                  obtain ⟨ao3, n3, cap3, hv3⟩ := slice_form hown3.row
                  subst hv3
                  have M3 := M2.push hlc hgrow hown3
                  have cr3 := cell_of_one M3.1
                  have fr3 := free_of_one M3.1
                  refine hK _ _ ?_
                  clear hK K
                  refine wpAny_ready (rs := [4]) (by kernel_rfl) (by simp) ?_
                  refine (AllReady.cons rfl (fun K hK => ?_) AllReady.nil)
                  · go_simp
                    refine hK _ _ ?_
                    clear hK K
                    refine wpAny_done (by kernel_rfl) ?_ _
                    go_wp2
                    go_roundw
                    case rel => exact ⟨y, l ++ [x], _, _, by simp, M3.2⟩
                    case measure => first | (simp [intOf]; done) | (simp [intOf]; omega)
          · go_simp
            go_wp2_with (go_at_call 23; refine (takeValue_ok (w.heap.size + 1 + 1) w.heap.size _ r _ x y M.cur.drew hrl HX.out HXY.out).mono ?_; rintro e w2 ⟨rfl, hg, sv2, hc2⟩; have M2 := M.drew.read hg hc2 HX.out HXY.out; have cr2 := cell_of_one M2.hr; have cra := M2.later x; have hs2 := M2.size)
            refine wpAny_ready (rs := [0, 2]) (by kernel_rfl) (by simp) ?_
            refine (AllReady.cons rfl (fun K hK => ?_) (AllReady.cons rfl (fun K hK => ?_) AllReady.nil))
            · go_simp
              refine hK _ _ ?_
              clear hK K
              refine wpAny_ready (rs := [2]) (by kernel_rfl) (by simp) ?_
              refine (AllReady.cons rfl (fun K hK => ?_) AllReady.nil)
              · go_simp
                refine hK _ _ ?_
                clear hK K
                refine wpAny_ready (rs := [3]) (by kernel_rfl) (by simp) ?_
                refine (AllReady.cons rfl (fun K hK => ?_) AllReady.nil)
                · refine step_appR _ (by rfl) _ _ (by rfl) (w.heap.size + 1 + 1 + 1) (.slice ao l.length cap) l (by rfl) (M2.own.alloc _) w2.heap.size 1 1 [x] (by rfl) (row_one w2 x) rfl (by decide) (by omega) (by simp; omega) ?_
                  intro v' w3 hown3 hgrow
                  obtain ⟨ao3, n3, cap3, hv3⟩ := slice_form hown3.row
                  subst hv3
                  have M3 := M2.push hlc hgrow hown3
                  have cr3 := cell_of_one M3.1
                  have fr3 := free_of_one M3.1
                  refine hK _ _ ?_
                  clear hK K
                  refine wpAny_ready (rs := [4]) (by kernel_rfl) (by simp) ?_
                  refine (AllReady.cons rfl (fun K hK => ?_) AllReady.nil)
                  · go_simp
                    refine hK _ _ ?_
                    clear hK K
                    refine wpAny_done (by kernel_rfl) ?_ _
                    go_wp2
                    go_roundw
                    case rel => exact ⟨y, l ++ [x], _, _, by simp, M3.2⟩
                    case measure => first | (simp [intOf]; done) | (simp [intOf]; omega)
            · go_simp
              refine hK _ _ ?_
              clear hK K
              refine wpAny_ready (rs := [0]) (by kernel_rfl) (by simp) ?_
              refine (AllReady.cons rfl (fun K hK => ?_) AllReady.nil)
              · go_simp
                refine hK _ _ ?_
                clear hK K
                refine wpAny_ready (rs := [3]) (by kernel_rfl) (by simp) ?_
                refine (AllReady.cons rfl (fun K hK => ?_) AllReady.nil)
                · refine step_appR _ (by rfl) _ _ (by rfl) (w.heap.size + 1 + 1 + 1) (.slice ao l.length cap) l (by rfl) (M2.own.alloc _) w2.heap.size 1 1 [x] (by rfl) (row_one w2 x) rfl (by decide) (by omega) (by simp; omega) ?_
                  intro v' w3 hown3 hgrow
                  obtain ⟨ao3, n3, cap3, hv3⟩ := slice_form hown3.row
                  subst hv3
                  have M3 := M2.push hlc hgrow hown3
                  have cr3 := cell_of_one M3.1
                  have fr3 := free_of_one M3.1
                  refine hK _ _ ?_
                  clear hK K
                  refine wpAny_ready (rs := [4]) (by kernel_rfl) (by simp) ?_
                  refine (AllReady.cons rfl (fun K hK => ?_) AllReady.nil)
                  · go_simp
                    refine hK _ _ ?_
                    clear hK K
                    refine wpAny_done (by kernel_rfl) ?_ _
                    go_wp2
                    go_roundw
                    case rel => exact ⟨y, l ++ [x], _, _, by simp, M3.2⟩
                    case measure => first | (simp [intOf]; done) | (simp [intOf]; omega)
        · have hn : NoV r := fun x y hx e => hv ⟨x, y, hx, e⟩
          have HN : Hid (NoV r) := hn
          have HF : Hid (NoForm (c :: t)) := by
            show NoForm _
            rw [M.code]
            exact noForm_val M.rvs hlc hn
          clear hv hn
          go_wp2_with fail
          refine wp_region_any (by kernel_rfl) ?_
          change wpAny _ _ _ _ _ _ _ (World.drew _)
          refine wpAny_ready (rs := [0, 1]) (by kernel_rfl) (by simp) ?_
          refine (AllReady.cons rfl (fun K hK => ?_) (AllReady.cons rfl (fun K hK => ?_) AllReady.nil))
          · go_simp
            refine hK _ _ ?_
            clear hK K
            refine wpAny_ready (rs := [1]) (by kernel_rfl) (by simp) ?_
            refine (AllReady.cons rfl (fun K hK => ?_) AllReady.nil)
            · go_simp
              go_wp2_with (go_at_call 23; refine (takeValue_bad (w.heap.size + 1 + 1) w.heap.size _ r _ M.cur.drew hrl HN.out).mono ?_; rintro e w2 ⟨rfl, hg⟩; obtain ⟨k1, k2, k3⟩ := mid_fail M.drew hg; exact door_panic k1 k2 k3 HF.out _ rfl rfl rfl)
          · go_simp
            go_wp2_with (go_at_call 23; refine (takeValue_bad (w.heap.size + 1 + 1) w.heap.size _ r _ M.cur.drew hrl HN.out).mono ?_; rintro e w2 ⟨rfl, hg⟩; obtain ⟨k1, k2, k3⟩ := mid_fail M.drew hg; exact door_panic k1 k2 k3 HF.out _ rfl rfl rfl)
      · have hlc2 : l.length = c.toNat := by omega
        obtain ⟨bo, bcap, hsv⟩ := M.cur.slice
        subst hsv
        have cp := cell_of_one M.cur.hp
        by_cases h0 : r = []
        · subst h0
          obtain ⟨r1, r2, r3, r4, r5, r6⟩ := mid_end M hlc2 h12
          clear hlc2
          go_wp2
          refine leaves_cons (f := 21) (args := #[.pointer (some ⟨w.heap.size, 0, none⟩), .pointer (some ⟨w.heap.size + 1, 0, none⟩)]) (by simp) (by simp [go_sem]) ?_
          refine (catch_idle _ _ _).mono ?_
          rintro e u' w'' ⟨rfl, rfl, rfl⟩
          exact ⟨_, by simp [results, Try.results11, go_sem, r1, r2], ⟨Or.inl ⟨l, _, rfl, r3, r4, r5⟩, r6⟩⟩
        · have HF : Hid (NoForm (c :: t)) := by
            show NoForm _
            rw [M.code]
            exact noForm_more M.rvs hlc2 h0
          have hpos : 0 < r.length := List.length_pos_iff.2 h0
          clear h0
          go_wp2
          exact door_panic M.hr M.he M.below HF.out _ rfl rfl rfl
  · have HF : Hid (NoForm bs) := by
      rcases hN.why with h | ⟨h, h'⟩
      · have : bs = [] := List.eq_nil_of_length_eq_zero (by omega)
        subst this
        exact noForm_nil
      · obtain ⟨c, t, rfl⟩ := head_of h
        exact noForm_count (by simpa [leV] using h')
    obtain ⟨k1, k2, k3⟩ := S0.fail hN.grown
    go_wp2
    exact door_panic k1 k2 k3 HF.out _ rfl rfl rfl
end Go.Proofs.Ytfmnlgepllgpnaa

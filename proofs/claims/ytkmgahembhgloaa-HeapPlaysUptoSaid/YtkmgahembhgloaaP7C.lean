/- The pool: isBehind, the closures of makeRoom, usedLongestAgo. -/
import Derived.Test.YtkmgahembhgloaaP7B
namespace Go.Proofs.Ytkmgahembhgloaa
open Go.RowKit Go.Maps
set_option linter.unusedVariables false
set_option linter.unusedSimpArgs false

/-- Whether the log must become safe further on ahead of the frame's being written. -/
def beh (s : Int) (f : FS) : Bool := f.dirty && decide (f.mark > s)
def unp (f : FS) : Bool := decide (f.pins = 0)
def mayGo (s : Int) (f : FS) : Bool := unp f && !beh s f
set_option maxHeartbeats 400000 in
theorem behind_any {base : Nat} {w : World} {F : Nat → Prop} {g b : Nat} {dp : Value} {blk : Int → Nat} {cv : Int → Value} {P : PS} (h : PoolIn base w F g dp b blk cv P) {k : Int} (hk : k ∈ P.keys) :
    Calls Try.prog 73 #[.pointer (some ⟨g, 0, none⟩), .pointer (some ⟨blk k, 0, none⟩)] w fun e w' => e = .returned (.bool (beh P.safe (P.fr k))) ∧ Below w.heap.size w w' := by
  have p5 := h.cells.c5
  obtain ⟨c0, c1, c2, c3, c4, fz⟩ := h.cellsF hk
  unfold beh
  clear h
  generalize P.fr k = f at *
  generalize blk k = B at *
  cases hd : f.dirty
  · rw [hd] at c2
    go_enter Try.func73, Try.ntmps73
    go_wp2
    go_quiet (fail)
    go_wp2
    go_ret
    exact ⟨by simp, below_drewN (Below.refl _ _) _⟩
  · rw [hd] at c2
    go_enter Try.func73, Try.ntmps73
    go_wp2
    go_quiet (fail)
    go_wp2
    go_ret
    exact ⟨by simp, below_drewN (Below.refl _ _) _⟩
theorem unp_any {base : Nat} {w : World} {F : Nat → Prop} {g b : Nat} {dp : Value} {blk : Int → Nat} {cv : Int → Value} {P : PS} (h : PoolIn base w F g dp b blk cv P) {k : Int} (hk : k ∈ P.keys) :
    Calls Try.prog 71 #[.pointer (some ⟨blk k, 0, none⟩)] w fun e w' => e = .returned (.bool (unp (P.fr k))) ∧ Below w.heap.size w w' := by
  obtain ⟨c0, c1, c2, c3, c4, fz⟩ := h.cellsF hk
  unfold unp
  clear h
  generalize P.fr k = f at *
  generalize blk k = B at *
  go_enter Try.func71, Try.ntmps71
  go_wp2
  go_ret
  exact ⟨by first | rfl | (simp; done) | (congr 2), Below.refl _ _⟩
/-- What mayGo has caught. -/
structure Caught (w : World) (x y g : Nat) : Prop where
  c1 : w.cell? ⟨x, 0, none⟩ = some (.func (.func 71) #[] #[])
  c2 : w.cell? ⟨y, 0, none⟩ = some (.pointer (some ⟨g, 0, none⟩))
theorem Caught.keep {w w' : World} {x y g : Nat} (h : Caught w x y g) (hb : Below w.heap.size w w') : Caught w' x y g :=
  ⟨(hb.cell (World.block_lt_of_cell? w _ h.c1)).trans h.c1, (hb.cell (World.block_lt_of_cell? w _ h.c2)).trans h.c2⟩
set_option maxHeartbeats 400000 in
theorem mayGo_any {base : Nat} {w : World} {F : Nat → Prop} {g b : Nat} {dp : Value} {blk : Int → Nat} {cv : Int → Value} {P : PS} (h : PoolIn base w F g dp b blk cv P) {k : Int} (hk : k ∈ P.keys) {x y : Nat} (hc : Caught w x y g) :
    Calls Try.prog 72 #[.pointer (some ⟨blk k, 0, none⟩), .pointer (some ⟨x, 0, none⟩), .pointer (some ⟨y, 0, none⟩)] w fun e w' => e = .returned (.bool (mayGo P.safe (P.fr k))) ∧ Below w.heap.size w w' := by
  have h1 := unp_any h hk
  have h2 : ∀ w1, Below w.heap.size w w1 → Calls Try.prog 73 #[.pointer (some ⟨g, 0, none⟩), .pointer (some ⟨blk k, 0, none⟩)] w1 fun e w' => e = .returned (.bool (beh P.safe (P.fr k))) ∧ Below w1.heap.size w1 w' := fun w1 hb => behind_any (h.keepB hb) hk
  have hc1 := hc.c1
  have hc2 := hc.c2
  unfold mayGo
  clear h
  cases hu : unp (P.fr k)
  · rw [hu] at h1
    go_enter Try.func72, Try.ntmps72
    go_wp2_with (first | (go_at_call 71; refine h1.mono ?_; rintro e w1 ⟨rfl, hb1⟩))
    go_ret
    exact ⟨rfl, hb1⟩
  · rw [hu] at h1
    cases hq : beh P.safe (P.fr k)
    all_goals
      rw [hq] at h2
      go_enter Try.func72, Try.ntmps72
      go_wp2_with (first
        | (go_at_call 71; refine h1.mono ?_; rintro e w1 ⟨rfl, hb1⟩; have hc1' := (hc.keep hb1).c1; have hc2' := (hc.keep hb1).c2; clear hc1 hc2)
        | (go_at_call 73; refine (h2 _ hb1).mono ?_; rintro e w2 ⟨rfl, hb2⟩))
      go_ret
      exact ⟨rfl, hb1.trans (hb2.mono hb1.size)⟩
/-- The frame that is wanted and was used longest ago, of those that have come. -/
structure Best (P : PS) (wt : FS → Bool) (left : Int → Bool) (pg ls : Int) (fd : Bool) : Prop where
  no : fd = false → ∀ k ∈ P.keys, left k = false → wt (P.fr k) = false
  mem : fd = true → pg ∈ P.keys ∧ wt (P.fr pg) = true ∧ ls = (P.fr pg).used
  le : fd = true → ∀ k ∈ P.keys, left k = false → wt (P.fr k) = true → ls ≤ (P.fr k).used
theorem Best.start (P : PS) (wt : FS → Bool) (a b : Int) : Best P wt (fun k => decide (k ∈ P.keys)) a b false :=
  ⟨fun _ k hk hl => by simp at hl; exact absurd hk hl, fun h => by (cases h), fun h => by (cases h)⟩
/-- One that is not taken. -/
theorem Best.pass {P : PS} {wt : FS → Bool} {left : Int → Bool} {pg ls : Int} {fd : Bool} (h : Best P wt left pg ls fd) {x : Int} (hx : wt (P.fr x) = false ∨ (fd = true ∧ ls ≤ (P.fr x).used)) : Best P wt (fun z => left z && decide (z ≠ x)) pg ls fd := by
  refine ⟨fun hf k hk hl => ?_, h.mem, fun hf k hk hl hw => ?_⟩
  · by_cases e : k = x
    · subst e
      rcases hx with hx | hx
      · exact hx
      · rw [hf] at hx; cases hx.1
    · exact h.no hf k hk (by simpa [e] using hl)
  · by_cases e : k = x
    · subst e
      rcases hx with hx | hx
      · rw [hx] at hw; cases hw
      · exact hx.2
    · exact h.le hf k hk (by simpa [e] using hl) hw
/-- One that is taken. -/
theorem Best.take {P : PS} {wt : FS → Bool} {left : Int → Bool} {pg ls : Int} {fd : Bool} (h : Best P wt left pg ls fd) {x : Int} (hm : x ∈ P.keys) (hx : wt (P.fr x) = true) (hl : fd = false ∨ (P.fr x).used < ls) : Best P wt (fun z => left z && decide (z ≠ x)) x (P.fr x).used true := by
  refine ⟨fun hf => by (cases hf), fun _ => ⟨hm, hx, rfl⟩, fun _ k hk hlk hw => ?_⟩
  by_cases e : k = x
  · subst e; exact Int.le_refl _
  · have hlk' : left k = false := by simpa [e] using hlk
    cases hfd : fd with
    | false =>
      have := h.no hfd k hk hlk'
      rw [this] at hw; cases hw
    | true =>
      have := h.le hfd k hk hlk' hw
      rcases hl with hl | hl
      · rw [hfd] at hl; cases hl
      · omega
set_option maxRecDepth 20000 in
set_option maxHeartbeats 4000000 in
theorem longest_unp {base : Nat} {w : World} {F : Nat → Prop} {g b : Nat} {dp : Value} {blk : Int → Nat} {cv : Int → Value} {P : PS} (h : PoolIn base w F g dp b blk cv P) (hus : ∀ k ∈ P.keys, FOk P.uses (P.fr k)) (hu : 0 ≤ P.uses ∧ P.uses ≤ 1000000) (wt : FS → Bool)
    (hW : ∀ k ∈ P.keys, ∀ w', Below w.heap.size w w' → Calls Try.prog 71 #[.pointer (some ⟨blk k, 0, none⟩)] w' fun e w'' => e = .returned (.bool (wt (P.fr k))) ∧ Below w'.heap.size w' w'') :
    Calls Try.prog 74 #[.pointer (some ⟨g, 0, none⟩), .func (.func 71) #[] #[]] w fun e w' => ∃ (pg ls : Int) (fd : Bool), e = .returned (.tuple #[.int .i64 pg, .bool fd]) ∧ Best P wt (fun _ => false) pg ls fd ∧ Below w.heap.size w w' := by
  have p4 := h.cells.c4
  have HP : Hid (PoolIn base w F g dp b blk cv P) := h
  have HM : Hid (FMap w b P.keys blk) := h.hm
  have HU : Hid (∀ k ∈ P.keys, FOk P.uses (P.fr k)) := hus
  have HW : Hid (∀ k ∈ P.keys, ∀ w', Below w.heap.size w w' → Calls Try.prog 71 #[.pointer (some ⟨blk k, 0, none⟩)] w' fun e w'' => e = .returned (.bool (wt (P.fr k))) ∧ Below w'.heap.size w' w'') := hW
  clear h hus hW
  go_enter Try.func74, Try.ntmps74
  go_wp2_with (first
    | (at_range; refine wp_rangeF _ rfl _ rfl b P.keys blk rfl HM.out ?_; intro w0 cnt0 hrg0 hb0 hs0)
    | go_in)
  have HR0 : Hid (FRange w0 b w.heap.size P.keys blk (fun k => decide (k ∈ P.keys)) cnt0) := hrg0
  clear hrg0 p4
  go_frame
  go_loopw [4, 5, 6] (fun pg fd ls wr => ∃ (left : Int → Bool) (cnt : Nat) (pgI lsI : Int) (fdB : Bool), pg = .int .i64 pgI ∧ fd = .bool fdB ∧ ls = .int .i64 lsI ∧ Hid (FRange wr b w.heap.size P.keys blk left cnt) ∧ Below w.heap.size w wr ∧ Hid (Best P wt left pgI lsI fdB) ∧ w.heap.size < wr.heap.size)
    (fun _ _ _ wr => wr.rangeLeft b w.heap.size)
  case atStart => exact ⟨_, _, 0, 0, false, rfl, rfl, rfl, HR0, hb0, Best.start P wt 0 0, by omega⟩
  case round =>
    obtain ⟨left, cnt, pgI, lsI, fdB, rfl, rfl, rfl, HR, hb, HB, hsz⟩ := hrel
    clear HR0 hb0 hs0
    go_wp2_with (first
      | (at_next; refine wp_nextF _ rfl _ rfl b w.heap.size P.keys blk left cnt rfl HR.out ?_ ?_)
      | go_in)
    · intro hl0
      have HB' : Hid (Best P wt (fun _ => false) pgI lsI fdB) := by
        have e : left = fun _ => false := funext hl0
        rw [← e]; exact HB.out
      clear hl0 HB HR
      go_wp2
      exact bodyPost_ret (v := .tuple #[.int .i64 pgI, .bool fdB]) (by simp [results, Try.results74, go_sem]) rfl ⟨pgI, lsI, fdB, rfl, HB'.out, hb⟩
    · intro x w1 cnt1 hlx hx hxr hxr2 hrg1 hlt hbr hf1 hen
      have HR1 : Hid (FRange w1 b w.heap.size P.keys blk (fun z => left z && decide (z ≠ x)) cnt1) := by show FRange _ _ _ _ _ _ _; simpa using hrg1
      have hb1 : Below w.heap.size w w1 := hb.trans hbr
      have hsz1 : w.heap.size < w1.heap.size := Nat.lt_of_lt_of_le hsz hbr.size
      have HLT : Hid (cnt1 < wr.rangeLeft b w.heap.size) := by have := HR.out.left_eq; show _ < _; omega
      have hWx := HW.out x hx w1 hb1
      have hFx := HU.out x hx
      have hPx := HP.out
      have hcx : ∀ w2, Below w1.heap.size w1 w2 → w2.cell? ⟨blk x, 4, none⟩ = some (.int .i64 (P.fr x).used) := fun w2 hb2 => ((hPx.keepB (hb1.trans (hb2.mono (by omega)))).cellsF hx).c4
      clear hrg1 hbr hf1 hlt hPx HM HR
      cases hwt : wt (P.fr x) with
      | false =>
        rw [hwt] at hWx
        go_wp2_with (first | (go_at_call 71; refine hWx.mono ?_; rintro e w2 ⟨rfl, hb2⟩; have HR2 : Hid (FRange w2 b w.heap.size P.keys blk (fun z => left z && decide (z ≠ x)) cnt1) := HR1.out.below hb2))
        go_roundw
        case rel => exact ⟨_, cnt1, pgI, lsI, fdB, rfl, rfl, rfl, HR2, hb1.trans (hb2.mono (by omega)), HB.out.pass (Or.inl hwt), Nat.lt_of_lt_of_le hsz1 hb2.size⟩
        case measure => rw [HR2.out.left_eq]; exact HLT.out
      | true =>
        rw [hwt] at hWx
        cases fdB with
        | false =>
          go_wp2_with (first | (go_at_call 71; refine hWx.mono ?_; rintro e w2 ⟨rfl, hb2⟩; have HR2 : Hid (FRange w2 b w.heap.size P.keys blk (fun z => left z && decide (z ≠ x)) cnt1) := HR1.out.below hb2; have hc4 := hcx w2 hb2; clear hcx hen hWx))
          generalize hU : (P.fr x).used = U at *
          go_quiet (fail)
          go_wp2
          go_roundw
          case rel => exact ⟨_, cnt1, x, U, true, rfl, rfl, rfl, HR2.out.below (below_drewN (Below.refl _ _) _), below_drewN (hb1.trans (hb2.mono (by omega))) _, by rw [← hU]; exact HB.out.take hx hwt (Or.inl rfl), Nat.lt_of_lt_of_le hsz1 hb2.size⟩
          case measure => rw [(HR2.out.below (below_drewN (Below.refl _ _) _)).left_eq]; exact HLT.out
        | true =>
          by_cases hlt : (P.fr x).used < lsI
          · have t1 : decide ((P.fr x).used < lsI) = true := by simpa using hlt
            go_wp2_with (first | (go_at_call 71; refine hWx.mono ?_; rintro e w2 ⟨rfl, hb2⟩; have HR2 : Hid (FRange w2 b w.heap.size P.keys blk (fun z => left z && decide (z ≠ x)) cnt1) := HR1.out.below hb2; have hc4 := hcx w2 hb2; clear hcx hen hWx))
            generalize hU : (P.fr x).used = U at *
            go_quiet (fail)
            go_wp2
            go_roundw
            case rel => exact ⟨_, cnt1, x, U, true, rfl, rfl, rfl, HR2.out.below (below_drewN (Below.refl _ _) _), below_drewN (hb1.trans (hb2.mono (by omega))) _, by rw [← hU]; exact HB.out.take hx hwt (Or.inr (by omega)), Nat.lt_of_lt_of_le hsz1 hb2.size⟩
            case measure => rw [(HR2.out.below (below_drewN (Below.refl _ _) _)).left_eq]; exact HLT.out
          · have t1 : decide ((P.fr x).used < lsI) = false := by simpa using hlt
            go_wp2_with (first | (go_at_call 71; refine hWx.mono ?_; rintro e w2 ⟨rfl, hb2⟩; have HR2 : Hid (FRange w2 b w.heap.size P.keys blk (fun z => left z && decide (z ≠ x)) cnt1) := HR1.out.below hb2; have hc4 := hcx w2 hb2; clear hcx hen hWx))
            go_roundw
            case rel => exact ⟨_, cnt1, pgI, lsI, true, rfl, rfl, rfl, HR2, hb1.trans (hb2.mono (by omega)), HB.out.pass (Or.inr ⟨rfl, by omega⟩), Nat.lt_of_lt_of_le hsz1 hb2.size⟩
            case measure => rw [HR2.out.left_eq]; exact HLT.out
set_option maxRecDepth 20000 in
set_option maxHeartbeats 4000000 in
theorem longest_may {base : Nat} {w : World} {F : Nat → Prop} {g b : Nat} {dp : Value} {blk : Int → Nat} {cv : Int → Value} {P : PS} (h : PoolIn base w F g dp b blk cv P) (hus : ∀ k ∈ P.keys, FOk P.uses (P.fr k)) (hu : 0 ≤ P.uses ∧ P.uses ≤ 1000000) (wt : FS → Bool) (x0 y0 : Nat)
    (hW : ∀ k ∈ P.keys, ∀ w', Below w.heap.size w w' → Calls Try.prog 72 #[.pointer (some ⟨blk k, 0, none⟩), .pointer (some ⟨x0, 0, none⟩), .pointer (some ⟨y0, 0, none⟩)] w' fun e w'' => e = .returned (.bool (wt (P.fr k))) ∧ Below w'.heap.size w' w'') :
    Calls Try.prog 74 #[.pointer (some ⟨g, 0, none⟩), .func (.func 72) #[] #[.pointer (some ⟨x0, 0, none⟩), .pointer (some ⟨y0, 0, none⟩)]] w fun e w' => ∃ (pg ls : Int) (fd : Bool), e = .returned (.tuple #[.int .i64 pg, .bool fd]) ∧ Best P wt (fun _ => false) pg ls fd ∧ Below w.heap.size w w' := by
  have p4 := h.cells.c4
  have HP : Hid (PoolIn base w F g dp b blk cv P) := h
  have HM : Hid (FMap w b P.keys blk) := h.hm
  have HU : Hid (∀ k ∈ P.keys, FOk P.uses (P.fr k)) := hus
  have HW : Hid (∀ k ∈ P.keys, ∀ w', Below w.heap.size w w' → Calls Try.prog 72 #[.pointer (some ⟨blk k, 0, none⟩), .pointer (some ⟨x0, 0, none⟩), .pointer (some ⟨y0, 0, none⟩)] w' fun e w'' => e = .returned (.bool (wt (P.fr k))) ∧ Below w'.heap.size w' w'') := hW
  clear h hus hW
  go_enter Try.func74, Try.ntmps74
  go_wp2_with (first
    | (at_range; refine wp_rangeF _ rfl _ rfl b P.keys blk rfl HM.out ?_; intro w0 cnt0 hrg0 hb0 hs0)
    | go_in)
  have HR0 : Hid (FRange w0 b w.heap.size P.keys blk (fun k => decide (k ∈ P.keys)) cnt0) := hrg0
  clear hrg0 p4
  go_frame
  go_loopw [4, 5, 6] (fun pg fd ls wr => ∃ (left : Int → Bool) (cnt : Nat) (pgI lsI : Int) (fdB : Bool), pg = .int .i64 pgI ∧ fd = .bool fdB ∧ ls = .int .i64 lsI ∧ Hid (FRange wr b w.heap.size P.keys blk left cnt) ∧ Below w.heap.size w wr ∧ Hid (Best P wt left pgI lsI fdB) ∧ w.heap.size < wr.heap.size)
    (fun _ _ _ wr => wr.rangeLeft b w.heap.size)
  case atStart => exact ⟨_, _, 0, 0, false, rfl, rfl, rfl, HR0, hb0, Best.start P wt 0 0, by omega⟩
  case round =>
    obtain ⟨left, cnt, pgI, lsI, fdB, rfl, rfl, rfl, HR, hb, HB, hsz⟩ := hrel
    clear HR0 hb0 hs0
    go_wp2_with (first
      | (at_next; refine wp_nextF _ rfl _ rfl b w.heap.size P.keys blk left cnt rfl HR.out ?_ ?_)
      | go_in)
    · intro hl0
      have HB' : Hid (Best P wt (fun _ => false) pgI lsI fdB) := by
        have e : left = fun _ => false := funext hl0
        rw [← e]; exact HB.out
      clear hl0 HB HR
      go_wp2
      exact bodyPost_ret (v := .tuple #[.int .i64 pgI, .bool fdB]) (by simp [results, Try.results74, go_sem]) rfl ⟨pgI, lsI, fdB, rfl, HB'.out, hb⟩
    · intro x w1 cnt1 hlx hx hxr hxr2 hrg1 hlt hbr hf1 hen
      have HR1 : Hid (FRange w1 b w.heap.size P.keys blk (fun z => left z && decide (z ≠ x)) cnt1) := by show FRange _ _ _ _ _ _ _; simpa using hrg1
      have hb1 : Below w.heap.size w w1 := hb.trans hbr
      have hsz1 : w.heap.size < w1.heap.size := Nat.lt_of_lt_of_le hsz hbr.size
      have HLT : Hid (cnt1 < wr.rangeLeft b w.heap.size) := by have := HR.out.left_eq; show _ < _; omega
      have hWx := HW.out x hx w1 hb1
      have hFx := HU.out x hx
      have hPx := HP.out
      have hcx : ∀ w2, Below w1.heap.size w1 w2 → w2.cell? ⟨blk x, 4, none⟩ = some (.int .i64 (P.fr x).used) := fun w2 hb2 => ((hPx.keepB (hb1.trans (hb2.mono (by omega)))).cellsF hx).c4
      clear hrg1 hbr hf1 hlt hPx HM HR
      cases hwt : wt (P.fr x) with
      | false =>
        rw [hwt] at hWx
        go_wp2_with (first | (go_at_call 72; refine hWx.mono ?_; rintro e w2 ⟨rfl, hb2⟩; have HR2 : Hid (FRange w2 b w.heap.size P.keys blk (fun z => left z && decide (z ≠ x)) cnt1) := HR1.out.below hb2))
        go_roundw
        case rel => exact ⟨_, cnt1, pgI, lsI, fdB, rfl, rfl, rfl, HR2, hb1.trans (hb2.mono (by omega)), HB.out.pass (Or.inl hwt), Nat.lt_of_lt_of_le hsz1 hb2.size⟩
        case measure => rw [HR2.out.left_eq]; exact HLT.out
      | true =>
        rw [hwt] at hWx
        cases fdB with
        | false =>
          go_wp2_with (first | (go_at_call 72; refine hWx.mono ?_; rintro e w2 ⟨rfl, hb2⟩; have HR2 : Hid (FRange w2 b w.heap.size P.keys blk (fun z => left z && decide (z ≠ x)) cnt1) := HR1.out.below hb2; have hc4 := hcx w2 hb2; clear hcx hen hWx))
          generalize hU : (P.fr x).used = U at *
          go_quiet (fail)
          go_wp2
          go_roundw
          case rel => exact ⟨_, cnt1, x, U, true, rfl, rfl, rfl, HR2.out.below (below_drewN (Below.refl _ _) _), below_drewN (hb1.trans (hb2.mono (by omega))) _, by rw [← hU]; exact HB.out.take hx hwt (Or.inl rfl), Nat.lt_of_lt_of_le hsz1 hb2.size⟩
          case measure => rw [(HR2.out.below (below_drewN (Below.refl _ _) _)).left_eq]; exact HLT.out
        | true =>
          by_cases hlt : (P.fr x).used < lsI
          · have t1 : decide ((P.fr x).used < lsI) = true := by simpa using hlt
            go_wp2_with (first | (go_at_call 72; refine hWx.mono ?_; rintro e w2 ⟨rfl, hb2⟩; have HR2 : Hid (FRange w2 b w.heap.size P.keys blk (fun z => left z && decide (z ≠ x)) cnt1) := HR1.out.below hb2; have hc4 := hcx w2 hb2; clear hcx hen hWx))
            generalize hU : (P.fr x).used = U at *
            go_quiet (fail)
            go_wp2
            go_roundw
            case rel => exact ⟨_, cnt1, x, U, true, rfl, rfl, rfl, HR2.out.below (below_drewN (Below.refl _ _) _), below_drewN (hb1.trans (hb2.mono (by omega))) _, by rw [← hU]; exact HB.out.take hx hwt (Or.inr (by omega)), Nat.lt_of_lt_of_le hsz1 hb2.size⟩
            case measure => rw [(HR2.out.below (below_drewN (Below.refl _ _) _)).left_eq]; exact HLT.out
          · have t1 : decide ((P.fr x).used < lsI) = false := by simpa using hlt
            go_wp2_with (first | (go_at_call 72; refine hWx.mono ?_; rintro e w2 ⟨rfl, hb2⟩; have HR2 : Hid (FRange w2 b w.heap.size P.keys blk (fun z => left z && decide (z ≠ x)) cnt1) := HR1.out.below hb2; have hc4 := hcx w2 hb2; clear hcx hen hWx))
            go_roundw
            case rel => exact ⟨_, cnt1, pgI, lsI, true, rfl, rfl, rfl, HR2, hb1.trans (hb2.mono (by omega)), HB.out.pass (Or.inr ⟨rfl, by omega⟩), Nat.lt_of_lt_of_le hsz1 hb2.size⟩
            case measure => rw [HR2.out.left_eq]; exact HLT.out
end Go.Proofs.Ytkmgahembhgloaa

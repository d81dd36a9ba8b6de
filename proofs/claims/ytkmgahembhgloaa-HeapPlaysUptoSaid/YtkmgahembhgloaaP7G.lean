/- The pool: makeRoom of a pool without a free frame. -/
import Derived.Test.YtkmgahembhgloaaP7F
import Derived.Laws.EntriesVeiled
namespace Go.Proofs.Ytkmgahembhgloaa
open Go.RowKit Go.Maps
set_option linter.unusedVariables false
set_option linter.unusedSimpArgs false

set_option maxRecDepth 20000 in
set_option maxHeartbeats 1000000 in
theorem room_full {base : Nat} {w : World} {F G : Nat → Prop} {g b n : Nat} {dp : Value} {blk : Int → Nat} {cv : Int → Value} {P : PS} {D : DS} (h : PoolIn base w F g dp b blk cv P) (hD : DiskAt base w G dp n D) (hdis : ∀ i, F i → ¬ G i) (hok : POk P) (hfit : P.first + 16 * P.pages ≤ D.size) (hlt : ¬ ((P.keys.length : Int) < P.size)) (hcnt : n + D.ws.length + 16 < 900000) :
    Calls Try.prog 65 #[.pointer (some ⟨g, 0, none⟩)] w fun e w' => RoomOut base w F G g dp b blk cv n P D e w' := by
  have h0 : Below w.heap.size w (w.alloc (.cells #[.pointer (some ⟨g, 0, none⟩)] 58)) := (Below.refl _ _).alloc (Nat.le_refl _) _
  have h1 := h.keepB h0
  have p3 := h1.cells.c3
  have p4 := h1.cells.c4
  have hlen := len_at h1.hm hok.rise
  have t1 : decide ((P.keys.length : Int) < P.size) = false := by simpa using hlt
  have HP : Hid (PoolIn base w F g dp b blk cv P) := h
  have HD : Hid (DiskAt base w G dp n D) := hD
  have HOK : Hid (POk P) := hok
  have HLM : Hid (∀ wA, Below w.heap.size w wA → Caught wA (w.heap.size + 1) w.heap.size g → Calls Try.prog 74 #[.pointer (some ⟨g, 0, none⟩), .func (.func 72) #[] #[.pointer (some ⟨w.heap.size + 1, 0, none⟩), .pointer (some ⟨w.heap.size, 0, none⟩)]] wA fun e w' => ∃ (pg ls : Int) (fd : Bool), e = .returned (.tuple #[.int .i64 pg, .bool fd]) ∧ Hid (Best P (mayGo P.safe) (fun _ => false) pg ls fd) ∧ Below w.heap.size w w' ∧ Caught w' (w.heap.size + 1) w.heap.size g) := fun wA hb hc => (longest_may (h.keepB hb) hok.fr hok.uses (mayGo P.safe) _ _ (fun k hk w' hb' => mayGo_any ((h.keepB hb).keepB hb') hk (hc.keep hb'))).mono (by
    rintro e w' ⟨pg, ls, fd, he, hB, hb'⟩
    exact ⟨pg, ls, fd, he, hB, hb.trans (hb'.mono hb.size), hc.keep hb'⟩)
  have HLU : Hid (∀ wA, Below w.heap.size w wA → Calls Try.prog 74 #[.pointer (some ⟨g, 0, none⟩), .func (.func 71) #[] #[]] wA fun e w' => ∃ (pg ls : Int) (fd : Bool), e = .returned (.tuple #[.int .i64 pg, .bool fd]) ∧ Hid (Best P unp (fun _ => false) pg ls fd) ∧ Below w.heap.size w w') := fun wA hb => (longest_unp (h.keepB hb) hok.fr hok.uses unp (fun k hk w' hb' => unp_any ((h.keepB hb).keepB hb') hk)).mono (by
    rintro e w' ⟨pg, ls, fd, he, hB, hb'⟩
    exact ⟨pg, ls, fd, he, hB, hb.trans (hb'.mono hb.size)⟩)
  clear h h1 hD hok
  generalize hL : (P.keys.length : Int) = L at *
  generalize hZ : P.size = Z at *
  go_enter Try.func65, Try.ntmps65
  go_wp2
  go_quiet (fail)
  have hcX : (((w.alloc (.cells #[.pointer (some ⟨g, 0, none⟩)] 58)).drewN nq).alloc (.cells #[Value.nilFunc] 115)).cell? ⟨w.heap.size + 1, 0, none⟩ = some Value.nilFunc := by
    have := World.cell?_alloc_at (w := (w.alloc (.cells #[.pointer (some ⟨g, 0, none⟩)] 58)).drewN nq) #[Value.nilFunc] 115 (w.heap.size + 1) 0 (by simp)
    rw [this]; rfl
  have hfX : (((w.alloc (.cells #[.pointer (some ⟨g, 0, none⟩)] 58)).drewN nq).alloc (.cells #[Value.nilFunc] 115)).frozen? ⟨w.heap.size + 1, 0, none⟩ = false := frozen_row (new_at _ _ (by simp)) 0
  go_wp2_with fail
  refine (HLM.out _ ?hbel ?hcau).mono ?_
  case hbel => exact (by repeat (first | exact Below.refl _ _ | assumption | refine Below.alloc ?_ (by first | (simp; done) | (simp; omega)) _ | refine Below.setCell ?_ (by first | (simp; done) | (simp; omega)) _ | refine Below.drew ?_ | refine below_drewN ?_ _))
  case hcau =>
    refine ⟨by rw [World.cell?_alloc_at _ _ _ 0 (by simp)]; rfl, ?_⟩
    rw [World.cell?_alloc_past _ _ _ (by simp)]
    simp
  rintro e w1 ⟨pg, ls, fd, rfl, HB1, hb1, hC1⟩
  have cx := hC1.c1
  have cy := hC1.c2
  clear hC1 HLM hlen p3 p4 h0
  cases fd
  · go_wp2_with fail
    refine (HLU.out _ hb1).mono ?_
    rintro e w2 ⟨pg2, ls2, fd2, rfl, HB2, hb2⟩
    clear HLU cx cy
    cases fd2
    · go_wp2
      go_ret
      exact RoomOut.full rfl (fun k hk => HB2.out.no rfl k hk rfl) hb2
    · go_wp2
      go_ret
      exact RoomOut.behind rfl (fun k hk => HB1.out.no rfl k hk rfl) ⟨pg2, (HB2.out.mem rfl).1, (HB2.out.mem rfl).2.1⟩ hb2
  · have hG := HB1.out.goner
    have hpr := HOK.out.rng pg hG.mem
    have hpp := HOK.out.pages
    have hPc := HP.out.keepB hb1
    have hcl := clean_any hPc (HD.out.keepB hb1) hdis HOK.out hfit hG.mem hcnt
    have HCl : Hid (Calls Try.prog 75 #[.pointer (some ⟨g, 0, none⟩), .int .i64 pg] w1 fun e w' => e = .returned (.tuple #[]) ∧ PoolIn base w' F g dp b blk cv { P with fr := updA P.fr pg { P.fr pg with dirty := false } } ∧ ∃ G', DiskAt base w' G' dp n (D.cleaned P pg) ∧ Fr w1 w' (fun i => F i ∨ G i) ∧ ∀ i, G' i → G i ∨ w1.heap.size ≤ i) := hcl
    have hs1 := hb1.size
    have hyn : ¬ (F w.heap.size ∨ G w.heap.size) := fun h => by
      rcases h with h | h
      · have := (HP.out.lo _ h).2; omega
      · have := (HD.out.lo _ h).2; omega
    clear hcl hPc HLU cx
    go_wp2_with fail
    refine HCl.out.mono ?_
    rintro e w2 ⟨rfl, hP2, G', hD2, hf2, ho2⟩
    have cy2 := fr_cell hf2 hyn cy
    have q4 := hP2.cells.c4
    have HM2 : Hid (FMap w2 b P.keys blk) := hP2.hm
    have HP2 : Hid (PoolIn base w2 F g dp b blk cv { P with fr := updA P.fr pg { P.fr pg with dirty := false } }) := hP2
    have HD2 : Hid (DiskAt base w2 G' dp n (D.cleaned P pg)) := hD2
    clear HCl hP2 hD2 cy
    go_wp2_with (at_delete; refine wp_delF _ rfl _ _ rfl b P.keys blk pg rfl rfl HM2.out HOK.out.rise (by omega) ?_)
    intro w3 hm3 hg3
    have HM3 : Hid (FMap w3 b (delS pg P.keys) blk) := hm3
    have HG3 : Hid (w2.grownBy w3 (some b)) := hg3
    clear hm3 hg3 q4 cy2
    go_wp2
    go_ret
    have hbF := HP.out.fb
    refine RoomOut.went pg rfl hG (HP2.out.drop HM3.out HG3.out) G' (HD2.out.keep (Fr.of_grown (F := fun k => k = b) HG3.out (fun k hk => by cases hk; rfl)) (fun k hk e => ?_)) (((Fr.of_below hb1).trans hf2 (fun i hi => Or.inl hi)).trans (Fr.of_grown (F := fun k => k = b) HG3.out (fun k hk => by cases hk; rfl)) (fun i hi => Or.inl (Or.inl (by rw [hi]; exact hbF)))) (fun i hi => ?_)
    · subst e
      rcases ho2 k hk with h | h
      · exact hdis k hbF h
      · have := (HP.out.lo k hbF).2; omega
    · rcases ho2 i hi with h | h
      · exact Or.inl h
      · exact Or.inr (by omega)
end Go.Proofs.Ytkmgahembhgloaa

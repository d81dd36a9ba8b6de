/- The program's table is asked: Waits, Has, isConversion. -/
import Derived.Test.YtmldpbgdjlblmaaDoorL11V
import Derived.Test.YtmldpbgdjlblmaaDoorL11F
namespace Go.Proofs.YtmldpbgdjlblmaaDoor
open Go.RowKit Go.Joins Go.Maps Go.Shelf
set_option linter.unusedVariables false
set_option linter.unusedSimpArgs false

def hvP (tx : Int) (o : Ob) (m : Int) (r : Rq) : Bool := decide (r.tx = tx) && r.gr && cv r.md m && wi o r.ob
theorem hvP_held (tx : Int) (o : Ob) (m : Int) (r : Rq) : hvP tx o m r = heldB r tx o m := by
  unfold hvP heldB
  cases r.gr <;> cases decide (r.tx = tx) <;> cases cv r.md m <;> cases wi o r.ob <;> rfl
set_option maxHeartbeats 4000000 in
theorem having1_fn (r : Rq) {w : World} {B1 B2 B3 : Nat} {tx m : Int} {o : Ob} (h1 : w.cell? ⟨B1, 0, none⟩ = some (.int .i64 tx)) (h2 : w.cell? ⟨B2, 0, none⟩ = some (.int .i64 m)) (h3 : BoxO w B3 o) (hL : LibW w) :
    Calls Tryd.prog 69 #[r.v, .pointer (some ⟨B1, 0, none⟩), .pointer (some ⟨B2, 0, none⟩), .pointer (some ⟨B3, 0, none⟩)] w fun e w' => e = .returned (.bool (hvP tx o m r)) ∧ Below w.heap.size w w' := by
  have hb := boxq_b w r
  replace h1 := cell_keep hb h1
  replace h2 := cell_keep hb h2
  have H3 : Hid (BoxO (w.alloc r.box) B3 o) := h3.keep hb
  have HR : Hid (BoxQ (w.alloc r.box) w.heap.size r) := BoxQ.new w r
  have hL2 := hL.keep hb
  unfold hvP
  obtain ⟨xt, ⟨sa, ta, la, ua, na⟩, xm, xg, xs⟩ := r
  obtain ⟨sb, tb, lb', ub, nb⟩ := o
  simp only
  clear h3 hL
  by_cases ht : xt = tx
  · subst ht
    cases xg with
    | false =>
      go_enter Tryd.func69, Tryd.ntmps69
      go_wp2_with fail
      go_ret
      exact ⟨by simp, hb⟩
    | true =>
      cases hc : cv xm m with
      | false =>
        go_enter Tryd.func69, Tryd.ntmps69
        go_wp2_with fail
        refine (covers_is hc _ hL2).mono ?_
        rintro e w2 ⟨rfl, hb2⟩
        replace hb := keepA hb hb2
        go_wp2_with fail
        go_ret
        exact ⟨by simp, hb⟩
      | true =>
        cases hw : wi ⟨sb, tb, lb', ub, nb⟩ ⟨sa, ta, la, ua, na⟩ <;>
        · go_enter Tryd.func69, Tryd.ntmps69
          go_wp2_with fail
          refine (covers_is hc _ hL2).mono ?_
          rintro e w2 ⟨rfl, hb2⟩
          replace hb := keepA hb hb2
          obtain ⟨b0, b1, b2, b3, b4⟩ := H3.out.keep hb2
          obtain ⟨a0, a1, a2, a3, a4, a5, a6, a7, a8⟩ := HR.out.keep hb2
          simp only at b0 b1 b2 b3 b4 a1 a2 a3 a4 a5
          clear H3 HR a0 a6 a7 a8 hb2
          go_wp2_with fail
          refine (within_at hw _).mono ?_
          rintro e w3 ⟨rfl, hb3⟩
          replace hb := keepA hb hb3
          go_wp2_with fail
          go_ret
          exact ⟨by simp, hb⟩
  · have ht2 : (xt == tx) = false := by simpa using ht
    go_enter Tryd.func69, Tryd.ntmps69
    go_wp2_with fail
    go_ret
    exact ⟨by simp [ht], hb⟩
def cnP (x r : Rq) : Bool := decide (r.tx = x.tx) && r.gr && oe r.ob x.ob
set_option maxRecDepth 100000 in
set_option maxHeartbeats 4000000 in
theorem conv1_fn (r x : Rq) {w : World} {B : Nat} (h : BoxQ w B x) :
    Calls Tryd.prog 78 #[r.v, .pointer (some ⟨B, 0, none⟩)] w fun e w' => e = .returned (.bool (cnP x r)) ∧ Below w.heap.size w w' := by
  have hb := boxq_b w r
  obtain ⟨b0, b1, b2, b3, b4, b5, b6, b7, b8⟩ := h.keep hb
  obtain ⟨a0, a1, a2, a3, a4, a5, a6, a7, a8⟩ := BoxQ.new w r
  unfold cnP
  obtain ⟨xt, ⟨sa, ta, la, ua, na⟩, xm, xg, xs⟩ := r
  obtain ⟨yt, ⟨sb, tb, lb', ub, nb⟩, ym, yg, ys⟩ := x
  simp only at *
  clear h a6 a8 b6 b7 b8
  by_cases ht : xt = yt
  · subst ht
    cases xg with
    | false =>
      clear a1 a2 a3 a4 a5 b1 b2 b3 b4 b5
      go_enter Tryd.func78, Tryd.ntmps78
      go_wp2_with fail
      go_ret
      exact ⟨by simp, hb⟩
    | true =>
      have hch := chain_obj sa sb ta la ua tb lb' ub na nb
      generalize oe ⟨sa, ta, la, ua, na⟩ ⟨sb, tb, lb', ub, nb⟩ = t at *
      cases t <;>
      · go_enter Tryd.func78, Tryd.ntmps78
        go_wp2_with fail
        go_ret
        exact ⟨by simp, hb⟩
  · have ht2 : (xt == yt) = false := by simpa using ht
    clear a1 a2 a3 a4 a5 b1 b2 b3 b4 b5
    go_enter Tryd.func78, Tryd.ntmps78
    go_wp2_with fail
    go_ret
    exact ⟨by simp [ht], hb⟩
theorem enters_w1 : Enters Tryd.prog 51 := enters_of Tryd.func51 (by kernel_rfl) rfl
theorem enters_h1 : Enters Tryd.prog 69 := enters_of Tryd.func69 (by kernel_rfl) rfl
theorem enters_c1 : Enters Tryd.prog 78 := enters_of Tryd.func78 (by kernel_rfl) rfl
theorem enters_b1 : Enters Tryd.prog 65 := enters_of Tryd.func65 (by kernel_rfl) rfl
theorem enters_ws : Enters Tryd.prog 45 := enters_of Tryd.func45 (by kernel_rfl) rfl
theorem box_two (w : World) (u v : Value) (s t : TypeId) : ((w.alloc (.cells #[u] s)).alloc (.cells #[v] t)).cell? ⟨w.heap.size, 0, none⟩ = some u ∧ ((w.alloc (.cells #[u] s)).alloc (.cells #[v] t)).cell? ⟨w.heap.size + 1, 0, none⟩ = some v ∧ Below w.heap.size w ((w.alloc (.cells #[u] s)).alloc (.cells #[v] t)) := by
  refine ⟨cell_keep (((Below.refl _ _).alloc (Nat.le_refl _) _)) (cell_new_l w u s).1, ?_, ((Below.refl _ _).alloc (Nat.le_refl _) _).alloc (by simp) _⟩
  simp
set_option maxHeartbeats 2000000 in
theorem pwaits_any {w : World} {t : Nat} {most : Int} {ao : Option Addr} {cap : Nat} {L : List Rq} (h : QTab w t most ao cap L) (hl : L.length ≤ 100000) (tx : Int) :
    Calls Tryd.prog 23 #[.pointer (some ⟨t, 0, none⟩), .int .i64 tx] w fun e w' => e = .returned (.bool (waitsB L tx)) ∧ Below w.heap.size w w' := by
  have hmf : ∀ (fn : Fn) (first cap : Array Value) (w : World), (Instr.makeFunc fn first cap).run Tryd.prog w = .ok (.func fn first cap) w := fun _ _ _ _ => rfl
  have c0 := (cell_new_l w (.int .i64 tx) 3).1
  have hb0 : Below w.heap.size w (w.alloc (.cells #[.int .i64 tx] 3)) := (Below.refl _ _).alloc (Nat.le_refl _) _
  have HQ : Hid (QTab w t most ao cap L) := h
  clear h
  go_enter Tryd.func23, Tryd.ntmps23
  go_wp2_with fail
  refine (those_any _ _ _ _).mono ?_
  rintro e w2 ⟨rfl, hw2⟩
  obtain ⟨c1, c2, hb1⟩ := box_two (w.alloc (.cells #[.int .i64 tx] 3)) (.pointer (some ⟨t, 0, none⟩)) (.func (.func 51) #[] #[.pointer (some ⟨w.heap.size, 0, none⟩)]) 23 69
  rw [← hw2] at c1 c2 hb1
  replace c0 := cell_keep hb1 c0
  have hb2 := keepA hb0 hb1
  have hQ2 := (HQ.out.keep hb0).keep hb1
  have hs := some_fil (p := fun r => decide (r.tx = tx) && !r.gr) hQ2 hl c1 c2 enters_w1 (fun W hb r => waits1_fn r (cell_keep hb c0))
  simp only [World.size_alloc] at hs
  clear c0 c1 c2 hQ2 HQ hw2
  go_wp2_with fail
  refine hs.mono ?_
  rintro e w3 ⟨rfl, hb3⟩
  have hb := keepA hb2 hb3
  clear hs
  go_wp2_with fail
  go_ret
  exact ⟨rfl, hb⟩
set_option maxHeartbeats 2000000 in
theorem pwaits_nil (w : World) (tx : Int) :
    Calls Tryd.prog 23 #[.pointer none, .int .i64 tx] w fun e w' => e = .returned (.bool false) ∧ Below w.heap.size w w' := by
  have hmf : ∀ (fn : Fn) (first cap : Array Value) (w : World), (Instr.makeFunc fn first cap).run Tryd.prog w = .ok (.func fn first cap) w := fun _ _ _ _ => rfl
  have hb0 : Below w.heap.size w (w.alloc (.cells #[.int .i64 tx] 3)) := (Below.refl _ _).alloc (Nat.le_refl _) _
  go_enter Tryd.func23, Tryd.ntmps23
  go_wp2_with fail
  refine (those_any _ _ _ _).mono ?_
  rintro e w2 ⟨rfl, hw2⟩
  obtain ⟨c1, c2, hb1⟩ := box_two (w.alloc (.cells #[.int .i64 tx] 3)) (.pointer none) (.func (.func 51) #[] #[.pointer (some ⟨w.heap.size, 0, none⟩)]) 23 69
  rw [← hw2] at c1 c2 hb1
  have hb2 := keepA hb0 hb1
  have hs := some_nil (Bw := (w.alloc (.cells #[.int .i64 tx] 3)).heap.size + 1) c1
  simp only [World.size_alloc] at hs
  clear c1 c2 hw2
  go_wp2_with fail
  refine hs.mono ?_
  rintro e w3 ⟨rfl, hb3⟩
  have hb := keepA hb2 hb3
  clear hs
  go_wp2_with fail
  go_ret
  exact ⟨rfl, hb⟩
/-- What having lays: the boxes of its three words and those's two. -/
abbrev hvW (w : World) (tp : Option Addr) (tx : Int) (o : Ob) (m : Int) : World := ((((w.alloc (.cells #[.int .i64 tx] 3)).alloc o.box).alloc (.cells #[.int .i64 m] 36)).alloc (.cells #[.pointer tp] 23)).alloc (.cells #[.func (.func 69) #[] #[.pointer (some ⟨w.heap.size, 0, none⟩), .pointer (some ⟨w.heap.size + 2, 0, none⟩), .pointer (some ⟨w.heap.size + 1, 0, none⟩)]] 69)
structure HvAt (w W : World) (tp : Option Addr) (tx : Int) (o : Ob) (m : Int) : Prop where
  c0 : W.cell? ⟨w.heap.size, 0, none⟩ = some (.int .i64 tx)
  c1 : BoxO W (w.heap.size + 1) o
  c2 : W.cell? ⟨w.heap.size + 2, 0, none⟩ = some (.int .i64 m)
  c3 : W.cell? ⟨w.heap.size + 3, 0, none⟩ = some (.pointer tp)
  c4 : W.cell? ⟨w.heap.size + 4, 0, none⟩ = some (.func (.func 69) #[] #[.pointer (some ⟨w.heap.size, 0, none⟩), .pointer (some ⟨w.heap.size + 2, 0, none⟩), .pointer (some ⟨w.heap.size + 1, 0, none⟩)])
  b : Below w.heap.size w W
theorem HvAt.new (w : World) (tp : Option Addr) (tx : Int) (o : Ob) (m : Int) : HvAt w (hvW w tp tx o m) tp tx o m := by
  have s0 : ∀ (W : World) (ob : Obj), Below W.heap.size W (W.alloc ob) := fun W ob => (Below.refl _ _).alloc (Nat.le_refl _) _
  have h1 : (w.alloc (.cells #[.int .i64 tx] 3)).heap.size = w.heap.size + 1 := by simp
  have h2 : ((w.alloc (.cells #[.int .i64 tx] 3)).alloc o.box).heap.size = w.heap.size + 2 := by simp
  have h3 : (((w.alloc (.cells #[.int .i64 tx] 3)).alloc o.box).alloc (.cells #[.int .i64 m] 36)).heap.size = w.heap.size + 3 := by simp
  have h4 : ((((w.alloc (.cells #[.int .i64 tx] 3)).alloc o.box).alloc (.cells #[.int .i64 m] 36)).alloc (.cells #[.pointer tp] 23)).heap.size = w.heap.size + 4 := by simp
  refine ⟨?_, ?_, ?_, ?_, ?_, ((((s0 w _).alloc (by simp) _).alloc (by simp; omega) _).alloc (by simp; omega) _).alloc (by simp; omega) _⟩
  · exact cell_keep (s0 _ _) (cell_keep (s0 _ _) (cell_keep (s0 _ _) (cell_keep (s0 _ _) (cell_new_l w _ _).1)))
  · have := BoxO.new (w.alloc (.cells #[.int .i64 tx] 3)) o
    rw [h1] at this
    exact ((this.keep (s0 _ _)).keep (s0 _ _)).keep (s0 _ _)
  · have := (cell_new_l ((w.alloc (.cells #[.int .i64 tx] 3)).alloc o.box) (.int .i64 m) 36).1
    rw [h2] at this
    exact cell_keep (s0 _ _) (cell_keep (s0 _ _) this)
  · have := (cell_new_l (((w.alloc (.cells #[.int .i64 tx] 3)).alloc o.box).alloc (.cells #[.int .i64 m] 36)) (.pointer tp) 23).1
    rw [h3] at this
    exact cell_keep (s0 _ _) this
  · have := (cell_new_l ((((w.alloc (.cells #[.int .i64 tx] 3)).alloc o.box).alloc (.cells #[.int .i64 m] 36)).alloc (.cells #[.pointer tp] 23)) (.func (.func 69) #[] #[.pointer (some ⟨w.heap.size, 0, none⟩), .pointer (some ⟨w.heap.size + 2, 0, none⟩), .pointer (some ⟨w.heap.size + 1, 0, none⟩)]) 69).1
    rw [h4] at this
    exact this
theorem HvAt.keep {w W W' : World} {tp : Option Addr} {tx : Int} {o : Ob} {m : Int} (h : HvAt w W tp tx o m) (hb : Below W.heap.size W W') : HvAt w W' tp tx o m :=
  ⟨cell_keep hb h.c0, h.c1.keep hb, cell_keep hb h.c2, cell_keep hb h.c3, cell_keep hb h.c4, keepA h.b hb⟩
abbrev hvV (w : World) : Value := .func (.func 60) #[] #[.pointer (some ⟨w.heap.size + 3, 0, none⟩), .pointer (some ⟨w.heap.size + 4, 0, none⟩)]
set_option maxHeartbeats 2000000 in
theorem having_any (w : World) (tp : Option Addr) (tx : Int) (o : Ob) (m : Int) :
    Calls Tryd.prog 52 #[.pointer tp, .int .i64 tx, o.v, .int .i64 m] w fun e w' => e = .returned (hvV w) ∧ HvAt w w' tp tx o m := by
  have hmf : ∀ (fn : Fn) (first cap : Array Value) (w : World), (Instr.makeFunc fn first cap).run Tryd.prog w = .ok (.func fn first cap) w := fun _ _ _ _ => rfl
  have H := HvAt.new w tp tx o m
  obtain ⟨sp, tb, lo, hi, en⟩ := o
  go_enter Tryd.func52, Tryd.ntmps52
  go_wp2_with fail
  refine (those_any _ _ _ _).mono ?_
  rintro e w2 ⟨rfl, hw2⟩
  have H2 : HvAt w w2 tp tx ⟨sp, tb, lo, hi, en⟩ m := by rw [hw2]; exact H
  clear H hw2
  go_wp2_with fail
  go_ret
  exact ⟨by simp, H2⟩
set_option maxHeartbeats 2000000 in
theorem phas_any {w : World} {t : Nat} {most : Int} {ao : Option Addr} {cap : Nat} {L : List Rq} (h : QTab w t most ao cap L) (hL : LibW w) (hl : L.length ≤ 100000) (tx : Int) (o : Ob) (m : Int) :
    Calls Tryd.prog 25 #[.pointer (some ⟨t, 0, none⟩), .int .i64 tx, o.v, .int .i64 m] w fun e w' => e = .returned (.bool (hasB L tx o m)) ∧ Below w.heap.size w w' := by
  have hhv := fun w => having_any w (some ⟨t, 0, none⟩) tx o m
  have hHV : hasB L tx o m = L.any (hvP tx o m) := by unfold hasB; congr 1; funext r; exact (hvP_held tx o m r).symm
  rw [hHV]
  have hbx : Below w.heap.size w (w.alloc o.box) := (Below.refl _ _).alloc (Nat.le_refl _) _
  have HQ := h.keep hbx
  have HL := hL.keep hbx
  have HO : Hid (BoxO (w.alloc o.box) w.heap.size o) := BoxO.new w o
  have H1 : Hid (Below w.heap.size w (w.alloc o.box) ∧ QTab (w.alloc o.box) t most ao cap L ∧ LibW (w.alloc o.box)) := ⟨hbx, HQ, HL⟩
  clear h hL hbx HQ HL
  generalize hpp : hvP tx o m = pp at *
  obtain ⟨sp, tb, lo, hi, en⟩ := o
  go_enter Tryd.func25, Tryd.ntmps25
  go_wp2_with fail
  refine (hhv _).mono ?_
  rintro e w2 ⟨rfl, H2⟩
  obtain ⟨hbx, HQ, HL⟩ := H1.out
  have hs := some_fil (p := pp) (HQ.keep H2.b) hl H2.c3 H2.c4 enters_h1 (fun W hb r => hpp ▸ having1_fn r (cell_keep hb H2.c0) (cell_keep hb H2.c2) (H2.c1.keep hb) (((HL.keep H2.b)).keep hb))
  have hb2 := keepA hbx H2.b
  clear HQ HL hbx H2 H1 HO hpp
  go_wp2_with fail
  refine hs.mono ?_
  rintro e w3 ⟨rfl, hb3⟩
  have hb := keepA hb2 hb3
  clear hs
  go_wp2_with fail
  go_ret
  exact ⟨rfl, hb⟩
set_option maxHeartbeats 2000000 in
theorem phas_nil (w : World) (tx : Int) (o : Ob) (m : Int) :
    Calls Tryd.prog 25 #[.pointer none, .int .i64 tx, o.v, .int .i64 m] w fun e w' => e = .returned (.bool false) ∧ Below w.heap.size w w' := by
  have hhv := fun w => having_any w none tx o m
  have hbx : Below w.heap.size w (w.alloc o.box) := (Below.refl _ _).alloc (Nat.le_refl _) _
  obtain ⟨sp, tb, lo, hi, en⟩ := o
  go_enter Tryd.func25, Tryd.ntmps25
  go_wp2_with fail
  refine (hhv _).mono ?_
  rintro e w2 ⟨rfl, H2⟩
  have hs := some_nil (Bw := (w.alloc (Ob.box ⟨sp, tb, lo, hi, en⟩)).heap.size + 4) H2.c3
  have hb2 := keepA hbx H2.b
  clear hbx H2
  go_wp2_with fail
  refine hs.mono ?_
  rintro e w3 ⟨rfl, hb3⟩
  have hb := keepA hb2 hb3
  clear hs
  go_wp2_with fail
  go_ret
  exact ⟨rfl, hb⟩
set_option maxHeartbeats 4000000 in
theorem pconv_any {w : World} {t : Nat} {most : Int} {ao : Option Addr} {cap : Nat} {L : List Rq} (h : QTab w t most ao cap L) (hl : L.length ≤ 100000) {i : Nat} (hi : i < L.length) :
    Calls Tryd.prog 64 #[.pointer (some ⟨t, 0, none⟩), .int .i64 i] w fun e w' => e = .returned (.bool (cvP L (atR L i))) ∧ Below w.heap.size w w' := by
  have hmf : ∀ (fn : Fn) (first cap : Array Value) (w : World), (Instr.makeFunc fn first cap).run Tryd.prog w = .ok (.func fn first cap) w := fun _ _ _ _ => rfl
  have c1 := h.l
  have hle := h.le
  obtain ⟨g, rfl, hq⟩ := h.at_ hi
  rw [← atR_lt hi] at hq
  have hi2 : (i : Int) < (L.length : Int) := by omega
  have hbx := boxq_b w (atR L i)
  have HX : Hid (BoxQ (w.alloc (atR L i).box) w.heap.size (atR L i)) := BoxQ.new w (atR L i)
  have HQ : Hid (QTab (w.alloc (atR L i).box) t most (some ⟨g, 0, none⟩) cap L) := h.keep hbx
  have HP : Hid (cvP L (atR L i) = L.any (cnP (atR L i))) := (rfl : cvP L (atR L i) = L.any (cnP (atR L i)))
  generalize atR L i = x at *
  generalize cvP L x = res at *
  have hb0 : Below w.heap.size w (w.alloc x.box) := hbx
  clear h hbx
  obtain ⟨q0, q1, q2, q3, q4, q5, q6, q7, q8⟩ := hq
  have hcn := fun r {W : World} {B : Nat} (h : BoxQ W B x) => conv1_fn r x h
  generalize hpp : cnP x = pp at *
  obtain ⟨xt, ⟨sa, ta, la, ua, na⟩, xm, xg, xs⟩ := x
  simp only at q0 q1 q2 q3 q4 q5 q6 q7 q8
  go_enter Tryd.func64, Tryd.ntmps64
  go_wp2_with fail
  refine (those_any _ _ _ _).mono ?_
  rintro e w2 ⟨rfl, hw2⟩
  obtain ⟨d1, d2, hb1⟩ := box_two (w.alloc (Rq.box ⟨xt, ⟨sa, ta, la, ua, na⟩, xm, xg, xs⟩)) (.pointer (some ⟨t, 0, none⟩)) (.func (.func 78) #[] #[.pointer (some ⟨w.heap.size, 0, none⟩)]) 23 69
  rw [← hw2] at d1 d2 hb1
  have hb2 := keepA hb0 hb1
  have hs := some_fil (p := pp) (HQ.out.keep hb1) hl d1 d2 enters_c1 (fun W hb r => hcn r ((HX.out.keep hb1).keep hb))
  rw [← HP.out] at hs
  simp only [World.size_alloc] at hs
  clear d1 d2 HQ HX hw2 HP q0 q1 q2 q3 q4 q5 q6 q7 q8 c1 hcn hpp
  go_wp2_with fail
  refine hs.mono ?_
  rintro e w3 ⟨rfl, hb3⟩
  have hb := keepA hb2 hb3
  clear hs
  go_wp2_with fail
  go_ret
  exact ⟨rfl, hb⟩
end Go.Proofs.YtmldpbgdjlblmaaDoor

/- One step of the law HeapPlays. -/
import Derived.Test.YtkmgahembhgloaaH8ZI
import Derived.Deep.CutBlock
import Derived.Deep.DeepCutAuto
import Derived.Deep.RegionHeld3
import Derived.Deep.RegionHeldLaw
namespace Go.Proofs.Ytkmgahembhgloaa
open Go.RowKit Go.Maps
set_option linter.unusedVariables false
set_option linter.unusedSimpArgs false

theorem Box8.range8 {w : World} {B : Nat} {x : Op8} (h : Box8 w B x) : w.rangeAt B 0 (cells8 x) := fun j u hu => by
  rw [Nat.zero_add, cell_of_row w _ _ _ _ _ h.hb]
  simpa [cells8] using hu
/-- A byte of bytes of one's own is written. -/
theorem ownB_set {base : Nat} {w : World} {g m c : Nat} {xs : List UInt8} (h : OwnB base w (.slice (some ⟨g, 0, none⟩) m c) xs) (j : Nat) (u : UInt8) : OwnB base (w.setCell ⟨g, j, none⟩ (bv u)) (.slice (some ⟨g, 0, none⟩) m c) (xs.set j u) := by
  have hm : m = xs.length := by
    rcases h.2 with ⟨e, hn⟩ | ⟨g', c', cur, e, _⟩
    · cases e
    · cases e; rfl
  subst hm
  have := (World.ownsRow.stored h j (bv u)).1
  rw [← List.map_set] at this
  show World.ownsRow _ _ _ _ _ _ _
  rw [List.length_set]
  exact this
theorem ownB_cell {base : Nat} {w : World} {ao : Option Addr} {m c : Nat} {xs : List UInt8} (h : OwnB base w (.slice ao m c) xs) {j : Nat} (hj : j < m) : m = xs.length ∧ ∃ g v, ao = some ⟨g, 0, none⟩ ∧ w.cell? ⟨g, j, none⟩ = some v ∧ w.frozen? ⟨g, j, none⟩ = false ∧ m ≤ c ∧ m ≤ 9223372036854775807 := by
  rcases id h.2 with ⟨e, hn⟩ | ⟨g, c', cur, e, _, _, hc, hmx, _⟩
  · cases e; omega
  · have e0 := e
    simp only [Value.slice.injEq] at e
    obtain ⟨e1, e2, e3⟩ := e
    subst e1 e2 e3
    have hj' : j < xs.length := hj
    have c1 := World.ownsRow.cells h (g := g) rfl j (bv xs[j]) (by simp [hj'])
    rw [Addr.add_mid, Nat.zero_add] at c1
    exact ⟨rfl, g, _, rfl, c1, World.ownsRow.frozenAt h j, hc, by unfold maxLen at hmx; omega⟩
/-- While the law writes over its own bytes. -/
structure LS8 (w0 : World) (X : Nat → Prop) (B : Nat) (x : Op8) (v hv rv : Value) (n : Nat) (Ra Rb : Nat → List (List UInt8)) (t : Nat) (w : World) : Prop where
  pr : Pr8 w0.heap.size X w hv rv n Ra Rb t
  box : Box8 w B x
  own : ∃ b0 xs, OwnB b0 w v xs
  ne : ∀ c, v.ownBlock = some c → X c ∧ c ≠ B ∧ w0.heap.size ≤ c
  below : Below w0.heap.size w0 w
theorem LS8.cell {w0 : World} {X : Nat → Prop} {B : Nat} {x : Op8} {hv rv : Value} {n : Nat} {Ra Rb : Nat → List (List UInt8)} {t : Nat} {w : World} {ao : Option Addr} {m c : Nat} (h : LS8 w0 X B x (.slice ao m c) hv rv n Ra Rb t w) {j : Nat} (hj : j < m) : ∃ g v, ao = some ⟨g, 0, none⟩ ∧ w.cell? ⟨g, j, none⟩ = some v ∧ w.frozen? ⟨g, j, none⟩ = false ∧ m ≤ c ∧ m ≤ 9223372036854775807 := by
  obtain ⟨b0, xs, ho⟩ := h.own
  exact (ownB_cell ho hj).2
theorem LS8.store {w0 : World} {X : Nat → Prop} {B : Nat} {x : Op8} {hv rv : Value} {n : Nat} {Ra Rb : Nat → List (List UInt8)} {t : Nat} {w : World} {g m c : Nat} (h : LS8 w0 X B x (.slice (some ⟨g, 0, none⟩) m c) hv rv n Ra Rb t w) (j : Nat) (u : UInt8) : LS8 w0 X B x (.slice (some ⟨g, 0, none⟩) m c) hv rv n Ra Rb t (w.setCell ⟨g, j, none⟩ (bv u)) := by
  obtain ⟨b0, xs, ho⟩ := h.own
  have hn := h.ne g rfl
  have hf : Fr w (w.setCell ⟨g, j, none⟩ (bv u)) (fun i => i = g) := fr_set w g j _
  exact ⟨h.pr.write hf (fun i hi => hi ▸ hn.1), h.box.fr hf (fun e => hn.2.1 e.symm), ⟨b0, _, ownB_set ho j u⟩, h.ne, h.below.trans (hf.below h.below.size (fun i hi => hi ▸ hn.2.2))⟩
/-- Both heaps, the step's box, and bytes of the law's own, from call to call. -/
structure S3 (w0 : World) (B : Nat) (x : Op8) (hv rv : Value) (n : Nat) (Ra Rb : Nat → List (List UInt8)) (t : Nat) (v : Value) (xs : List UInt8) (w : World) : Prop where
  ex : ∃ X : Nat → Prop, X B ∧ (∀ a n c, v = .slice (some a) n c → X a.block) ∧ Pr8 w0.heap.size X w hv rv n Ra Rb t
  bytes : Bytes w v xs
  box : Box8 w B x
  below : Below w0.heap.size w0 w
theorem S3.keepB {w0 : World} {B : Nat} {x : Op8} {hv rv : Value} {n : Nat} {Ra Rb : Nat → List (List UInt8)} {t : Nat} {v : Value} {xs : List UInt8} {w w' : World} (h : S3 w0 B x hv rv n Ra Rb t v xs w) (hb : Below w.heap.size w w') : S3 w0 B x hv rv n Ra Rb t v xs w' := by
  obtain ⟨⟨X, h1, h2, h3⟩, h4, h5, h6⟩ := h
  exact ⟨⟨X, h1, h2, h3.keepB hb⟩, h4.keep hb, h5.keep hb, h6.trans (hb.mono h6.size)⟩
theorem S3.byt {w0 : World} {B : Nat} {x : Op8} {hv rv : Value} {n : Nat} {Ra Rb : Nat → List (List UInt8)} {t : Nat} {v : Value} {xs : List UInt8} {w : World} (h : S3 w0 B x hv rv n Ra Rb t v xs w) (hO : Op8Ok w0 x) :
    Calls Try.prog 19 #[.agg #[.int .i64 x.kind, .int .i64 x.id, x.vb, .int .i64 x.times, .bool x.near]] w fun e w' => ∃ a m c, e = .returned (.slice a m c) ∧ S3 w0 B x hv rv n Ra Rb t (.slice a m c) (repB x) w' := by
  obtain ⟨⟨X, h1, h2, h3⟩, h4, h5, h6⟩ := h
  refine (bytes8 (hO.keep h6)).mono ?_
  rintro e w' ⟨a, m, c, he, ho, hb⟩
  exact ⟨a, m, c, he, ⟨⟨_, Or.inl h1, fun a' n' c' e' => Or.inr (World.ownsRow.lt ho a'.block (by rw [e']; rfl)), h3.more hb⟩, ho.toBytes, h5.keep hb, h6.trans (hb.mono h6.size)⟩⟩
theorem S3.upd {w0 : World} {B : Nat} {x : Op8} {hv rv : Value} {n : Nat} {Ra Rb : Nat → List (List UInt8)} {t : Nat} {v : Value} {xs : List UInt8} {w : World} (h : S3 w0 B x hv rv n Ra Rb t v xs w) (ht : t < 50000) (id : Int) (hid : -9223372036854775808 ≤ id ∧ id ≤ 9223372036854775807) (hl : xs.length ≤ 140737488355328) :
    Calls Try.prog 20 #[hv, .int .i64 id, v] w fun e w' => e = .returned (.int .i64 (updE n Ra id xs)) ∧ S3 w0 B x hv rv n (updR n Ra id xs) Rb (t + 1) (.slice none 0 0) [] w' := by
  obtain ⟨⟨X, h1, h2, h3⟩, h4, h5, h6⟩ := h
  refine (h3.update ht id hid v xs h4 h2 hl).mono ?_
  rintro e w' ⟨he, hP, hf⟩
  exact ⟨he, ⟨X, h1, (fun a n c e => by cases e), hP⟩, Or.inl ⟨rfl, rfl⟩, h5.fr hf (fun h => h.2 h1), h6.trans (hf.below h6.size (fun i hi => hi.1))⟩
theorem S3.rupd {w0 : World} {B : Nat} {x : Op8} {hv rv : Value} {n : Nat} {Ra Rb : Nat → List (List UInt8)} {t : Nat} {v : Value} {xs : List UInt8} {w : World} (h : S3 w0 B x hv rv n Ra Rb t v xs w) (hB : RBd n Rb) (id : Int) (hid : -9223372036854775808 ≤ id ∧ id ≤ 9223372036854775807) (hl : xs.length ≤ 140737488355328) :
    Calls Try.prog 27 #[rv, .int .i64 id, v] w fun e w' => e = .returned (.int .i64 (updE n Rb id xs)) ∧ S3 w0 B x hv rv n Ra (updR n Rb id xs) t (.slice none 0 0) [] w' := by
  obtain ⟨⟨X, h1, h2, h3⟩, h4, h5, h6⟩ := h
  refine (h3.rupdate h6.size hB id hid v xs h4 hl).mono ?_
  rintro e w' ⟨he, hP, hf⟩
  exact ⟨he, ⟨X, h1, (fun a n c e => by cases e), hP⟩, Or.inl ⟨rfl, rfl⟩, h5.fr hf (fun h => h.2 h1), h6.trans (hf.below h6.size (fun i hi => hi.1))⟩
/-- What a step leaves. -/
def StepTo (base : Nat) (w0 w' : World) (hv rv : Value) (n T : Nat) : Prop := (∃ R', Pr8 base (fun _ => False) w' hv rv n R' R' T) ∧ Below w0.heap.size w0 w'
set_option maxRecDepth 100000 in
set_option maxHeartbeats 20000000 in
theorem step_any {w0 w : World} {hg rg : Nat} {n : Nat} {R : Nat → List (List UInt8)} {t : Nat} (hP : Pr8 w0.heap.size (fun _ => False) w (.pointer (some ⟨hg, 0, none⟩)) (.pointer (some ⟨rg, 0, none⟩)) n R R t) (hbw : Below w0.heap.size w0 w) (hn : n ≤ 4) (ht : t + 10 < 50000) {kd id tm : Int} {ba : Option Addr} {bc : Nat} {nr : Bool} {b : List UInt8} (hO : Op8Ok w0 ⟨kd, id, .slice ba b.length bc, tm, nr, b⟩) :
    Calls Try.prog 11 #[.pointer (some ⟨hg, 0, none⟩), .pointer (some ⟨rg, 0, none⟩), .agg #[.int .i64 kd, .int .i64 id, .slice ba b.length bc, .int .i64 tm, .bool nr]] w fun e w' => e = .returned (.bool true) ∧ StepTo w0.heap.size w0 w' (.pointer (some ⟨hg, 0, none⟩)) (.pointer (some ⟨rg, 0, none⟩)) n (t + 5) := by
  have hBd := hP.few (by omega)
  have hB0 : Below w.heap.size w (w.alloc (.cells #[.int .i64 kd, .int .i64 id, .slice ba b.length bc, .int .i64 tm, .bool nr] 32)) := (Below.refl _ _).alloc (Nat.le_refl _) _
  have hx0 : Box8 (w.alloc (.cells #[.int .i64 kd, .int .i64 id, .slice ba b.length bc, .int .i64 tm, .bool nr] 32)) w.heap.size ⟨kd, id, .slice ba b.length bc, tm, nr, b⟩ := ⟨heap_alloc_new w _⟩
  have hP1 : Pr8 w0.heap.size (fun i => i = w.heap.size) (w.alloc (.cells #[.int .i64 kd, .int .i64 id, .slice ba b.length bc, .int .i64 tm, .bool nr] 32)) (.pointer (some ⟨hg, 0, none⟩)) (.pointer (some ⟨rg, 0, none⟩)) n R R t := (hP.more hB0).less (fun i hi => Or.inr ⟨by omega, by subst hi; simp⟩)
  have hb1 := hbw.trans (hB0.mono hbw.size)
  have c1 := hx0.cells.2.1
  have hsc := hP1.rscan hBd
  have hid := hO.id
  simp only at hid
  have HO : Hid (Op8Ok w0 ⟨kd, id, .slice ba b.length bc, tm, nr, b⟩) := hO
  have HP1 : Hid (Pr8 w0.heap.size (fun i => i = w.heap.size) (w.alloc (.cells #[.int .i64 kd, .int .i64 id, .slice ba b.length bc, .int .i64 tm, .bool nr] 32)) (.pointer (some ⟨hg, 0, none⟩)) (.pointer (some ⟨rg, 0, none⟩)) n R R t) := hP1
  have HX0 : Hid (Box8 (w.alloc (.cells #[.int .i64 kd, .int .i64 id, .slice ba b.length bc, .int .i64 tm, .bool nr] 32)) w.heap.size ⟨kd, id, .slice ba b.length bc, tm, nr, b⟩) := hx0
  have HBD : Hid (RBd n R) := hBd
  have HB1 : Hid (Below w0.heap.size w0 (w.alloc (.cells #[.int .i64 kd, .int .i64 id, .slice ba b.length bc, .int .i64 tm, .bool nr] 32))) := hb1
  have HSZ : Hid (w0.heap.size ≤ w.heap.size) := hbw.size
  clear hP1 hx0 hBd hb1 hP hB0 hO hbw
  go_enter Try.func11, Try.ntmps11
  go_wp2_with fail
  refine hsc.mono ?_
  clear hsc
  rintro e w2 ⟨ao, m, cp, rfl, hI, hown, hb2⟩
  have HP2 : Hid (Pr8 w0.heap.size (fun i => i = w.heap.size) w2 (.pointer (some ⟨hg, 0, none⟩)) (.pointer (some ⟨rg, 0, none⟩)) n R R t) := HP1.out.keepB hb2
  have HX2 : Hid (Box8 w2 w.heap.size ⟨kd, id, .slice ba b.length bc, tm, nr, b⟩) := HX0.out.keep hb2
  have HB2 : Hid (Below w0.heap.size w0 w2) := HB1.out.trans (hb2.mono HB1.out.size)
  have hlen := scanR_le256 (n := n) (R := R) HBD.out.few
  have HRG : Hid (∀ y ∈ scanR n R, 0 ≤ y ∧ y ≤ 100000) := fun y hy => scanR_range (by omega) HBD.out.few hy
  obtain ⟨ao', cp', hav, hcp, hcl⟩ := hI
  simp only [Value.slice.injEq] at hav
  obtain ⟨rfl, rfl, rfl⟩ := hav
  have HCL : Hid (scanR n R = [] ∨ ∃ g, ao = some ⟨g, 0, none⟩ ∧ ∀ j (hj : j < (scanR n R).length), w2.cell? ⟨g, j, none⟩ = some (.int .i64 (scanR n R)[j])) := hcl
  clear HP1 HX0 HB1 c1 hown hb2 hcl
  generalize scanR n R = ids at *
  obtain ⟨C, hC⟩ : ∃ C, (nr && decide (0 < ids.length)) = C := ⟨_, rfl⟩
  go_upto_region 3 with fail
  go_cut [31] (fun v wx => v = .bool C ∧ wx = w2)
  case first =>
    as_aux_lemma =>
      have c4 := HX2.out.cells.2.2.2.2
      simp only at c4
      cases nr with
      | false =>
        have e : C = false := by rw [← hC]; rfl
        subst e
        clear hC
        go_wp2_with fail
        go_meet
        case rel => exact ⟨rfl, rfl⟩
      | true =>
        have e : C = decide ((ids.length : Int) > 0) := by rw [← hC, Bool.true_and]; congr 1; apply propext; omega
        subst e
        clear hC
        go_wp2_with fail
        go_meet
        case rel => exact ⟨by first | rfl | simp, rfl⟩
  case rest =>
  obtain ⟨hc31, rfl⟩ := hcut
  subst hc31
  go_upto_if 31 with fail
  go_cut [7] (fun v wx => ∃ id' : Int, v = .int .i64 id' ∧ (-9223372036854775808 ≤ id' ∧ id' ≤ 9223372036854775807) ∧ wx = wc)
  case first =>
    as_aux_lemma =>
      cases C with
      | false =>
        clear hC
        go_wp2_with fail
        go_meet
        case rel => exact ⟨id, rfl, hid, rfl⟩
      | true =>
        have hL : 0 < ids.length := by simp at hC; exact hC.2
        clear hC
        rcases HCL.out with h0 | ⟨g, rfl, hX⟩
        · rw [h0] at hL; simp at hL
        have c1 := HX2.out.cells.2.1
        simp only at c1
        have hpk := fun wx => pick8 id ids.length wx hid hL (by omega)
        have hpl := pickN_lt id ids.length hL
        have hr := HRG.out _ (List.getElem_mem hpl)
        have q0 := hX _ hpl
        clear hX HCL HRG
        generalize ids[pickN id ids.length] = y at *
        generalize pickN id ids.length = p at *
        generalize ids.length = L at *
        have hp2 : (p : Int) < (L : Int) := by omega
        go_wp2_with (go_at_call 7; refine (hpk _).mono ?_; rintro e wx ⟨rfl, hwx⟩; rw [hwx]; clear hwx wx)
        go_meet
        case rel => exact ⟨y, rfl, by omega, rfl⟩
  case rest =>
  obtain ⟨id', rfl, hid', rfl⟩ := hcut
  clear hC HCL HRG hlen hcp
  have c0 := HX2.out.cells.1
  simp only at c0
  rcases (show kd = 1 ∨ kd = 2 ∨ kd = 3 ∨ kd = 4 ∨ (kd ≠ 1 ∧ kd ≠ 2 ∧ kd ≠ 3 ∧ kd ≠ 4) by omega) with rfl | rfl | rfl | rfl | ⟨m1, m2, m3, m4⟩
  · skip
    as_aux_lemma =>
      have hr0 := HX2.out.range8
      simp only [cells8] at hr0
      have hlb := repB_len ⟨1, id, .slice ba b.length bc, tm, nr, b⟩ HO.out.len
      have HBYS : Hid (∀ wx, Below w0.heap.size w0 wx → Calls Try.prog 19 #[.agg #[.int .i64 1, .int .i64 id, .slice ba b.length bc, .int .i64 tm, .bool nr]] wx fun e w' => ∃ ao m cp, e = .returned (.slice ao m cp) ∧ OwnB wx.heap.size w' (.slice ao m cp) (repB ⟨1, id, .slice ba b.length bc, tm, nr, b⟩) ∧ Below wx.heap.size wx w') := fun wx h => bytes8 (HO.out.keep h)
      generalize repB ⟨1, id, .slice ba b.length bc, tm, nr, b⟩ = rb at *
      have hby := HBYS.out _ HB2.out
      clear HO
      go_wp2_with (guard_target = wpList _ _ _ (Oper.mk _ (Op.load 32 _) _ _ _ _ :: _) _ _; refine wpList_load_mid rfl 32 _ rfl w.heap.size 0 (by rfl) [.int .i64 1, .int .i64 id, .slice ba b.length bc, .int .i64 tm, .bool nr] _ hr0 Try.underlying32 rfl infoOp8 ?_)
      refine hby.mono ?_
      clear hby hr0 c0
      rintro e w3 ⟨a3, m3, c3, rfl, ho3, hb3⟩
      obtain ⟨X, hXd, hP3⟩ : ∃ X : Nat → Prop, (X w.heap.size ∧ ∀ c, (Value.slice a3 m3 c3).ownBlock = some c → X c) ∧ Pr8 w0.heap.size X w3 (.pointer (some ⟨hg, 0, none⟩)) (.pointer (some ⟨rg, 0, none⟩)) n R R t := ⟨_, ⟨Or.inl rfl, fun c hc => Or.inr (World.ownsRow.lt ho3 c hc)⟩, HP2.out.more hb3⟩
      have hI := hP3.insert (by omega) _ rb ho3.toBytes (fun a n c e => hXd.2 _ (by rw [e]; rfl)) (by omega)
      have HB3 : Hid (Below w0.heap.size w0 w3) := HB2.out.trans (hb3.mono HB2.out.size)
      have HX3 : Hid (Box8 w3 w.heap.size ⟨1, id, .slice ba b.length bc, tm, nr, b⟩) := HX2.out.keep hb3
      have hwlt : w.heap.size < w3.heap.size := (Array.getElem?_eq_some_iff.1 HX3.out.hb).1
      have hwlt2 := (Array.getElem?_eq_some_iff.1 HX2.out.hb).1
      have HOW : Hid (∀ w4, Fr w3 w4 (fun i => w0.heap.size ≤ i ∧ ¬ X i) → Pr8 w0.heap.size X w4 (.pointer (some ⟨hg, 0, none⟩)) (.pointer (some ⟨rg, 0, none⟩)) n (insR n R rb) R (t + n) → LS8 w0 X w.heap.size ⟨1, id, .slice ba b.length bc, tm, nr, b⟩ (.slice a3 m3 c3) (.pointer (some ⟨hg, 0, none⟩)) (.pointer (some ⟨rg, 0, none⟩)) n (insR n R rb) R (t + n) w4) := fun w4 hf4 hP4 => by
        have hsz2 := HB2.out.size
        exact ⟨hP4, HX3.out.fr hf4 (fun h => h.2 hXd.1), ⟨_, rb, own_of_block ho3 (fun c hc => hf4.block c (World.ownsRow.lt ho3 c hc).2 (fun h => h.2 (hXd.2 c hc)))⟩, fun c hc => ⟨hXd.2 c hc, by have := (World.ownsRow.lt ho3 c hc).1; omega, by have := (World.ownsRow.lt ho3 c hc).1; omega⟩, HB3.out.trans (hf4.below HB3.out.size (fun i hi => hi.1))⟩
      clear hP3 hb3 HP2 HX2 HB2 hwlt hwlt2 ho3
      go_wp2_with fail
      refine hI.mono ?_
      clear hI
      rintro e w4 ⟨rfl, hP4, hf4⟩
      have HL4 : Hid (LS8 w0 X w.heap.size ⟨1, id, .slice ba b.length bc, tm, nr, b⟩ (.slice a3 m3 c3) (.pointer (some ⟨hg, 0, none⟩)) (.pointer (some ⟨rg, 0, none⟩)) n (insR n R rb) R (t + n) w4) := HOW.out w4 hf4 hP4
      clear hP4 hf4 HOW HX3 HB3 hXd
      generalize hE1 : (insE n R rb).1 = E1 at *
      generalize hE2 : (insE n R rb).2 = E2 at *
      have HEE : Hid ((insE n R rb).1 = E1 ∧ (insE n R rb).2 = E2) := ⟨hE1, hE2⟩
      clear hE1 hE2
      go_wp2_with fail
      go_loopw [12] (fun i wq => ∃ j : Nat, j ≤ m3 ∧ i = .int .i64 j ∧ Hid (LS8 w0 X w.heap.size ⟨1, id, .slice ba b.length bc, tm, nr, b⟩ (.slice a3 m3 c3) (.pointer (some ⟨hg, 0, none⟩)) (.pointer (some ⟨rg, 0, none⟩)) n (insR n R rb) R (t + n) wq)) (fun i _ => m3 - (intOf i).toNat)
      case atStart => exact ⟨0, Nat.zero_le _, rfl, HL4⟩
      case round =>
        rename World => wq
        obtain ⟨j, hj, rfl, HL⟩ := hrel
        clear HL4
        by_cases hlt : j < m3
        · have tj : decide ((j : Int) < (m3 : Int)) = true := decide_eq_true (by omega)
          obtain ⟨g, u, rfl, q1, q2, q3, q4⟩ := HL.out.cell hlt
          have HS : Hid (LS8 w0 X w.heap.size ⟨1, id, .slice ba b.length bc, tm, nr, b⟩ (.slice (some ⟨g, 0, none⟩) m3 c3) (.pointer (some ⟨hg, 0, none⟩)) (.pointer (some ⟨rg, 0, none⟩)) n (insR n R rb) R (t + n) (wq.setCell ⟨g, j, none⟩ (.int .u8 9))) := HL.out.store j 9
          clear HL
          go_wp2_with fail
          go_roundw
          case rel => exact ⟨j + 1, by omega, by go_num, HS⟩
          case measure => simp [intOf]; omega
        · have tj : decide ((j : Int) < (m3 : Int)) = false := decide_eq_false (by omega)
          have hr0 := HL.out.box.range8
          simp only [cells8] at hr0
          have hby := HBYS.out _ HL.out.below
          go_wp2_with (guard_target = wpList _ _ _ (Oper.mk _ (Op.load 32 _) _ _ _ _ :: _) _ _; refine wpList_load_mid rfl 32 _ rfl w.heap.size 0 (by rfl) [.int .i64 1, .int .i64 id, .slice ba b.length bc, .int .i64 tm, .bool nr] _ hr0 Try.underlying32 rfl infoOp8 ?_)
          refine hby.mono ?_
          clear hby hr0
          rintro e w5 ⟨a5, m5, c5, rfl, ho5, hb5⟩
          have hP5 := HL.out.pr.keepB hb5
          have HB5 : Hid (Below w0.heap.size w0 w5) := HL.out.below.trans (hb5.mono HL.out.below.size)
          have hI := hP5.rinsert HB5.out.size HBD.out _ rb ho5.toBytes (by omega)
          rw [HEE.out.1, HEE.out.2] at hI
          clear HL hP5 ho5 hb5
          go_wp2_with fail
          refine hI.mono ?_
          clear hI
          rintro e w6 ⟨rfl, hP6, hf6⟩
          have HF : Hid (StepTo w0.heap.size w0 w6 (.pointer (some ⟨hg, 0, none⟩)) (.pointer (some ⟨rg, 0, none⟩)) n (t + 5)) := ⟨⟨_, (hP6.le (by omega)).less (fun i hi => hi.elim)⟩, HB5.out.trans (hf6.below HB5.out.size (fun i hi => hi.1))⟩
          clear hP6 hf6 HB5
          go_wp2_with fail
          go_ret
          exact ⟨by first | rfl | simp, HF.out⟩
  · skip
    as_aux_lemma =>
      have hI := HP2.out.get (by omega) id' hid'
      clear HO
      go_wp2_with fail
      refine hI.mono ?_
      clear hI c0
      rintro e w3 ⟨a3, m3, c3, rfl, ho3, hP3, hf3⟩
      have hwlt2 := (Array.getElem?_eq_some_iff.1 HX2.out.hb).1
      have hsz2 := HB2.out.size
      have hL3 : LS8 w0 (fun i => i = w.heap.size ∨ (Value.slice a3 m3 c3).ownBlock = some i) w.heap.size ⟨2, id, .slice ba b.length bc, tm, nr, b⟩ (.slice a3 m3 c3) (.pointer (some ⟨hg, 0, none⟩)) (.pointer (some ⟨rg, 0, none⟩)) n R R (t + 1) w3 := ⟨hP3, HX2.out.fr hf3 (fun h => h.2 rfl), ⟨_, _, ho3⟩, fun c hc => ⟨Or.inr hc, by have := (World.ownsRow.lt ho3 c hc).1; omega, by have := (World.ownsRow.lt ho3 c hc).1; omega⟩, HB2.out.trans (hf3.below hsz2 (fun i hi => hi.1))⟩
      have hG := hP3.rget HBD.out id' hid'
      have HBS : Hid (Bytes w3 (.slice a3 m3 c3) (getB n R id')) := ho3.toBytes
      generalize (fun i => i = w.heap.size ∨ (Value.slice a3 m3 c3).ownBlock = some i) = X at *
      have HL3 : Hid (LS8 w0 X w.heap.size ⟨2, id, .slice ba b.length bc, tm, nr, b⟩ (.slice a3 m3 c3) (.pointer (some ⟨hg, 0, none⟩)) (.pointer (some ⟨rg, 0, none⟩)) n R R (t + 1) w3) := hL3
      clear ho3 hP3 hf3 hL3 hwlt2 hsz2 HP2 HX2 HB2
      go_wp2_with fail
      refine hG.mono ?_
      clear hG
      rintro e w4 ⟨a4, m4, c4, rfl, hB4, hb4⟩
      have hsm := same7 _ _ _ _ w4 (HBS.out.keep hb4) hB4
      rw [decide_eq_true rfl] at hsm
      have HL4 : Hid (LS8 w0 X w.heap.size ⟨2, id, .slice ba b.length bc, tm, nr, b⟩ (.slice a3 m3 c3) (.pointer (some ⟨hg, 0, none⟩)) (.pointer (some ⟨rg, 0, none⟩)) n R R (t + 1) w4) := by
        obtain ⟨p1, p2, ⟨b0, xs, p3⟩, p4, p5⟩ := HL3.out
        exact ⟨p1.keepB hb4, p2.keep hb4, ⟨b0, xs, own_of_block p3 (fun c hc => hb4.block c (World.ownsRow.lt p3 c hc).2)⟩, p4, p5.trans (hb4.mono p5.size)⟩
      clear HL3 HBS hB4 hb4
      generalize getE n R id' = E at *
      go_wp2_with (go_at_call 17; refine hsm.mono ?_; clear hsm; rintro e wx ⟨rfl, hwx⟩; rw [hwx]; clear hwx wx)
      go_loopw [20] (fun i wq => ∃ j : Nat, j ≤ m3 ∧ i = .int .i64 j ∧ Hid (LS8 w0 X w.heap.size ⟨2, id, .slice ba b.length bc, tm, nr, b⟩ (.slice a3 m3 c3) (.pointer (some ⟨hg, 0, none⟩)) (.pointer (some ⟨rg, 0, none⟩)) n R R (t + 1) wq)) (fun i _ => m3 - (intOf i).toNat)
      case atStart => exact ⟨0, Nat.zero_le _, rfl, HL4⟩
      case round =>
        rename World => wq
        obtain ⟨j, hj, rfl, HL⟩ := hrel
        clear HL4
        by_cases hlt : j < m3
        · have tj : decide ((j : Int) < (m3 : Int)) = true := decide_eq_true (by omega)
          obtain ⟨g, u, rfl, q1, q2, q3, q4⟩ := HL.out.cell hlt
          have HS : Hid (LS8 w0 X w.heap.size ⟨2, id, .slice ba b.length bc, tm, nr, b⟩ (.slice (some ⟨g, 0, none⟩) m3 c3) (.pointer (some ⟨hg, 0, none⟩)) (.pointer (some ⟨rg, 0, none⟩)) n R R (t + 1) (wq.setCell ⟨g, j, none⟩ (.int .u8 8))) := HL.out.store j 8
          clear HL
          go_wp2_with fail
          go_roundw
          case rel => exact ⟨j + 1, by omega, by go_num, HS⟩
          case measure => simp [intOf]; omega
        · have tj : decide ((j : Int) < (m3 : Int)) = false := decide_eq_false (by omega)
          have HF : Hid (StepTo w0.heap.size w0 wq (.pointer (some ⟨hg, 0, none⟩)) (.pointer (some ⟨rg, 0, none⟩)) n (t + 5)) := ⟨⟨_, (HL.out.pr.le (by omega)).less (fun i hi => hi.elim)⟩, HL.out.below⟩
          clear HL
          go_wp2_with fail
          go_ret
          exact ⟨by first | rfl | simp, HF.out⟩
  · skip
    as_aux_lemma =>
      have hlb := repB_len ⟨3, id, .slice ba b.length bc, tm, nr, b⟩ HO.out.len
      have HQ0 : Hid (S3 w0 w.heap.size ⟨3, id, .slice ba b.length bc, tm, nr, b⟩ (.pointer (some ⟨hg, 0, none⟩)) (.pointer (some ⟨rg, 0, none⟩)) n R R t (.slice none 0 0) [] _) := ⟨⟨fun i => i = w.heap.size, rfl, (fun a n c e => by cases e), HP2.out⟩, Or.inl ⟨rfl, rfl⟩, HX2.out, HB2.out⟩
      have HCE : Hid (∀ (Ra Rb : Nat → List (List UInt8)) (t : Nat) (v : Value) (xs : List UInt8) (w' : World), S3 w0 w.heap.size ⟨3, id, .slice ba b.length bc, tm, nr, b⟩ (.pointer (some ⟨hg, 0, none⟩)) (.pointer (some ⟨rg, 0, none⟩)) n Ra Rb t v xs w' → w'.cell? ⟨w.heap.size, 0, none⟩ = some (.int .i64 3) ∧ w'.cell? ⟨w.heap.size, 1, none⟩ = some (.int .i64 id) ∧ w'.cell? ⟨w.heap.size, 2, none⟩ = some (.slice ba b.length bc) ∧ w'.cell? ⟨w.heap.size, 3, none⟩ = some (.int .i64 tm) ∧ w'.cell? ⟨w.heap.size, 4, none⟩ = some (.bool nr)) := fun Ra Rb t v xs w' h => h.box.cells
      have HBY : Hid (∀ (Ra Rb : Nat → List (List UInt8)) (t : Nat) (v : Value) (xs : List UInt8) (w' : World), S3 w0 w.heap.size ⟨3, id, .slice ba b.length bc, tm, nr, b⟩ (.pointer (some ⟨hg, 0, none⟩)) (.pointer (some ⟨rg, 0, none⟩)) n Ra Rb t v xs w' → Calls Try.prog 19 #[.agg #[.int .i64 3, .int .i64 id, .slice ba b.length bc, .int .i64 tm, .bool nr]] w' fun e w'' => ∃ a m c, e = .returned (.slice a m c) ∧ S3 w0 w.heap.size ⟨3, id, .slice ba b.length bc, tm, nr, b⟩ (.pointer (some ⟨hg, 0, none⟩)) (.pointer (some ⟨rg, 0, none⟩)) n Ra Rb t (.slice a m c) (repB ⟨3, id, .slice ba b.length bc, tm, nr, b⟩) w'') := fun Ra Rb t v xs w' h => h.byt HO.out
      have S0 := HCE.out _ _ _ _ _ _ HQ0.out
      generalize repB ⟨3, id, .slice ba b.length bc, tm, nr, b⟩ = rb at *
      clear HO HP2 HX2 HB2
      go_wp2_with fail
      go_region_held_law (fun w' => w'.cell? ⟨w.heap.size, 0, none⟩ = some (.int .i64 3) ∧ w'.cell? ⟨w.heap.size, 1, none⟩ = some (.int .i64 id) ∧ w'.cell? ⟨w.heap.size, 2, none⟩ = some (.slice ba b.length bc) ∧ w'.cell? ⟨w.heap.size, 3, none⟩ = some (.int .i64 tm) ∧ w'.cell? ⟨w.heap.size, 4, none⟩ = some (.bool nr)) (first | exact S0 | exact S1 | exact S2 | exact S3_ | exact S4)
        (first
          | (go_at_call 19; refine (HBY.out _ _ _ _ _ _ (S3.keepB HQ0.out (by first | exact Below.refl _ _ | exact (Below.refl _ _).drew | exact ((Below.refl _ _).drew).drew | exact (((Below.refl _ _).drew).drew).drew))).mono ?_; rintro e w3 ⟨a3, m3, c3, rfl, hb⟩; have S1 := HCE.out _ _ _ _ _ _ hb; have HQ1 : Hid (S3 w0 w.heap.size ⟨3, id, .slice ba b.length bc, tm, nr, b⟩ (.pointer (some ⟨hg, 0, none⟩)) (.pointer (some ⟨rg, 0, none⟩)) n R R t (.slice a3 m3 c3) rb w3) := hb; clear hb HQ0)
          | (go_at_call 20; refine (S3.upd (S3.keepB HQ1.out (by first | exact Below.refl _ _ | exact (Below.refl _ _).drew | exact ((Below.refl _ _).drew).drew | exact (((Below.refl _ _).drew).drew).drew)) (by omega) id' hid' (by omega)).mono ?_; rintro e w4 ⟨rfl, hb⟩; have S2 := HCE.out _ _ _ _ _ _ hb; have HQ2 : Hid (S3 w0 w.heap.size ⟨3, id, .slice ba b.length bc, tm, nr, b⟩ (.pointer (some ⟨hg, 0, none⟩)) (.pointer (some ⟨rg, 0, none⟩)) n (updR n R id' rb) R (t + 1) (.slice none 0 0) [] w4) := hb; clear hb HQ1)
          | (go_at_call 19; refine (HBY.out _ _ _ _ _ _ (S3.keepB HQ2.out (by first | exact Below.refl _ _ | exact (Below.refl _ _).drew | exact ((Below.refl _ _).drew).drew | exact (((Below.refl _ _).drew).drew).drew))).mono ?_; rintro e w5 ⟨a5, m5, c5, rfl, hb⟩; have S3_ := HCE.out _ _ _ _ _ _ hb; have HQ3 : Hid (S3 w0 w.heap.size ⟨3, id, .slice ba b.length bc, tm, nr, b⟩ (.pointer (some ⟨hg, 0, none⟩)) (.pointer (some ⟨rg, 0, none⟩)) n (updR n R id' rb) R (t + 1) (.slice a5 m5 c5) rb w5) := hb; clear hb HQ2)
          | (go_at_call 27; refine (S3.rupd (S3.keepB HQ3.out (by first | exact Below.refl _ _ | exact (Below.refl _ _).drew | exact ((Below.refl _ _).drew).drew | exact (((Below.refl _ _).drew).drew).drew)) HBD.out id' hid' (by omega)).mono ?_; rintro e w6 ⟨rfl, hb⟩; have S4 := HCE.out _ _ _ _ _ _ hb; have HQ4 : Hid (S3 w0 w.heap.size ⟨3, id, .slice ba b.length bc, tm, nr, b⟩ (.pointer (some ⟨hg, 0, none⟩)) (.pointer (some ⟨rg, 0, none⟩)) n (updR n R id' rb) (updR n R id' rb) (t + 1) (.slice none 0 0) [] w6) := hb; clear hb HQ3))
      all_goals (
        have HF : Hid (StepTo w0.heap.size w0 w6 (.pointer (some ⟨hg, 0, none⟩)) (.pointer (some ⟨rg, 0, none⟩)) n (t + 5)) := by
          obtain ⟨⟨X, q1, q2, q3⟩, _, _, q4⟩ := HQ4.out
          exact ⟨⟨_, (q3.le (by omega)).less (fun i hi => hi.elim)⟩, q4⟩
        clear HQ4 HBY HCE
        go_wp2_with fail
        go_ret
        exact ⟨by first | rfl | simp, HF.out⟩)
  · skip
    as_aux_lemma =>
      have hI := HP2.out.delete (by omega) id' hid'
      clear HO HX2
      go_wp2_with fail
      refine hI.mono ?_
      clear hI c0
      rintro e w3 ⟨rfl, hP3, hf3⟩
      have HB3 : Hid (Below w0.heap.size w0 w3) := HB2.out.trans (hf3.below HB2.out.size (fun i hi => hi.1))
      have hD := hP3.rdelete HBD.out id' hid'
      clear hP3 hf3 HB2 HP2
      generalize delE n R id' = E at *
      go_wp2_with fail
      refine hD.mono ?_
      clear hD
      rintro e w4 ⟨rfl, hP4, hf4⟩
      have HF : Hid (StepTo w0.heap.size w0 w4 (.pointer (some ⟨hg, 0, none⟩)) (.pointer (some ⟨rg, 0, none⟩)) n (t + 5)) := ⟨⟨_, (hP4.le (by omega)).less (fun i hi => hi.elim)⟩, HB3.out.trans (hf4.below HB3.out.size (fun i hi => hi.1))⟩
      clear hP4 hf4 HB3
      go_wp2_with fail
      go_ret
      exact ⟨by first | rfl | simp, HF.out⟩
  · skip
    as_aux_lemma =>
      have HF : Hid (StepTo w0.heap.size w0 _ (.pointer (some ⟨hg, 0, none⟩)) (.pointer (some ⟨rg, 0, none⟩)) n (t + 5)) := ⟨⟨_, (HP2.out.le (by omega)).less (fun i hi => hi.elim)⟩, HB2.out⟩
      clear HP2 HB2 HX2 HO
      go_wp2_with fail
      go_ret
      exact ⟨rfl, HF.out⟩
end Go.Proofs.Ytkmgahembhgloaa

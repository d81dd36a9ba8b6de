/- A heap as it lies; a page is handed to a function while it is pinned. -/
import Derived.Test.YtkmgahembhgloaaH8G
import Derived.Test.YtkmgahembhgloaaH8B
import Derived.Shelf.Abstract
namespace Go.Proofs.Ytkmgahembhgloaa
open Go.RowKit Go.Maps
set_option linter.unusedVariables false
set_option linter.unusedSimpArgs false

set_option maxHeartbeats 400000 in
theorem unpin_d {base : Nat} {w : World} {F : Nat → Prop} {g b : Nat} {dp : Value} {blk : Int → Nat} {cv : Int → Value} {P : PS} (h : PoolIn base w F g dp b blk cv P) (hok : POk P) {k : Int} (hi : -9223372036854775808 ≤ k ∧ k ≤ 9223372036854775807) (hk : k ∈ P.keys) (hp0 : (P.fr k).pins ≠ 0) (u : FrameMode) :
    CallsD Try.prog 55 #[.pointer (some ⟨g, 0, none⟩), .int .i64 k] u w fun e u' w' => u' = u ∧ e = .returned (.int .i64 0) ∧ PoolIn base w' F g dp b blk cv (P.touch k { P.fr k with pins := (P.fr k).pins - 1 }) ∧ Fr w w' F := by
  have hp := pinned_ok h hi hk hp0
  have c1 := (h.cellsF hk).c1
  have fz := (h.cellsF hk).f
  have hfk := (hok.fr k hk).pins
  have hu := hok.uses
  have HP : Hid (PoolIn base w F g dp b blk cv P) := h
  have hBF := h.ff k hk
  clear h hok
  generalize hX : (P.fr k).pins = X at *
  go_enter_d Try.func55, Try.ntmps55
  go_wp2_with (first
    | (go_at_call 69; refine hp.mono ?_; rintro e wx ⟨rfl, hwx⟩; rw [hwx]; clear hwx wx)
    | (go_at_call 67; refine (use_any (HP.out.storeF hk 1 (.int .i64 (X - 1)) { P.fr k with pins := X - 1 } rfl rfl) hu hk).mono ?_; rintro e w1 ⟨rfl, hP1, hf1⟩))
  go_ret
  refine ⟨rfl, ?_, ((fr_set _ _ _ _).mono (fun i hi => hi ▸ hBF)).trans hf1 (fun i hi => Or.inl hi)⟩
  have e : ({ ({ P with fr := updA P.fr k { P.fr k with pins := X - 1 } } : PS) with uses := P.uses + 1, fr := updA (updA P.fr k { P.fr k with pins := X - 1 }) k { (updA P.fr k { P.fr k with pins := X - 1 }) k with used := P.uses + 1 } } : PS) = P.touch k { P.fr k with pins := X - 1 } := by
    rw [updA_twice, updA_same]; rfl
  rw [← e]
  exact hP1
theorem pd_unpin_d {base : Nat} {w : World} {F G : Nat → Prop} {p dp : Value} {n : Nat} {P : PS} {D : DS} (h : PD base w F G p dp n P D) (hu : P.uses < 1000000) {k : Int} (hi : -9223372036854775808 ≤ k ∧ k ≤ 9223372036854775807) (hk : k ∈ P.keys) (hp0 : (P.fr k).pins ≠ 0) (u : FrameMode) :
    CallsD Try.prog 55 #[p, .int .i64 k] u w fun e u' w' => u' = u ∧ e = .returned (.int .i64 0) ∧ PTo base w F G p dp n (P.touch k { P.fr k with pins := (P.fr k).pins - 1 }) D w' := by
  obtain ⟨g, b, blk, cv, rfl, hP⟩ := h.pool
  refine (unpin_d hP h.ok hi hk hp0 u).mono ?_
  rintro e u' w' ⟨hu', he, hP', hf⟩
  have hfk := h.ok.fr k hk
  exact ⟨hu', he, F, G, ⟨⟨g, b, blk, cv, rfl, hP'⟩, h.disk.keep hf (fun i hg hf => h.dis i hf hg), h.dis, h.ok.touch hk hfk.len (by have := hfk.pins; show 0 ≤ (P.fr k).pins - 1 ∧ (P.fr k).pins - 1 ≤ _; omega) hfk.mark hu, h.fit⟩, hf.mono (fun i hi => Or.inl hi), fun i hi => Or.inl hi, fun i hi => Or.inl hi⟩
/-- A heap's pages, one of them turned. -/
def upR (R : Nat → List (List UInt8)) (k : Nat) : Option (List (List UInt8)) → Nat → List (List UInt8)
  | none => R
  | some rs => fun j => if j = k then rs else R j
/-- A heap over its pool and disk, behind t pins. -/
structure HeapIn (base : Nat) (w : World) (F FP FD : Nat → Prop) (hg : Nat) (p dp : Value) (nd : Nat) (P : PS) (D : DS) (n : Nat) (G : Nat → Prop) (R : Nat → List (List UInt8)) (t : Nat) : Prop where
  hh : w.heap[hg]? = some (.cells #[p, .int .i64 n] 65 (0, 0))
  pd : PD base w FP FD p dp nd P D
  hF : ∀ i, F i ↔ (i = hg ∨ FP i ∨ FD i)
  nP : ¬ FP hg
  nD : ¬ FD hg
  lo : base ≤ hg
  pg : 1 ≤ n ∧ (n : Int) ≤ P.pages
  idle : IdleP P
  clean : CleanP P D
  ok : ∀ j, G j → PageOk (cur P D j) (R j)
  uses : P.uses ≤ 3 * t
  ws : nd + D.ws.length ≤ 1000 + 16 * t
theorem HeapIn.bounds {base : Nat} {w : World} {F FP FD : Nat → Prop} {hg : Nat} {p dp : Value} {nd : Nat} {P : PS} {D : DS} {n : Nat} {G : Nat → Prop} {R : Nat → List (List UInt8)} {t : Nat} (h : HeapIn base w F FP FD hg p dp nd P D n G R t) : ∀ i, F i → base ≤ i ∧ i < w.heap.size := by
  intro i hi
  rcases (h.hF i).1 hi with rfl | hi
  · exact ⟨h.lo, (Array.getElem?_eq_some_iff.1 h.hh).1⟩
  · exact h.pd.lo i hi
theorem HeapIn.keep {base : Nat} {w w' : World} {F FP FD S : Nat → Prop} {hg : Nat} {p dp : Value} {nd : Nat} {P : PS} {D : DS} {n : Nat} {G : Nat → Prop} {R : Nat → List (List UInt8)} {t : Nat} (h : HeapIn base w F FP FD hg p dp nd P D n G R t) (hf : Fr w w' S) (hd : ∀ i, F i → ¬ S i) : HeapIn base w' F FP FD hg p dp nd P D n G R t :=
  { h with
    hh := (hf.block hg (Array.getElem?_eq_some_iff.1 h.hh).1 (hd hg ((h.hF hg).2 (Or.inl rfl)))).trans h.hh
    pd := h.pd.keep hf (fun i hi => hd i ((h.hF i).2 (Or.inr (Or.inl hi)))) (fun i hi => hd i ((h.hF i).2 (Or.inr (Or.inr hi)))) }
def HeapAtG (base : Nat) (w : World) (F : Nat → Prop) (hv : Value) (n : Nat) (G : Nat → Prop) (R : Nat → List (List UInt8)) (t : Nat) : Prop :=
  ∃ FP FD hg p dp nd P D, hv = .pointer (some ⟨hg, 0, none⟩) ∧ HeapIn base w F FP FD hg p dp nd P D n G R t
theorem HeapAtG.keep {base : Nat} {w w' : World} {F S : Nat → Prop} {hv : Value} {n : Nat} {G : Nat → Prop} {R : Nat → List (List UInt8)} {t : Nat} (h : HeapAtG base w F hv n G R t) (hf : Fr w w' S) (hd : ∀ i, F i → ¬ S i) : HeapAtG base w' F hv n G R t := by
  obtain ⟨FP, FD, hg, p, dp, nd, P, D, e, h⟩ := h
  exact ⟨FP, FD, hg, p, dp, nd, P, D, e, h.keep hf hd⟩
theorem HeapAtG.keepB {base : Nat} {w w' : World} {F : Nat → Prop} {hv : Value} {n : Nat} {G : Nat → Prop} {R : Nat → List (List UInt8)} {t : Nat} (h : HeapAtG base w F hv n G R t) (hb : Below w.heap.size w w') : HeapAtG base w' F hv n G R t :=
  h.keep (Fr.of_below (F := fun _ => False) hb) (fun _ _ => id)
theorem HeapAtG.lo {base : Nat} {w : World} {F : Nat → Prop} {hv : Value} {n : Nat} {G : Nat → Prop} {R : Nat → List (List UInt8)} {t : Nat} (h : HeapAtG base w F hv n G R t) : ∀ i, F i → base ≤ i ∧ i < w.heap.size := by
  obtain ⟨FP, FD, hg, p, dp, nd, P, D, e, h⟩ := h
  exact h.bounds
theorem HeapAtG.cells {base : Nat} {w : World} {F : Nat → Prop} {hv : Value} {n : Nat} {G : Nat → Prop} {R : Nat → List (List UInt8)} {t : Nat} (h : HeapAtG base w F hv n G R t) : ∃ hg p, hv = .pointer (some ⟨hg, 0, none⟩) ∧ w.cell? ⟨hg, 0, none⟩ = some p ∧ w.cell? ⟨hg, 1, none⟩ = some (.int .i64 n) ∧ F hg ∧ n ≤ 256 ∧ 1 ≤ n := by
  obtain ⟨FP, FD, hg, p, dp, nd, P, D, e, h⟩ := h
  have h1 := h.pg
  have h2 := h.pd.ok.pages
  exact ⟨hg, p, e, by rw [cell_of_row w hg 0 _ _ _ h.hh]; rfl, by rw [cell_of_row w hg 1 _ _ _ h.hh]; rfl, (h.hF hg).2 (Or.inl rfl), by omega, h1.1⟩
/-- What a function comes to that is handed a pinned page. -/
inductive WOut (w1 : World) (blk : Nat) (C : Nat → Prop) (Post : World → Option (List (List UInt8)) → World → Prop) (e : Ending) (w2 : World) : Prop
  | none_ (he : e = .returned (.slice none 0 0)) (hf : Fr w1 w2 (fun i => C i ∨ i = blk)) (hp : Post w1 none w2)
  | some_ (rs : List (List UInt8)) (a : Addr) (cap : Nat) (c : List UInt8) (he : e = .returned (.slice (some a) 2048 cap)) (hb : Bytes w2 (.slice (some a) 2048 cap) c) (hc : PageOk c rs) (hf : Fr w1 w2 (fun i => C i ∨ i = blk)) (hp : Post w1 (some rs) w2)
/-- What onPage comes to. -/
inductive OnPG (base : Nat) (w : World) (F C : Nat → Prop) (hv : Value) (n : Nat) (G : Nat → Prop) (R : Nat → List (List UInt8)) (t k : Nat) (Post : World → Option (List (List UInt8)) → World → Prop) (e : Ending) (w3 : World) : Prop
  | mk (o : Option (List (List UInt8))) (w1 w2 : World) (F1 F' : Nat → Prop) (he : e = .returned (.int .i64 0)) (h1 : Fr w w1 F) (hp : Post w1 o w2) (h2 : Fr w2 w3 F1) (hF1 : ∀ i, F1 i → i < w1.heap.size ∧ (F i ∨ w.heap.size ≤ i)) (hH : HeapAtG base w3 F' hv n (fun j => G j ∨ (o ≠ none ∧ j = k)) (upR R k o) (t + 1)) (hF' : ∀ i, F' i → F i ∨ w.heap.size ≤ i) (hfr : Fr w w3 (fun i => F i ∨ C i)) (hF2 : ∀ i, F' i → i < w1.heap.size ∨ w2.heap.size ≤ i)
theorem nil_neq (w : World) (a : Addr) (n c : Nat) : (binOp .neq 30 (.slice (some a) n c) (.slice none 0 0)).run Try.prog w = .ok (.bool true) w := by
  rw [run_neq_slice_nil_any w 30 5 (some a) n c 0 0 Try.underlying30]; rfl
/-- Where onPage stands ahead of unpinning. -/
structure Door (base : Nat) (w : World) (F FP FD C : Nat → Prop) (hg : Nat) (p dp : Value) (nd : Nat) (P : PS) (D1 : DS) (n : Nat) (G : Nat → Prop) (R : Nat → List (List UInt8)) (t k : Nat) (Post : World → Option (List (List UInt8)) → World → Prop) (o : Option (List (List UInt8))) (w1 w2 w4 : World) (P4 : PS) (FX F4 G4 : Nat → Prop) : Prop where
  hh : w4.heap[hg]? = some (.cells #[p, .int .i64 n] 65 (0, 0))
  pd : PD base w4 F4 G4 p dp nd P4 D1
  hF4 : ∀ i, F4 i → FP i ∨ w.heap.size ≤ i
  hG4 : ∀ i, G4 i → FD i ∨ w.heap.size ≤ i
  uses : P4.uses ≤ P.uses + 2
  pages : P4.pages = P.pages
  ws : nd + D1.ws.length ≤ 1000 + 16 * t + 16
  clean : CleanP P4 D1
  held : HeldP P4 k
  ok : ∀ j, (G j ∨ (o ≠ none ∧ j = k)) → PageOk (cur P4 D1 j) (upR R k o j)
  h1 : Fr w w1 F
  hp : Post w1 o w2
  h2 : Fr w2 w4 FX
  hX : ∀ i, FX i → i < w1.heap.size ∧ (F i ∨ w.heap.size ≤ i)
  hFX : ∀ i, F4 i → FX i ∨ w2.heap.size ≤ i
  hGX : ∀ i, G4 i → FX i ∨ w2.heap.size ≤ i
  hfr : Fr w w4 (fun i => F i ∨ C i)
theorem Door.leave {base : Nat} {w : World} {F FP FD C : Nat → Prop} {hg : Nat} {p dp : Value} {nd : Nat} {P : PS} {D D1 : DS} {n : Nat} {G : Nat → Prop} {R : Nat → List (List UInt8)} {t k : Nat} {Post : World → Option (List (List UInt8)) → World → Prop} {o : Option (List (List UInt8))} {w1 w2 w4 w5 : World} {P4 : PS} {FX F4 G4 : Nat → Prop}
    (h : HeapIn base w F FP FD hg p dp nd P D n G R t) (d : Door base w F FP FD C hg p dp nd P D1 n G R t k Post o w1 w2 w4 P4 FX F4 G4) (hT : PTo base w4 F4 G4 p dp nd (P4.touch k { P4.fr k with pins := (P4.fr k).pins - 1 }) D1 w5) :
    OnPG base w F C (.pointer (some ⟨hg, 0, none⟩)) n G R t k Post (.returned (.int .i64 0)) w5 := by
  obtain ⟨F5, G5, hpd, hf5, hF5, hG5⟩ := hT
  obtain ⟨q1, q2, q3⟩ := held_unpin d.clean d.held
  have hlt := (Array.getElem?_eq_some_iff.1 h.hh).1
  have hs4 := d.hfr.size
  have hs2 := d.h2.size
  have hn4 : ¬ F4 hg := fun e => (d.hF4 hg e).elim h.nP (by omega)
  have hm4 : ¬ G4 hg := fun e => (d.hG4 hg e).elim h.nD (by omega)
  have hin : ∀ i, (F4 i ∨ G4 i) → F i ∨ w.heap.size ≤ i := fun i hi => by
    rcases hi with hi | hi
    · exact (d.hF4 i hi).imp (fun h' => (h.hF i).2 (Or.inr (Or.inl h'))) id
    · exact (d.hG4 i hi).imp (fun h' => (h.hF i).2 (Or.inr (Or.inr h'))) id
  have hu := h.uses
  have hu4 := d.uses
  have hpg := h.pg
  have hf25 : Fr w2 w5 FX := d.h2.trans hf5 (fun i hi => hi.elim (fun e => d.hFX i e) (fun e => d.hGX i e))
  refine .mk o w1 w2 FX (fun i => i = hg ∨ F5 i ∨ G5 i) rfl d.h1 d.hp hf25 d.hX ⟨F5, G5, hg, p, dp, nd, P4.touch k { P4.fr k with pins := (P4.fr k).pins - 1 }, D1, rfl, ?_⟩ ?_ (d.hfr.trans hf5 (fun i hi => (hin i hi).imp Or.inl id)) ?_
  · have hlt4 := (Array.getElem?_eq_some_iff.1 d.hh).1
    refine ⟨(hf5.block hg hlt4 (fun e => e.elim hn4 hm4)).trans d.hh, hpd, fun i => Iff.rfl, fun e => (hF5 hg e).elim hn4 (by omega), fun e => (hG5 hg e).elim hm4 (by omega), h.lo, ?_, q2, q1, fun j hj => by rw [q3 j]; exact d.ok j hj, ?_, by have := d.ws; omega⟩
    · show 1 ≤ n ∧ (n : Int) ≤ P4.pages
      rw [d.pages]; exact hpg
    · show P4.uses + 1 ≤ _
      push_cast
      omega
  · intro i hi
    rcases hi with rfl | hi | hi
    · exact Or.inl ((h.hF i).2 (Or.inl rfl))
    · rcases hF5 i hi with e | e
      · exact hin i (Or.inl e)
      · exact Or.inr (by omega)
    · rcases hG5 i hi with e | e
      · exact hin i (Or.inr e)
      · exact Or.inr (by omega)
  · intro i hi
    have hs1 := d.h1.size
    rcases hi with rfl | hi | hi
    · exact Or.inl (by omega)
    · rcases hF5 i hi with e | e
      · exact (d.hFX i e).imp (fun h => (d.hX i h).1) id
      · exact Or.inr (by omega)
    · rcases hG5 i hi with e | e
      · exact (d.hGX i e).imp (fun h => (d.hX i h).1) id
      · exact Or.inr (by omega)
set_option maxHeartbeats 1000000 in
theorem onPageG_any {base : Nat} {w : World} {F C : Nat → Prop} {hv : Value} {n : Nat} {G : Nat → Prop} {R : Nat → List (List UInt8)} {t : Nat} (hH : HeapAtG base w F hv n G R t) (ht : t < 50000) {k : Nat} (hk : k < n) (g : Nat) (caps : Array Value) (eg : Enters Try.prog g) (hCF : ∀ i, C i → ¬ F i ∧ i < w.heap.size)
    (Post : World → Option (List (List UInt8)) → World → Prop)
    (hw : ∀ w1 b cap c, Fr w w1 F → OwnB w.heap.size w1 (.slice (some ⟨b, 0, none⟩) 2048 cap) c → (G k → PageOk c (R k)) → c.length = 2048 → Calls Try.prog g (#[.slice (some ⟨b, 0, none⟩) 2048 cap] ++ caps) w1 fun e w2 => WOut w1 b C Post e w2) :
    Calls Try.prog 29 #[hv, .int .i64 k, .func (.func g) #[] caps] w fun e w3 => OnPG base w F C hv n G R t k Post e w3 := by
  obtain ⟨FP, FD, hg, p, dp, nd, P, D, rfl, h⟩ := hH
  have hu := h.uses
  have hws := h.ws
  have hpg := h.pg
  have hpgs := h.pd.ok.pages
  have c0 : w.cell? ⟨hg, 0, none⟩ = some p := by rw [cell_of_row w hg 0 _ _ _ h.hh]; rfl
  have hpin := pd_pin h.pd (by omega) (by omega) (k := k) (by omega)
  obtain ⟨g0, dg, hpp, hdp⟩ := h.pd.ptr
  subst hpp
  have HH : Hid (HeapIn base w F FP FD hg (.pointer (some ⟨g0, 0, none⟩)) dp nd P D n G R t) := h
  have HW : Hid (∀ w1 b cap c, Fr w w1 F → OwnB w.heap.size w1 (.slice (some ⟨b, 0, none⟩) 2048 cap) c → (G k → PageOk c (R k)) → c.length = 2048 → Calls Try.prog g (#[.slice (some ⟨b, 0, none⟩) 2048 cap] ++ caps) w1 fun e w2 => WOut w1 b C Post e w2) := hw
  unfold Enters at eg
  have hk256 : k < 256 := by omega
  clear h hw hpgs
  go_enter_defers Try.func29, Try.ntmps29
  go_wp2_with fail
  refine hpin.mono ?_
  clear hpin
  rintro e w1 hP1
  cases hP1 with
  | err c he hk hc hb => exact (idle_room HH.out.idle HH.out.pd.ok hc).elim
  | ok P1 D1 bs ht1 hk1 v he hv F1 G1 hpd1 hf1 hF1 hG1 hn1 =>
    subst he
    obtain ⟨q1, q2, q3, q4⟩ := clean_pin HH.out.clean HH.out.idle HH.out.pd.ok ht1
    have hlen := hk1.len
    have hb1 := hv.toBytes
    obtain ⟨b, cap, rfl⟩ : ∃ b cap, v = .slice (some ⟨b, 0, none⟩) 2048 cap := by
      rcases hv.2 with ⟨_, h0⟩ | ⟨b, cap, cur, e, _⟩
      · omega
      · exact ⟨b, cap, by rw [e, hlen]⟩
    have hfF : Fr w w1 F := hf1.mono (fun i hi => (HH.out.hF i).2 (Or.inr hi))
    have hc1 := HW.out w1 b cap bs hfF hv (fun hg => by rw [q4]; exact HH.out.ok k hg) hlen
    have c01 : w1.cell? ⟨hg, 0, none⟩ = some (.pointer (some ⟨g0, 0, none⟩)) := fr_cell hf1 (fun h => h.elim HH.out.nP HH.out.nD) c0
    clear HW
    have hs1 := hf1.size
    have hbb : w.heap.size ≤ b ∧ b < w1.heap.size := World.ownsRow.lt hv b rfl
    have hcl : ∀ i, F1 i ∨ G1 i → ¬ (C i ∨ i = b) := fun i hi hc => by
      rcases hc with hc | rfl
      · have h0 := hCF i hc
        have : FP i ∨ FD i ∨ w.heap.size ≤ i := by
          rcases hi with hi | hi
          · rcases hF1 i hi with e | e
            · exact Or.inl e
            · exact Or.inr (Or.inr e)
          · rcases hG1 i hi with e | e
            · exact Or.inr (Or.inl e)
            · exact Or.inr (Or.inr e)
        rcases this with e | e | e
        · exact h0.1 ((HH.out.hF i).2 (Or.inr (Or.inl e)))
        · exact h0.1 ((HH.out.hF i).2 (Or.inr (Or.inr e)))
        · omega
      · have := hn1 i rfl
        exact hi.elim this.1 this.2
    have hhg1 : w1.heap[hg]? = some (.cells #[.pointer (some ⟨g0, 0, none⟩), .int .i64 n] 65 (0, 0)) := (hf1.block hg (Array.getElem?_eq_some_iff.1 HH.out.hh).1 (fun h => h.elim HH.out.nP HH.out.nD)).trans HH.out.hh
    have hFhg : F hg := (HH.out.hF hg).2 (Or.inl rfl)
    have hhgl : hg < w.heap.size := (Array.getElem?_eq_some_iff.1 HH.out.hh).1
    have hhc : ¬ (C hg ∨ hg = b) := fun h => h.elim (fun h => (hCF hg h).1 hFhg) (by omega)
    have hdone : ∀ o w2 w4 P4 F4 G4, Hid (Door base w F FP FD C hg (.pointer (some ⟨g0, 0, none⟩)) dp nd P D1 n G R t k Post o w1 w2 w4 P4 (fun i => F1 i ∨ G1 i) F4 G4) → CallsD Try.prog 55 #[.pointer (some ⟨g0, 0, none⟩), .int .i64 k] .returning w4 fun e u' w5 => u' = .returning ∧ e = .returned (.int .i64 0) ∧ OnPG base w F C (.pointer (some ⟨hg, 0, none⟩)) n G R t k Post (.returned (.int .i64 0)) w5 := by
      intro o w2 w4 P4 F4 G4 hd
      have hus := hd.out.uses
      refine (pd_unpin_d hd.out.pd (by omega) (k := k) (by omega) hd.out.held.mem (by rw [hd.out.held.one]; omega) .returning).mono ?_
      rintro e u' w5 ⟨h1, h2, h3⟩
      exact ⟨h1, h2, hd.out.leave HH.out h3⟩
    have hX : ∀ i, F1 i ∨ G1 i → i < w1.heap.size ∧ (F i ∨ w.heap.size ≤ i) := fun i hi => by
      refine ⟨(hpd1.lo i hi).2, ?_⟩
      rcases hi with hi | hi
      · exact (hF1 i hi).imp (fun e => (HH.out.hF i).2 (Or.inr (Or.inl e))) id
      · exact (hG1 i hi).imp (fun e => (HH.out.hF i).2 (Or.inr (Or.inr e))) id
    have hus1 := hk1.uses
    have hpg1 := hk1.pages
    have hws1 := hk1.ws
    go_wp2_with fail
    refine hc1.mono ?_
    clear hc1
    rintro e w2 hO
    cases hO with
    | none_ he hf hp =>
      subst he
      have hs2 := hf.size
      have hD : Hid (Door base w F FP FD C hg (.pointer (some ⟨g0, 0, none⟩)) dp nd P D1 n G R t k Post none w1 w2 w2 P1 (fun i => F1 i ∨ G1 i) F1 G1) :=
        (⟨(hf.block hg (by omega) hhc).trans hhg1, hpd1.keep hf (fun i hi => hcl i (Or.inl hi)) (fun i hi => hcl i (Or.inr hi)), hF1, hG1, by omega, hpg1, by omega, q1, q2, fun j hj => by rw [q3 j]; exact HH.out.ok j (hj.elim id (fun h => (h.1 rfl).elim)), hfF, hp, Fr.refl _ _, hX, fun i hi => Or.inl (Or.inl hi), fun i hi => Or.inl (Or.inr hi), (hfF.mono (fun i hi => Or.inl hi)).trans hf (fun i hi => hi.elim (fun e => Or.inl (Or.inr e)) (fun e => Or.inr (by omega)))⟩ : Door base w F FP FD C hg (.pointer (some ⟨g0, 0, none⟩)) dp nd P D1 n G R t k Post none w1 w2 w2 P1 (fun i => F1 i ∨ G1 i) F1 G1)
      have hU := hdone _ _ _ _ _ _ hD
      clear hdone
      go_wp2
      refine leaves_cons (f := 55) (args := #[.pointer (some ⟨g0, 0, none⟩), .int .i64 k]) (by simp) (by simp [go_sem]) ?_
      refine hU.mono ?_
      rintro e u' w5 ⟨rfl, rfl, hE⟩
      exact ⟨.int .i64 0, by simp [results, Try.results29, go_sem], hE⟩
    | some_ rs a cp c he hb hc hf hp =>
      subst he
      have hs2 := hf.size
      have hpd2 := hpd1.keep hf (fun i hi => hcl i (Or.inl hi)) (fun i hi => hcl i (Or.inr hi))
      have hput := pd_put hpd2 (by omega) (k := k) (by omega) q2.mem (by rw [q2.one]; omega) (.slice (some a) 2048 cp) c hb hc.len 0 (by omega)
      have hnq := nil_neq w2 a 2048 cp
      have c02 : w2.cell? ⟨hg, 0, none⟩ = some (.pointer (some ⟨g0, 0, none⟩)) := fr_cell hf hhc c01
      go_wp2_with fail
      refine hput.mono ?_
      clear hput
      rintro e w4 ⟨rfl, hT⟩
      obtain ⟨F4, G4, hpd4, hf4, hF4, hG4⟩ := hT
      obtain ⟨r1, r2, r3⟩ := held_put q1 q2 c
      have hs4 := hf4.size
      have hng : ¬ (F1 hg ∨ G1 hg) := fun h => by
        rcases h with h | h
        · exact (hF1 hg h).elim HH.out.nP (by omega)
        · exact (hG1 hg h).elim HH.out.nD (by omega)
      have hD : Hid (Door base w F FP FD C hg (.pointer (some ⟨g0, 0, none⟩)) dp nd P D1 n G R t k Post (some rs) w1 w2 w4 (P1.touch k { P1.fr k with bytes := c, dirty := true, mark := mx (P1.fr k).mark 0 }) (fun i => F1 i ∨ G1 i) F4 G4) :=
        (⟨(hf4.block hg (by omega) hng).trans ((hf.block hg (by omega) hhc).trans hhg1), hpd4, fun i hi => (hF4 i hi).elim (hF1 i) (fun e => Or.inr (by omega)), fun i hi => (hG4 i hi).elim (hG1 i) (fun e => Or.inr (by omega)), by show P1.uses + 1 ≤ _; omega, hpg1, by omega, r1, r2, fun j hj => by
          rw [r3 j]
          show PageOk _ (if j = k then rs else R j)
          by_cases e : j = k
          · rw [if_pos e, if_pos e]; exact hc
          · rw [if_neg e, if_neg e, q3 j]; exact HH.out.ok j (hj.elim id (fun h => (e h.2).elim)), hfF, hp, hf4, hX, fun i hi => (hF4 i hi).imp Or.inl id, fun i hi => (hG4 i hi).imp Or.inr id, ((hfF.mono (fun i hi => Or.inl hi)).trans hf (fun i hi => hi.elim (fun e => Or.inl (Or.inr e)) (fun e => Or.inr (by omega)))).trans hf4 (fun i hi => (hX i hi).2.imp Or.inl id)⟩ : Door base w F FP FD C hg (.pointer (some ⟨g0, 0, none⟩)) dp nd P D1 n G R t k Post (some rs) w1 w2 w4 (P1.touch k { P1.fr k with bytes := c, dirty := true, mark := mx (P1.fr k).mark 0 }) (fun i => F1 i ∨ G1 i) F4 G4)
      have hU := hdone _ _ _ _ _ _ hD
      clear hdone hD hnq
      go_wp2
      refine leaves_cons (f := 55) (args := #[.pointer (some ⟨g0, 0, none⟩), .int .i64 k]) (by simp) (by simp [go_sem]) ?_
      refine hU.mono ?_
      rintro e u' w5 ⟨rfl, rfl, hE⟩
      exact ⟨.int .i64 0, by simp [results, Try.results29, go_sem], hE⟩
theorem HeapAtG.mono {base : Nat} {w : World} {F : Nat → Prop} {hv : Value} {n : Nat} {G G' : Nat → Prop} {R : Nat → List (List UInt8)} {t : Nat} (h : HeapAtG base w F hv n G R t) (hg : ∀ j, G' j → G j) : HeapAtG base w F hv n G' R t := by
  obtain ⟨FP, FD, hgg, p, dp, nd, P, D, e, h⟩ := h
  exact ⟨FP, FD, hgg, p, dp, nd, P, D, e, { h with ok := fun j hj => h.ok j (hg j hj) }⟩
/-- A heap whose pages are all right. -/
def HeapAt (base : Nat) (w : World) (F : Nat → Prop) (hv : Value) (n : Nat) (R : Nat → List (List UInt8)) (t : Nat) : Prop := HeapAtG base w F hv n (fun j => j < n) R t
theorem HeapAt.keep {base : Nat} {w w' : World} {F S : Nat → Prop} {hv : Value} {n : Nat} {R : Nat → List (List UInt8)} {t : Nat} (h : HeapAt base w F hv n R t) (hf : Fr w w' S) (hd : ∀ i, F i → ¬ S i) : HeapAt base w' F hv n R t := HeapAtG.keep h hf hd
theorem HeapAt.keepB {base : Nat} {w w' : World} {F : Nat → Prop} {hv : Value} {n : Nat} {R : Nat → List (List UInt8)} {t : Nat} (h : HeapAt base w F hv n R t) (hb : Below w.heap.size w w') : HeapAt base w' F hv n R t := HeapAtG.keepB h hb
theorem HeapAt.lo {base : Nat} {w : World} {F : Nat → Prop} {hv : Value} {n : Nat} {R : Nat → List (List UInt8)} {t : Nat} (h : HeapAt base w F hv n R t) : ∀ i, F i → base ≤ i ∧ i < w.heap.size := HeapAtG.lo h
theorem HeapAt.cells {base : Nat} {w : World} {F : Nat → Prop} {hv : Value} {n : Nat} {R : Nat → List (List UInt8)} {t : Nat} (h : HeapAt base w F hv n R t) : ∃ hg p, hv = .pointer (some ⟨hg, 0, none⟩) ∧ w.cell? ⟨hg, 0, none⟩ = some p ∧ w.cell? ⟨hg, 1, none⟩ = some (.int .i64 n) ∧ F hg ∧ n ≤ 256 ∧ 1 ≤ n := HeapAtG.cells h
inductive OnP (base : Nat) (w : World) (F C : Nat → Prop) (hv : Value) (n : Nat) (R : Nat → List (List UInt8)) (t k : Nat) (Post : World → Option (List (List UInt8)) → World → Prop) (e : Ending) (w3 : World) : Prop
  | mk (o : Option (List (List UInt8))) (w1 w2 : World) (F1 F' : Nat → Prop) (he : e = .returned (.int .i64 0)) (h1 : Fr w w1 F) (hp : Post w1 o w2) (h2 : Fr w2 w3 F1) (hF1 : ∀ i, F1 i → i < w1.heap.size ∧ (F i ∨ w.heap.size ≤ i)) (hH : HeapAt base w3 F' hv n (upR R k o) (t + 1)) (hF' : ∀ i, F' i → F i ∨ w.heap.size ≤ i) (hfr : Fr w w3 (fun i => F i ∨ C i)) (hF2 : ∀ i, F' i → i < w1.heap.size ∨ w2.heap.size ≤ i)
theorem onPage_any {base : Nat} {w : World} {F C : Nat → Prop} {hv : Value} {n : Nat} {R : Nat → List (List UInt8)} {t : Nat} (hH : HeapAt base w F hv n R t) (ht : t < 50000) {k : Nat} (hk : k < n) (g : Nat) (caps : Array Value) (eg : Enters Try.prog g) (hCF : ∀ i, C i → ¬ F i ∧ i < w.heap.size)
    (Post : World → Option (List (List UInt8)) → World → Prop)
    (hw : ∀ w1 b cap c, Fr w w1 F → OwnB w.heap.size w1 (.slice (some ⟨b, 0, none⟩) 2048 cap) c → PageOk c (R k) → Calls Try.prog g (#[.slice (some ⟨b, 0, none⟩) 2048 cap] ++ caps) w1 fun e w2 => WOut w1 b C Post e w2) :
    Calls Try.prog 29 #[hv, .int .i64 k, .func (.func g) #[] caps] w fun e w3 => OnP base w F C hv n R t k Post e w3 := by
  refine (onPageG_any hH ht hk g caps eg hCF Post (fun w1 b cap c h1 h2 h3 _ => hw w1 b cap c h1 h2 (h3 hk))).mono ?_
  rintro e w3 ⟨o, w1, w2, F1, F', he, h1, hp, h2, hF1, hH', hF', hfr, hF2⟩
  exact .mk o w1 w2 F1 F' he h1 hp h2 hF1 (HeapAtG.mono hH' (fun j hj => Or.inl hj)) hF' hfr hF2
end Go.Proofs.Ytkmgahembhgloaa

/- The pool and its disk as one; what each call does to them; a live question. -/
import Derived.Test.YtkmgahembhgloaaP7M
namespace Go.Proofs.Ytkmgahembhgloaa
open Go.RowKit Go.Maps
set_option linter.unusedVariables false
set_option linter.unusedSimpArgs false

/-- A pool and its disk. -/
structure PD (base : Nat) (w : World) (F G : Nat → Prop) (p dp : Value) (n : Nat) (P : PS) (D : DS) : Prop where
  pool : ∃ g b blk cv, p = .pointer (some ⟨g, 0, none⟩) ∧ PoolIn base w F g dp b blk cv P
  disk : DiskAt base w G dp n D
  dis : ∀ i, F i → ¬ G i
  ok : POk P
  fit : P.first + 16 * P.pages ≤ D.size
theorem PD.keep {base : Nat} {w w' : World} {F G H : Nat → Prop} {p dp : Value} {n : Nat} {P : PS} {D : DS} (h : PD base w F G p dp n P D) (hf : Fr w w' H) (h1 : ∀ i, F i → ¬ H i) (h2 : ∀ i, G i → ¬ H i) : PD base w' F G p dp n P D := by
  obtain ⟨g, b, blk, cv, hp, hP⟩ := h.pool
  exact ⟨⟨g, b, blk, cv, hp, hP.keep hf h1⟩, h.disk.keep hf h2, h.dis, h.ok, h.fit⟩
theorem PD.keepB {base : Nat} {w w' : World} {F G : Nat → Prop} {p dp : Value} {n : Nat} {P : PS} {D : DS} (h : PD base w F G p dp n P D) (hb : Below w.heap.size w w') : PD base w' F G p dp n P D :=
  h.keep (Fr.of_below (F := fun _ => False) hb) (fun _ _ => id) (fun _ _ => id)
theorem PD.lo {base : Nat} {w : World} {F G : Nat → Prop} {p dp : Value} {n : Nat} {P : PS} {D : DS} (h : PD base w F G p dp n P D) : ∀ i, (F i ∨ G i) → base ≤ i ∧ i < w.heap.size := by
  obtain ⟨g, b, blk, cv, hp, hP⟩ := h.pool
  intro i hi
  rcases hi with hi | hi
  · exact hP.lo i hi
  · exact h.disk.lo i hi
theorem PD.ptr {base : Nat} {w : World} {F G : Nat → Prop} {p dp : Value} {n : Nat} {P : PS} {D : DS} (h : PD base w F G p dp n P D) : ∃ g dg, p = .pointer (some ⟨g, 0, none⟩) ∧ dp = .pointer (some ⟨dg, 0, none⟩) := by
  obtain ⟨g, b, blk, cv, hp, hP⟩ := h.pool
  obtain ⟨dg, _, _, _, hd, _⟩ := h.disk
  exact ⟨g, dg, hp, hd⟩
theorem PD.base_le {base : Nat} {w : World} {F G : Nat → Prop} {p dp : Value} {n : Nat} {P : PS} {D : DS} (h : PD base w F G p dp n P D) : base ≤ w.heap.size := by
  obtain ⟨g, b, blk, cv, hp, hP⟩ := h.pool
  exact hP.base_le
/-- What a call has turned. -/
inductive PTo (base : Nat) (w : World) (F G : Nat → Prop) (p dp : Value) (n : Nat) (P' : PS) (D' : DS) (w' : World) : Prop
  | mk (F' G' : Nat → Prop) (h : PD base w' F' G' p dp n P' D') (hf : Fr w w' (fun i => F i ∨ G i)) (hF : ∀ i, F' i → F i ∨ w.heap.size ≤ i) (hG : ∀ i, G' i → G i ∨ w.heap.size ≤ i)
/-- What holds behind Pin. -/
structure PinOk (P : PS) (D : DS) (P' : PS) (D' : DS) (bs : List UInt8) : Prop where
  ok : POk P'
  first : P'.first = P.first
  pages : P'.pages = P.pages
  size : P'.size = P.size
  uses : P'.uses = P.uses + 1
  safe : P'.safe = P.safe
  dsize : D'.size = D.size
  ws : D'.ws.length ≤ D.ws.length + 16
  len : bs.length = 2048
theorem PinTo.ok {P : PS} {D : DS} {k : Int} {P' : PS} {D' : DS} {bs : List UInt8} (h : PinTo P D k P' D' bs) (hok : POk P) (hl : ∀ i, (D'.now i).length = 128) (hkr : 0 ≤ k ∧ k < P.pages) (hu : P.uses < 1000000) : PinOk P D P' D' bs := by
  have hus := hok.uses
  cases h with
  | held hk =>
    have hf := hok.fr k hk
    exact ⟨hok.touch hk hf.len (by have := hf.pins; show 0 ≤ (P.fr k).pins + 1 ∧ (P.fr k).pins + 1 ≤ _; omega) hf.mark hu, rfl, rfl, rfl, rfl, rfl, rfl, by omega, hf.len⟩
  | came hk P1 D1 hm =>
    have hM := hm.ok hok
    have hlen : (getN D'.now (P.first + 16 * k) 16).length = 2048 := getN_len hl _ _
    refine ⟨hM.ok.come (fun h => hk (hM.sub k h)) hM.lt (by rw [hM.pages]; exact hkr) hlen (by have := hM.uses; show (0 : Int) ≤ 1 ∧ (1 : Int) ≤ _; omega) (by show (0 : Int) ≤ 0 ∧ (0 : Int) ≤ _; omega) (by rw [hM.uses]; exact hu), hM.first, hM.pages, hM.size, ?_, hM.safe, hM.dsize, hM.ws, hlen⟩
    show P1.uses + 1 = _
    rw [hM.uses]
inductive PDPin (base : Nat) (w : World) (F G : Nat → Prop) (p dp : Value) (n : Nat) (P : PS) (D : DS) (k : Int) (e : Ending) (w' : World) : Prop
  | ok (P' : PS) (D' : DS) (bs : List UInt8) (ht : PinTo P D k P' D' bs) (hk : PinOk P D P' D' bs) (v : Value) (he : e = .returned (.tuple #[v, .int .i64 0])) (hv : OwnB w.heap.size w' v bs) (F' G' : Nat → Prop) (h : PD base w' F' G' p dp n P' D') (hf : Fr w w' (fun i => F i ∨ G i)) (hF : ∀ i, F' i → F i ∨ w.heap.size ≤ i) (hG : ∀ i, G' i → G i ∨ w.heap.size ≤ i) (hn : ∀ c, v.ownBlock = some c → ¬ F' c ∧ ¬ G' c)
  | err (c : Int) (he : e = .returned (.tuple #[.slice none 0 0, .int .i64 c])) (hk : k ∉ P.keys) (hc : RoomErr P c) (hb : Below w.heap.size w w')
theorem pd_pin {base : Nat} {w : World} {F G : Nat → Prop} {p dp : Value} {n : Nat} {P : PS} {D : DS} (h : PD base w F G p dp n P D) (hcnt : n + D.ws.length + 16 < 900000) (hu : P.uses < 1000000) {k : Int} (hkr : 0 ≤ k ∧ k < P.pages) :
    Calls Try.prog 54 #[p, .int .i64 k] w fun e w' => PDPin base w F G p dp n P D k e w' := by
  obtain ⟨g, b, blk, cv, rfl, hP⟩ := h.pool
  refine (pin_any hP h.disk h.dis h.ok h.fit hcnt hkr).mono ?_
  rintro e w' hO
  cases hO with
  | err c he hk hc hb => exact .err c he hk hc hb
  | ok P' D' bs ht v he hv F' G' blk' cv' hP' hD' hf hF hG hdis hn =>
    have hk := ht.ok h.ok hD'.nowLen hkr hu
    exact .ok P' D' bs ht hk v he hv F' G' ⟨⟨g, b, blk', cv', rfl, hP'⟩, hD', hdis, hk.ok, by rw [hk.first, hk.pages, hk.dsize]; exact h.fit⟩ hf hF hG hn
theorem pd_pin_range {base : Nat} {w : World} {F G : Nat → Prop} {p dp : Value} {n : Nat} {P : PS} {D : DS} (h : PD base w F G p dp n P D) {k : Int} (hno : k < 0 ∨ P.pages ≤ k) :
    Calls Try.prog 54 #[p, .int .i64 k] w fun e w' => e = .returned (.tuple #[.slice none 0 0, .int .i64 73]) ∧ w' = w := by
  obtain ⟨g, b, blk, cv, rfl, hP⟩ := h.pool
  exact pin_range hP hno
theorem pd_put_bad {base : Nat} {w : World} {F G : Nat → Prop} {p dp : Value} {n : Nat} {P : PS} {D : DS} (h : PD base w F G p dp n P D) {k : Int} (hi : -9223372036854775808 ≤ k ∧ k ≤ 9223372036854775807) (hno : k ∉ P.keys ∨ (P.fr k).pins = 0) (v : Value) (m : Int) :
    Calls Try.prog 56 #[p, .int .i64 k, v, .int .u64 m] w fun e w' => e = .returned (.int .i64 72) ∧ w' = w := by
  obtain ⟨g, b, blk, cv, rfl, hP⟩ := h.pool
  exact put_bad hP hi hno v m
theorem pd_put_long {base : Nat} {w : World} {F G : Nat → Prop} {p dp : Value} {n : Nat} {P : PS} {D : DS} (h : PD base w F G p dp n P D) {k : Int} (hi : -9223372036854775808 ≤ k ∧ k ≤ 9223372036854775807) (hk : k ∈ P.keys) (hp0 : (P.fr k).pins ≠ 0) (v : Value) (xs : List UInt8) (hB : Bytes w v xs) (hx : xs.length ≠ 2048) (m : Int) :
    Calls Try.prog 56 #[p, .int .i64 k, v, .int .u64 m] w fun e w' => e = .returned (.int .i64 1) ∧ w' = w := by
  obtain ⟨g, b, blk, cv, rfl, hP⟩ := h.pool
  exact put_long hP hi hk hp0 v xs hB hx m
theorem mx_bounds {x y : Int} (hx : 0 ≤ x ∧ x ≤ 18446744073709551615) (hy : 0 ≤ y ∧ y ≤ 18446744073709551615) : 0 ≤ mx x y ∧ mx x y ≤ 18446744073709551615 := by unfold mx; split <;> omega
theorem pd_put {base : Nat} {w : World} {F G : Nat → Prop} {p dp : Value} {n : Nat} {P : PS} {D : DS} (h : PD base w F G p dp n P D) (hu : P.uses < 1000000) {k : Int} (hi : -9223372036854775808 ≤ k ∧ k ≤ 9223372036854775807) (hk : k ∈ P.keys) (hp0 : (P.fr k).pins ≠ 0) (v : Value) (xs : List UInt8) (hB : Bytes w v xs) (hx : xs.length = 2048) (m : Int) (hm : 0 ≤ m ∧ m ≤ 18446744073709551615) :
    Calls Try.prog 56 #[p, .int .i64 k, v, .int .u64 m] w fun e w' => e = .returned (.int .i64 0) ∧ PTo base w F G p dp n (P.touch k { P.fr k with bytes := xs, dirty := true, mark := mx (P.fr k).mark m }) D w' := by
  obtain ⟨g, b, blk, cv, rfl, hP⟩ := h.pool
  refine (put_ok hP h.ok hi hk hp0 v xs hB hx m).mono ?_
  rintro e w' ⟨he, F', blk', cv', hP', hf, hF⟩
  have hfk := h.ok.fr k hk
  exact ⟨he, F', G, ⟨⟨g, b, blk', cv', rfl, hP'⟩, h.disk.keep hf (fun i hg hf => h.dis i hf hg), fun i hi hg => by
    rcases hF i hi with h1 | h1
    · exact h.dis i h1 hg
    · have := (h.disk.lo i hg).2; omega, h.ok.touch hk hx (by have := hfk.pins; show 0 ≤ (P.fr k).pins ∧ (P.fr k).pins ≤ _; omega) (mx_bounds hfk.mark hm) hu, h.fit⟩, hf.mono (fun i hi => Or.inl hi), hF, fun i hi => Or.inl hi⟩
theorem pd_unpin_bad {base : Nat} {w : World} {F G : Nat → Prop} {p dp : Value} {n : Nat} {P : PS} {D : DS} (h : PD base w F G p dp n P D) {k : Int} (hi : -9223372036854775808 ≤ k ∧ k ≤ 9223372036854775807) (hno : k ∉ P.keys ∨ (P.fr k).pins = 0) :
    Calls Try.prog 55 #[p, .int .i64 k] w fun e w' => e = .returned (.int .i64 72) ∧ w' = w := by
  obtain ⟨g, b, blk, cv, rfl, hP⟩ := h.pool
  exact unpin_bad hP hi hno
theorem pd_unpin {base : Nat} {w : World} {F G : Nat → Prop} {p dp : Value} {n : Nat} {P : PS} {D : DS} (h : PD base w F G p dp n P D) (hu : P.uses < 1000000) {k : Int} (hi : -9223372036854775808 ≤ k ∧ k ≤ 9223372036854775807) (hk : k ∈ P.keys) (hp0 : (P.fr k).pins ≠ 0) :
    Calls Try.prog 55 #[p, .int .i64 k] w fun e w' => e = .returned (.int .i64 0) ∧ PTo base w F G p dp n (P.touch k { P.fr k with pins := (P.fr k).pins - 1 }) D w' := by
  obtain ⟨g, b, blk, cv, rfl, hP⟩ := h.pool
  refine (unpin_ok hP h.ok hi hk hp0).mono ?_
  rintro e w' ⟨he, hP', hf⟩
  have hfk := h.ok.fr k hk
  exact ⟨he, F, G, ⟨⟨g, b, blk, cv, rfl, hP'⟩, h.disk.keep hf (fun i hg hf => h.dis i hf hg), h.dis, h.ok.touch hk hfk.len (by have := hfk.pins; show 0 ≤ (P.fr k).pins - 1 ∧ (P.fr k).pins - 1 ≤ _; omega) hfk.mark hu, h.fit⟩, hf.mono (fun i hi => Or.inl hi), fun i hi => Or.inl hi, fun i hi => Or.inl hi⟩
theorem pd_new {base : Nat} {w : World} {G : Nat → Prop} {n : Nat} {dp : Value} {D : DS} (hD : DiskAt base w G dp n D) (first pages frames : Int) (h1 : 0 ≤ first ∧ first ≤ 4096) (h2 : 1 ≤ pages ∧ pages ≤ 256) (h3 : 1 ≤ frames ∧ frames ≤ 64) (hfit : first ≤ D.size - pages * 16) (hb : base ≤ w.heap.size) :
    Calls Try.prog 25 #[dp, .int .i64 first, .int .i64 pages, .int .i64 frames] w fun e w' => e = .returned (.tuple #[.pointer (some ⟨w.heap.size + 1, 0, none⟩), .int .i64 0]) ∧ PD base w' (fun i => w.heap.size ≤ i ∧ i < w'.heap.size) G (.pointer (some ⟨w.heap.size + 1, 0, none⟩)) dp n (PS.new first pages frames) D ∧ Below w.heap.size w w' := by
  refine (pnew_ok hD first pages frames h1 h2 h3 hfit hb).mono ?_
  rintro e w' ⟨he, hP, hb'⟩
  exact ⟨he, ⟨⟨_, _, _, _, rfl, hP⟩, hD.keepB hb', fun i hi hg => by have := (hD.lo i hg).2; omega, POk.new h1 h2 h3, by show first + 16 * pages ≤ D.size; omega⟩, hb'⟩
end Go.Proofs.Ytkmgahembhgloaa

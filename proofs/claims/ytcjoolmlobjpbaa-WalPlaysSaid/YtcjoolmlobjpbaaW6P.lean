/- What the laws of layer 6 hold beside a log: a list of its records. -/
import Derived.Test.YtcjoolmlobjpbaaW6N
namespace Go.Proofs.Ytcjoolmlobjpbaa
open Go.RowKit Go.Maps
set_option linter.unusedVariables false
set_option linter.unusedSimpArgs false

theorem tmodn {x : Int} {n : Nat} (h : x ≤ 0) (hn : 0 < n) : -(n : Int) < x.tmod n ∧ x.tmod n ≤ 0 := by
  obtain ⟨m, hm⟩ := Int.eq_ofNat_of_zero_le (a := -x) (by omega)
  obtain rfl : x = -(m : Int) := by omega
  rw [Int.neg_tmod, Int.tmod_eq_emod_of_nonneg (by omega)]
  have h1 := Int.emod_nonneg (m : Int) (b := (n : Int)) (by omega)
  have h2 := Int.emod_lt_of_pos (m : Int) (b := (n : Int)) (by omega)
  omega
set_option maxHeartbeats 400000 in
theorem pick_any (c : Int) (n : Nat) (w : World) (h1 : -9223372036854775808 ≤ c ∧ c ≤ 9223372036854775807) (hn : 0 < n) (hn2 : n ≤ 1000000) :
    Calls Try.prog 9 #[.int .i64 c, .int .i64 n] w fun e w' => (∃ q : Nat, q < n ∧ e = .returned (.int .i64 q)) ∧ w' = w := by
  have hnz : ¬ ((n : Int) = 0) := by omega
  by_cases h : c < 0
  · have h3 := tmodn (x := c + 1) (n := n) (by omega) hn
    go_enter Try.func9, Try.ntmps9
    go_wp2
    go_ret
    refine ⟨⟨(-(c + 1).tmod n).toNat, by omega, ret_int ?_⟩, rfl⟩
    first
      | omega
      | (rw [Int.neg_tmod]; omega)
      | (rw [Int.tmod_eq_emod_of_nonneg (by omega)] at *; omega)
  · have h3 := Int.emod_nonneg c (b := (n : Int)) hnz
    have h4 := Int.emod_lt_of_pos c (b := (n : Int)) (by omega)
    go_enter Try.func9, Try.ntmps9
    go_wp2
    go_ret
    refine ⟨⟨(c % n).toNat, by omega, ret_int ?_⟩, rfl⟩
    omega
theorem duo_append_any {B : Nat} {w : World} {F G : Nat → Prop} {p pl : Value} {n : Nat} {D : DS} {first : Int} {m : Nat} {recs : List (List UInt8)} {fl : Nat} (h : Duo B w F G p pl n D first m recs fl) (rv : Value) (r : List UInt8) (hB : Bytes w rv r) (ho : OkR r → OffF G rv) (hrl : r.length ≤ 140737488355328) :
    Calls Try.prog 15 #[pl, rv] w fun e w' => (OkR r ∧ sizeL recs + 8 + rnd r.length ≤ 128 * m ∧ e = .returned (.int .i64 0) ∧ ∃ G', Duo B w' F G' p pl n D first m (recs ++ [r]) fl ∧ Out w w' (Both F G) (Both F G')) ∨ (((¬ OkR r ∧ e = .returned (.int .i64 62)) ∨ (OkR r ∧ 128 * m < sizeL recs + 8 + rnd r.length ∧ e = .returned (.int .i64 61))) ∧ Below w.heap.size w w') := by
  by_cases hr : OkR r
  · by_cases hf : sizeL recs + 8 + rnd r.length ≤ 128 * m
    · exact (duo_append h rv r hB (ho hr) hr hf).mono fun e w' ⟨he, G', h1, h2⟩ => Or.inl ⟨hr, hf, he, G', h1, h2⟩
    · exact (append_full h.l rv r hB hr (by show 128 * m < sizeL recs + 8 + rnd r.length; omega)).mono fun e w' ⟨he, hb⟩ => Or.inr ⟨Or.inr ⟨hr, by omega, he⟩, hb⟩
  · obtain ⟨g, _, _, hp, _⟩ := h.l
    exact (append_long pl g hp rv r w hB hr hrl).mono fun e w' ⟨he, hw⟩ => Or.inr ⟨Or.inl ⟨hr, he⟩, by rw [hw]; exact Below.refl _ _⟩
/-- All that is neither the log's nor its disk's. -/
def Rest (F G : Nat → Prop) (w : World) : Nat → Prop := fun k => k < w.heap.size ∧ ¬ Both F G k
/-- A log, its disk, and a list of records beside them. -/
structure Run (B : Nat) (w0 w : World) (F G : Nat → Prop) (p pl : Value) (n : Nat) (D : DS) (first : Int) (m : Nat) (recs : List (List UInt8)) (fl : Nat) (v : Value) (vs : List Value) (lst : List (List UInt8)) : Prop where
  u : Duo B w F G p pl n D first m recs fl
  o : OwnRecs B w v (Rest F G w) vs lst
  b : Below B w0 w
  h0 : B = w0.heap.size
theorem Run.sz {B : Nat} {w0 w : World} {F G : Nat → Prop} {p pl : Value} {n : Nat} {D : DS} {first : Int} {m : Nat} {recs : List (List UInt8)} {fl : Nat} {v : Value} {vs : List Value} {lst : List (List UInt8)} (h : Run B w0 w F G p pl n D first m recs fl v vs lst) : B ≤ w.heap.size := by
  have := h.b.size; have := h.h0; omega
theorem Run.turn {B : Nat} {w0 w w' : World} {F G F' G' : Nat → Prop} {p pl pl' : Value} {n n' : Nat} {D D' : DS} {first : Int} {m : Nat} {recs recs' : List (List UInt8)} {fl fl' : Nat} {v : Value} {vs : List Value} {lst : List (List UInt8)} (h : Run B w0 w F G p pl n D first m recs fl v vs lst) (hu : Duo B w' F' G' p pl' n' D' first m recs' fl') (ho : Out w w' (Both F G) (Both F' G')) : Run B w0 w' F' G' p pl' n' D' first m recs' fl' v vs lst := by
  refine ⟨hu, (h.o.keep ho.f (fun k hk => hk.2)).mono (fun k hk => ⟨Nat.lt_of_lt_of_le hk.1 ho.f.size, fun hb => ?_⟩) (fun k hk => hk.1), h.b.trans (ho.below h.sz (fun k hk => (h.u.lo k hk).1)), h.h0⟩
  rcases ho.o k hb with h1 | h1
  · exact hk.2 h1
  · have := hk.1; omega
theorem Run.keepB {B : Nat} {w0 w w' : World} {F G : Nat → Prop} {p pl : Value} {n : Nat} {D : DS} {first : Int} {m : Nat} {recs : List (List UInt8)} {fl : Nat} {v : Value} {vs : List Value} {lst : List (List UInt8)} (h : Run B w0 w F G p pl n D first m recs fl v vs lst) (hb : Below w.heap.size w w') : Run B w0 w' F G p pl n D first m recs fl v vs lst :=
  h.turn (h.u.keepB hb) (Out.of_below hb)
/-- One record more in the list. -/
theorem Run.snoc {B : Nat} {w0 w w' : World} {F G : Nat → Prop} {p pl : Value} {n : Nat} {D : DS} {first : Int} {m : Nat} {recs : List (List UInt8)} {fl : Nat} {v v' x : Value} {vs : List Value} {lst : List (List UInt8)} {r : List UInt8} (h : Run B w0 w F G p pl n D first m recs fl v vs lst) (ho : OwnV B w' v' (vs ++ [x])) (hg : GrowB w v w' v') (hB : Bytes w x r) (hx : ∀ a k c, x = .slice (some a) k c → Rest F G w a.block ∧ v.ownBlock ≠ some a.block) : Run B w0 w' F G p pl n D first m recs fl v' (vs ++ [x]) (lst ++ [r]) := by
  have hfr : Fr w w' (fun k => v.ownBlock = some k) := Fr.of_grown hg.grown (fun k hk => hk)
  have hge : ∀ k, v.ownBlock = some k → B ≤ k := fun k hk => (World.ownsRow.lt h.o.own k hk).1
  refine ⟨h.u.keep hfr (fun k hk e => (h.o.hv k e).2 hk), (h.o.snoc (U := Rest F G w) ho hg hB (fun a k c e => ⟨(hx a k c e).1, (hx a k c e).1.1, (hx a k c e).2⟩) (fun k hk => hk.1)).mono (fun k hk => ?_) (fun k hk => hk.1), h.b.trans (hfr.below h.sz (fun k hk => hge k hk)), h.h0⟩
  rcases hk with hk | hk | hk
  · exact ⟨Nat.lt_of_lt_of_le hk.1 hg.grown.size, hk.2⟩
  · exact ⟨Nat.lt_of_lt_of_le hk.1 hg.grown.size, hk.2⟩
  · exact ⟨hk.2, fun hb => by have := (h.u.lo k hb).2; omega⟩
theorem Run.start {B : Nat} {w0 w : World} {F G : Nat → Prop} {p pl : Value} {n : Nat} {D : DS} {first : Int} {m : Nat} {recs : List (List UInt8)} {fl : Nat} (hu : Duo B w F G p pl n D first m recs fl) (hb : Below B w0 w) (h0 : B = w0.heap.size) : Run B w0 w F G p pl n D first m recs fl (.slice none 0 0) [] [] :=
  ⟨hu, OwnRecs.nil _ _ _ (fun k hk => hk.1), hb, h0⟩
/-- A list of records that came in: where it lies, and how long. -/
structure InRecs (B : Nat) (w : World) (v : Value) (recs : List (List UInt8)) : Prop where
  r : RecsIn w (fun k => k < B) v recs
  l : ∀ x ∈ recs, x.length ≤ 140737488355328
theorem InRecs.keep {B : Nat} {w w' : World} {v : Value} {recs : List (List UInt8)} (h : InRecs B w v recs) (hb : Below B w w') : InRecs B w' v recs := by
  refine ⟨?_, h.l⟩
  obtain ⟨ao, cap, hv, hc, hr⟩ := h.r
  refine ⟨ao, cap, hv, hc, ?_⟩
  rcases hr with hr | ⟨g, o, ha, hg, hr⟩
  · exact Or.inl hr
  · refine Or.inr ⟨g, o, ha, hg, fun k hk => ?_⟩
    obtain ⟨u, h1, h2, h3⟩ := hr k hk
    refine ⟨u, (hb.cell (p := ⟨g, o + k, none⟩) hg).trans h1, ?_, h3⟩
    rcases h2 with h2 | ⟨a, cap, hv, hc, h2⟩
    · exact Or.inl h2
    · refine Or.inr ⟨a, cap, hv, hc, fun j hj => ?_⟩
      exact (hb.cell (p := a.add j) (by rw [add_block]; exact h3 a _ _ hv (by intro e; rw [e] at hj; simp at hj))).trans (h2 j hj)
theorem InRecs.at {B : Nat} {w : World} {v : Value} {recs : List (List UInt8)} (h : InRecs B w v recs) : ∃ ao cap, v = .slice ao recs.length cap ∧ recs.length ≤ cap ∧ ∀ k (hk : k < recs.length), ∃ g o a n c, ao = some ⟨g, o, none⟩ ∧ g < B ∧ w.cell? ⟨g, o + k, none⟩ = some (.slice a n c) ∧ Bytes w (.slice a n c) recs[k] ∧ (∀ a' n' c', Value.slice a n c = .slice (some a') n' c' → recs[k] ≠ [] → a'.block < B) ∧ recs[k].length ≤ 140737488355328 := by
  obtain ⟨ao, cap, hv, hc, hr⟩ := h.r
  refine ⟨ao, cap, hv, hc, fun k hk => ?_⟩
  rcases hr with hr | ⟨g, o, ha, hg, hr⟩
  · rw [hr] at hk; simp at hk
  · obtain ⟨u, h1, h2, h3⟩ := hr k hk
    obtain ⟨a, c, hu, _⟩ := h2.form
    subst hu
    exact ⟨g, o, a, _, c, ha, hg, h1, h2, h3, h.l _ (List.getElem_mem hk)⟩
end Go.Proofs.Ytcjoolmlobjpbaa

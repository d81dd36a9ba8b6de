/- A log and its disk, together: what the calls make of them; the law's live question; no log. -/
import Derived.Test.YtcjoolmlobjpbaaW6K
namespace Go.Proofs.Ytcjoolmlobjpbaa
open Go.RowKit Go.Maps
set_option linter.unusedVariables false
set_option linter.unusedSimpArgs false

theorem now_len {base : Nat} {w : World} {F : Nat → Prop} {p : Value} {n : Nat} {D : DS} (h : DiskAt base w F p n D) : ∀ i, (D.now i).length = 128 := by
  obtain ⟨_, _, _, _, _, h⟩ := h; exact h.m2.len
theorem DiskAt.first_len {base : Nat} {w : World} {F : Nat → Prop} {p : Value} {n : Nat} {D : DS} (h : DiskAt base w F p n D) : (∀ i, (D.first i).length = 128) ∧ ∀ x ∈ D.ws, x.sec.length = 128 := by
  obtain ⟨_, _, _, _, _, h⟩ := h; exact ⟨h.m1.len, fun x hx => (h.oks x hx).len⟩
theorem DiskAt.sizes {base : Nat} {w : World} {F : Nat → Prop} {p : Value} {n : Nat} {D : DS} (h : DiskAt base w F p n D) : 0 ≤ D.size ∧ D.size ≤ 4096 := by
  obtain ⟨_, _, _, _, _, h⟩ := h; exact h.sz
theorem DiskAt.base_lt {base : Nat} {w : World} {F : Nat → Prop} {p : Value} {n : Nat} {D : DS} (h : DiskAt base w F p n D) : base ≤ w.heap.size := by
  obtain ⟨g, _, _, _, _, h⟩ := h; have := h.lo g h.fg; omega
/-- What became of a footprint. -/
structure Out (w w' : World) (S S' : Nat → Prop) : Prop where
  f : Fr w w' S
  o : ∀ k, S' k → S k ∨ w.heap.size ≤ k
theorem Out.refl (w : World) (S : Nat → Prop) : Out w w S S := ⟨Fr.refl _ _, fun k hk => Or.inl hk⟩
theorem Out.trans {w w1 w2 : World} {S S1 S2 : Nat → Prop} (h : Out w w1 S S1) (k : Out w1 w2 S1 S2) : Out w w2 S S2 :=
  ⟨h.f.trans k.f h.o, fun i hi => by
    rcases k.o i hi with h1 | h1
    · exact h.o i h1
    · right; have := h.f.size; omega⟩
theorem Out.of_below {w w' : World} {S : Nat → Prop} (h : Below w.heap.size w w') : Out w w' S S := ⟨Fr.of_below h, fun k hk => Or.inl hk⟩
theorem Out.below {w w' : World} {S S' : Nat → Prop} {B : Nat} (h : Out w w' S S') (hB : B ≤ w.heap.size) (hS : ∀ k, S k → B ≤ k) : Below B w w' := h.f.below hB hS
/-- A log and its disk. -/
structure Duo (B : Nat) (w : World) (F G : Nat → Prop) (p pl : Value) (n : Nat) (D : DS) (first : Int) (m : Nat) (recs : List (List UInt8)) (fl : Nat) : Prop where
  d : DiskAt B w F p n D
  l : LogAt B w G pl p (LSof first m recs fl)
  a : ∀ k, F k → ¬ G k
  st : D.still
  oks : ∀ r ∈ recs, OkR r
  cl : Clean D.now first m (frames (recs.take fl))
  sz : first + m ≤ D.size
  le : sizeL recs ≤ 128 * m
  flr : fl ≤ recs.length
def Both (F G : Nat → Prop) : Nat → Prop := fun k => F k ∨ G k
theorem Duo.lo {B : Nat} {w : World} {F G : Nat → Prop} {p pl : Value} {n : Nat} {D : DS} {first : Int} {m : Nat} {recs : List (List UInt8)} {fl : Nat} (h : Duo B w F G p pl n D first m recs fl) : ∀ k, Both F G k → B ≤ k ∧ k < w.heap.size := by
  intro k hk
  rcases hk with hk | hk
  · exact h.d.lo k hk
  · exact h.l.lo k hk
theorem Duo.keep {B : Nat} {w w' : World} {F G H : Nat → Prop} {p pl : Value} {n : Nat} {D : DS} {first : Int} {m : Nat} {recs : List (List UInt8)} {fl : Nat} (h : Duo B w F G p pl n D first m recs fl) (hf : Fr w w' H) (hd : ∀ k, Both F G k → ¬ H k) : Duo B w' F G p pl n D first m recs fl :=
  { h with d := h.d.keep hf (fun k hk => hd k (Or.inl hk)), l := h.l.keep hf (fun k hk => hd k (Or.inr hk)) }
theorem Duo.keepB {B : Nat} {w w' : World} {F G : Nat → Prop} {p pl : Value} {n : Nat} {D : DS} {first : Int} {m : Nat} {recs : List (List UInt8)} {fl : Nat} (h : Duo B w F G p pl n D first m recs fl) (hf : Below w.heap.size w w') : Duo B w' F G p pl n D first m recs fl :=
  h.keep (Fr.of_below (F := fun _ => False) hf) (fun _ _ => id)
theorem Duo.clean {B : Nat} {w : World} {F G : Nat → Prop} {p pl : Value} {n : Nat} {D : DS} {first : Int} {m : Nat} {recs : List (List UInt8)} {fl : Nat} (h : Duo B w F G p pl n D first m recs fl) (hfl : fl = recs.length) : Clean D.now first m (frames recs) := by
  have := h.cl
  rw [hfl, List.take_length] at this
  exact this
theorem Duo.ok {B : Nat} {w : World} {F G : Nat → Prop} {p pl : Value} {n : Nat} {D : DS} {first : Int} {m : Nat} {recs : List (List UInt8)} {fl : Nat} (h : Duo B w F G p pl n D first m recs fl) : 0 ≤ first ∧ first ≤ 4096 ∧ 1 ≤ m ∧ m ≤ 1024 ∧ 16 * recs.length ≤ sizeL recs := by
  obtain ⟨h1, h2, _⟩ := h.l.ok
  exact ⟨h1.1, h1.2, h2.1, h2.2, sizeL_len recs h.oks⟩
theorem duo_format {B : Nat} {w : World} {F : Nat → Prop} {p : Value} {n : Nat} {D : DS} (hD : DiskAt B w F p n D) (hst : D.sound) (first m : Nat) (h2 : 1 ≤ m ∧ m ≤ 1024) (h3 : (first : Int) + m ≤ D.size) (hcnt : n + D.ws.length + m + 1 < 100000) :
    Calls Try.prog 11 #[p, .int .i64 first, .int .i64 m] w fun e w' => ∃ (g : Nat) (F' G : Nat → Prop), e = .returned (.tuple #[.pointer (some ⟨g, 0, none⟩), .int .i64 0]) ∧ Duo B w' F' G p (.pointer (some ⟨g, 0, none⟩)) n (D.settle first m []) first m [] 0 ∧ Out w w' F (Both F' G) := by
  refine (format_ok hD first m (by omega) h2 h3 hcnt).mono ?_
  rintro e w' ⟨g, F', G, he, hO⟩
  refine ⟨g, F', G, he, ⟨hO.d.d, hO.l, hO.a, hst.settle _ _ _, by simp, ?_, h3, by simp [sizeL, frames], Nat.le_refl _⟩, hO.d.f, fun k hk => ?_⟩
  · exact D.settle_now first m [] (by simp) (fun i hi => by simp at hi)
  · rcases hk with hk | hk
    · exact hO.d.o k hk
    · exact Or.inr (hO.o k hk)
theorem duo_open {B : Nat} {w : World} {F : Nat → Prop} {p : Value} {n : Nat} {D : DS} (hD : DiskAt B w F p n D) (hst : D.sound) (first m : Nat) (h2 : 1 ≤ m ∧ m ≤ 1024) (h3 : (first : Int) + m ≤ D.size) (hcnt : n + D.ws.length + m + 1 < 100000) :
    Calls Try.prog 13 #[p, .int .i64 first, .int .i64 m] w fun e w' => ∃ (recs : List (List UInt8)) (g : Nat) (F' G : Nat → Prop), e = .returned (.tuple #[.pointer (some ⟨g, 0, none⟩), .int .i64 0]) ∧ Parses (reg D.now first m) recs ∧ Duo B w' F' G p (.pointer (some ⟨g, 0, none⟩)) n (D.settle first m (frames recs)) first m recs recs.length ∧ Out w w' F F' ∧ (∀ k, G k → w.heap.size ≤ k) ∧ Out w w' F (Both F' G) := by
  have hls := now_len hD
  refine (open_ok hD hls first m h2 h3 hcnt).mono ?_
  rintro e w' ⟨recs, g, F', G, he, hp, hO⟩
  have hle := (hp.bytes hls).1
  refine ⟨recs, g, F', G, he, hp, ⟨hO.d.d, hO.l, hO.a, hst.settle _ _ _, hp.oks, ?_, h3, hle, Nat.le_refl _⟩, ⟨hO.d.f, hO.d.o⟩, hO.o, hO.d.f, fun k hk => ?_⟩
  · rw [List.take_length]; exact D.settle_clean hls first m recs hp
  · rcases hk with hk | hk
    · exact hO.d.o k hk
    · exact Or.inr (hO.o k hk)
theorem duo_append {B : Nat} {w : World} {F G : Nat → Prop} {p pl : Value} {n : Nat} {D : DS} {first : Int} {m : Nat} {recs : List (List UInt8)} {fl : Nat} (h : Duo B w F G p pl n D first m recs fl) (rv : Value) (r : List UInt8) (hB : Bytes w rv r) (ho : OffF G rv) (hr : OkR r) (hfit : sizeL recs + 8 + rnd r.length ≤ 128 * m) :
    Calls Try.prog 15 #[pl, rv] w fun e w' => e = .returned (.int .i64 0) ∧ ∃ G', Duo B w' F G' p pl n D first m (recs ++ [r]) fl ∧ Out w w' (Both F G) (Both F G') := by
  have hok := h.ok
  have ha := append_ok h.l rv r hB ho hr hfit (by show (spans recs).length < 10000; rw [spans_len]; omega)
  rw [LSof_snoc] at ha
  refine ha.mono ?_
  rintro e w' ⟨he, G', hL, hf, hg⟩
  have hap : ∀ k, F k → ¬ G' k := fun k hk hg' => by
    rcases hg k hg' with h1 | h1
    · exact h.a k hk h1
    · have := (h.d.lo k hk).2; omega
  refine ⟨he, G', ⟨h.d.keep hf h.a, hL, hap, h.st, ?_, ?_, h.sz, ?_, ?_⟩, hf.mono (fun k hk => Or.inr hk), fun k hk => ?_⟩
  · intro x hx
    rcases List.mem_append.1 hx with hx | hx
    · exact h.oks x hx
    · simp at hx; rw [hx]; exact hr
  · rw [List.take_append_of_le_length h.flr]; exact h.cl
  · rw [sizeL_snoc]; exact hfit
  · rw [List.length_append]; have := h.flr; omega
  · rcases hk with hk | hk
    · exact Or.inl (Or.inl hk)
    · rcases hg k hk with h1 | h1
      · exact Or.inl (Or.inr h1)
      · exact Or.inr h1
/-- What a flush makes of a disk. -/
def flushD (D : DS) (first : Int) (recs : List (List UInt8)) (fl : Nat) : DS := if fl = recs.length then D else D.flush first (sizeL (recs.take fl)) (frames recs)
theorem flushD_len (D : DS) (first : Int) (m : Nat) (recs : List (List UInt8)) (fl : Nat) (hle : sizeL recs ≤ 128 * m) : D.ws.length ≤ (flushD D first recs fl).ws.length ∧ (flushD D first recs fl).ws.length ≤ D.ws.length + m + 1 ∧ (flushD D first recs fl).first = D.first ∧ (flushD D first recs fl).size = D.size := by
  unfold flushD
  split
  · exact ⟨Nat.le_refl _, by omega, rfl, rfl⟩
  · rw [DS.flush_len]
    have : cnt128 (frames recs).length ≤ m := by unfold cnt128; unfold sizeL at hle; omega
    exact ⟨by omega, by omega, rfl, rfl⟩
theorem duo_flush {B : Nat} {w : World} {F G : Nat → Prop} {p pl : Value} {n : Nat} {D : DS} {first : Int} {m : Nat} {recs : List (List UInt8)} {fl : Nat} (h : Duo B w F G p pl n D first m recs fl) (hcnt : n + D.ws.length + m + 2 < 100000) :
    Calls Try.prog 16 #[pl] w fun e w' => e = .returned (.int .i64 0) ∧ ∃ F', Duo B w' F' G p pl n (flushD D first recs fl) first m recs recs.length ∧ Out w w' (Both F G) (Both F' G) := by
  by_cases hfl : fl = recs.length
  · refine (flush_none h.l (by show fl = (spans recs).length; rw [spans_len]; exact hfl)).mono ?_
    rintro e w' ⟨he, hb⟩
    refine ⟨he, F, ?_, Out.of_below hb⟩
    unfold flushD
    rw [if_pos hfl]
    have := h.keepB hb
    rw [hfl] at this
    exact this
  · have hlt : fl < recs.length := by have := h.flr; omega
    refine (flush_some h.d h.l h.a h.sz h.oks hlt hcnt).mono ?_
    rintro e w' ⟨he, F', hF⟩
    have e1 : flushD D first recs fl = D.flush first (sizeL (recs.take fl)) (frames recs) := by unfold flushD; rw [if_neg hfl]
    rw [e1]
    have h1 := sizeL_take recs fl hlt
    have h2 := sizeL_le recs (fl + 1)
    have hap : ∀ k, F' k → ¬ G k := fun k hk hg => by
      rcases hF.o k hk with h3 | h3
      · exact h.a k h3 hg
      · have := (h.l.lo k hg).2; omega
    refine ⟨he, F', ⟨hF.d, hF.l, hap, h.st.1.flush _ _ _, h.oks, ?_, h.sz, h.le, Nat.le_refl _⟩, hF.f, fun k hk => ?_⟩
    · rw [List.take_length]
      refine flush_now h.cl (fun j hj => ?_) (frames_mod _) (by unfold sizeL at *; omega) h.le
      conv => lhs; rw [← List.take_append_drop fl recs, frames_app]
      exact getD_app _ _ _ hj
    · rcases hk with hk | hk
      · rcases hF.o k hk with h3 | h3
        · exact Or.inl (Or.inl h3)
        · exact Or.inr h3
      · exact Or.inl (Or.inr hk)

theorem duo_free {B : Nat} {w : World} {F G : Nat → Prop} {p pl : Value} {n : Nat} {D : DS} {first : Int} {m : Nat} {recs : List (List UInt8)} {fl : Nat} (h : Duo B w F G p pl n D first m recs fl) :
    Calls Try.prog 25 #[pl] w fun e w' => e = .returned (.int .i64 (128 * m - sizeL recs : Nat)) ∧ Below w.heap.size w w' := free_any h.l
theorem duo_flushed {B : Nat} {w : World} {F G : Nat → Prop} {p pl : Value} {n : Nat} {D : DS} {first : Int} {m : Nat} {recs : List (List UInt8)} {fl : Nat} (h : Duo B w F G p pl n D first m recs fl) :
    Calls Try.prog 24 #[pl] w fun e w' => e = .returned (.int .i64 fl) ∧ w' = w := flushed_any h.l
def z248 : List UInt8 := List.replicate 248 0
theorem z248_len : z248.length = 248 := List.length_replicate
theorem z248_ok : OkR z248 := by unfold OkR; rw [z248_len]; omega
theorem make248 (w : World) : (Instr.makeSlice 36 (.int .i64 248) (.int .i64 248)).run Try.prog w = .ok (.slice (some ⟨w.heap.size, 0, none⟩) 248 248) (w.alloc (.cells (z248.map bv).toArray 5)) := by kernel_rfl
theorem wp_make248 (w : World) {ops : Array Oper} {rest : List Oper} {o : Oper} {a : Act} {Q : Exit → Act → World → Prop} (hgd : o.guard = none)
    (ho : o.op = .makeSlice 36 (.const (.int .i64 248)) (.const (.int .i64 248)))
    (h : ∀ w1, w1 = w.alloc (.cells (z248.map bv).toArray 5) → wpList Try.prog ops Q rest (a.put o.dst (.slice (some ⟨w.heap.size, 0, none⟩) 248 248)) w1) : wpList Try.prog ops Q (o :: rest) a w := by
  refine wpList_plain hgd fun K hK => ?_
  unfold Oper.wp execOp
  have e1 : a.eval (.const (.int .i64 248)) = .int .i64 248 := rfl
  simp only [ho, e1, make248 w, Sem.run_bind, Sem.run_pure, Result.andThen_ok]
  exact hK _ _ (h _ rfl)
theorem off_at {G : Nat → Prop} {b n m c off : Nat} (h : ∀ k, G k → k < b) (hb : b ≤ n) : OffF G (.slice (some ⟨n, off, none⟩) m c) := fun a n' c' e hg => by
  cases e
  have h1 := h _ hg
  simp at h1
  omega
theorem size_z : sizeL [z248] = 256 := by rw [sizeL_cons, z248_len]; rfl
theorem bytes_one (w : World) (c : UInt8) : Bytes (w.alloc (.cells #[bv c] 5)) (.slice (some ⟨w.heap.size, 0, none⟩) 1 1) [c] :=
  Or.inr ⟨⟨w.heap.size, 0, none⟩, 1, rfl, by simp, fun j hj => by
    obtain rfl : j = 0 := by simpa using hj
    rw [Addr.add_mid, cell_of_row _ _ (0 + 0) _ _ _ (heap_alloc_new w _)]; rfl⟩
set_option maxRecDepth 10000 in
set_option maxHeartbeats 8000000 in
theorem alive_any (w : World) : Calls Try.prog 10 #[] w fun e w' => e = .returned (.bool true) ∧ Below w.heap.size w w' := by
  go_enter Try.func10, Try.ntmps10
  go_wp2_with fail
  refine (new_any 2 w (by omega)).mono ?_
  rintro e w1 ⟨gd, rfl, hD1, hb1⟩
  go_wp2_with fail
  refine (duo_format hD1 rfl 0 2 (by omega) (by show (0 : Int) + 2 ≤ 2; omega) (by show 0 + 0 + 2 + 1 < 100000; omega)).mono ?_
  rintro e w2 ⟨gl, F2, G2, rfl, hU2, hO2⟩
  have hb2 : Below w.heap.size w w2 := hb1.trans (hO2.below hb1.size (fun k hk => hk.1))
  have HU2 : Hid (Duo _ _ _ _ _ _ _ _ _ _ _ _) := hU2
  clear hD1 hb1 hO2 hU2
  go_wp2_with fail
  refine (duo_free HU2.out).mono ?_
  rintro e w3 ⟨rfl, hb3⟩
  have hfr : (128 * 2 - sizeL [] : Nat) = 256 := rfl
  rw [hfr]
  have hU3 := HU2.out.keepB hb3
  have hb3' : Below w.heap.size w w3 := hb2.trans (hb3.mono hb2.size)
  clear hfr HU2 hb2 hb3
  have HU3 : Hid (Duo _ _ _ _ _ _ _ _ _ _ _ _) := hU3
  clear hU3
  go_wp2_with (first | (at_make; refine wp_make248 _ rfl rfl ?_; intro w4 hw4; have HW4 : Hid (w4 = w3.alloc (.cells (z248.map bv).toArray 5)) := hw4; clear hw4))
  have ha4 : Below w3.heap.size w3 w4 := by rw [HW4.out]; exact (Below.refl _ _).alloc (Nat.le_refl _) _
  have hU4 := HU3.out.keepB ha4
  have hB4 : Bytes w4 (.slice (some ⟨w3.heap.size, 0, none⟩) 248 248) z248 := by
    have hR : RowB w4 w3.heap.size z248 := by rw [HW4.out]; exact heap_alloc_new w3 _
    exact hR.bytes z248_len (Nat.le_refl _)
  refine (duo_append hU4 _ z248 hB4 (off_at (fun k hk => (HU3.out.l.lo k hk).2) (Nat.le_refl _)) z248_ok (by rw [z248_len]; decide)).mono ?_
  rintro e w5 ⟨rfl, G5, hU5, hO5⟩
  have hb5 : Below w.heap.size w w5 := (hb3'.trans (ha4.mono hb3'.size)).trans (hO5.below (Nat.le_trans hb3'.size ha4.size) (fun k hk => (hU4.lo k hk).1))
  have HU5 : Hid (Duo _ _ _ _ _ _ _ _ _ _ _ _) := hU5
  clear hU4 hB4 ha4 HW4 HU3 hO5 hU5 hb3'
  go_wp2_with fail
  have ha6 : Below w5.heap.size w5 (w5.alloc (.cells #[bv 1] 5)) := (Below.refl _ _).alloc (Nat.le_refl _) _
  have hU6 := HU5.out.keepB ha6
  refine (append_full hU6.l _ [1] (bytes_one w5 1) ⟨by simp, by simp⟩ (by show 128 * 2 < sizeL ([] ++ [z248]) + 8 + rnd [(1 : UInt8)].length; rw [List.nil_append, size_z]; decide)).mono ?_
  rintro e w7 ⟨rfl, hb7⟩
  have hU7 := hU6.keepB hb7
  have hb6 : Below w.heap.size w _ := hb5.trans (ha6.mono hb5.size)
  have hb7' : Below w.heap.size w w7 := hb6.trans (hb7.mono hb6.size)
  have HU7 : Hid (Duo _ _ _ _ _ _ _ _ _ _ _ _) := hU7
  clear hU6 hU7 hb7 hb6 hb5 HU5
  go_wp2_with fail
  refine (duo_flush HU7.out (by show 0 + _ + 2 + 2 < 100000; rw [DS.settle_len _ _ _ _ (by simp)]; simp)).mono ?_
  rintro e w8 ⟨rfl, F8, hU8, hO8⟩
  have hb8 : Below w.heap.size w w8 := hb7'.trans (hO8.below hb7'.size (fun k hk => (HU7.out.lo k hk).1))
  have HU8 : Hid (Duo _ _ _ _ _ _ _ _ _ _ _ _) := hU8
  clear hU8 hO8 hb7' HU7
  go_wp2_with fail
  have hst8 := HU8.out.st
  have hsz8 := HU8.out.sz
  have hln := flushD_len ((⟨2, fun _ => zsec, fun _ => zsec, [], 0⟩ : DS).settle (0 : Nat) 2 []) (0 : Nat) 2 ([] ++ [z248]) 0 (by rw [List.nil_append, size_z]; omega)
  rw [DS.settle_len _ _ _ _ (by simp)] at hln
  refine (duo_open HU8.out.d hst8.1 0 2 (by omega) hsz8 (by have h5 := Nat.le_trans hln.2.1 (show 0 + (2 - 0 / 128) + 2 + 1 ≤ 5 by decide); omega)).mono ?_
  rintro e w9 ⟨recs, gm, F9, G9, rfl, hp9, hU9, hO9, _, _⟩
  have hb9 : Below w.heap.size w w9 := hb8.trans (hO9.below hb8.size (fun k hk => (HU8.out.d.lo k hk).1))
  have hp8 := (HU8.out.clean rfl).parses (now_len HU8.out.d) HU8.out.oks HU8.out.le
  obtain rfl := parses_unique hp9 hp8
  have HU9 : Hid (Duo _ _ _ _ _ _ _ _ _ _ _ _) := hU9
  clear hp8 hp9 hU9 hO9 HU8 hst8 hsz8 hln hb8
  go_wp2_with (first | (go_at_call 24; refine (duo_flushed HU9.out).mono ?_; rintro e wx ⟨rfl, hwx⟩; subst hwx))
  go_ret
  exact ⟨rfl, hb9⟩
end Go.Proofs.Ytcjoolmlobjpbaa

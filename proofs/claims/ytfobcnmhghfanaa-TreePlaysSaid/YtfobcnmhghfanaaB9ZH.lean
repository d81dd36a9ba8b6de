/- Trees side by side; how it came does not matter. -/
import Derived.Test.YtfobcnmhghfanaaB9ZG
namespace Go.Proofs.Ytfobcnmhghfanaa
open Go.RowKit Go.Shelf
set_option linter.unusedVariables false
set_option linter.unusedSimpArgs false

theorem mem_addL {L : List E} {e : E} (h : getL L e.key = none) (x : E) : x ∈ addL L e ↔ x = e ∨ x ∈ L := by
  unfold addL
  simp only [List.mem_append, List.mem_filter, List.mem_cons]
  constructor
  · rintro (⟨h1, _⟩ | rfl | ⟨h1, _⟩)
    · exact Or.inr h1
    · exact Or.inl rfl
    · exact Or.inr h1
  · rintro (rfl | h1)
    · exact Or.inr (Or.inl rfl)
    · have hne := getL_none h x h1
      cases h2 : kl x.key e.key with
      | true => exact Or.inl ⟨h1, rfl⟩
      | false =>
        cases h3 : kl e.key x.key with
        | true => exact Or.inr (Or.inr ⟨h1, rfl⟩)
        | false => exact absurd (kl_eq h2 h3) hne
/-- Two lines of the same entries are one. -/
theorem Line.ext {A B : List E} (ha : Line A) (hb : Line B) (h : ∀ x, x ∈ A ↔ x ∈ B) : A = B := by
  induction A generalizing B with
  | nil =>
    cases B with
    | nil => rfl
    | cons y t => exact absurd ((h y).2 (by simp)) (by simp)
  | cons x s ih =>
    cases B with
    | nil => exact absurd ((h x).1 (by simp)) (by simp)
    | cons y t =>
      have hxs := List.pairwise_cons.1 ha
      have hyt := List.pairwise_cons.1 hb
      have hxy : x = y := by
        rcases List.mem_cons.1 ((h x).1 (by simp)) with e | e
        · exact e
        · rcases List.mem_cons.1 ((h y).2 (by simp)) with e' | e'
          · exact e'.symm
          · have h1 := hyt.1 x e
            have h2 := hxs.1 y e'
            rw [kl_asymm h1] at h2; cases h2
      subst hxy
      congr 1
      refine ih hxs.2 hyt.2 (fun z => ?_)
      constructor
      · intro hz
        rcases List.mem_cons.1 ((h z).1 (by simp [hz])) with e | e
        · subst e; have := hxs.1 _ hz; rw [kl_irrefl] at this; cases this
        · exact e
      · intro hz
        rcases List.mem_cons.1 ((h z).2 (by simp [hz])) with e | e
        · subst e; have := hyt.1 _ hz; rw [kl_irrefl] at this; cases this
        · exact e
/-- The line of keys that were inserted with their lengths. -/
def LenL (L : List E) (K : ByteArray → Prop) : Prop := ∀ e, e ∈ L ↔ (K e.key ∧ e.key.size ≤ 2000 ∧ e.num = e.key.size ∧ e.ghost = false)
theorem getL_some_of_mem {L : List E} {e : E} (h : e ∈ L) : getL L e.key ≠ none := fun hn => getL_none hn e h rfl
theorem LenL.ins {L : List E} {K : ByteArray → Prop} (h : LenL L K) (key : ByteArray) : LenL (insO L key (key.size : Int)).2 (fun k => k = key ∨ K k) := by
  unfold insO
  by_cases hs : 2000 < key.size
  · rw [if_pos hs]
    intro e
    rw [h e]
    constructor
    · rintro ⟨a, b, c⟩; exact ⟨Or.inr a, b, c⟩
    · rintro ⟨rfl | a, b, c⟩
      · omega
      · exact ⟨a, b, c⟩
  · rw [if_neg hs]
    cases hg : getL L key with
    | none =>
      intro e
      simp only
      rw [mem_addL (e := ⟨key, key.size, false⟩) hg, h e]
      constructor
      · rintro (rfl | ⟨a, b, c⟩)
        · exact ⟨Or.inl rfl, by simp only; omega, rfl, rfl⟩
        · exact ⟨Or.inr a, b, c⟩
      · rintro ⟨rfl | a, b, c, d⟩
        · obtain ⟨k, n, g⟩ := e
          simp only at c d
          subst c d
          exact Or.inl rfl
        · exact Or.inr ⟨a, b, c, d⟩
    | some e0 =>
      obtain ⟨hm, hk⟩ := getL_mem hg
      have he0 := (h e0).1 hm
      simp only [he0.2.2.2]
      intro e
      simp only [Bool.false_eq_true, if_false]
      rw [h e]
      constructor
      · rintro ⟨a, b, c⟩; exact ⟨Or.inr a, b, c⟩
      · rintro ⟨rfl | a, b, c⟩
        · exact ⟨by rw [← hk]; exact he0.1, b, c⟩
        · exact ⟨a, b, c⟩
theorem LenL.mono {L : List E} {K K' : ByteArray → Prop} (h : LenL L K) (hk : ∀ k, K' k ↔ K k) : LenL L K' := fun e => by rw [h e, hk]
theorem LenL.eq {A B : List E} {K : ByteArray → Prop} (ha : Line A) (hb : Line B) (h : LenL A K) (h' : LenL B K) : A = B := ha.ext hb (fun x => by rw [h x, h' x])
theorem len_ins (L : List E) (key : ByteArray) (n : Int) : (insO L key n).2.length ≤ L.length + 1 := by
  unfold insO
  split
  · simp
  · split
    · rename_i h; rw [len_add (x := ⟨key, n, false⟩) h]; exact Nat.le_refl _
    · split
      · rw [len_set]; omega
      · simp
theorem len_gho (L : List E) (key : ByteArray) : (ghostO L key).2.length = L.length := by
  unfold ghostO
  split
  · rfl
  · split
    · rfl
    · exact len_set _ _
theorem len_pur (L : List E) (key : ByteArray) : (purgeO L key).2.length ≤ L.length := by
  unfold purgeO
  split
  · exact Nat.le_refl _
  · split
    · exact len_del _ _
    · exact Nat.le_refl _
/-- No block of both. -/
def Dis (a b : Ro) : Prop := ∀ k, a k ≠ none → b k = none
theorem Dis.symm {a b : Ro} (h : Dis a b) : Dis b a := fun k hk => Classical.byContradiction fun hn => hk (h k hn)
theorem TB.side {w0 w w' : World} {ra ra' rb : Ro} {b : Value} {Lb : List E} (hB : TB w0 w rb b Lb) (hd : Dis ra rb) (hto : TTo w ra w' ra') (hbl : Below w0.heap.size w0 w') : TB w0 w' rb b Lb ∧ Dis ra' rb :=
  ⟨⟨hB.tr.keep hto.fr (fun k hk hn => hk (hd k hn)), hbl⟩, fun k hk => Classical.byContradiction fun hn => by
    rcases hto.gr k hk with h | h
    · exact hn (hd k h)
    · have := (hB.tr.lo k hn).2; omega⟩
/-- Two trees. -/
def T2 (w0 w : World) (a b : Value) (La Lb : List E) : Prop := ∃ ra rb, TB w0 w ra a La ∧ TB w0 w rb b Lb ∧ Dis ra rb
theorem T2.below {w0 w w' : World} {a b : Value} {La Lb : List E} (h : T2 w0 w a b La Lb) (hb : Below w.heap.size w w') : T2 w0 w' a b La Lb := by
  obtain ⟨ra, rb, h1, h2, h3⟩ := h
  exact ⟨ra, rb, h1.below hb, h2.below hb, h3⟩
theorem T2.bl {w0 w : World} {a b : Value} {La Lb : List E} (h : T2 w0 w a b La Lb) : Below w0.heap.size w0 w := by
  obtain ⟨ra, rb, h1, h2, h3⟩ := h
  exact h1.bl
theorem T2.swap {w0 w : World} {a b : Value} {La Lb : List E} (h : T2 w0 w a b La Lb) : T2 w0 w b a Lb La := by
  obtain ⟨ra, rb, h1, h2, h3⟩ := h
  exact ⟨rb, ra, h2, h1, h3.symm⟩
theorem T2.insA {w0 w : World} {a b : Value} {La Lb : List E} (h : T2 w0 w a b La Lb) (hlen : La.length ≤ 900000) (key : ByteArray) (n : Int) : Calls Try.prog 14 #[a, .string key, .int .i64 n] w fun e w' => e = .returned (.int .i64 (insO La key n).1) ∧ T2 w0 w' a b (insO La key n).2 Lb := by
  obtain ⟨ra, rb, h1, h2, h3⟩ := h
  refine (h1.ins hlen key n).mono ?_
  rintro e w' ⟨ro', he, ht, hto⟩
  obtain ⟨k1, k2⟩ := h2.side h3 hto ht.bl
  exact ⟨he, ro', rb, ht, k1, k2⟩
theorem t2_new {w0 w : World} {ra : Ro} {a : Value} {La : List E} (h : TB w0 w ra a La) : Calls Try.prog 8 #[] w fun e w' => ∃ b, e = .returned (pt b) ∧ T2 w0 w' a (pt b) La [] := by
  refine (tb_new w0 w h.bl).mono ?_
  rintro e w' ⟨ro, b, he, ht, hb, hn⟩
  exact ⟨b, he, ra, ro, h.below hb, ht, fun k hk => Classical.byContradiction fun h2 => by
    have h3 := hn k h2
    have h4 := (h.tr.lo k hk).2
    omega⟩
end Go.Proofs.Ytfobcnmhghfanaa

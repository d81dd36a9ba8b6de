/- The line of entries: what is looked for, comes, turns and goes; pure. -/
import Derived.Test.YtfobcnmhghfanaaB9M2
namespace Go.Proofs.Ytfobcnmhghfanaa
open Go.RowKit
set_option linter.unusedVariables false
set_option linter.unusedSimpArgs false

/-- Is an entry from a key on? -/
def nextP (key : ByteArray) (is : Bool) (e : E) : Bool := kl key e.key || (is && decide (e.key = key))
/-- The first entry from a key on. -/
def nextL (L : List E) (key : ByteArray) (is : Bool) : Option E := L.find? (nextP key is)
/-- A key's entry. -/
def getL (L : List E) (key : ByteArray) : Option E := L.find? (fun e => decide (e.key = key))
def addL (L : List E) (e : E) : List E := L.filter (fun x => kl x.key e.key) ++ e :: L.filter (fun x => kl e.key x.key)
def delL (L : List E) (key : ByteArray) : List E := L.filter (fun x => !decide (x.key = key))
def setL (L : List E) (e : E) : List E := L.map (fun x => if x.key = e.key then e else x)
def liveN (L : List E) : Nat := L.countP (fun e => !e.ghost)
def ghostN (L : List E) : Nat := L.countP (fun e => e.ghost)
theorem nextP_lt {key : ByteArray} {is : Bool} {e : E} (h : kl e.key key = true) : nextP key is e = false := by
  have h1 := kl_asymm h
  have h2 : e.key ≠ key := fun e' => by rw [e', kl_irrefl] at h; cases h
  simp [nextP, h1, h2]
theorem nextP_gt {key : ByteArray} {is : Bool} {e : E} (h : kl key e.key = true) : nextP key is e = true := by simp [nextP, h]
theorem nextP_mono {key : ByteArray} {is : Bool} {a b : E} (h : kl a.key b.key = true) (ha : nextP key is a = true) : nextP key is b = true := by
  simp only [nextP, Bool.or_eq_true, Bool.and_eq_true, decide_eq_true_eq] at ha
  rcases ha with ha | ⟨_, ha⟩
  · exact nextP_gt (kl_trans ha h)
  · rw [ha] at h; exact nextP_gt h
theorem get_next {L : List E} (hl : Line L) (key : ByteArray) : getL L key = match nextL L key true with | some e => (if e.key = key then some e else none) | none => none := by
  induction L with
  | nil => rfl
  | cons x t ih =>
    have hx := List.pairwise_cons.1 hl
    unfold getL nextL at ih ⊢
    rw [List.find?_cons, List.find?_cons]
    by_cases e : x.key = key
    · have : nextP key true x = true := by simp [nextP, e]
      simp [e, this]
    · cases hk : kl key x.key with
      | true =>
        rw [nextP_gt hk]
        simp only [e, decide_false, if_false]
        rw [List.find?_eq_none]
        intro y hy
        have := kl_trans hk (hx.1 y hy)
        simp only [decide_eq_true_eq]
        exact fun e' => by rw [e', kl_irrefl] at this; cases this
      | false =>
        have : nextP key true x = false := by simp [nextP, hk, e]
        rw [this]
        simp only [e, decide_false]
        exact ih hx.2
theorem getL_mem {L : List E} {key : ByteArray} {e : E} (h : getL L key = some e) : e ∈ L ∧ e.key = key := ⟨List.mem_of_find?_eq_some h, by simpa using List.find?_some h⟩
theorem getL_none {L : List E} {key : ByteArray} (h : getL L key = none) : ∀ e ∈ L, e.key ≠ key := fun e he => by simpa using List.find?_eq_none.1 h e he
/-- Where the entries from a key on begin. -/
structure Bnd (es : List E) (key : ByteArray) (is : Bool) (i : Nat) : Prop where
  le : i ≤ es.length
  lo : ∀ t (h : t < es.length), t < i → nextP key is es[t] = false
  hi : ∀ t (h : t < es.length), i ≤ t → nextP key is es[t] = true
theorem Line.mono {es : List E} (h : Line es) {key : ByteArray} {is : Bool} {a b : Nat} (hab : a ≤ b) (hb : b < es.length) (ha : nextP key is (es[a]'(by omega)) = true) : nextP key is es[b] = true := by
  by_cases e : a = b
  · subst e; exact ha
  · exact nextP_mono (List.pairwise_iff_getElem.1 h a b (by omega) hb (by omega)) ha
theorem find_skip {X Y : List E} {f : E → Bool} (h : ∀ x ∈ X, f x = false) : (X ++ Y).find? f = Y.find? f := by
  rw [List.find?_append, List.find?_eq_none.2 (fun x hx => by simp [h x hx])]; rfl
theorem find_head {Y : List E} {f : E → Bool} (h : ∀ x ∈ Y, f x = true) : Y.find? f = Y.head? := by
  cases Y with
  | nil => rfl
  | cons y t => rw [List.find?_cons, h y (by simp)]; rfl
theorem Bnd.parts {es : List E} {key : ByteArray} {is : Bool} {i : Nat} (h : Bnd es key is i) : (∀ x ∈ es.take i, nextP key is x = false) ∧ (∀ x ∈ es.drop i, nextP key is x = true) := by
  constructor
  · intro x hx
    obtain ⟨t, ht, rfl⟩ := List.getElem_of_mem hx
    rw [List.getElem_take]
    rw [List.length_take] at ht
    exact h.lo t (by omega) (by omega)
  · intro x hx
    obtain ⟨t, ht, rfl⟩ := List.getElem_of_mem hx
    rw [List.getElem_drop]
    rw [List.length_drop] at ht
    exact h.hi (i + t) (by omega) (by omega)
theorem split_at {es : List E} {i : Nat} (hi : i < es.length) : es = es.take i ++ es[i] :: es.drop (i + 1) := by
  rw [← List.drop_eq_getElem_cons hi, List.take_append_drop]
theorem app_at {es Y : List E} {i : Nat} (hi : i < es.length) : es ++ Y = es.take i ++ es[i] :: (es.drop (i + 1) ++ Y) := (congrArg (fun l => l ++ Y) (split_at hi)).trans (List.append_assoc _ _ _)
theorem next_in {X es Y : List E} {key : ByteArray} {is : Bool} {i : Nat} (hX : ∀ e ∈ X, kl e.key key = true) (hb : Bnd es key is i) (hi : i < es.length) : nextL (X ++ (es ++ Y)) key is = some es[i] := by
  unfold nextL
  rw [find_skip (fun x hx => nextP_lt (hX x hx)), app_at hi, find_skip hb.parts.1, List.find?_cons, hb.hi i hi (Nat.le_refl _)]
theorem next_out {X es Y : List E} {key : ByteArray} {is : Bool} {i : Nat} (hX : ∀ e ∈ X, kl e.key key = true) (hY : ∀ e ∈ Y, kl key e.key = true) (hb : Bnd es key is i) (hi : ¬ i < es.length) : nextL (X ++ (es ++ Y)) key is = Y.head? := by
  unfold nextL
  have hp := hb.parts.1
  rw [List.take_of_length_le (by omega)] at hp
  rw [find_skip (fun x hx => nextP_lt (hX x hx)), find_skip hp, find_head (fun x hx => nextP_gt (hY x hx))]
theorem filter_all {X : List E} {f : E → Bool} (h : ∀ x ∈ X, f x = true) : X.filter f = X := List.filter_eq_self.2 h
theorem filter_none {X : List E} {f : E → Bool} (h : ∀ x ∈ X, f x = false) : X.filter f = [] := List.filter_eq_nil_iff.2 (fun x hx => by simp [h x hx])
theorem add_at {X es Y : List E} {e : E} {i : Nat} (hX : ∀ x ∈ X, kl x.key e.key = true) (hY : ∀ x ∈ Y, kl e.key x.key = true) (hb : Bnd es e.key true i) (hno : ∀ x ∈ es, x.key ≠ e.key) : addL (X ++ (es ++ Y)) e = X ++ ((es.take i ++ e :: es.drop i) ++ Y) := by
  have h1 : ∀ x ∈ es.take i, kl x.key e.key = true := fun x hx => by
    have h2 := hb.parts.1 x hx
    have h3 := hno x (List.mem_of_mem_take hx)
    simp only [nextP, h3, decide_false, Bool.and_false, Bool.or_false] at h2
    cases h4 : kl x.key e.key with
    | true => rfl
    | false => exact absurd (kl_eq h4 h2) h3
  have h2 : ∀ x ∈ es.drop i, kl e.key x.key = true := fun x hx => by
    have h2 := hb.parts.2 x hx
    have h3 := hno x (List.mem_of_mem_drop hx)
    simpa only [nextP, h3, decide_false, Bool.and_false, Bool.or_false] using h2
  unfold addL
  have es_eq : es = es.take i ++ es.drop i := (List.take_append_drop i es).symm
  have e1 : (X ++ (es ++ Y)).filter (fun x => kl x.key e.key) = X ++ es.take i := by
    rw [List.filter_append, List.filter_append, filter_all hX, filter_none (X := Y) (fun x hx => kl_asymm (hY x hx))]
    conv => lhs; rw [es_eq]
    rw [List.filter_append, filter_all h1, filter_none (fun x hx => kl_asymm (h2 x hx))]
    simp
  have e2 : (X ++ (es ++ Y)).filter (fun x => kl e.key x.key) = es.drop i ++ Y := by
    rw [List.filter_append, List.filter_append, filter_none (X := X) (fun x hx => kl_asymm (hX x hx)), filter_all hY]
    conv => lhs; rw [es_eq]
    rw [List.filter_append, filter_none (fun x hx => kl_asymm (h1 x hx)), filter_all h2]
    simp
  rw [e1, e2]
  simp
theorem Line.ne {L : List E} (h : Line L) {i j : Nat} (hi : i < L.length) (hj : j < L.length) (hne : i ≠ j) : L[i].key ≠ L[j].key := fun e => by
  rcases Nat.lt_or_ge i j with h1 | h1
  · have := List.pairwise_iff_getElem.1 h i j hi hj h1
    rw [e, kl_irrefl] at this; cases this
  · have := List.pairwise_iff_getElem.1 h j i hj hi (by omega)
    rw [e, kl_irrefl] at this; cases this
theorem Line.parts {X Y : List E} {e : E} (h : Line (X ++ e :: Y)) : (∀ x ∈ X, x.key ≠ e.key) ∧ (∀ x ∈ Y, x.key ≠ e.key) := by
  obtain ⟨_, h2, h3⟩ := List.pairwise_append.1 h
  refine ⟨fun x hx e' => ?_, fun x hx e' => ?_⟩
  · have := h3 x hx e (by simp)
    rw [e', kl_irrefl] at this; cases this
  · have := (List.pairwise_cons.1 h2).1 x hx
    rw [e', kl_irrefl] at this; cases this
theorem del_at {X es Y : List E} {i : Nat} (hi : i < es.length) (hl : Line (X ++ (es ++ Y))) : delL (X ++ (es ++ Y)) es[i].key = X ++ (es.eraseIdx i ++ Y) := by
  have e0 : X ++ (es ++ Y) = (X ++ es.take i) ++ es[i] :: (es.drop (i + 1) ++ Y) := by
    rw [app_at hi, List.append_assoc]
  rw [e0] at hl ⊢
  obtain ⟨h1, h2⟩ := hl.parts
  unfold delL
  rw [List.filter_append, List.filter_cons, filter_all (fun x hx => by simp [h1 x hx]), filter_all (X := es.drop (i + 1) ++ Y) (fun x hx => by simp [h2 x hx]), List.eraseIdx_eq_take_drop_succ]
  simp
theorem map_id' {X : List E} {f : E → E} (h : ∀ x ∈ X, f x = x) : X.map f = X := by
  induction X with
  | nil => rfl
  | cons x t ih => rw [List.map_cons, h x (by simp), ih (fun y hy => h y (by simp [hy]))]
theorem set_split {es : List E} {i : Nat} (hi : i < es.length) (e : E) : es.set i e = es.take i ++ e :: es.drop (i + 1) := by
  rw [List.set_eq_take_append_cons_drop, if_pos hi]
theorem set_at {X es Y : List E} {i : Nat} {e : E} (hi : i < es.length) (he : e.key = es[i].key) (hl : Line (X ++ (es ++ Y))) : setL (X ++ (es ++ Y)) e = X ++ (es.set i e ++ Y) := by
  have e0 : X ++ (es ++ Y) = (X ++ es.take i) ++ es[i] :: (es.drop (i + 1) ++ Y) := by
    rw [app_at hi, List.append_assoc]
  rw [e0] at hl ⊢
  obtain ⟨h1, h2⟩ := hl.parts
  unfold setL
  rw [he, List.map_append, List.map_cons, map_id' (fun x hx => by simp [h1 x hx]), map_id' (X := es.drop (i + 1) ++ Y) (fun x hx => by simp [h2 x hx]), set_split hi]
  simp
/-- An entry comes into the leaf where it belongs. -/
theorem Shape.addE {nd nd' : Nat → Nd} {r H : Nat} {lv : Nat → List Br} {dep : Nat → Nat} (h : Shape nd r H lv dep) {e : E} {A B : List Br} {p : Br} (hp : Path lv e.key H A p B) {i : Nat} (hb : Bnd (nd p.2).es e.key true i) (hno : getL (ents nd (lv H)) e.key = none) (h2 : (nd' p.2).bs = (nd p.2).bs) (ho : ∀ b, b ≠ p.2 → nd' b = nd b) (hes : (nd' p.2).es = (nd p.2).es.take i ++ e :: (nd p.2).es.drop i) :
    Shape nd' r H lv dep ∧ ents nd' (lv H) = addL (ents nd (lv H)) e := by
  obtain ⟨hA, hB⟩ := h.at_leaf hp
  have eL : ents nd (lv H) = ents nd A ++ ((nd p.2).es ++ ents nd B) := by rw [hp.at_, ents_append, ents_cons]
  have hne : ∀ x ∈ (nd p.2).es, x.key ≠ e.key := fun x hx => getL_none hno x (by rw [eL]; simp [hx])
  have h1 : ∀ x ∈ (nd p.2).es.take i, kl x.key e.key = true := fun x hx => by
    have h2 := hb.parts.1 x hx
    have h3 := hne x (List.mem_of_mem_take hx)
    simp only [nextP, h3, decide_false, Bool.and_false, Bool.or_false] at h2
    cases h4 : kl x.key e.key with
    | true => rfl
    | false => exact absurd (kl_eq h4 h2) h3
  have h1' : ∀ x ∈ (nd p.2).es.drop i, kl e.key x.key = true := fun x hx => by
    have h2 := hb.parts.2 x hx
    have h3 := hne x (List.mem_of_mem_drop hx)
    simpa only [nextP, h3, decide_false, Bool.and_false, Bool.or_false] using h2
  have hord := h.ord
  rw [hp.at_, List.flatMap_append, List.flatMap_cons] at hord
  have eits : its nd p = ((p.1, false) :: ((nd p.2).es.take i).map (fun e => (e.key, true))) ++ ((nd p.2).es.drop i).map (fun e => (e.key, true)) := by
    unfold its
    rw [List.cons_append, ← List.map_append, List.take_append_drop]
  have hlowB : ∀ y ∈ B.flatMap (its nd), kl e.key y.1 = true := fun y hy => by
    obtain ⟨q, hq, hy⟩ := List.mem_flatMap.1 hy
    unfold its at hy
    rcases List.mem_cons.1 hy with rfl | hy
    · exact hp.hi q hq
    · obtain ⟨x, hx, rfl⟩ := List.mem_map.1 hy
      exact hB x (List.mem_flatMap.2 ⟨q, hq, hx⟩)
  have hlowA : ∀ y ∈ A.flatMap (its nd), R y (e.key, true) := fun y hy => by
    have := (List.pairwise_append.1 hord).2.2 y hy (p.1, false) (by rw [eits]; simp)
    rcases this with h | ⟨h, h'⟩
    · exact Or.inl (kl_lt_le h hp.lo)
    · cases hk : kl p.1 e.key with
      | true => exact Or.inl (by rw [h]; exact hk)
      | false => exact Or.inr ⟨by rw [h]; exact kl_eq hk hp.lo, h'⟩
  have hlow : R (p.1, false) (e.key, true) := by
    cases hk : kl p.1 e.key with
    | true => exact Or.inl hk
    | false => exact Or.inr ⟨kl_eq hk hp.lo, rfl⟩
  have := h.setEs hp.at_ h2 ho (by
    rw [hes, List.map_append, List.map_cons]
    rw [eits] at hord
    have e1 : A.flatMap (its nd) ++ ((p.1, false) :: (((nd p.2).es.take i).map (fun e => (e.key, true)) ++ (e.key, true) :: ((nd p.2).es.drop i).map (fun e => (e.key, true))) ++ B.flatMap (its nd)) = (A.flatMap (its nd) ++ ((p.1, false) :: ((nd p.2).es.take i).map (fun e => (e.key, true)))) ++ (e.key, true) :: (((nd p.2).es.drop i).map (fun e => (e.key, true)) ++ B.flatMap (its nd)) := by simp
    have e2 : A.flatMap (its nd) ++ (((p.1, false) :: ((nd p.2).es.take i).map (fun e => (e.key, true))) ++ ((nd p.2).es.drop i).map (fun e => (e.key, true)) ++ B.flatMap (its nd)) = (A.flatMap (its nd) ++ ((p.1, false) :: ((nd p.2).es.take i).map (fun e => (e.key, true)))) ++ (((nd p.2).es.drop i).map (fun e => (e.key, true)) ++ B.flatMap (its nd)) := by simp only [List.append_assoc, List.cons_append]
    rw [e2] at hord
    rw [e1]
    obtain ⟨k1, k2, k3⟩ := List.pairwise_append.1 hord
    refine List.pairwise_append.2 ⟨k1, List.pairwise_cons.2 ⟨fun y hy => ?_, k2⟩, fun x hx y hy => ?_⟩
    · rcases List.mem_append.1 hy with hy | hy
      · obtain ⟨z, hz, rfl⟩ := List.mem_map.1 hy
        exact Or.inl (h1' z hz)
      · exact Or.inl (hlowB y hy)
    · rcases List.mem_cons.1 hy with rfl | hy
      · rcases List.mem_append.1 hx with hx | hx
        · exact hlowA x hx
        · rcases List.mem_cons.1 hx with rfl | hx
          · exact hlow
          · obtain ⟨z, hz, rfl⟩ := List.mem_map.1 hx
            exact Or.inl (h1 z hz)
      · exact k3 x hx y hy)
  refine ⟨this.1, ?_⟩
  rw [this.2, hes, eL, add_at hA hB hb hne]
/-- An entry goes out of its leaf. -/
theorem Shape.delE {nd nd' : Nat → Nd} {r H : Nat} {lv : Nat → List Br} {dep : Nat → Nat} (h : Shape nd r H lv dep) {A B : List Br} {p : Br} (hp : lv H = A ++ p :: B) {i : Nat} (hi : i < (nd p.2).es.length) (h2 : (nd' p.2).bs = (nd p.2).bs) (ho : ∀ b, b ≠ p.2 → nd' b = nd b) (hes : (nd' p.2).es = (nd p.2).es.eraseIdx i) :
    Shape nd' r H lv dep ∧ ents nd' (lv H) = delL (ents nd (lv H)) (nd p.2).es[i].key := by
  have eL : ents nd (lv H) = ents nd A ++ ((nd p.2).es ++ ents nd B) := by rw [hp, ents_append, ents_cons]
  have hl := h.line
  have hord := h.ord
  rw [hp, List.flatMap_append, List.flatMap_cons] at hord
  have := h.setEs hp h2 ho (by
    rw [hes]
    refine hord.sublist (List.Sublist.append (List.Sublist.refl _) (List.Sublist.append (List.Sublist.cons_cons _ ?_) (List.Sublist.refl _)))
    exact List.Sublist.map _ (List.eraseIdx_sublist _ _))
  refine ⟨this.1, ?_⟩
  rw [eL] at hl ⊢
  rw [this.2, hes, del_at hi hl]
/-- An entry turns. -/
theorem Shape.setE {nd nd' : Nat → Nd} {r H : Nat} {lv : Nat → List Br} {dep : Nat → Nat} (h : Shape nd r H lv dep) {A B : List Br} {p : Br} (hp : lv H = A ++ p :: B) {i : Nat} (hi : i < (nd p.2).es.length) {e : E} (he : e.key = (nd p.2).es[i].key) (h2 : (nd' p.2).bs = (nd p.2).bs) (ho : ∀ b, b ≠ p.2 → nd' b = nd b) (hes : (nd' p.2).es = (nd p.2).es.set i e) :
    Shape nd' r H lv dep ∧ ents nd' (lv H) = setL (ents nd (lv H)) e := by
  have eL : ents nd (lv H) = ents nd A ++ ((nd p.2).es ++ ents nd B) := by rw [hp, ents_append, ents_cons]
  have hl := h.line
  have hord := h.ord
  rw [hp, List.flatMap_append, List.flatMap_cons] at hord
  have hk : ((nd p.2).es.set i e).map (fun e => (e.key, true)) = (nd p.2).es.map (fun e => (e.key, true)) := by
    rw [List.map_set, he]
    exact List.ext_getElem (by simp) (fun j h1 h2 => by rw [List.getElem_set]; split <;> simp_all)
  have := h.setEs hp h2 ho (by rw [hes, hk]; exact hord)
  refine ⟨this.1, ?_⟩
  rw [eL] at hl ⊢
  rw [this.2, hes, set_at hi he hl]
end Go.Proofs.Ytfobcnmhghfanaa

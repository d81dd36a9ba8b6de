/- The table of locks: who comes first; what is short; who waits for whom; pure. -/
import Derived.Test.YtmldpbgdjlblmaaDoorL11Q
namespace Go.Proofs.YtmldpbgdjlblmaaDoor
open Go.RowKit
set_option linter.unusedVariables false
set_option linter.unusedSimpArgs false

/-- Who comes first is first. -/
def FI (L : List Rq) : Prop := ∀ (k i : Nat) (e r : Rq), k < i → L[k]? = some e → L[i]? = some r → e.gr = false → r.gr = true → e.tx ≠ r.tx → e.ob = r.ob → fi e.md r.md = false → ∃ (j : Nat) (g : Rq), j ≠ i ∧ L[j]? = some g ∧ g.gr = true ∧ g.tx = r.tx ∧ g.ob = r.ob
theorem FI.nil : FI [] := fun k i e r _ h => by simp at h
theorem clash_self {e r : Rq} (hp : pl e.ob = true) (h1 : e.tx ≠ r.tx) (h2 : e.ob = r.ob) (h3 : fi e.md r.md = false) : ag e r = true := by
  have := (self_all hp).1
  simp only [ag, Bool.and_eq_true, decide_eq_true_eq]
  refine ⟨⟨h1, by rw [← h2]; exact this⟩, by simp [h3]⟩
theorem wb_of {pre : List Rq} {e r : Rq} (he : e ∈ pre) (hg : e.gr = false) (ha : ag e r = true) : wb pre r = true := by
  unfold wb
  rw [List.any_eq_true]
  exact ⟨e, he, by simp [hg, ha]⟩
theorem cvn_of {pre : List Rq} {r : Rq} (h : cvn pre r = true) : ∃ g ∈ pre, g.gr = true ∧ g.tx = r.tx ∧ g.ob = r.ob := by
  unfold cvn at h
  rw [List.any_eq_true] at h
  obtain ⟨g, hg, h⟩ := h
  simp only [cg, Bool.and_eq_true, decide_eq_true_eq] at h
  exact ⟨g, hg, h.1.1, h.1.2, oe_iff.1 h.2⟩
theorem may_cvn {pre suf : List Rq} {r : Rq} (h : mayP pre r suf = true) (hw : wb pre r = true) : cvn pre r = true := by
  simp only [mayP, hw] at h
  simp at h
  exact h.2
theorem FI.push {L : List Rq} (h : FI L) (hr : ∀ r ∈ L, pl r.ob = true) (x : Rq) (hg : x.gr = mayP L x []) : FI (L ++ [x]) := by
  intro k i e r hki h1 h2 he hr' ht ho hf
  have hil : i < (L ++ [x]).length := (List.getElem?_eq_some_iff.1 h2).1
  rw [List.length_append, List.length_singleton] at hil
  rw [List.getElem?_append_left (by omega)] at h1
  by_cases hi : i < L.length
  · rw [List.getElem?_append_left hi] at h2
    obtain ⟨j, g, q1, q2, q3⟩ := h k i e r hki h1 h2 he hr' ht ho hf
    exact ⟨j, g, q1, by rw [List.getElem?_append_left (List.getElem?_eq_some_iff.1 q2).1]; exact q2, q3⟩
  · obtain rfl : i = L.length := by omega
    rw [List.getElem?_append_right (Nat.le_refl _)] at h2
    simp at h2
    subst h2
    have hm : e ∈ L := List.mem_of_getElem? h1
    have hw := wb_of hm he (clash_self (hr e hm) ht ho hf)
    obtain ⟨g, g1, g2⟩ := cvn_of (may_cvn (by rw [← hg]; exact hr') hw)
    obtain ⟨j, hj, e1⟩ := List.getElem_of_mem g1
    exact ⟨j, g, by omega, by rw [List.getElem?_append_left hj, List.getElem?_eq_getElem hj, e1], g2⟩
theorem FI.map {L : List Rq} (h : FI L) {f : Rq → Rq} (hf : ∀ r, (f r).like r) : FI (L.map f) := by
  intro k i e r hki h1 h2 he hr' ht ho hff
  rw [List.getElem?_map] at h1 h2
  obtain ⟨e', e1, rfl⟩ := Option.map_eq_some_iff.1 h1
  obtain ⟨r', r1, rfl⟩ := Option.map_eq_some_iff.1 h2
  obtain ⟨a1, a2, a3, a4⟩ := hf e'
  obtain ⟨b1, b2, b3, b4⟩ := hf r'
  rw [a4] at he; rw [b4] at hr'; rw [a1, b1] at ht; rw [a2, b2] at ho; rw [a3, b3] at hff
  obtain ⟨j, g, q1, q2, q3, q4, q5⟩ := h k i e' r' hki e1 r1 he hr' ht ho hff
  obtain ⟨c1, c2, c3, c4⟩ := hf g
  exact ⟨j, f g, q1, by rw [List.getElem?_map, q2]; rfl, by rw [c4]; exact q3, by rw [c1, b1]; exact q4, by rw [c2, b2]; exact q5⟩
theorem filter_idx (p : Rq → Bool) : ∀ l : List Rq, ∃ f : Nat → Nat, (∀ i j, i < j → f i < f j) ∧ (∀ i, i < (l.filter p).length → (l.filter p)[i]? = l[f i]?) ∧ ∀ j r, l[j]? = some r → p r = true → ∃ i, f i = j ∧ i < (l.filter p).length := by
  intro l
  induction l with
  | nil => exact ⟨id, fun i j h => h, fun i hi => by simp at hi, fun j r h => by simp at h⟩
  | cons a l ih =>
    obtain ⟨f, f1, f2, f3⟩ := ih
    cases hp : p a with
    | true =>
      refine ⟨fun i => match i with | 0 => 0 | i + 1 => f i + 1, ?_, ?_, ?_⟩
      · intro i j hij
        cases j with
        | zero => omega
        | succ j =>
          cases i with
          | zero => show 0 < f j + 1; omega
          | succ i => show f i + 1 < f j + 1; have := f1 i j (by omega); omega
      · intro i hi
        rw [List.filter_cons_of_pos hp] at hi ⊢
        cases i with
        | zero => rfl
        | succ i => simpa using f2 i (by simpa using hi)
      · intro j r hj hr
        rw [List.filter_cons_of_pos hp]
        cases j with
        | zero => exact ⟨0, rfl, by simp⟩
        | succ j =>
          obtain ⟨i, i1, i2⟩ := f3 j r (by simpa using hj) hr
          exact ⟨i + 1, by show f i + 1 = j + 1; omega, by simpa using i2⟩
    | false =>
      refine ⟨fun i => f i + 1, fun i j hij => by have := f1 i j hij; show f i + 1 < f j + 1; omega, ?_, ?_⟩
      · intro i hi
        rw [List.filter_cons_of_neg (by simp [hp])] at hi ⊢
        simpa using f2 i hi
      · intro j r hj hr
        rw [List.filter_cons_of_neg (by simp [hp])]
        cases j with
        | zero => simp at hj; subst hj; rw [hp] at hr; cases hr
        | succ j =>
          obtain ⟨i, i1, i2⟩ := f3 j r (by simpa using hj) hr
          exact ⟨i, by show f i + 1 = j + 1; omega, i2⟩
theorem FI.drop {L : List Rq} (h : FI L) (tx : Int) : FI (L.filter (stays tx true)) := by
  obtain ⟨f, f1, f2, f3⟩ := filter_idx (stays tx true) L
  intro k i e r hki h1 h2 he hr ht ho hf
  have hk := (List.getElem?_eq_some_iff.1 h1).1
  have hi := (List.getElem?_eq_some_iff.1 h2).1
  have hm : r ∈ L.filter (stays tx true) := List.mem_of_getElem? h2
  have hs := (List.mem_filter.1 hm).2
  rw [f2 k hk] at h1
  rw [f2 i hi] at h2
  obtain ⟨j, g, q1, q2, q3, q4, q5⟩ := h (f k) (f i) e r (f1 k i hki) h1 h2 he hr ht ho hf
  have hg : stays tx true g = true := by
    simp only [stays] at hs ⊢
    rw [q4]; exact hs
  obtain ⟨j', e1, e2⟩ := f3 j g q2 hg
  exact ⟨j', g, fun e => q1 (by rw [← e1, e]), by rw [f2 j' e2, e1]; exact q2, q3, q4, q5⟩
theorem grant_at {L : List Rq} {p j : Nat} : (grant L p)[j]? = if j = p then L[j]?.map gset else L[j]? := by
  unfold grant
  rw [List.getElem?_modify]
  by_cases e : p = j
  · subst e
    simp
  · rw [if_neg (fun h => e h.symm)]
    simp [e]
theorem FI.grant {L : List Rq} (h : FI L) (hr : ∀ r ∈ L, pl r.ob = true) {p : Nat} (hp : isMay L p = true) : FI (grant L p) := by
  intro k i e r hki h1 h2 he hr' ht ho hf
  rw [grant_at] at h1 h2
  have hkp : k ≠ p := by
    intro e'
    rw [if_pos e'] at h1
    obtain ⟨x, _, hx⟩ := Option.map_eq_some_iff.1 h1
    rw [← hx] at he
    cases he
  rw [if_neg hkp] at h1
  by_cases hip : i = p
  · subst hip
    rw [if_pos rfl] at h2
    obtain ⟨q, hq, rfl⟩ := Option.map_eq_some_iff.1 h2
    unfold isMay at hp
    rw [hq] at hp
    simp only [Bool.and_eq_true] at hp
    have hm : e ∈ L.take i := by
      obtain ⟨hk, e1⟩ := List.getElem?_eq_some_iff.1 h1
      rw [List.mem_take_iff_getElem]
      exact ⟨k, by omega, e1⟩
    have hw : wb (L.take i) q = true := wb_of hm he (clash_self (hr e (List.mem_of_getElem? h1)) ht ho hf)
    obtain ⟨g, g1, g2, g3, g4⟩ := cvn_of (may_cvn hp.2 hw)
    rw [List.mem_take_iff_getElem] at g1
    obtain ⟨j, hj, e1⟩ := g1
    have hji : j < i := by omega
    refine ⟨j, g, by omega, ?_, g2, g3, g4⟩
    rw [grant_at, if_neg (by omega), List.getElem?_eq_getElem (by omega), e1]
  · rw [if_neg hip] at h2
    obtain ⟨j, g, q1, q2, q3, q4, q5⟩ := h k i e r hki h1 h2 he hr' ht ho hf
    refine ⟨j, if j = p then gset g else g, q1, ?_, ?_, ?_, ?_⟩
    · rw [grant_at]
      by_cases e' : j = p
      · rw [if_pos e', if_pos e', q2]; rfl
      · rw [if_neg e', if_neg e']; exact q2
    · split
      · rfl
      · exact q3
    · split
      · exact q4
      · exact q4
    · split
      · exact q5
      · exact q5
theorem FI.wake {L : List Rq} (h : FI L) (hp : TPre L) : FI (wake L).1 := by
  refine wake_ind (P := fun L W => FI L → TPre L → FI W.1) (fun L _ h _ => h) (fun L i hf ih h hp => ih (h.grant (fun r hr => (hp.right r hr).2.1) (fm_some hf).1) (hp.grant (fm_some hf).1)) L h hp
theorem FI.end_ {L : List Rq} (h : FI L) (hT : TInv L) (tx : Int) : FI (endF L tx true).1 := (h.drop tx).wake (hT.pre.filter _)
theorem FI.ask {L : List Rq} (h : FI L) (hT : TInv L) (most tx : Int) (o : Ob) (m : Int) (s : Bool) : FI (askF most L tx o m s).2 := by
  unfold askF
  split
  · exact h
  · split
    · exact h.map (unshort_like tx o m s)
    · split
      · exact h
      · exact h.push (fun r hr => (hT.right r hr).2.1) _ rfl
/-- The numbers of a list, each once, in rising order. -/
def ins (x : Int) : List Int → List Int
  | [] => [x]
  | y :: t => if x < y then x :: y :: t else if x = y then y :: t else y :: ins x t
def sd (l : List Int) : List Int := l.foldr ins []
theorem mem_ins {x y : Int} {l : List Int} : y ∈ ins x l ↔ y = x ∨ y ∈ l := by
  induction l with
  | nil => simp [ins]
  | cons a l ih =>
    unfold ins
    split
    · simp
    · split
      · rename_i h; subst h; simp
      · simp [ih]; constructor <;> (intro h; rcases h with h | h | h <;> simp [h])
theorem ins_sorted {x : Int} {l : List Int} (h : l.Pairwise (· < ·)) : (ins x l).Pairwise (· < ·) := by
  induction l with
  | nil => simp [ins]
  | cons a l ih =>
    rw [List.pairwise_cons] at h
    unfold ins
    split
    · rename_i hx
      rw [List.pairwise_cons, List.pairwise_cons]
      refine ⟨fun y hy => ?_, h⟩
      rcases List.mem_cons.1 hy with rfl | hy
      · exact hx
      · have := h.1 y hy; omega
    · split
      · rw [List.pairwise_cons]; exact h
      · rw [List.pairwise_cons]
        refine ⟨fun y hy => ?_, ih h.2⟩
        rcases mem_ins.1 hy with rfl | hy
        · omega
        · exact h.1 y hy
theorem mem_sd {y : Int} {l : List Int} : y ∈ sd l ↔ y ∈ l := by
  induction l with
  | nil => simp [sd]
  | cons a l ih => show y ∈ ins a (sd l) ↔ _; rw [mem_ins, ih]; simp
theorem sd_sorted (l : List Int) : (sd l).Pairwise (· < ·) := by
  induction l with
  | nil => exact List.Pairwise.nil
  | cons a l ih => exact ins_sorted ih
theorem sorted_unique : ∀ {A B : List Int}, A.Pairwise (· < ·) → B.Pairwise (· < ·) → (∀ x, x ∈ A ↔ x ∈ B) → A = B
  | [], [], _, _, _ => rfl
  | [], b :: B, _, _, h => by have := (h b).2 (by simp); cases this
  | a :: A, [], _, _, h => by have := (h a).1 (by simp); cases this
  | a :: A, b :: B, h1, h2, h => by
    rw [List.pairwise_cons] at h1 h2
    have e : a = b := by
      have ha : a ∈ b :: B := (h a).1 (by simp)
      have hb : b ∈ a :: A := (h b).2 (by simp)
      rcases List.mem_cons.1 ha with e | ha
      · exact e
      · rcases List.mem_cons.1 hb with e | hb
        · exact e.symm
        · have q1 := h2.1 a ha
          have q2 := h1.1 b hb
          omega
    subst e
    rw [sorted_unique h1.2 h2.2 (fun x => ⟨fun hx => ?_, fun hx => ?_⟩)]
    · rcases List.mem_cons.1 ((h x).1 (by simp [hx])) with e | hx'
      · have := h1.1 x hx; omega
      · exact hx'
    · rcases List.mem_cons.1 ((h x).2 (by simp [hx])) with e | hx'
      · have := h2.1 x hx; omega
      · exact hx'
/-- Does the request at k keep the one at i from being granted? -/
def blk (L : List Rq) (k i : Nat) : Bool := match L[k]?, L[i]? with
  | some g, some r => !(decide (k = i)) && (if g.gr then ag g r else decide (k < i) && (ag g r || ag r g) && !cvn (L.take i) r)
  | _, _ => false
/-- Whom the request at i waits for. -/
def bks (L : List Rq) (i : Nat) : List Int := ((List.range L.length).filter fun k => blk L k i).map (txAt L)
def edgesAt (L : List Rq) (i : Nat) : List (Int × Int) := match L[i]? with
  | none => []
  | some r => if r.gr then [] else (sd (bks L i)).map fun t => (r.tx, t)
def edgesF (L : List Rq) : List (Int × Int) := (List.range L.length).flatMap (edgesAt L)
theorem blk_may {L : List Rq} {i : Nat} {r : Rq} (hr : L[i]? = some r) (hg : r.gr = false) : isMay L i = false → ∃ k, k < L.length ∧ blk L k i = true := by
  intro h
  obtain ⟨hi, e⟩ := List.getElem?_eq_some_iff.1 hr
  simp only [isMay, hr, hg, Bool.not_false, Bool.true_and] at h
  have three : gb (L.take i) r = true ∨ gb (L.drop (i + 1)) r = true ∨ (cvn (L.take i) r = false ∧ wb (L.take i) r = true) := by
    unfold mayP at h
    cases h1 : gb (L.take i) r <;> cases h2 : gb (L.drop (i + 1)) r <;> cases h3 : cvn (L.take i) r <;> cases h4 : wb (L.take i) r <;> simp_all
  rcases three with h1 | h1 | ⟨h3, h1⟩
  · unfold gb at h1
    rw [List.any_eq_true] at h1
    obtain ⟨g, g1, g2⟩ := h1
    rw [List.mem_take_iff_getElem] at g1
    obtain ⟨k, hk, e1⟩ := g1
    refine ⟨k, by omega, ?_⟩
    simp only [Bool.and_eq_true] at g2
    simp only [blk, List.getElem?_eq_getElem (show k < L.length by omega), e1, hr, g2.1, g2.2]
    simp; omega
  · unfold gb at h1
    rw [List.any_eq_true] at h1
    obtain ⟨g, g1, g2⟩ := h1
    rw [List.mem_drop_iff_getElem] at g1
    obtain ⟨k, hk, e1⟩ := g1
    refine ⟨i + 1 + k, by omega, ?_⟩
    simp only [Bool.and_eq_true] at g2
    simp only [blk, List.getElem?_eq_getElem (show i + 1 + k < L.length by omega), e1, hr, g2.1, g2.2]
    simp; omega
  · unfold wb at h1
    rw [List.any_eq_true] at h1
    obtain ⟨g, g1, g2⟩ := h1
    rw [List.mem_take_iff_getElem] at g1
    obtain ⟨k, hk, e1⟩ := g1
    refine ⟨k, by omega, ?_⟩
    simp only [Bool.and_eq_true, Bool.not_eq_true'] at g2
    simp only [blk, List.getElem?_eq_getElem (show k < L.length by omega), e1, hr, g2.1, g2.2, h3]
    simp; omega
end Go.Proofs.YtmldpbgdjlblmaaDoor

/- The table of locks: one way through is enough; who keeps whom waiting, as the program asks it; pure. -/
import Derived.Test.YtmldpbgdjlblmaaDoorL11R
namespace Go.Proofs.YtmldpbgdjlblmaaDoor
open Go.RowKit
set_option linter.unusedVariables false
set_option linter.unusedSimpArgs false

/-- What waits is the last of its transaction. -/
def LastI (L : List Rq) : Prop := L.Pairwise fun a b => a.gr = false → a.tx ≠ b.tx
theorem LastI.nil : LastI [] := List.Pairwise.nil
theorem LastI.filter {L : List Rq} (h : LastI L) (p : Rq → Bool) : LastI (L.filter p) := List.Pairwise.filter p h
theorem LastI.map {L : List Rq} (h : LastI L) {f : Rq → Rq} (hf : ∀ r, (f r).like r) : LastI (L.map f) := by
  unfold LastI
  rw [List.pairwise_map]
  refine h.imp (fun {a b} hab ga => ?_)
  rw [(hf a).2.2.2] at ga
  rw [(hf a).1, (hf b).1]
  exact hab ga
theorem LastI.grow {A B : List Rq} (h : LastI A) (hg : GrowL A B) : LastI B := by
  induction hg with
  | nil => exact h
  | @cons a b A B h1 h2 ih =>
    unfold LastI at h ⊢
    rw [List.pairwise_cons] at h ⊢
    refine ⟨fun y hy gb' => ?_, ih h.2⟩
    have hb : b.tx = a.tx ∧ (b.gr = false → a.gr = false) := by
      rcases h1 with rfl | rfl
      · exact ⟨rfl, id⟩
      · exact ⟨rfl, fun e => by cases e⟩
    have hr : ∀ {A B : List Rq}, GrowL A B → ∀ y ∈ B, ∃ x ∈ A, x.tx = y.tx := by
      intro A B hAB
      induction hAB with
      | nil => intro y hy; cases hy
      | @cons a b A B h1 _ ih =>
        intro y hy
        rcases List.mem_cons.1 hy with rfl | hy
        · exact ⟨a, by simp, by rcases h1 with rfl | rfl <;> rfl⟩
        · obtain ⟨x, hx, e⟩ := ih y hy
          exact ⟨x, by simp [hx], e⟩
    obtain ⟨x, hx, e⟩ := hr h2 y hy
    rw [hb.1, ← e]
    exact h.1 x hx (hb.2 gb')
theorem LastI.end_ {L : List Rq} (h : LastI L) (tx : Int) (all : Bool) : LastI (endF L tx all).1 := (h.filter _).grow (wake_grow _)
theorem LastI.push {L : List Rq} (h : LastI L) (x : Rq) (hw : ∀ r ∈ L, r.gr = false → r.tx ≠ x.tx) : LastI (L ++ [x]) := by
  unfold LastI
  rw [List.pairwise_append]
  refine ⟨h, List.pairwise_singleton _ _, fun a ha b hb ga => ?_⟩
  rw [List.mem_singleton.1 hb]
  exact hw a ha ga
theorem waitsB_no {L : List Rq} {tx : Int} (h : waitsB L tx = false) : ∀ r ∈ L, r.gr = false → r.tx ≠ tx := by
  intro r hr hg e
  unfold waitsB at h
  rw [List.any_eq_false] at h
  have := h r hr
  simp [hg, e] at this
theorem LastI.ask {L : List Rq} (h : LastI L) (most tx : Int) (o : Ob) (m : Int) (s : Bool) : LastI (askF most L tx o m s).2 := by
  unfold askF
  split
  · exact h
  · rename_i hc
    simp only [Bool.or_eq_true, decide_eq_true_eq, Bool.not_eq_true', not_or] at hc
    split
    · exact h.map (unshort_like tx o m s)
    · split
      · exact h
      · exact h.push _ (waitsB_no (by simpa using hc.2))
/-- Granting one that stands behind makes none that stands ahead grantable. -/
theorem may_ahead {L : List Rq} {j k : Nat} (hjk : j < k) (hk : isMay L k = true) (hj : isMay L j = false) : isMay (grant L k) j = false := by
  obtain ⟨pre, r, suf, rfl, rfl, hr, hm⟩ := isMay_form hk
  rw [grant_split]
  have e1 : (pre ++ gset r :: suf)[j]? = (pre ++ r :: suf)[j]? := by
    rw [List.getElem?_append_left hjk, List.getElem?_append_left hjk]
  unfold isMay at hj ⊢
  rw [e1]
  cases hq : (pre ++ r :: suf)[j]? with
  | none => rfl
  | some q =>
    rw [hq] at hj
    simp only at hj ⊢
    cases hqg : q.gr with
    | true => rfl
    | false =>
      rw [hqg] at hj
      simp only [Bool.not_false, Bool.true_and] at hj ⊢
      rw [List.take_append_of_le_length (by omega)] at hj ⊢
      rw [List.drop_append_of_le_length (by omega)] at hj ⊢
      have e2 : gb (pre.drop (j + 1) ++ gset r :: suf) q = (gb (pre.drop (j + 1) ++ r :: suf) q || ag r q) := by
        simp only [gb, List.any_append, List.any_cons, gset, hr]
        have : ag { tx := r.tx, ob := r.ob, md := r.md, gr := true, sh := r.sh } q = ag r q := rfl
        simp only [Bool.true_and, Bool.false_and, Bool.false_or, this]
        cases (List.any (pre.drop (j + 1)) fun g => g.gr && ag g q) <;> cases ag r q <;> simp
      unfold mayP at hj ⊢
      rw [e2]
      cases h1 : gb (pre.take j) q <;> cases h2 : gb (pre.drop (j + 1) ++ r :: suf) q <;> cases h3 : (cvn (pre.take j) q || !wb (pre.take j) q) <;> simp_all
theorem may_self {L : List Rq} {k : Nat} (hk : isMay L k = true) : isMay (grant L k) k = false := by
  obtain ⟨pre, r, suf, rfl, rfl, hr, hm⟩ := isMay_form hk
  rw [grant_split, isMay_split]
  rfl
/-- One way through, up to a place: the table, and who was woken. -/
def passN (L : List Rq) : Nat → List Rq × List Int
  | 0 => (L, [])
  | k + 1 => if isMay (passN L k).1 k then (grant (passN L k).1 k, (passN L k).2 ++ [txAt L k]) else passN L k
theorem passN_yes {L : List Rq} {k : Nat} (h : isMay (passN L k).1 k = true) : passN L (k + 1) = (grant (passN L k).1 k, (passN L k).2 ++ [txAt L k]) := by simp [passN, h]
theorem passN_no {L : List Rq} {k : Nat} (h : isMay (passN L k).1 k = false) : passN L (k + 1) = passN L k := by simp [passN, h]
theorem passN_len (L : List Rq) (k : Nat) : (passN L k).1.length = L.length := by
  induction k with
  | zero => rfl
  | succ k ih =>
    unfold passN
    split
    · simp only [grant, List.length_modify]; exact ih
    · exact ih
/-- What stands behind is as it was. -/
theorem passN_at (L : List Rq) (k : Nat) : ∀ j, k ≤ j → (passN L k).1[j]? = L[j]? := by
  induction k with
  | zero => intro j _; rfl
  | succ k ih =>
    intro j hj
    unfold passN
    split
    · rw [grant_at, if_neg (by omega)]; exact ih j (by omega)
    · exact ih j (by omega)
theorem passN_grow (L : List Rq) (k : Nat) : ∀ j : Nat, (passN L k).1[j]? = L[j]? ∨ (passN L k).1[j]? = L[j]?.map gset := by
  induction k with
  | zero => intro j; exact Or.inl rfl
  | succ k ih =>
    intro j
    unfold passN
    split
    · rw [grant_at]
      split
      · rcases ih j with e | e
        · rw [e]; exact Or.inr rfl
        · rw [e]; right; cases L[j]? <;> rfl
      · exact ih j
    · exact ih j
theorem txAt_grow (L : List Rq) (k j : Nat) : txAt (passN L k).1 j = txAt L j := by
  unfold txAt
  rcases passN_grow L k j with e | e
  · rw [e]
  · rw [e]; cases L[j]? <;> rfl
theorem passN_may (L : List Rq) (k : Nat) : ∀ j, j < k → isMay (passN L k).1 j = false := by
  induction k with
  | zero => intro j hj; omega
  | succ k ih =>
    intro j hj
    cases hm : isMay (passN L k).1 k with
    | true =>
      rw [passN_yes hm]
      by_cases e : j = k
      · subst e; exact may_self hm
      · exact may_ahead (by omega) hm (ih j (by omega))
    | false =>
      rw [passN_no hm]
      by_cases e : j = k
      · subst e; exact hm
      · exact ih j (by omega)
theorem isMay_lt {L : List Rq} {k : Nat} (h : isMay L k = true) : k < L.length := by
  obtain ⟨pre, r, suf, rfl, rfl, _, _⟩ := isMay_form h
  simp
theorem passN_wake (L : List Rq) (k : Nat) : wake L = ((wake (passN L k).1).1, (passN L k).2 ++ (wake (passN L k).1).2) := by
  induction k with
  | zero => rfl
  | succ k ih =>
    cases hm : isMay (passN L k).1 k with
    | true =>
      have hf : fm (passN L k).1 = some k := fm_at (isMay_lt hm) hm (passN_may L k)
      rw [ih, wake_some hf, passN_yes hm, txAt_grow]
      simp
    | false => rw [passN_no hm]; exact ih
/-- One way through is enough. -/
theorem pass_wake (L : List Rq) : passN L L.length = wake L := by
  have h := passN_wake L L.length
  have hn : fm (passN L L.length).1 = none := fm_no (fun j hj => passN_may L _ j (by rwa [passN_len] at hj))
  rw [wake_none hn] at h
  rw [h]
  simp
/-- A place that does not wait is passed by. -/
theorem passN_skip {L : List Rq} {k : Nat} (h : ∀ r, L[k]? = some r → r.gr = true) : passN L (k + 1) = passN L k := by
  refine passN_no ?_
  unfold isMay
  rw [passN_at L k k (Nat.le_refl _)]
  cases hk : L[k]? with
  | none => rfl
  | some r => simp [h r hk]
theorem passN_last {L : List Rq} (h : LastI L) (k : Nat) : LastI (passN L k).1 := by
  have : ∀ {A B : List Rq}, A.length = B.length → (∀ j : Nat, B[j]? = A[j]? ∨ B[j]? = A[j]?.map gset) → GrowL A B := by
    intro A
    induction A with
    | nil =>
      intro B hl _
      cases B with
      | nil => exact .nil
      | cons b B => simp at hl
    | cons a A ih =>
      intro B hl hB
      cases B with
      | nil => simp at hl
      | cons b B =>
        refine .cons ?_ (ih (by simpa using hl) (fun j => ?_))
        · have := hB 0
          simp at this
          exact this
        · have := hB (j + 1)
          simpa using this
  exact h.grow (this (passN_len L k).symm (passN_grow L k))
/-- As the program asks: does a request clash with one that waits? -/
def clP (r x : Rq) : Bool := decide (r.tx ≠ x.tx) && !(fi r.md x.md && (r.gr || fi x.md r.md)) && mt r.ob x.ob
def cvP (L : List Rq) (x : Rq) : Bool := L.any fun r => decide (r.tx = x.tx) && r.gr && oe r.ob x.ob
/-- As the program asks: does the request at k keep the one at i waiting? -/
def bkP (L : List Rq) (i : Nat) (x : Rq) (k : Nat) (r : Rq) : Bool := clP r x && (r.gr || (decide (k < i) && !cvP L x))
theorem clP_gr {r x : Rq} (h : r.gr = true) : clP r x = ag r x := by
  unfold clP ag
  rw [h]
  cases decide (r.tx ≠ x.tx) <;> cases fi r.md x.md <;> cases mt r.ob x.ob <;> simp
theorem clP_wt {r x : Rq} (h : r.gr = false) : clP r x = (ag r x || ag x r) := by
  unfold clP ag
  rw [h, mt_symm x.ob r.ob]
  have e : decide (x.tx ≠ r.tx) = decide (r.tx ≠ x.tx) := by
    by_cases h : r.tx = x.tx
    · simp [h]
    · simp [h, Ne.symm h]
  rw [e]
  cases decide (r.tx ≠ x.tx) <;> cases fi r.md x.md <;> cases fi x.md r.md <;> cases mt r.ob x.ob <;> simp
theorem cvP_take {L : List Rq} (h : LastI L) {i : Nat} {x : Rq} (hx : L[i]? = some x) (hg : x.gr = false) : cvP L x = cvn (L.take i) x := by
  obtain ⟨hi, e⟩ := List.getElem?_eq_some_iff.1 hx
  have e0 : L = L.take i ++ x :: L.drop (i + 1) := by rw [← e, List.getElem_cons_drop, List.take_append_drop]
  have h' := h
  unfold LastI at h'
  rw [e0, List.pairwise_append, List.pairwise_cons] at h'
  unfold cvP
  conv => lhs; rw [e0]
  rw [List.any_append, List.any_cons]
  have e1 : ((L.drop (i + 1)).any fun r => decide (r.tx = x.tx) && r.gr && oe r.ob x.ob) = false := by
    rw [List.any_eq_false]
    intro r hr
    have := h'.2.1.1 r hr hg
    simp [Ne.symm this]
  rw [e1, hg]
  unfold cvn cg
  simp only [Bool.and_false, Bool.false_and, Bool.or_false]
  congr 1
  funext r
  cases r.gr <;> cases decide (r.tx = x.tx) <;> cases oe r.ob x.ob <;> rfl
theorem bkP_blk {L : List Rq} (h : LastI L) {i : Nat} {x : Rq} (hx : L[i]? = some x) (hg : x.gr = false) {k : Nat} {r : Rq} (hr : L[k]? = some r) : bkP L i x k r = blk L k i := by
  unfold bkP blk
  rw [hr, hx]
  simp only
  rw [cvP_take h hx hg]
  by_cases e : k = i
  · subst e
    rw [hx] at hr
    cases hr
    simp [clP]
  · cases hrg : r.gr with
    | true => simp [e, clP_gr hrg]
    | false =>
      rw [clP_wt hrg]
      cases (ag r x || ag x r) <;> cases decide (k < i) <;> cases cvn (L.take i) x <;> simp [e]
theorem blk_no_may {L : List Rq} {i : Nat} {x : Rq} (hx : L[i]? = some x) (hg : x.gr = false) : isMay L i = true ↔ ∀ k, k < L.length → blk L k i = false := by
  constructor
  · intro hm k hk
    obtain ⟨pre, r, suf, rfl, rfl, hr, hm⟩ := isMay_form hm
    have ex : r = x := by simpa using hx
    subst ex
    cases hb : blk (pre ++ r :: suf) k pre.length with
    | false => rfl
    | true =>
      exfalso
      unfold blk at hb
      rw [List.getElem?_eq_getElem hk, hx] at hb
      simp only [Bool.and_eq_true, Bool.not_eq_true', decide_eq_false_iff_not] at hb
      obtain ⟨hne, hb⟩ := hb
      have hin : (k < pre.length ∧ (pre ++ r :: suf)[k] ∈ pre) ∨ (¬ k < pre.length ∧ (pre ++ r :: suf)[k] ∈ suf) := by
        by_cases hkp : k < pre.length
        · left; rw [List.getElem_append_left hkp]; exact ⟨hkp, List.getElem_mem hkp⟩
        · right
          refine ⟨hkp, ?_⟩
          rw [List.getElem_append_right (by omega)]
          obtain ⟨d, hd⟩ : ∃ d, k - pre.length = d + 1 := ⟨k - pre.length - 1, by omega⟩
          simp only [hd, List.getElem_cons_succ]
          exact List.getElem_mem _
      generalize (pre ++ r :: suf)[k] = g at *
      rw [mayP] at hm
      simp only [Bool.and_eq_true, Bool.not_eq_true'] at hm
      obtain ⟨⟨m1, m2⟩, m3⟩ := hm
      rw [List.take_left'] at hb
      · cases hgg : g.gr with
        | true =>
          rw [hgg] at hb
          simp only [if_true] at hb
          rcases hin with ⟨_, hin⟩ | hin
          · rw [gb_none m1 hin hgg] at hb; cases hb
          · rw [gb_none m2 hin.2 hgg] at hb; cases hb
        | false =>
          rw [hgg] at hb
          simp only [Bool.false_eq_true, if_false, Bool.and_eq_true, decide_eq_true_eq, Bool.not_eq_true'] at hb
          obtain ⟨⟨hk', ha⟩, hc⟩ := hb
          rcases hin with ⟨_, hin⟩ | hin
          · have : wb pre r = true := by
              unfold wb
              rw [List.any_eq_true]
              exact ⟨g, hin, by rw [hgg, ha]; rfl⟩
            rw [hc, this] at m3
            simp at m3
          · exact hin.1 hk'
      · rfl
  · intro h
    cases hm : isMay L i with
    | true => rfl
    | false =>
      obtain ⟨k, hk, hb⟩ := blk_may hx hg hm
      rw [h k hk] at hb
      cases hb
end Go.Proofs.YtmldpbgdjlblmaaDoor

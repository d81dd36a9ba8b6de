/- The table of locks: what the laws ask of it; pure. -/
import Derived.Test.YtmldpbgdjlblmaaDoorL11R
namespace Go.Proofs.YtmldpbgdjlblmaaDoor
open Go.RowKit
set_option linter.unusedVariables false
set_option linter.unusedSimpArgs false

theorem cv_self {m : Int} (h1 : 1 ≤ m) (h2 : m ≤ 6) : cv m m = true := by
  have : m = 1 ∨ m = 2 ∨ m = 3 ∨ m = 4 ∨ m = 5 ∨ m = 6 := by omega
  rcases this with rfl | rfl | rfl | rfl | rfl | rfl <;> rfl
theorem held_self {L : List Rq} (h : TInv L) {r : Rq} (hr : r ∈ L) (hg : r.gr = true) : heldB r r.tx r.ob r.md = true := by
  obtain ⟨h1, h2, h3, h4⟩ := h.right r hr
  simp [heldB, hg, (self_all h2).2, cv_self h3 h4]
theorem has_of {L : List Rq} {r : Rq} (hr : r ∈ L) {tx : Int} {o : Ob} {m : Int} (h : heldB r tx o m = true) : hasB L tx o m = true := by
  unfold hasB; rw [List.any_eq_true]; exact ⟨r, hr, h⟩
/-- To ask again changes nothing but what is short. -/
theorem ask_again {L : List Rq} (h : TInv L) {r : Rq} (hr : r ∈ L) (hg : r.gr = true) (hw : waitsB L r.tx = false) (most : Int) (s : Bool) : askF most L r.tx r.ob r.md s = ((true, 0), L.map (unshort r.tx r.ob r.md s)) := by
  obtain ⟨h1, h2, h3, h4⟩ := h.right r hr
  unfold askF
  rw [if_neg, if_pos (has_of hr (held_self h hr hg))]
  simp only [Bool.or_eq_true, decide_eq_true_eq, Bool.not_eq_true', not_or]
  refine ⟨⟨⟨⟨by omega, by simp [h2]⟩, by omega⟩, by omega⟩, by simp [hw]⟩
theorem GrowL.right {A B : List Rq} (h : GrowL A B) {b : Rq} (hb : b ∈ B) : ∃ a ∈ A, a.grow b := by
  induction h with
  | nil => cases hb
  | cons h t ih =>
    rcases List.mem_cons.1 hb with rfl | hb
    · exact ⟨_, by simp, h⟩
    · obtain ⟨a, ha, q⟩ := ih hb
      exact ⟨a, by simp [ha], q⟩
theorem GrowL.left {A B : List Rq} (h : GrowL A B) {a : Rq} (ha : a ∈ A) : ∃ b ∈ B, a.grow b := by
  induction h with
  | nil => cases ha
  | cons h t ih =>
    rcases List.mem_cons.1 ha with rfl | ha
    · exact ⟨_, by simp, h⟩
    · obtain ⟨b, hb, q⟩ := ih ha
      exact ⟨b, by simp [hb], q⟩
/-- What is short and granted behind EndShort waited ahead of it. -/
theorem short_waited {L : List Rq} {tx : Int} {r : Rq} (hr : r ∈ (endF L tx false).1) (ht : r.tx = tx) (hs : r.sh = true) : ∃ q ∈ L, q.tx = tx ∧ q.gr = false ∧ q.ob = r.ob := by
  obtain ⟨d, hd, hg⟩ := (wake_grow (L.filter (stays tx false))).right hr
  obtain ⟨h1, h2⟩ := List.mem_filter.1 hd
  have e1 : d.tx = r.tx := by rcases hg with e | e <;> rw [e] <;> rfl
  have e2 : d.sh = r.sh := by rcases hg with e | e <;> rw [e] <;> rfl
  have e3 : d.ob = r.ob := by rcases hg with e | e <;> rw [e] <;> rfl
  refine ⟨d, h1, e1.trans ht, ?_, e3⟩
  simp only [stays, e1, ht, e2, hs] at h2
  simpa using h2
/-- What was not short is there still. -/
theorem long_stays {L : List Rq} (h : TInv L) {tx : Int} {r : Rq} (hr : r ∈ L) (ht : r.tx = tx) (hg : r.gr = true) (hs : r.sh = false) : hasB (endF L tx false).1 tx r.ob r.md = true := by
  have hd : r ∈ L.filter (stays tx false) := List.mem_filter.2 ⟨hr, by simp [stays, hs]⟩
  obtain ⟨b, hb, hgr⟩ := (wake_grow _).left hd
  have e : b = r := by
    rcases hgr with e | e
    · exact e
    · rw [e]; cases r; simp only at hg; subst hg; rfl
  subst e
  have := held_self h hr hg
  rw [ht] at this
  exact has_of hb this
theorem end_none {L : List Rq} {tx : Int} {r : Rq} (hr : r ∈ (endF L tx true).1) : r.tx ≠ tx := by
  obtain ⟨d, hd, hg⟩ := (wake_grow (L.filter (stays tx true))).right hr
  obtain ⟨h1, h2⟩ := List.mem_filter.1 hd
  have e1 : d.tx = r.tx := by rcases hg with e | e <;> rw [e] <;> rfl
  simp [stays] at h2
  rw [← e1]; exact h2
/-- .. and of the others none is gone and none is new. -/
theorem end_tx {L : List Rq} {tx : Int} {all : Bool} {r : Rq} (hr : r ∈ (endF L tx all).1) : ∃ q ∈ L, q.tx = r.tx := by
  obtain ⟨d, hd, hg⟩ := (wake_grow (L.filter (stays tx all))).right hr
  exact ⟨d, (List.mem_filter.1 hd).1, by rcases hg with e | e <;> rw [e] <;> rfl⟩
theorem txAt_of {L : List Rq} {k : Nat} {g : Rq} (h : L[k]? = some g) : txAt L k = g.tx := by simp [txAt, h]
theorem blk_tx {L : List Rq} {k i : Nat} {r : Rq} (hr : L[i]? = some r) (h : blk L k i = true) : txAt L k ≠ r.tx := by
  unfold blk at h
  split at h
  · rename_i g r' hg hr'
    rw [hr] at hr'
    cases hr'
    rw [txAt_of hg]
    simp only [Bool.and_eq_true] at h
    have h2 := h.2
    split at h2
    · exact ag_tx h2
    · simp only [Bool.and_eq_true, Bool.or_eq_true] at h2
      rcases h2.1.2 with q | q
      · exact ag_tx q
      · exact (ag_tx q).symm
  · cases h
theorem mem_edges {L : List Rq} {a b : Int} : (a, b) ∈ edgesF L ↔ ∃ i r, L[i]? = some r ∧ r.gr = false ∧ a = r.tx ∧ b ∈ bks L i := by
  unfold edgesF
  rw [List.mem_flatMap]
  constructor
  · rintro ⟨i, hi, h⟩
    unfold edgesAt at h
    split at h
    · cases h
    · rename_i r hr
      split at h
      · cases h
      · rename_i hg
        obtain ⟨t, ht, e⟩ := List.mem_map.1 h
        cases e
        exact ⟨i, r, hr, by simpa using hg, rfl, mem_sd.1 ht⟩
  · rintro ⟨i, r, hr, hg, rfl, hb⟩
    refine ⟨i, by rw [List.mem_range]; exact (List.getElem?_eq_some_iff.1 hr).1, ?_⟩
    unfold edgesAt
    rw [hr]
    simp only [hg]
    rw [if_neg (by simp), List.mem_map]
    exact ⟨b, mem_sd.2 hb, rfl⟩
theorem edges_apart {L : List Rq} {a b : Int} (h : (a, b) ∈ edgesF L) : a ≠ b := by
  obtain ⟨i, r, hr, hg, rfl, hb⟩ := mem_edges.1 h
  unfold bks at hb
  obtain ⟨k, hk, rfl⟩ := List.mem_map.1 hb
  exact (blk_tx hr (List.mem_filter.1 hk).2).symm
/-- A transaction waits just if an edge leads from it. -/
theorem waits_edges {L : List Rq} (h : TInv L) (tx : Int) : waitsB L tx = true ↔ ∃ b, (tx, b) ∈ edgesF L := by
  constructor
  · intro hw
    unfold waitsB at hw
    rw [List.any_eq_true] at hw
    obtain ⟨r, hr, q⟩ := hw
    simp only [Bool.and_eq_true, decide_eq_true_eq, Bool.not_eq_true'] at q
    obtain ⟨i, hi, e⟩ := List.getElem_of_mem hr
    have hri : L[i]? = some r := by rw [List.getElem?_eq_getElem hi, e]
    have hm : isMay L i = false := by
      simp only [isMay, hri, q.2]
      rw [h.ready (L.take i) r (L.drop (i + 1)) (by rw [← e, List.getElem_cons_drop, List.take_append_drop]) q.2]
      rfl
    obtain ⟨k, hk, hb⟩ := blk_may hri q.2 hm
    refine ⟨txAt L k, mem_edges.2 ⟨i, r, hri, q.2, q.1.symm, ?_⟩⟩
    unfold bks
    exact List.mem_map.2 ⟨k, List.mem_filter.2 ⟨by rw [List.mem_range]; exact hk, hb⟩, rfl⟩
  · rintro ⟨b, hb⟩
    obtain ⟨i, r, hr, hg, e, _⟩ := mem_edges.1 hb
    unfold waitsB
    rw [List.any_eq_true]
    exact ⟨r, List.mem_of_getElem? hr, by simp [hg, e]⟩
/-- What meets nobody's is granted. -/
theorem ask_apart {L : List Rq} {most tx m : Int} {o : Ob} (hg : ∀ r ∈ L, r.gr = true ∧ r.tx < tx ∧ mt o r.ob = false) (ht : 1 ≤ tx) (hp : pl o = true) (hm : 1 ≤ m ∧ m ≤ 6) (hl : (L.length : Int) < most) : askF most L tx o m false = ((true, 0), L ++ [⟨tx, o, m, true, false⟩]) := by
  have hw : waitsB L tx = false := by
    unfold waitsB
    rw [List.any_eq_false]
    intro r hr
    simp [(hg r hr).1]
  have hh : hasB L tx o m = false := by
    unfold hasB
    rw [List.any_eq_false]
    intro r hr
    have := (hg r hr).2.1
    have e : ¬ (r.tx = tx) := by omega
    simp [heldB, e]
  have hmay : mayP L ⟨tx, o, m, false, false⟩ [] = true := by
    have g1 : gb L ⟨tx, o, m, false, false⟩ = false := by
      unfold gb
      rw [List.any_eq_false]
      intro r hr
      have := (hg r hr).2.2
      rw [mt_symm] at this
      simp [ag, this]
    have g2 : wb L ⟨tx, o, m, false, false⟩ = false := by
      unfold wb
      rw [List.any_eq_false]
      intro r hr
      simp [(hg r hr).1]
    have g3 : gb [] ⟨tx, o, m, false, false⟩ = false := rfl
    rw [mayP, g1, g2, g3]
    simp
  unfold askF
  rw [if_neg, if_neg (by simp [hh]), if_neg (by omega), hmay]
  simp only [Bool.or_eq_true, decide_eq_true_eq, Bool.not_eq_true', not_or]
  exact ⟨⟨⟨⟨by omega, by simp [hp]⟩, by omega⟩, by omega⟩, by simp [hw]⟩
theorem edges_none {L : List Rq} (h : ∀ r ∈ L, r.gr = true) : edgesF L = [] := by
  rw [List.eq_nil_iff_forall_not_mem]
  rintro ⟨a, b⟩ hm
  obtain ⟨i, r, hr, hg, _⟩ := mem_edges.1 hm
  rw [h r (List.mem_of_getElem? hr)] at hg
  cases hg
end Go.Proofs.YtmldpbgdjlblmaaDoor

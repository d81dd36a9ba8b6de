/- Trees as nodes by their numbers: growing, shrinking, leaves; the line of entries; pure. -/
import Derived.Test.YtfobcnmhghfanaaB9Math
namespace Go.Proofs.Ytfobcnmhghfanaa
open Go.RowKit
set_option linter.unusedVariables false
set_option linter.unusedSimpArgs false

/-- The root becomes the one child of a new one. -/
theorem Shape.grow {nd nd' : Nat → Nd} {r H : Nat} {lv : Nat → List Br} {dep : Nat → Nat} (h : Shape nd r H lv dep) {f : Nat} (hf : Fresh H lv f) (h1 : (nd' r).es = []) (h2 : (nd' r).bs = [(ByteArray.empty, f)]) (h3 : (nd' f).es = (nd r).es) (h4 : (nd' f).bs = (nd r).bs) (ho : ∀ b, b ≠ r → b ≠ f → nd' b = nd b) :
    ∃ lv' dep', Shape nd' r (H + 1) lv' dep' ∧ ents nd' (lv' (H + 1)) = ents nd (lv H) ∧ lv' 1 = [(ByteArray.empty, f)] ∧ (∀ i, 2 ≤ i → lv' i = lv (i - 1)) := by
  have hr : (ByteArray.empty, r) ∈ lv 0 := by rw [h.top]; simp
  have dr := h.dp 0 (by omega) _ hr
  simp only at dr
  have hrf : r ≠ f := hf 0 (by omega) _ hr
  have oth : ∀ i, 0 < i → i ≤ H → ∀ q ∈ lv i, nd' q.2 = nd q.2 := fun i h0 hi q hq => by
    have := h.dp i hi q hq
    exact ho _ (fun e => by rw [e] at this; omega) (hf i hi q hq)
  let lv' : Nat → List Br := fun i => if i = 0 then [(ByteArray.empty, r)] else if i = 1 then [(ByteArray.empty, f)] else lv (i - 1)
  have l0 : lv' 0 = [(ByteArray.empty, r)] := rfl
  have l1 : lv' 1 = [(ByteArray.empty, f)] := rfl
  have l2 : ∀ k, lv' (k + 2) = lv (k + 1) := fun k => by simp [lv']
  have e1 : its nd' (ByteArray.empty, f) = its nd (ByteArray.empty, r) := by unfold its; simp only; rw [h3]
  refine ⟨lv', fun b => if b = r then 0 else if b = f then 1 else dep b + 1, ?_, ?_, l1, fun i hi => by obtain ⟨k, rfl⟩ : ∃ k, i = k + 2 := ⟨i - 2, by omega⟩; exact l2 k⟩
  · constructor
    · exact l0
    · intro i hi
      rcases i with _ | _ | i
      · rw [l0, l1, next_cons, next_nil]; simp [h2]
      · show lv' 2 = next nd' (lv' 1)
        rw [l2 0, l1, next_cons, next_nil, h.nx 0 (by omega), h.top, next_cons, next_nil]; simp [h4]
      · rw [show i + 1 + 1 + 1 = (i + 1) + 2 from rfl, l2 (i + 1), show i + 1 + 1 = i + 2 from rfl, l2 i, h.nx (i + 1) (by omega), next_congr (oth (i + 1) (by omega) (by omega))]
    · intro i hi q hq
      rcases i with _ | _ | i
      · rw [l0] at hq; simp at hq; simp [hq]
      · rw [l1] at hq; simp at hq; simp [hq, hrf.symm]
      · rw [l2 i] at hq
        have := h.dp (i + 1) (by omega) q hq
        have n1 : q.2 ≠ r := fun e => by rw [e] at this; omega
        have n2 := hf (i + 1) (by omega) q hq
        simp [n1, n2, this]
    · intro i hi
      rcases i with _ | _ | i
      · rw [l0]; simp
      · rw [l1]; simp
      · rw [l2 i]; exact h.nodup (i + 1) (by omega)
    · intro i hi q hq
      rcases i with _ | _ | i
      · rw [l0] at hq; simp at hq; subst hq; exact ⟨h1, _, _, h2⟩
      · rw [l1] at hq; simp at hq; subst hq
        obtain ⟨k1, k2⟩ := h.inner 0 (by omega) _ hr
        exact ⟨h3.trans k1, by simp only; rw [h4]; exact k2⟩
      · rw [l2 i] at hq
        rw [oth (i + 1) (by omega) (by omega) q hq]
        exact h.inner (i + 1) (by omega) q hq
    · intro q hq
      by_cases e : H = 0
      · subst e
        rw [l1] at hq; simp at hq; subst hq
        exact h4.trans (h.leaf _ hr)
      · obtain ⟨k, rfl⟩ : ∃ k, H = k + 1 := ⟨H - 1, by omega⟩
        rw [l2 k] at hq
        rw [oth (k + 1) (by omega) (by omega) q hq]
        exact h.leaf q hq
    · by_cases e : H = 0
      · subst e
        have := h.ord
        rw [h.top] at this
        rw [l1]
        simpa [e1] using this
      · obtain ⟨k, rfl⟩ : ∃ k, H = k + 1 := ⟨H - 1, by omega⟩
        rw [l2 k, its_congr (oth (k + 1) (by omega) (by omega))]
        exact h.ord
  · by_cases e : H = 0
    · subst e
      rw [l1, h.top]
      simp [ents, h3]
    · obtain ⟨k, rfl⟩ : ∃ k, H = k + 1 := ⟨H - 1, by omega⟩
      rw [l2 k, ents_congr (oth (k + 1) (by omega) (by omega))]
/-- The root's one child becomes the root. -/
theorem Shape.shrink {nd nd' : Nat → Nd} {r H : Nat} {lv : Nat → List Br} {dep : Nat → Nat} (h : Shape nd r (H + 1) lv dep) {lo : ByteArray} {c : Nat} (hb : (nd r).bs = [(lo, c)]) (h1 : (nd' r).es = (nd c).es) (h2 : (nd' r).bs = (nd c).bs) (ho : ∀ b, b ≠ r → b ≠ c → nd' b = nd b) :
    ∃ lv' dep', Shape nd' r H lv' dep' ∧ ents nd' (lv' H) = ents nd (lv (H + 1)) ∧ lv 1 = [(ByteArray.empty, c)] ∧ (∀ i, 0 < i → lv' i = lv (i + 1)) := by
  have hr : (ByteArray.empty, r) ∈ lv 0 := by rw [h.top]; simp
  have dr := h.dp 0 (by omega) _ hr
  simp only at dr
  obtain ⟨_, c', t, hb'⟩ := h.inner 0 (by omega) _ hr
  simp only at hb'
  rw [hb] at hb'
  cases hb'
  have hl1 : lv 1 = [(ByteArray.empty, c)] := by rw [h.nx 0 (by omega), h.top, next_cons, next_nil]; simp [hb]
  have hc : (ByteArray.empty, c) ∈ lv 1 := by rw [hl1]; simp
  have dc := h.dp 1 (by omega) _ hc
  simp only at dc
  have oth : ∀ i, 1 < i → i ≤ H + 1 → ∀ q ∈ lv i, nd' q.2 = nd q.2 := fun i h0 hi q hq => by
    have := h.dp i hi q hq
    exact ho _ (fun e => by rw [e] at this; omega) (fun e => by rw [e] at this; omega)
  let lv' : Nat → List Br := fun i => if i = 0 then [(ByteArray.empty, r)] else lv (i + 1)
  have l0 : lv' 0 = [(ByteArray.empty, r)] := rfl
  have l2 : ∀ k, lv' (k + 1) = lv (k + 2) := fun k => by simp [lv']
  have e1 : its nd' (ByteArray.empty, r) = its nd (ByteArray.empty, c) := by unfold its; simp only; rw [h1]
  refine ⟨lv', fun b => if b = r then 0 else dep b - 1, ?_, ?_, hl1, fun i hi => by obtain ⟨k, rfl⟩ : ∃ k, i = k + 1 := ⟨i - 1, by omega⟩; exact l2 k⟩
  · constructor
    · exact l0
    · intro i hi
      rcases i with _ | i
      · show lv' 1 = _
        rw [l2 0, l0, next_cons, next_nil, h.nx 1 (by omega), hl1, next_cons, next_nil]; simp [h2]
      · rw [l2 (i + 1), l2 i, h.nx (i + 2) (by omega), next_congr (oth (i + 2) (by omega) (by omega))]
    · intro i hi q hq
      rcases i with _ | i
      · rw [l0] at hq; simp at hq; simp [hq]
      · rw [l2 i] at hq
        have := h.dp (i + 2) (by omega) q hq
        have n1 : q.2 ≠ r := fun e => by rw [e] at this; omega
        simp [n1, this]
    · intro i hi
      rcases i with _ | i
      · rw [l0]; simp
      · rw [l2 i]; exact h.nodup (i + 2) (by omega)
    · intro i hi q hq
      rcases i with _ | i
      · rw [l0] at hq; simp at hq; subst hq
        obtain ⟨k1, k2⟩ := h.inner 1 (by omega) _ hc
        exact ⟨h1.trans k1, by simp only; rw [h2]; exact k2⟩
      · rw [l2 i] at hq
        rw [oth (i + 2) (by omega) (by omega) q hq]
        exact h.inner (i + 2) (by omega) q hq
    · intro q hq
      rcases H with _ | k
      · rw [l0] at hq; simp at hq; subst hq
        exact h2.trans (h.leaf _ hc)
      · rw [l2 k] at hq
        rw [oth (k + 2) (by omega) (by omega) q hq]
        exact h.leaf q hq
    · rcases H with _ | k
      · have := h.ord
        simp only [Nat.zero_add] at this
        rw [hl1] at this
        rw [l0]
        simpa [e1] using this
      · rw [l2 k, its_congr (oth (k + 2) (by omega) (by omega))]
        exact h.ord
  · rcases H with _ | k
    · rw [l0]
      simp only [Nat.zero_add]
      rw [hl1]
      simp [ents, h1]
    · rw [l2 k, ents_congr (oth (k + 2) (by omega) (by omega))]
/-- A leaf's entries turn. -/
theorem Shape.setEs {nd nd' : Nat → Nd} {r H : Nat} {lv : Nat → List Br} {dep : Nat → Nat} (h : Shape nd r H lv dep) {A B : List Br} {p : Br} (hp : lv H = A ++ p :: B) (h2 : (nd' p.2).bs = (nd p.2).bs) (ho : ∀ b, b ≠ p.2 → nd' b = nd b)
    (hord : (A.flatMap (its nd) ++ (((p.1, false) :: (nd' p.2).es.map (fun e => (e.key, true))) ++ B.flatMap (its nd))).Pairwise R) :
    Shape nd' r H lv dep ∧ ents nd' (lv H) = ents nd A ++ ((nd' p.2).es ++ ents nd B) := by
  have hpm : p ∈ lv H := by rw [hp]; simp
  have dp := h.dp H (Nat.le_refl _) p hpm
  have oth : ∀ i, i < H → ∀ q ∈ lv i, nd' q.2 = nd q.2 := fun i hi q hq => by
    have := h.dp i (by omega) q hq
    exact ho _ (fun e => by rw [e] at this; omega)
  have hnd := h.nodup H (Nat.le_refl _)
  rw [hp] at hnd
  have oA : ∀ q ∈ A, nd' q.2 = nd q.2 := fun q hq => ho _ (mem_pair hnd (Or.inl hq))
  have oB : ∀ q ∈ B, nd' q.2 = nd q.2 := fun q hq => ho _ (mem_pair hnd (Or.inr hq))
  refine ⟨⟨h.top, fun j hj => by rw [h.nx j hj, next_congr (oth j hj)], h.dp, h.nodup, fun j hj q hq => by rw [oth j hj q hq]; exact h.inner j hj q hq, fun q hq => ?_, ?_⟩, ?_⟩
  · by_cases e : q.2 = p.2
    · rw [e, h2]; exact h.leaf p hpm
    · rw [ho _ e]; exact h.leaf q hq
  · rw [hp, List.flatMap_append, List.flatMap_cons, its_congr oA, its_congr oB]
    exact hord
  · rw [hp, ents_append, ents_cons, ents_congr oA, ents_congr oB]

/-- Entries stand in one line. -/
def Line (L : List E) : Prop := L.Pairwise (fun a b => kl a.key b.key = true)
theorem its_ents (nd : Nat → Nd) (l : List Br) : List.Sublist ((ents nd l).map (fun e => (e.key, true))) (l.flatMap (its nd)) := by
  induction l with
  | nil => exact List.Sublist.refl _
  | cons p l ih =>
    rw [ents_cons, List.map_append, List.flatMap_cons]
    exact List.Sublist.append (List.Sublist.cons _ (List.Sublist.refl _)) ih
theorem Shape.line {nd : Nat → Nd} {r H : Nat} {lv : Nat → List Br} {dep : Nat → Nat} (h : Shape nd r H lv dep) : Line (ents nd (lv H)) := by
  have := h.ord.sublist (its_ents nd (lv H))
  rw [List.pairwise_map] at this
  exact this.imp (fun h => h.lt rfl)
theorem mem_its {nd : Nat → Nd} {l : List Br} {e : E} (h : e ∈ ents nd l) : (e.key, true) ∈ l.flatMap (its nd) := (its_ents nd l).subset (List.mem_map_of_mem h)
/-- What is known of a leaf where a key belongs. -/
theorem Shape.at_leaf {nd : Nat → Nd} {r H : Nat} {lv : Nat → List Br} {dep : Nat → Nat} (h : Shape nd r H lv dep) {key : ByteArray} {A B : List Br} {p : Br} (hp : Path lv key H A p B) :
    (∀ e ∈ ents nd A, kl e.key key = true) ∧ (∀ e ∈ ents nd B, kl key e.key = true) := by
  have ho := h.ord
  rw [hp.at_, List.flatMap_append, List.flatMap_cons, List.pairwise_append] at ho
  obtain ⟨_, h2, h3⟩ := ho
  refine ⟨fun e he => ?_, fun e he => ?_⟩
  · exact kl_lt_le ((h3 _ (mem_its he) (p.1, false) (by simp [its])).lt rfl) hp.lo
  · obtain ⟨q, hq, he⟩ := List.mem_flatMap.1 he
    have h4 := (List.pairwise_append.1 h2).2.1
    have h5 : ∀ (l : List Br), q ∈ l → (l.flatMap (its nd)).Pairwise R → kl e.key q.1 = false := by
      intro l
      induction l with
      | nil => intro h; cases h
      | cons x l ih =>
        intro hm hw
        rw [List.flatMap_cons, List.pairwise_append] at hw
        rcases List.mem_cons.1 hm with rfl | hm
        · have := hw.1
          unfold its at this
          exact ((List.pairwise_cons.1 this).1 (e.key, true) (List.mem_map_of_mem he)).le
        · exact ih hm hw.2.1
    exact kl_lt_le (hp.hi q hq) (h5 B hq h4)
end Go.Proofs.Ytfobcnmhghfanaa

/- Trees as nodes by their numbers: keys, levels, order, what splitting, joining and going down do to them; pure. -/
import Derived.Test.YtfobcnmhghfanaaB9A
namespace Go.Proofs.Ytfobcnmhghfanaa
open Go.RowKit
set_option linter.unusedVariables false
set_option linter.unusedSimpArgs false

/-- Is a key below another? -/
def kl (a b : ByteArray) : Bool := Op.bytesLess a.toList b.toList
theorem bl_irrefl : ∀ l : List UInt8, Op.bytesLess l l = false
  | [] => rfl
  | a :: x => by simp [Op.bytesLess, bl_irrefl x]
theorem bl_trans : ∀ a b c : List UInt8, Op.bytesLess a b = true → Op.bytesLess b c = true → Op.bytesLess a c = true
  | _, [], _, h, _ => by simp [Op.bytesLess] at h
  | _, _ :: _, [], _, h => by simp [Op.bytesLess] at h
  | [], b :: y, c :: z, _, _ => by simp [Op.bytesLess]
  | a :: x, b :: y, c :: z, h1, h2 => by
    simp only [Op.bytesLess, Bool.or_eq_true, Bool.and_eq_true, decide_eq_true_eq, beq_iff_eq] at h1 h2 ⊢
    rcases h1 with h1 | ⟨rfl, h1⟩
    · rcases h2 with h2 | ⟨rfl, h2⟩
      · exact Or.inl (by have h3 := UInt8.lt_iff_toNat_lt.1 h1; have h4 := UInt8.lt_iff_toNat_lt.1 h2; exact UInt8.lt_iff_toNat_lt.2 (by omega))
      · exact Or.inl h1
    · rcases h2 with h2 | ⟨rfl, h2⟩
      · exact Or.inl h2
      · exact Or.inr ⟨rfl, bl_trans x y z h1 h2⟩
theorem bl_total : ∀ a b : List UInt8, Op.bytesLess a b = false → Op.bytesLess b a = false → a = b
  | [], [], _, _ => rfl
  | [], _ :: _, h, _ => by simp [Op.bytesLess] at h
  | _ :: _, [], _, h => by simp [Op.bytesLess] at h
  | a :: x, b :: y, h1, h2 => by
    simp only [Op.bytesLess, Bool.or_eq_false_iff, Bool.and_eq_false_iff, decide_eq_false_iff_not, beq_eq_false_iff_ne] at h1 h2
    have e : a = b := by
      have h3 : ¬ a.toNat < b.toNat := fun h => h1.1 (UInt8.lt_iff_toNat_lt.2 h)
      have h4 : ¬ b.toNat < a.toNat := fun h => h2.1 (UInt8.lt_iff_toNat_lt.2 h)
      exact UInt8.toNat_inj.1 (by omega)
    subst e
    rw [bl_total x y (by simpa using h1.2) (by simpa using h2.2)]
theorem kl_irrefl (a : ByteArray) : kl a a = false := bl_irrefl _
theorem kl_trans {a b c : ByteArray} (h : kl a b = true) (k : kl b c = true) : kl a c = true := bl_trans _ _ _ h k
theorem kl_eq {a b : ByteArray} (h : kl a b = false) (k : kl b a = false) : a = b := by
  have := bl_total _ _ h k
  rw [ByteArray.toList_eq, ByteArray.toList_eq] at this
  cases a; cases b
  simpa using this
theorem kl_asymm {a b : ByteArray} (h : kl a b = true) : kl b a = false := by
  cases hk : kl b a with
  | false => rfl
  | true => have := kl_trans h hk; rw [kl_irrefl] at this; cases this
theorem kl_lt_le {a b c : ByteArray} (h : kl a b = true) (k : kl c b = false) : kl a c = true := by
  cases hk : kl b c with
  | true => exact kl_trans h hk
  | false => rw [← kl_eq hk k]; exact h
theorem kl_le_lt {a b c : ByteArray} (h : kl b a = false) (k : kl b c = true) : kl a c = true := by
  cases hk : kl a b with
  | true => exact kl_trans hk k
  | false => rw [kl_eq hk h]; exact k
theorem kl_le_le {a b c : ByteArray} (h : kl b a = false) (k : kl c b = false) : kl c a = false := by
  cases hk : kl c a with
  | false => rfl
  | true => rw [kl_lt_le hk h] at k; cases k
theorem kl_empty (a : ByteArray) : kl a ByteArray.empty = false := by
  unfold kl
  rw [show ByteArray.empty.toList = [] from by rw [ByteArray.toList_eq]; rfl]
  cases a.toList <;> rfl

/-- A node: its entries, its branches; how its two rows lie, what lies behind them, what it is called. -/
structure Nd where
  es : List E
  bs : List Br
  ve : Value
  vb : Value
  ex : List Value
  ty : TypeId
def Nd.sz (n : Nd) : Nat := n.es.length + n.bs.length
def updN (nd : Nat → Nd) (b : Nat) (x : Nd) : Nat → Nd := fun k => if k = b then x else nd k
theorem updN_same (nd : Nat → Nd) (b : Nat) (x : Nd) : updN nd b x b = x := by simp [updN]
theorem updN_other (nd : Nat → Nd) {b k : Nat} (x : Nd) (h : k ≠ b) : updN nd b x k = nd k := by simp [updN, h]
def next (nd : Nat → Nd) (l : List Br) : List Br := l.flatMap (fun p => (nd p.2).bs)
theorem next_append (nd : Nat → Nd) (a b : List Br) : next nd (a ++ b) = next nd a ++ next nd b := List.flatMap_append
theorem next_cons (nd : Nat → Nd) (p : Br) (b : List Br) : next nd (p :: b) = (nd p.2).bs ++ next nd b := List.flatMap_cons
theorem next_nil (nd : Nat → Nd) : next nd [] = [] := rfl
theorem flat_congr {α β : Type} {f g : α → List β} {l : List α} (h : ∀ x ∈ l, f x = g x) : l.flatMap f = l.flatMap g := by
  induction l with
  | nil => rfl
  | cons x l ih => rw [List.flatMap_cons, List.flatMap_cons, h x (by simp), ih (fun y hy => h y (by simp [hy]))]
theorem next_congr {nd nd' : Nat → Nd} {l : List Br} (h : ∀ p ∈ l, nd' p.2 = nd p.2) : next nd' l = next nd l := flat_congr (fun p hp => by rw [h p hp])
/-- A key with whether it is an entry's. -/
abbrev It := ByteArray × Bool
def R (a b : It) : Prop := kl a.1 b.1 = true ∨ (a.1 = b.1 ∧ a.2 = false)
theorem R.le {a b : It} (h : R a b) : kl b.1 a.1 = false := by
  rcases h with h | ⟨h, _⟩
  · exact kl_asymm h
  · rw [h]; exact kl_irrefl _
theorem R.lt {a b : It} (h : R a b) (ha : a.2 = true) : kl a.1 b.1 = true := by
  rcases h with h | ⟨_, h⟩
  · exact h
  · rw [ha] at h; cases h
def its (nd : Nat → Nd) (p : Br) : List It := (p.1, false) :: (nd p.2).es.map (fun e => (e.key, true))
theorem its_congr {nd nd' : Nat → Nd} {l : List Br} (h : ∀ p ∈ l, nd' p.2 = nd p.2) : l.flatMap (its nd') = l.flatMap (its nd) := flat_congr (fun p hp => by unfold its; rw [h p hp])
def ents (nd : Nat → Nd) (l : List Br) : List E := l.flatMap (fun p => (nd p.2).es)
theorem ents_append (nd : Nat → Nd) (a b : List Br) : ents nd (a ++ b) = ents nd a ++ ents nd b := List.flatMap_append
theorem ents_cons (nd : Nat → Nd) (p : Br) (b : List Br) : ents nd (p :: b) = (nd p.2).es ++ ents nd b := List.flatMap_cons
theorem ents_congr {nd nd' : Nat → Nd} {l : List Br} (h : ∀ p ∈ l, nd' p.2 = nd p.2) : ents nd' l = ents nd l := flat_congr (fun p hp => by rw [h p hp])

/-- A tree of height H under the node r: lv tells each level's branches, dep how deep a node lies. -/
structure Shape (nd : Nat → Nd) (r H : Nat) (lv : Nat → List Br) (dep : Nat → Nat) : Prop where
  top : lv 0 = [(ByteArray.empty, r)]
  nx : ∀ j, j < H → lv (j + 1) = next nd (lv j)
  dp : ∀ j, j ≤ H → ∀ p ∈ lv j, dep p.2 = j
  nodup : ∀ j, j ≤ H → ((lv j).map (·.2)).Nodup
  inner : ∀ j, j < H → ∀ p ∈ lv j, (nd p.2).es = [] ∧ ∃ c t, (nd p.2).bs = (p.1, c) :: t
  leaf : ∀ p ∈ lv H, (nd p.2).bs = []
  ord : ((lv H).flatMap (its nd)).Pairwise R
def Fresh (H : Nat) (lv : Nat → List Br) (f : Nat) : Prop := ∀ i, i ≤ H → ∀ p ∈ lv i, p.2 ≠ f
def setLv (lv : Nat → List Br) (j : Nat) (l : List Br) : Nat → List Br := fun i => if i = j then l else lv i
theorem setLv_same (lv : Nat → List Br) (j : Nat) (l : List Br) : setLv lv j l j = l := by simp [setLv]
theorem setLv_other (lv : Nat → List Br) {j i : Nat} (l : List Br) (h : i ≠ j) : setLv lv j l i = lv i := by simp [setLv, h]
/-- The lows of a level rise. -/
theorem Shape.lows {nd : Nat → Nd} {r H : Nat} {lv : Nat → List Br} {dep : Nat → Nat} (h : Shape nd r H lv dep) : ∀ j, j ≤ H → ((lv j).map (·.1)).Pairwise (fun a b => kl b a = false) := by
  have h0 : ((lv H).map (·.1)).Pairwise (fun a b => kl b a = false) := by
    have h1 : (((lv H).flatMap (its nd)).map (·.1)).Pairwise (fun a b => kl b a = false) := List.pairwise_map.2 (h.ord.imp (fun h => h.le))
    refine h1.sublist ?_
    generalize lv H = l
    induction l with
    | nil => exact List.Sublist.refl _
    | cons p l ih =>
      rw [List.flatMap_cons, List.map_append, List.map_cons]
      unfold its
      rw [List.map_cons, List.cons_append]
      exact List.Sublist.cons_cons _ (ih.trans (List.sublist_append_right _ _))
  have hs : ∀ j, j < H → List.Sublist ((lv j).map (·.1)) ((lv (j + 1)).map (·.1)) := fun j hj => by
    rw [h.nx j hj]
    have hin := h.inner j hj
    generalize lv j = l at hin
    induction l with
    | nil => exact List.Sublist.refl _
    | cons p l ih =>
      obtain ⟨_, c, t, e⟩ := hin p (by simp)
      rw [next_cons, e, List.map_cons, List.cons_append, List.map_cons, List.map_append]
      exact List.Sublist.cons_cons _ ((ih (fun q hq => hin q (by simp [hq]))).trans (List.sublist_append_right _ _))
  intro j hj
  obtain ⟨k, hk⟩ : ∃ k, j + k = H := ⟨H - j, by omega⟩
  induction k generalizing j with
  | zero => rw [show j = H by omega]; exact h0
  | succ k ih => exact (ih (j + 1) (by omega) (by omega)).sublist (hs j (by omega))
/-- Where a node of level j lies, its children lie in the next one. -/
theorem Shape.kids {nd : Nat → Nd} {r H : Nat} {lv : Nat → List Br} {dep : Nat → Nat} (h : Shape nd r H lv dep) {j : Nat} (hj : j < H) {A B : List Br} {p : Br} (hp : lv j = A ++ p :: B) {l rt : List Br} {q : Br} (hq : (nd p.2).bs = l ++ q :: rt) : lv (j + 1) = (next nd A ++ l) ++ q :: (rt ++ next nd B) := by
  rw [h.nx j hj, hp, next_append, next_cons, hq]
  simp
theorem Shape.lows_in {nd : Nat → Nd} {r H : Nat} {lv : Nat → List Br} {dep : Nat → Nat} (h : Shape nd r H lv dep) {j : Nat} (hj : j < H) {p : Br} (hp : p ∈ lv j) : ((nd p.2).bs.map (·.1)).Pairwise (fun a b => kl b a = false) := by
  have := h.lows (j + 1) hj
  obtain ⟨A, B, e⟩ := List.append_of_mem hp
  rw [h.nx j hj, e, next_append, next_cons] at this
  refine this.sublist ?_
  rw [List.map_append, List.map_append]
  exact (List.sublist_append_left _ _).trans (List.sublist_append_right _ _)
/-- A node where a key belongs. -/
structure Path (lv : Nat → List Br) (key : ByteArray) (j : Nat) (A : List Br) (p : Br) (B : List Br) : Prop where
  at_ : lv j = A ++ p :: B
  lo : kl key p.1 = false
  hi : ∀ q ∈ B, kl key q.1 = true
theorem Shape.path0 {nd : Nat → Nd} {r H : Nat} {lv : Nat → List Br} {dep : Nat → Nat} (h : Shape nd r H lv dep) (key : ByteArray) : Path lv key 0 [] (ByteArray.empty, r) [] := ⟨h.top, kl_empty key, fun q hq => by cases hq⟩
theorem Shape.above {nd : Nat → Nd} {r H : Nat} {lv : Nat → List Br} {dep : Nat → Nat} (h : Shape nd r H lv dep) {j : Nat} (hj : j < H) {key : ByteArray} {p : Br} (hp : p ∈ lv j) (hk : kl key p.1 = true) : ∀ q ∈ (nd p.2).bs, kl key q.1 = true := fun q hq => by
  obtain ⟨_, c, t, e⟩ := h.inner j hj p hp
  have hl := h.lows_in hj hp
  rw [e] at hq hl
  rcases List.mem_cons.1 hq with rfl | hq
  · exact hk
  · rw [List.map_cons, List.pairwise_cons] at hl
    exact kl_lt_le hk (hl.1 q.1 (List.mem_map_of_mem hq))
theorem Shape.down {nd : Nat → Nd} {r H : Nat} {lv : Nat → List Br} {dep : Nat → Nat} (h : Shape nd r H lv dep) {j : Nat} (hj : j < H) {key : ByteArray} {A B : List Br} {p : Br} (hp : Path lv key j A p B) {l rt : List Br} {q : Br} (hq : (nd p.2).bs = l ++ q :: rt) (hlo : kl key q.1 = false) (hhi : ∀ x ∈ rt, kl key x.1 = true) : Path lv key (j + 1) (next nd A ++ l) q (rt ++ next nd B) := by
  refine ⟨h.kids hj hp.at_ hq, hlo, fun x hx => ?_⟩
  rcases List.mem_append.1 hx with hx | hx
  · exact hhi x hx
  · obtain ⟨b, hb, hx⟩ := List.mem_flatMap.1 hx
    exact h.above hj (by rw [hp.at_]; simp [hb]) (hp.hi b hb) x hx
/-- What a split does to the nodes. -/
structure Spl (nd : Nat → Nd) (n : Nat) (l : List Br) (lo : ByteArray) (c : Nat) (rt : List Br) (keep f : Nat) (lo' : ByteArray) (nd' : Nat → Nd) : Prop where
  nes : (nd' n).es = (nd n).es
  nbs : (nd' n).bs = l ++ (lo, c) :: (lo', f) :: rt
  ces : (nd' c).es = (nd c).es.take keep
  cbs : (nd' c).bs = (nd c).bs.take keep
  fes : (nd' f).es = (nd c).es.drop keep
  fbs : (nd' f).bs = (nd c).bs.drop keep
  oth : ∀ b, b ≠ n → b ≠ c → b ≠ f → nd' b = nd b
theorem R_ins {X Y : List It} {k : ByteArray} (h : (X ++ (k, true) :: Y).Pairwise R) : (X ++ (k, false) :: (k, true) :: Y).Pairwise R := by
  rw [List.pairwise_append] at h ⊢
  obtain ⟨h1, h2, h3⟩ := h
  obtain ⟨h4, h5⟩ := List.pairwise_cons.1 h2
  refine ⟨h1, List.pairwise_cons.2 ⟨fun y hy => ?_, h2⟩, fun x hx y hy => ?_⟩
  · rcases List.mem_cons.1 hy with rfl | hy
    · exact Or.inr ⟨rfl, rfl⟩
    · exact Or.inl ((h4 y hy).lt rfl)
  · rcases List.mem_cons.1 hy with rfl | hy
    · have := h3 x hx (k, true) (by simp)
      exact this
    · exact h3 x hx y hy
theorem mem_pair {A B : List Br} {p q : Br} (hn : ((A ++ p :: B).map (·.2)).Nodup) (hq : q ∈ A ∨ q ∈ B) : q.2 ≠ p.2 := by
  rw [List.map_append, List.map_cons] at hn
  obtain ⟨_, h2, h3⟩ := List.nodup_append.1 hn
  rcases hq with hq | hq
  · exact h3 _ (List.mem_map_of_mem hq) _ (by simp)
  · exact fun e => (List.nodup_cons.1 h2).1 (e ▸ List.mem_map_of_mem hq)
/-- A child of a node is split. -/
theorem Shape.split {nd nd' : Nat → Nd} {r H : Nat} {lv : Nat → List Br} {dep : Nat → Nat} (h : Shape nd r H lv dep) {j : Nat} (hj : j < H) {A B : List Br} {p : Br} (hp : lv j = A ++ p :: B) {l rt : List Br} {lo lo' : ByteArray} {c f keep : Nat} (hq : (nd p.2).bs = l ++ (lo, c) :: rt) (hf : Fresh H lv f) (hs : Spl nd p.2 l lo c rt keep f lo' nd')
    (hi : j + 1 < H → 0 < keep ∧ ∃ d t, (nd c).bs.drop keep = (lo', d) :: t) (hl : j + 1 = H → ∃ e t, (nd c).es.drop keep = e :: t ∧ e.key = lo') :
    Shape nd' r H (setLv lv (j + 1) ((next nd A ++ l) ++ (lo, c) :: (lo', f) :: (rt ++ next nd B))) (fun b => if b = f then j + 1 else dep b) := by
  have hk := h.kids hj hp hq
  have hpm : p ∈ lv j := by rw [hp]; simp
  have hcm : (lo, c) ∈ lv (j + 1) := by rw [hk]; simp
  have dp := h.dp j (by omega) p hpm
  have dc := h.dp (j + 1) hj (lo, c) hcm
  have oth : ∀ i, i ≤ H → i ≠ j → i ≠ j + 1 → ∀ q ∈ lv i, nd' q.2 = nd q.2 := fun i hi h1 h2 q hq => by
    have := h.dp i hi q hq
    refine hs.oth _ (fun e => ?_) (fun e => ?_) (hf i hi q hq)
    · rw [e] at this; omega
    · rw [e] at this; simp only at dc; omega
  have othj : ∀ q, q ∈ A ∨ q ∈ B → nd' q.2 = nd q.2 := fun q hq => by
    have hqm : q ∈ lv j := by rw [hp]; rcases hq with hq | hq <;> simp [hq]
    have hnd := h.nodup j (by omega)
    rw [hp] at hnd
    refine hs.oth _ (mem_pair hnd hq) (fun e => ?_) (hf j (by omega) q hqm)
    have := h.dp j (by omega) q hqm
    rw [e] at this; simp only at dc; omega
  have othk : ∀ q, q ∈ (next nd A ++ l) ∨ q ∈ (rt ++ next nd B) → nd' q.2 = nd q.2 := fun q hq => by
    have hqm : q ∈ lv (j + 1) := by rw [hk]; rcases hq with hq | hq; exact List.mem_append_left _ hq; exact List.mem_append_right _ (List.mem_cons_of_mem _ hq)
    have hnd := h.nodup (j + 1) hj
    rw [hk] at hnd
    refine hs.oth _ (fun e => ?_) (mem_pair hnd hq) (hf (j + 1) hj q hqm)
    have := h.dp (j + 1) hj q hqm
    rw [e] at this; omega
  have hqb := hq
  clear hq
  generalize hP : next nd A ++ l = P at *
  generalize hQ : rt ++ next nd B = Q at *
  have hfc : c ≠ f := hf (j + 1) hj (lo, c) hcm
  have hfp : p.2 ≠ f := hf j (by omega) p hpm
  constructor
  · rw [setLv_other _ _ (by omega)]; exact h.top
  · intro i hi'
    by_cases e1 : i = j
    · subst e1
      rw [setLv_same, setLv_other _ _ (by omega), hp, next_append, next_cons, next_congr (fun q hq => othj q (Or.inl hq)), next_congr (l := B) (fun q hq => othj q (Or.inr hq)), hs.nbs, ← hP, ← hQ]
      simp
    · by_cases e2 : i = j + 1
      · subst e2
        rw [setLv_same, setLv_other _ _ (by omega), next_append, next_cons, next_cons, next_congr (fun q hq => othk q (Or.inl hq)), next_congr (l := Q) (fun q hq => othk q (Or.inr hq)), hs.cbs, hs.fbs, h.nx (j + 1) hi', hk, next_append, next_cons, ← List.append_assoc ((nd c).bs.take keep), List.take_append_drop]
      · rw [setLv_other _ _ (by omega), setLv_other _ _ e2, h.nx i hi', next_congr (oth i (by omega) e1 e2)]
  · intro i hi' q hq
    by_cases e : i = j + 1
    · subst e
      rw [setLv_same] at hq
      by_cases e2 : q.2 = f
      · simp [e2]
      · simp only [e2, if_false]
        refine h.dp (j + 1) hi' q ?_
        rw [hk]
        simp only [List.mem_append, List.mem_cons] at hq ⊢
        rcases hq with hq | hq | hq | hq
        · exact Or.inl hq
        · exact Or.inr (Or.inl hq)
        · exact absurd (by rw [hq]) e2
        · exact Or.inr (Or.inr hq)
    · rw [setLv_other _ _ e] at hq
      simp only [hf i hi' q hq, if_false]
      exact h.dp i hi' q hq
  · intro i hi'
    by_cases e : i = j + 1
    · subst e
      rw [setLv_same]
      have hnd := h.nodup (j + 1) hi'
      rw [hk] at hnd
      rw [List.map_append, List.map_cons] at hnd
      rw [List.map_append, List.map_cons, List.map_cons]
      have hfP : f ∉ P.map (·.2) := fun hx => by
        obtain ⟨q, hq, e⟩ := List.mem_map.1 hx
        exact hf (j + 1) hi' q (by rw [hk]; simp [hq]) e
      have hfQ : f ∉ Q.map (·.2) := fun hx => by
        obtain ⟨q, hq, e⟩ := List.mem_map.1 hx
        exact hf (j + 1) hi' q (by rw [hk]; simp [hq]) e
      obtain ⟨n1, n2, n3⟩ := List.nodup_append.1 hnd
      obtain ⟨n4, n5⟩ := List.nodup_cons.1 n2
      refine List.nodup_append.2 ⟨n1, List.nodup_cons.2 ⟨fun hx => ?_, List.nodup_cons.2 ⟨hfQ, n5⟩⟩, fun a ha b hb => ?_⟩
      · rcases List.mem_cons.1 hx with hx | hx
        · exact hfc hx
        · exact n4 hx
      · rcases List.mem_cons.1 hb with rfl | hb
        · exact n3 a ha _ (by simp)
        · rcases List.mem_cons.1 hb with rfl | hb
          · exact fun e => hfP (e ▸ ha)
          · exact n3 a ha b (by simp [hb])
    · rw [setLv_other _ _ e]; exact h.nodup i hi'
  · intro i hi' q hq
    by_cases e1 : i = j
    · subst e1
      rw [setLv_other _ _ (by omega)] at hq
      by_cases e2 : q = p
      · subst e2
        obtain ⟨h1, c', t, h2⟩ := h.inner i hi' q hpm
        refine ⟨by rw [hs.nes]; exact h1, ?_⟩
        rw [hs.nbs]
        rw [hqb] at h2
        cases l with
        | nil => cases h2; exact ⟨_, _, rfl⟩
        | cons x l => cases h2; exact ⟨_, _, rfl⟩
      · rw [hp] at hq
        have : q ∈ A ∨ q ∈ B := by
          rcases List.mem_append.1 hq with hq | hq
          · exact Or.inl hq
          · rcases List.mem_cons.1 hq with hq | hq
            · exact absurd hq e2
            · exact Or.inr hq
        rw [othj q this]
        exact h.inner i hi' q (by rw [hp]; exact hq)
    · by_cases e2 : i = j + 1
      · subst e2
        rw [setLv_same] at hq
        obtain ⟨hk0, d, t, hd⟩ := hi hi'
        simp only [List.mem_append, List.mem_cons] at hq
        rcases hq with hq | hq | hq | hq
        · rw [othk q (Or.inl hq)]
          exact h.inner (j + 1) hi' q (by rw [hk]; simp [hq])
        · subst hq
          obtain ⟨h1, c', t', h2⟩ := h.inner (j + 1) hi' (lo, c) hcm
          refine ⟨by simp only at h1 ⊢; rw [hs.ces, h1, List.take_nil], ?_⟩
          simp only at h2 ⊢
          rw [hs.cbs, h2]
          obtain ⟨m, rfl⟩ : ∃ m, keep = m + 1 := ⟨keep - 1, by omega⟩
          exact ⟨_, _, rfl⟩
        · subst hq
          obtain ⟨h1, _⟩ := h.inner (j + 1) hi' (lo, c) hcm
          refine ⟨by simp only at h1 ⊢; rw [hs.fes, h1, List.drop_nil], ?_⟩
          simp only
          rw [hs.fbs, hd]
          exact ⟨_, _, rfl⟩
        · rw [othk q (Or.inr hq)]
          exact h.inner (j + 1) hi' q (by rw [hk]; simp [hq])
      · rw [setLv_other _ _ e2] at hq
        rw [oth i (by omega) e1 e2 q hq]
        exact h.inner i hi' q hq
  · intro q hq
    by_cases e : H = j + 1
    · rw [e, setLv_same] at hq
      have hlf := h.leaf
      rw [e] at hlf
      simp only [List.mem_append, List.mem_cons] at hq
      rcases hq with hq | hq | hq | hq
      · rw [othk q (Or.inl hq)]
        exact hlf q (by rw [hk]; simp [hq])
      · subst hq
        have h1 := hlf (lo, c) hcm
        simp only at h1 ⊢
        rw [hs.cbs, h1, List.take_nil]
      · subst hq
        have h1 := hlf (lo, c) hcm
        simp only at h1 ⊢
        rw [hs.fbs, h1, List.drop_nil]
      · rw [othk q (Or.inr hq)]
        exact hlf q (by rw [hk]; simp [hq])
    · rw [setLv_other _ _ e] at hq
      rw [oth H (Nat.le_refl _) (by omega) e q hq]
      exact h.leaf q hq
  · by_cases e : H = j + 1
    · obtain ⟨x, t, hx, hxk⟩ := hl e.symm
      have ho := h.ord
      rw [e, hk, List.flatMap_append, List.flatMap_cons] at ho
      rw [e, setLv_same, List.flatMap_append, List.flatMap_cons, List.flatMap_cons, its_congr (fun q hq => othk q (Or.inl hq)), its_congr (l := Q) (fun q hq => othk q (Or.inr hq))]
      have hes : (nd c).es = (nd c).es.take keep ++ x :: t := by rw [← hx, List.take_append_drop]
      have e1 : its nd (lo, c) = ((lo, false) :: ((nd c).es.take keep).map (fun e => (e.key, true))) ++ (lo', true) :: t.map (fun e => (e.key, true)) := by
        unfold its
        simp only
        conv => lhs; rw [hes]
        rw [List.map_append, List.map_cons, hxk]
        simp
      have e2 : its nd' (lo, c) = (lo, false) :: ((nd c).es.take keep).map (fun e => (e.key, true)) := by
        unfold its; simp only; rw [hs.ces]
      have e3 : its nd' (lo', f) = (lo', false) :: (lo', true) :: t.map (fun e => (e.key, true)) := by
        unfold its; simp only; rw [hs.fes, hx, List.map_cons, hxk]
      rw [e1] at ho
      rw [e2, e3]
      have := R_ins (X := P.flatMap (its nd) ++ ((lo, false) :: ((nd c).es.take keep).map (fun e => (e.key, true)))) (k := lo') (Y := t.map (fun e => (e.key, true)) ++ Q.flatMap (its nd)) (by simpa using ho)
      simpa using this
    · rw [setLv_other _ _ e, its_congr (oth H (Nat.le_refl _) (by omega) e)]
      exact h.ord
theorem Spl.ents {nd nd' : Nat → Nd} {n : Nat} {l rt : List Br} {lo lo' : ByteArray} {c keep f : Nat} (hs : Spl nd n l lo c rt keep f lo' nd') : (nd' c).es ++ (nd' f).es = (nd c).es := by rw [hs.ces, hs.fes, List.take_append_drop]
/-- .. and what is in it stays. -/
theorem Shape.split_ents {nd nd' : Nat → Nd} {r H : Nat} {lv : Nat → List Br} {dep : Nat → Nat} (h : Shape nd r H lv dep) {j : Nat} (hj : j < H) {A B : List Br} {p : Br} (hp : lv j = A ++ p :: B) {l rt : List Br} {lo lo' : ByteArray} {c f keep : Nat} (hq : (nd p.2).bs = l ++ (lo, c) :: rt) (hf : Fresh H lv f) (hs : Spl nd p.2 l lo c rt keep f lo' nd') :
    ents nd' (setLv lv (j + 1) ((next nd A ++ l) ++ (lo, c) :: (lo', f) :: (rt ++ next nd B)) H) = ents nd (lv H) := by
  have hk := h.kids hj hp hq
  have hpm : p ∈ lv j := by rw [hp]; simp
  have hcm : (lo, c) ∈ lv (j + 1) := by rw [hk]; simp
  have dp := h.dp j (by omega) p hpm
  have dc := h.dp (j + 1) hj (lo, c) hcm
  have oth : ∀ i, i ≤ H → i ≠ j → i ≠ j + 1 → ∀ q ∈ lv i, nd' q.2 = nd q.2 := fun i hi h1 h2 q hq => by
    have := h.dp i hi q hq
    refine hs.oth _ (fun e => ?_) (fun e => ?_) (hf i hi q hq)
    · rw [e] at this; omega
    · rw [e] at this; simp only at dc; omega
  by_cases e : H = j + 1
  · have othk : ∀ q, q ∈ (next nd A ++ l) ∨ q ∈ (rt ++ next nd B) → nd' q.2 = nd q.2 := fun q hq => by
      have hqm : q ∈ lv (j + 1) := by rw [hk]; rcases hq with hq | hq; exact List.mem_append_left _ hq; exact List.mem_append_right _ (List.mem_cons_of_mem _ hq)
      have hnd := h.nodup (j + 1) hj
      rw [hk] at hnd
      refine hs.oth _ (fun e => ?_) (mem_pair hnd hq) (hf (j + 1) hj q hqm)
      have := h.dp (j + 1) hj q hqm
      rw [e] at this; omega
    rw [e, setLv_same, hk]
    generalize next nd A ++ l = P at *
    generalize rt ++ next nd B = Q at *
    rw [ents_append, ents_cons, ents_cons, ents_append, ents_cons, ents_congr (fun q hq => othk q (Or.inl hq)), ents_congr (l := Q) (fun q hq => othk q (Or.inr hq)), ← List.append_assoc (nd' c).es, hs.ents]
  · rw [setLv_other _ _ e, ents_congr (oth H (Nat.le_refl _) (by omega) e)]
/-- What a joining does to the nodes. -/
structure Jn (nd : Nat → Nd) (n : Nat) (l : List Br) (lo : ByteArray) (c : Nat) (lo2 : ByteArray) (d : Nat) (rt : List Br) (nd' : Nat → Nd) : Prop where
  nes : (nd' n).es = (nd n).es
  nbs : (nd' n).bs = l ++ (lo, c) :: rt
  ces : (nd' c).es = (nd c).es ++ (nd d).es
  cbs : (nd' c).bs = (nd c).bs ++ (nd d).bs
  oth : ∀ b, b ≠ n → b ≠ c → nd' b = nd b
/-- Two children of a node become one. -/
theorem Shape.join {nd nd' : Nat → Nd} {r H : Nat} {lv : Nat → List Br} {dep : Nat → Nat} (h : Shape nd r H lv dep) {j : Nat} (hj : j < H) {A B : List Br} {p : Br} (hp : lv j = A ++ p :: B) {l rt : List Br} {lo lo2 : ByteArray} {c d : Nat} (hq : (nd p.2).bs = l ++ (lo, c) :: (lo2, d) :: rt) (hs : Jn nd p.2 l lo c lo2 d rt nd') :
    Shape nd' r H (setLv lv (j + 1) ((next nd A ++ l) ++ (lo, c) :: (rt ++ next nd B))) dep ∧ ents nd' (setLv lv (j + 1) ((next nd A ++ l) ++ (lo, c) :: (rt ++ next nd B)) H) = ents nd (lv H) := by
  have hk : lv (j + 1) = (next nd A ++ l) ++ (lo, c) :: (lo2, d) :: (rt ++ next nd B) := by have := h.kids hj hp hq; simpa using this
  have hpm : p ∈ lv j := by rw [hp]; simp
  have hcm : (lo, c) ∈ lv (j + 1) := by rw [hk]; simp
  have hdm : (lo2, d) ∈ lv (j + 1) := by rw [hk]; simp
  have dp := h.dp j (by omega) p hpm
  have dc := h.dp (j + 1) hj (lo, c) hcm
  have oth : ∀ i, i ≤ H → i ≠ j → i ≠ j + 1 → ∀ q ∈ lv i, nd' q.2 = nd q.2 := fun i hi h1 h2 q hq => by
    have := h.dp i hi q hq
    refine hs.oth _ (fun e => ?_) (fun e => ?_)
    · rw [e] at this; omega
    · rw [e] at this; simp only at dc; omega
  have othj : ∀ q, q ∈ A ∨ q ∈ B → nd' q.2 = nd q.2 := fun q hq => by
    have hqm : q ∈ lv j := by rw [hp]; rcases hq with hq | hq <;> simp [hq]
    have hnd := h.nodup j (by omega)
    rw [hp] at hnd
    refine hs.oth _ (mem_pair hnd hq) (fun e => ?_)
    have := h.dp j (by omega) q hqm
    rw [e] at this; simp only at dc; omega
  have othk : ∀ q, q ∈ (next nd A ++ l) ∨ q ∈ (rt ++ next nd B) → nd' q.2 = nd q.2 := fun q hq => by
    have hqm : q ∈ lv (j + 1) := by rw [hk]; rcases hq with hq | hq; exact List.mem_append_left _ hq; exact List.mem_append_right _ (List.mem_cons_of_mem _ (List.mem_cons_of_mem _ hq))
    have hnd := h.nodup (j + 1) hj
    rw [hk] at hnd
    refine hs.oth _ (fun e => ?_) (mem_pair hnd (hq.imp id (fun h => List.mem_cons_of_mem _ h)))
    have := h.dp (j + 1) hj q hqm
    rw [e] at this; omega
  have hqb := hq
  clear hq
  have hsub : ∀ q, q ∈ (next nd A ++ l) ++ (lo, c) :: (rt ++ next nd B) → q ∈ lv (j + 1) := fun q hq => by
    rw [hk]
    simp only [List.mem_append, List.mem_cons] at hq ⊢
    rcases hq with hq | hq | hq
    · exact Or.inl hq
    · exact Or.inr (Or.inl hq)
    · exact Or.inr (Or.inr (Or.inr hq))
  generalize hP : next nd A ++ l = P at *
  generalize hQ : rt ++ next nd B = Q at *
  refine ⟨?_, ?_⟩
  constructor
  · rw [setLv_other _ _ (by omega)]; exact h.top
  · intro i hi'
    by_cases e1 : i = j
    · subst e1
      rw [setLv_same, setLv_other _ _ (by omega), hp, next_append, next_cons, next_congr (fun q hq => othj q (Or.inl hq)), next_congr (l := B) (fun q hq => othj q (Or.inr hq)), hs.nbs, ← hP, ← hQ]
      simp
    · by_cases e2 : i = j + 1
      · subst e2
        rw [setLv_same, setLv_other _ _ (by omega), next_append, next_cons, next_congr (fun q hq => othk q (Or.inl hq)), next_congr (l := Q) (fun q hq => othk q (Or.inr hq)), hs.cbs, h.nx (j + 1) hi', hk, next_append, next_cons, next_cons]
        simp
      · rw [setLv_other _ _ (by omega), setLv_other _ _ e2, h.nx i hi', next_congr (oth i (by omega) e1 e2)]
  · intro i hi' q hq
    by_cases e : i = j + 1
    · subst e
      rw [setLv_same] at hq
      exact h.dp (j + 1) hi' q (hsub q hq)
    · rw [setLv_other _ _ e] at hq
      exact h.dp i hi' q hq
  · intro i hi'
    by_cases e : i = j + 1
    · subst e
      rw [setLv_same]
      have hnd := h.nodup (j + 1) hi'
      rw [hk] at hnd
      refine hnd.sublist ?_
      exact List.Sublist.map _ (List.Sublist.append (List.Sublist.refl _) (List.Sublist.cons_cons _ (List.Sublist.cons _ (List.Sublist.refl _))))
    · rw [setLv_other _ _ e]; exact h.nodup i hi'
  · intro i hi' q hq
    by_cases e1 : i = j
    · subst e1
      rw [setLv_other _ _ (by omega)] at hq
      by_cases e2 : q = p
      · subst e2
        obtain ⟨h1, c', t, h2⟩ := h.inner i hi' q hpm
        refine ⟨by rw [hs.nes]; exact h1, ?_⟩
        rw [hs.nbs]
        rw [hqb] at h2
        cases l with
        | nil => cases h2; exact ⟨_, _, rfl⟩
        | cons x l => cases h2; exact ⟨_, _, rfl⟩
      · rw [hp] at hq
        have : q ∈ A ∨ q ∈ B := by
          rcases List.mem_append.1 hq with hq | hq
          · exact Or.inl hq
          · rcases List.mem_cons.1 hq with hq | hq
            · exact absurd hq e2
            · exact Or.inr hq
        rw [othj q this]
        exact h.inner i hi' q (by rw [hp]; exact hq)
    · by_cases e2 : i = j + 1
      · subst e2
        rw [setLv_same] at hq
        have hqm := hsub q hq
        simp only [List.mem_append, List.mem_cons] at hq
        rcases hq with hq | hq | hq
        · rw [othk q (Or.inl hq)]
          exact h.inner (j + 1) hi' q hqm
        · subst hq
          obtain ⟨h1, c', t', h2⟩ := h.inner (j + 1) hi' (lo, c) hcm
          obtain ⟨h3, _⟩ := h.inner (j + 1) hi' (lo2, d) hdm
          refine ⟨by simp only at h1 h3 ⊢; rw [hs.ces, h1, h3]; rfl, ?_⟩
          simp only at h2 ⊢
          rw [hs.cbs, h2]
          exact ⟨_, _, rfl⟩
        · rw [othk q (Or.inr hq)]
          exact h.inner (j + 1) hi' q hqm
      · rw [setLv_other _ _ e2] at hq
        rw [oth i (by omega) e1 e2 q hq]
        exact h.inner i hi' q hq
  · intro q hq
    by_cases e : H = j + 1
    · rw [e, setLv_same] at hq
      have hlf := h.leaf
      rw [e] at hlf
      have hqm := hsub q hq
      simp only [List.mem_append, List.mem_cons] at hq
      rcases hq with hq | hq | hq
      · rw [othk q (Or.inl hq)]
        exact hlf q hqm
      · subst hq
        have h1 := hlf (lo, c) hcm
        have h2 := hlf (lo2, d) hdm
        simp only at h1 h2 ⊢
        rw [hs.cbs, h1, h2]; rfl
      · rw [othk q (Or.inr hq)]
        exact hlf q hqm
    · rw [setLv_other _ _ e] at hq
      rw [oth H (Nat.le_refl _) (by omega) e q hq]
      exact h.leaf q hq
  · by_cases e : H = j + 1
    · have ho := h.ord
      rw [e, hk, List.flatMap_append, List.flatMap_cons, List.flatMap_cons] at ho
      rw [e, setLv_same, List.flatMap_append, List.flatMap_cons, its_congr (fun q hq => othk q (Or.inl hq)), its_congr (l := Q) (fun q hq => othk q (Or.inr hq))]
      refine ho.sublist (List.Sublist.append (List.Sublist.refl _) ?_)
      rw [← List.append_assoc]
      refine List.Sublist.append ?_ (List.Sublist.refl _)
      unfold its
      simp only
      rw [hs.ces, List.map_append, List.cons_append]
      exact List.Sublist.cons_cons _ (List.Sublist.append (List.Sublist.refl _) (List.Sublist.cons _ (List.Sublist.refl _)))
    · rw [setLv_other _ _ e, its_congr (oth H (Nat.le_refl _) (by omega) e)]
      exact h.ord
  · by_cases e : H = j + 1
    · rw [e, setLv_same, hk, ents_append, ents_cons, ents_append, ents_cons, ents_cons, ents_congr (fun q hq => othk q (Or.inl hq)), ents_congr (l := Q) (fun q hq => othk q (Or.inr hq)), hs.ces, List.append_assoc]
    · rw [setLv_other _ _ e, ents_congr (oth H (Nat.le_refl _) (by omega) e)]
end Go.Proofs.Ytfobcnmhghfanaa

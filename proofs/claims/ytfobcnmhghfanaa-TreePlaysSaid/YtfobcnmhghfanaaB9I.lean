/- A tree as it lies; what splitting and joining do to its sizes; pure but for the nodes' memory. -/
import Derived.Test.YtfobcnmhghfanaaB9E
namespace Go.Proofs.Ytfobcnmhghfanaa
open Go.RowKit Go.Shelf
set_option linter.unusedVariables false
set_option linter.unusedSimpArgs false

/-- A tree's nodes as they lie, whatever their sizes. -/
structure TM (base : Nat) (w : World) (ro : Ro) (nd : Nat → Nd) (r H : Nat) (lv : Nat → List Br) (dep : Nat → Nat) : Prop where
  mem : Mem base w ro nd
  sh : Shape nd r H lv dep
  inn : ∀ j, j ≤ H → ∀ p ∈ lv j, ro p.2 = some (p.2, 0)
/-- The sizes of a tree's nodes. -/
structure SZ (nd : Nat → Nd) (r H : Nat) (lv : Nat → List Br) : Prop where
  sz : ∀ j, 0 < j → j ≤ H → ∀ p ∈ lv j, 4 ≤ (nd p.2).sz ∧ (nd p.2).sz ≤ 8
  top : (nd r).sz ≤ 8
structure TS (base : Nat) (w : World) (ro : Ro) (nd : Nat → Nd) (r H : Nat) (lv : Nat → List Br) (dep : Nat → Nat) : Prop extends TM base w ro nd r H lv dep, SZ nd r H lv
theorem TM.fresh {base : Nat} {w : World} {ro : Ro} {nd : Nat → Nd} {r H : Nat} {lv : Nat → List Br} {dep : Nat → Nat} (h : TM base w ro nd r H lv dep) {f : Nat} (hf : w.heap.size ≤ f) : Fresh H lv f := fun i hi p hp e => by
  have := h.mem.lt (h.inn i hi p hp)
  omega
theorem TM.below {base : Nat} {w w' : World} {ro : Ro} {nd : Nat → Nd} {r H : Nat} {lv : Nat → List Br} {dep : Nat → Nat} (h : TM base w ro nd r H lv dep) (hb : Below w.heap.size w w') : TM base w' ro nd r H lv dep := ⟨h.mem.below hb, h.sh, h.inn⟩
theorem TS.below {base : Nat} {w w' : World} {ro : Ro} {nd : Nat → Nd} {r H : Nat} {lv : Nat → List Br} {dep : Nat → Nat} (h : TS base w ro nd r H lv dep) (hb : Below w.heap.size w w') : TS base w' ro nd r H lv dep := ⟨h.toTM.below hb, h.toSZ⟩
theorem TM.root {base : Nat} {w : World} {ro : Ro} {nd : Nat → Nd} {r H : Nat} {lv : Nat → List Br} {dep : Nat → Nat} (h : TM base w ro nd r H lv dep) : ro r = some (r, 0) := h.inn 0 (by omega) (ByteArray.empty, r) (by rw [h.sh.top]; simp)
theorem SZ.all {nd : Nat → Nd} {r H : Nat} {lv : Nat → List Br} {dep : Nat → Nat} (h : SZ nd r H lv) (hs : Shape nd r H lv dep) {j : Nat} (hj : j ≤ H) {p : Br} (hp : p ∈ lv j) : (nd p.2).sz ≤ 8 := by
  by_cases e : j = 0
  · subst e; rw [hs.top] at hp; simp at hp; rw [hp]; exact h.top
  · exact (h.sz j (by omega) hj p hp).2
theorem bs_le (n : Nd) : n.bs.length ≤ n.sz := by unfold Nd.sz; omega
theorem es_le (n : Nd) : n.es.length ≤ n.sz := by unfold Nd.sz; omega
theorem Shape.only_root {nd : Nat → Nd} {r H : Nat} {lv : Nat → List Br} {dep : Nat → Nat} (h : Shape nd r H lv dep) {j : Nat} (hj : j ≤ H) {p : Br} (hp : p ∈ lv j) (e : p.2 = r) : j = 0 := by
  have h1 := h.dp j hj p hp
  have h2 := h.dp 0 (by omega) (ByteArray.empty, r) (by rw [h.top]; simp)
  rw [e] at h1; simp only at h2; omega
/-- Behind a split of a node's child. -/
theorem TM.split {base : Nat} {w w' : World} {ro ro' : Ro} {nd nd' : Nat → Nd} {r H : Nat} {lv : Nat → List Br} {dep : Nat → Nat} (h : TM base w ro nd r H lv dep) {j : Nat} (hj : j < H) {A B : List Br} {p : Br} (hp : lv j = A ++ p :: B) {l rt : List Br} {lo lo' : ByteArray} {c f keep : Nat} (hq : (nd p.2).bs = l ++ (lo, c) :: rt) (mt : MTo base w ro nd w' ro' nd') (hs : Spl nd p.2 l lo c rt keep f lo' nd') (hf : w.heap.size ≤ f) (hr : ro' f = some (f, 0)) (hk : 0 < keep)
    (hl : (nd c).bs = [] → ∃ e t, (nd c).es.drop keep = e :: t ∧ e.key = lo') (hi : (nd c).bs ≠ [] → ∃ d t, (nd c).bs.drop keep = (lo', d) :: t)
    (szx : ∀ i, 0 < i → i ≤ H → ∀ q ∈ lv i, q.2 ≠ c → q.2 ≠ p.2 → 4 ≤ (nd q.2).sz ∧ (nd q.2).sz ≤ 8) (htop : (nd r).sz ≤ 8) (hp1 : (nd p.2).sz + 1 ≤ 8) (hp2 : 0 < j → 4 ≤ (nd p.2).sz + 1) (hc1 : 4 ≤ keep ∧ keep ≤ 8) (hc2 : keep + 4 ≤ (nd c).sz ∧ (nd c).sz ≤ keep + 8) :
    ∃ lv' dep', TS base w' ro' nd' r H lv' dep' ∧ (∀ i, i ≤ j → lv' i = lv i) ∧ ents nd' (lv' H) = ents nd (lv H) ∧ (nd' c).sz = keep ∧ (nd' f).sz = (nd c).sz - keep ∧ (nd' p.2).sz = (nd p.2).sz + 1 := by
  have hfr := h.fresh hf
  have hk1 := h.sh.kids hj hp hq
  have hcm : (lo, c) ∈ lv (j + 1) := by rw [hk1]; simp
  have hpm : p ∈ lv j := by rw [hp]; simp
  have hcl : j + 1 = H → (nd c).bs = [] := fun e => h.sh.leaf (lo, c) (by rw [← e]; exact hcm)
  have hci : j + 1 < H → (nd c).es = [] ∧ (nd c).bs ≠ [] := fun e => by
    obtain ⟨h1, d, t, h2⟩ := h.sh.inner (j + 1) e (lo, c) hcm
    exact ⟨h1, by simp only at h2; rw [h2]; simp⟩
  have hS := h.sh.split hj hp hq hfr hs (fun e => ⟨hk, hi (hci e).2⟩) (fun e => hl (hcl e))
  have hE := h.sh.split_ents hj hp hq hfr hs
  have dp := h.sh.dp j (by omega) p hpm
  have dc := h.sh.dp (j + 1) hj (lo, c) hcm
  have hpc : p.2 ≠ c := fun e => by rw [e] at dp; simp only at dc; omega
  have hcf : c ≠ f := hfr (j + 1) hj _ hcm
  have hpf : p.2 ≠ f := hfr j (by omega) _ hpm
  have s1 : (nd' c).sz = keep := by
    unfold Nd.sz
    rw [hs.ces, hs.cbs, List.length_take, List.length_take]
    unfold Nd.sz at hc2
    rcases Nat.lt_or_ge (j + 1) H with e | e
    · rw [(hci e).1] at hc2 ⊢; simp only [List.length_nil] at hc2 ⊢; omega
    · rw [hcl (by omega)] at hc2 ⊢; simp only [List.length_nil] at hc2 ⊢; omega
  have s2 : (nd' f).sz = (nd c).sz - keep := by
    unfold Nd.sz
    rw [hs.fes, hs.fbs, List.length_drop, List.length_drop]
    unfold Nd.sz at hc2
    rcases Nat.lt_or_ge (j + 1) H with e | e
    · rw [(hci e).1] at hc2 ⊢; simp only [List.length_nil] at hc2 ⊢; omega
    · rw [hcl (by omega)] at hc2 ⊢; simp only [List.length_nil] at hc2 ⊢; omega
  have s3 : (nd' p.2).sz = (nd p.2).sz + 1 := by
    unfold Nd.sz
    rw [hs.nes, hs.nbs, hq]
    simp; omega
  have hmem : ∀ i, i ≤ H → ∀ q ∈ setLv lv (j + 1) ((next nd A ++ l) ++ (lo, c) :: (lo', f) :: (rt ++ next nd B)) i, q.2 = f ∨ q ∈ lv i := fun i hi' q hq' => by
    by_cases e : i = j + 1
    · subst e
      rw [setLv_same] at hq'
      rw [hk1]
      simp only [List.mem_append, List.mem_cons] at hq' ⊢
      rcases hq' with (hq' | hq') | hq' | hq' | hq' | hq'
      · exact Or.inr (Or.inl (Or.inl hq'))
      · exact Or.inr (Or.inl (Or.inr hq'))
      · exact Or.inr (Or.inr (Or.inl hq'))
      · exact Or.inl (by rw [hq'])
      · exact Or.inr (Or.inr (Or.inr (Or.inl hq')))
      · exact Or.inr (Or.inr (Or.inr (Or.inr hq')))
    · rw [setLv_other _ _ e] at hq'; exact Or.inr hq'
  refine ⟨_, _, ⟨⟨mt.mem, hS, fun i hi' q hq' => ?_⟩, ⟨fun i h0 hi' q hq' => ?_, ?_⟩⟩, fun i hi' => setLv_other _ _ (by omega), hE, s1, s2, s3⟩
  · rcases hmem i hi' q hq' with e | hq'
    · rw [e]; exact hr
    · exact mt.node _ (h.inn i hi' q hq')
  · by_cases e1 : q.2 = f
    · rw [e1, s2]; omega
    · by_cases e2 : q.2 = c
      · rw [e2, s1]; exact hc1
      · have hql : q ∈ lv i := (hmem i hi' q hq').resolve_left e1
        by_cases e3 : q.2 = p.2
        · rw [e3, s3]
          have hi2 : i = j := by
            have := h.sh.dp i hi' q hql
            rw [e3] at this; omega
          exact ⟨hp2 (by omega), hp1⟩
        · rw [hs.oth _ e3 e2 e1]
          exact szx i h0 hi' q hql e2 e3
  · by_cases e : p.2 = r
    · rw [← e, s3]; exact hp1
    · have hrm : (ByteArray.empty, r) ∈ lv 0 := by rw [h.sh.top]; simp
      have hrc : r ≠ c := fun e' => by
        have := h.sh.only_root hj hcm e'.symm; omega
      rw [hs.oth r (fun e' => e e'.symm) hrc (hfr 0 (by omega) _ hrm)]
      exact htop
/-- Behind a joining of two of a node's children. -/
theorem TM.join {base : Nat} {w w' : World} {ro ro' : Ro} {nd nd' : Nat → Nd} {r H : Nat} {lv : Nat → List Br} {dep : Nat → Nat} (h : TM base w ro nd r H lv dep) {j : Nat} (hj : j < H) {A B : List Br} {p : Br} (hp : lv j = A ++ p :: B) {l rt : List Br} {lo lo2 : ByteArray} {c d : Nat} (hq : (nd p.2).bs = l ++ (lo, c) :: (lo2, d) :: rt) (mt : MTo base w ro nd w' ro' nd') (hs : Jn nd p.2 l lo c lo2 d rt nd') :
    ∃ lv', TM base w' ro' nd' r H lv' dep ∧ (∀ i, i ≤ j → lv' i = lv i) ∧ ents nd' (lv' H) = ents nd (lv H) ∧ (nd' c).sz = (nd c).sz + (nd d).sz ∧ (nd' p.2).sz + 1 = (nd p.2).sz ∧ (∀ i, i ≤ H → ∀ q ∈ lv' i, q ∈ lv i) := by
  obtain ⟨hS, hE⟩ := h.sh.join hj hp hq hs
  have hk : lv (j + 1) = (next nd A ++ l) ++ (lo, c) :: (lo2, d) :: (rt ++ next nd B) := by have := h.sh.kids hj hp hq; simpa using this
  have hmem : ∀ i, i ≤ H → ∀ q ∈ setLv lv (j + 1) ((next nd A ++ l) ++ (lo, c) :: (rt ++ next nd B)) i, q ∈ lv i := fun i hi' q hq' => by
    by_cases e : i = j + 1
    · subst e
      rw [setLv_same] at hq'
      rw [hk]
      simp only [List.mem_append, List.mem_cons] at hq' ⊢
      rcases hq' with (hq' | hq') | hq' | hq' | hq'
      · exact Or.inl (Or.inl hq')
      · exact Or.inl (Or.inr hq')
      · exact Or.inr (Or.inl hq')
      · exact Or.inr (Or.inr (Or.inr (Or.inl hq')))
      · exact Or.inr (Or.inr (Or.inr (Or.inr hq')))
    · rw [setLv_other _ _ e] at hq'; exact hq'
  refine ⟨_, ⟨mt.mem, hS, fun i hi' q hq' => mt.node _ (h.inn i hi' q (hmem i hi' q hq'))⟩, fun i hi' => setLv_other _ _ (by omega), hE, ?_, ?_, hmem⟩
  · unfold Nd.sz; rw [hs.ces, hs.cbs, List.length_append, List.length_append]; omega
  · unfold Nd.sz; rw [hs.nes, hs.nbs, hq]; simp; omega
/-- What is known of the keys and lows of neighbours. -/
theorem Shape.own_lo {nd : Nat → Nd} {r H : Nat} {lv : Nat → List Br} {dep : Nat → Nat} (h : Shape nd r H lv dep) {j : Nat} (hj : j ≤ H) {q : Br} (hq : q ∈ lv j) : (∀ x ∈ (nd q.2).bs, kl x.1 q.1 = false) ∧ (j = H → ∀ e ∈ (nd q.2).es, kl e.key q.1 = false) := by
  constructor
  · intro x hx
    rcases Nat.lt_or_ge j H with e | e
    · obtain ⟨_, c, t, hb⟩ := h.inner j e q hq
      have hl := h.lows_in e hq
      rw [hb] at hx hl
      rcases List.mem_cons.1 hx with rfl | hx
      · exact kl_irrefl _
      · rw [List.map_cons, List.pairwise_cons] at hl
        exact hl.1 x.1 (List.mem_map_of_mem hx)
    · obtain rfl : j = H := by omega
      rw [h.leaf q hq] at hx; cases hx
  · rintro rfl e he
    obtain ⟨X, Y, hXY⟩ := List.append_of_mem hq
    have ho := h.ord
    rw [hXY, List.flatMap_append, List.flatMap_cons] at ho
    have h1 := (List.pairwise_append.1 (List.pairwise_append.1 ho).2.1).1
    unfold its at h1
    exact ((List.pairwise_cons.1 h1).1 (e.key, true) (List.mem_map_of_mem he)).le
theorem Shape.sib_lo {nd : Nat → Nd} {r H : Nat} {lv : Nat → List Br} {dep : Nat → Nat} (h : Shape nd r H lv dep) {j : Nat} (hj : j ≤ H) {X Y : List Br} {q1 q2 : Br} (hq : lv j = X ++ q1 :: q2 :: Y) : (∀ x ∈ (nd q1.2).bs, kl q2.1 x.1 = false) ∧ (j = H → ∀ e ∈ (nd q1.2).es, kl e.key q2.1 = true) := by
  constructor
  · intro x hx
    rcases Nat.lt_or_ge j H with e | e
    · obtain ⟨_, c, t, hb⟩ := h.inner j e q2 (by rw [hq]; simp)
      have hl := h.lows (j + 1) e
      rw [h.nx j e, hq, next_append, next_cons, next_cons, hb, List.map_append, List.map_append, List.map_append, List.map_cons] at hl
      have h1 := (List.pairwise_append.1 hl).2.1
      exact (List.pairwise_append.1 h1).2.2 x.1 (List.mem_map_of_mem hx) q2.1 (by simp)
    · obtain rfl : j = H := by omega
      rw [h.leaf q1 (by rw [hq]; simp)] at hx; cases hx
  · rintro rfl e he
    have ho := h.ord
    rw [hq, List.flatMap_append, List.flatMap_cons, List.flatMap_cons] at ho
    have h1 := (List.pairwise_append.1 (List.pairwise_append.1 ho).2.1).2.2
    exact (h1 (e.key, true) (by unfold its; exact List.mem_cons_of_mem _ (List.mem_map_of_mem he)) (q2.1, false) (by simp [its])).lt rfl
/-- What mending a child leaves. -/
inductive RdOut (base : Nat) (w : World) (ro : Ro) (nd : Nat → Nd) (r H : Nat) (lv : Nat → List Br) (key : ByteArray) (j : Nat) (p : Br) (i : Nat) (Gd Rq : Nat → Prop) (e : Ending) (w' : World) : Prop
  | no (he : e = .returned (.bool false)) (hb : Below w.heap.size w w') (hg : ∀ q, (nd p.2).bs[i]? = some q → Gd (nd q.2).sz)
  | yes (ro' : Ro) (nd' : Nat → Nd) (lv' : Nat → List Br) (dep' : Nat → Nat) (he : e = .returned (.bool true)) (ts : TS base w' ro' nd' r H lv' dep') (mt : MTo base w ro nd w' ro' nd') (hlv : ∀ i, i ≤ j → lv' i = lv i) (hen : ents nd' (lv' H) = ents nd (lv H)) (hg : ∀ i', BrAt (nd' p.2).bs key i' → ∀ q, (nd' p.2).bs[i']? = some q → Gd (nd' q.2).sz) (hrq : p.2 = r → Rq (nd' r).bs.length) (hro : p.2 ≠ r → nd' r = nd r) (hbad : ∃ q, (nd p.2).bs[i]? = some q ∧ ¬ Gd (nd q.2).sz)
/-- A function that may mend a child ahead of going down to it. -/
def Ready (base g r : Nat) (key : ByteArray) (Gd Rq : Nat → Prop) (Gp : Nat → Nd → Prop) : Prop :=
  ∀ w ro nd H lv dep j A p B i, TS base w ro nd r H lv dep → j < H → Path lv key j A p B → BrAt (nd p.2).bs key i → (Gp j (nd p.2) ∨ ∀ q, (nd p.2).bs[i]? = some q → Gd (nd q.2).sz) → base ≤ w.heap.size →
    Calls Try.prog g #[pt p.2, .int .i64 i] w fun e w' => RdOut base w ro nd r H lv key j p i Gd Rq e w'
end Go.Proofs.Ytfobcnmhghfanaa

/- A child is mended ahead of going down: splitFull. -/
import Derived.Test.YtfobcnmhghfanaaB9H
import Derived.Test.YtfobcnmhghfanaaB9I
namespace Go.Proofs.Ytfobcnmhghfanaa
open Go.RowKit Go.Shelf
set_option linter.unusedVariables false
set_option linter.unusedSimpArgs false

theorem msize_any {base : Nat} {w : World} {ro : Ro} {nd : Nat → Nd} (hm : Mem base w ro nd) {c : Nat} (hc : ro c = some (c, 0)) (h : (nd c).sz ≤ 1000) :
    Calls Try.prog 33 #[pt c] w fun e w' => e = .returned (.int .i64 ((nd c).sz : Nat)) ∧ ∃ q, w' = w.drewN q := by
  have hC := hm.at_ hc
  obtain ⟨ao, cap, h1, _, _⟩ := (hm.rowE c hc).form
  obtain ⟨ao', cap', h2, _, _⟩ := (hm.rowB c hc).form
  rw [h1, h2] at hC
  have h3 := es_le (nd c)
  have h4 := bs_le (nd c)
  refine (size_any hC (by omega) (by omega)).mono ?_
  rintro e w' ⟨rfl, h⟩
  exact ⟨by unfold Nd.sz; rw [Int.natCast_add], h⟩
/-- A row parted at a place. -/
theorem part_at {bs : List Br} {i : Nat} (hi : i < bs.length) : bs = bs.take i ++ (bs[i].1, bs[i].2) :: bs.drop (i + 1) := by
  conv => lhs; rw [← List.take_append_drop i bs, List.drop_eq_getElem_cons hi]
theorem mid_get {bs l rt : List Br} {q : Br} (h : bs = l ++ q :: rt) : bs[l.length]? = some q := by rw [h]; simp
/-- split, of a leaf or another node. -/
theorem split_any {base : Nat} {w : World} {ro : Ro} {nd : Nat → Nd} {r H : Nat} {lv : Nat → List Br} {dep : Nat → Nat} (ht : TM base w ro nd r H lv dep) {j : Nat} (hj : j < H) {A B : List Br} {p : Br} (hp : lv j = A ++ p :: B) {l rt : List Br} {lo : ByteArray} {c : Nat} (hq : (nd p.2).bs = l ++ (lo, c) :: rt) (h1 : (nd p.2).sz ≤ 100) (h2 : (nd c).sz ≤ 100) (keep : Nat) (hk0 : 0 < keep) (hk : keep < (nd c).sz) (hb : base ≤ w.heap.size) :
    Calls Try.prog 45 #[pt p.2, .int .i64 l.length, .int .i64 keep] w fun e w' => SpOut base w ro nd p.2 l lo c rt keep e w' := by
  have hpm : p ∈ lv j := by rw [hp]; simp
  have hcm : (lo, c) ∈ lv (j + 1) := by rw [ht.sh.kids hj hp hq]; simp
  have dp := ht.sh.dp j (by omega) p hpm
  have dc := ht.sh.dp (j + 1) hj (lo, c) hcm
  have hpc : p.2 ≠ c := fun e => by rw [e] at dp; simp only at dc; omega
  have e1 := es_le (nd c)
  have e2 := bs_le (nd c)
  have e3 := bs_le (nd p.2)
  have hn := ht.inn j (by omega) p hpm
  have hc : ro c = some (c, 0) := ht.inn (j + 1) hj (lo, c) hcm
  rcases Nat.lt_or_ge (j + 1) H with e | e
  · have h0 := (ht.sh.inner (j + 1) e (lo, c) hcm).1
    simp only at h0
    unfold Nd.sz at hk
    rw [h0, List.length_nil] at hk
    exact split_inner ht.mem hn hc hpc hq (by omega) (by omega) h0 keep hk0 (by omega) hb
  · have h0 := ht.sh.leaf (lo, c) (by rw [show H = j + 1 by omega]; exact hcm)
    simp only at h0
    unfold Nd.sz at hk
    rw [h0, List.length_nil] at hk
    exact split_leaf ht.mem hn hc hpc hq (by omega) (by omega) h0 keep hk0 (by omega) hb
theorem BrAt.path {nd : Nat → Nd} {r H : Nat} {lv : Nat → List Br} {dep : Nat → Nat} (h : Shape nd r H lv dep) {j : Nat} (hj : j < H) {key : ByteArray} {A B : List Br} {p : Br} (hp : Path lv key j A p B) {i : Nat} (hb : BrAt (nd p.2).bs key i) : kl key ((nd p.2).bs[i]'hb.lt).1 = false := by
  obtain ⟨_, c, t, e⟩ := h.inner j hj p (by rw [hp.at_]; simp)
  refine hb.lo (by rw [e]; simp) ?_
  simp only [e, List.getElem_cons_zero]
  exact hp.lo
theorem brat_one {l rt : List Br} {q : Br} {key : ByteArray} {i : Nat} (h : BrAt (l ++ q :: rt) key i) (hl : ∀ x ∈ l, kl key x.1 = false) (h0 : kl key q.1 = false) (hrt : ∀ x ∈ rt, kl key x.1 = true) : (l ++ q :: rt)[i]? = some q := by
  have hlt := h.lt
  have hle : l.length ≤ i := by
    rcases Nat.lt_or_ge i l.length with e | e
    · have := h.hi l.length (by simp) e
      simp [h0] at this
    · exact e
  have hge : i ≤ l.length := by
    rcases Nat.lt_or_ge l.length i with e | e
    · have hz : kl key ((l ++ q :: rt)[0]'(by rw [List.length_append, List.length_cons]; omega)).1 = false := by
        cases l with
        | nil => exact h0
        | cons x t => exact hl x (by simp)
      have h1 := h.lo (by rw [List.length_append, List.length_cons]; omega) hz
      have h2 : (l ++ q :: rt)[i] ∈ rt := by
        obtain ⟨k, rfl⟩ : ∃ k, i = l.length + (k + 1) := ⟨i - l.length - 1, by omega⟩
        simp only [List.getElem_append_right (by omega : l.length ≤ l.length + (k + 1)), Nat.add_sub_cancel_left, List.getElem_cons_succ]
        exact List.getElem_mem _
      rw [hrt _ h2] at h1; cases h1
    · exact e
  obtain rfl : i = l.length := by omega
  simp
theorem brat_two {l rt : List Br} {q q' : Br} {key : ByteArray} {i : Nat} (h : BrAt (l ++ q :: q' :: rt) key i) (hl : ∀ x ∈ l, kl key x.1 = false) (h0 : kl key q.1 = false) (hrt : ∀ x ∈ rt, kl key x.1 = true) : (l ++ q :: q' :: rt)[i]? = some q ∨ (l ++ q :: q' :: rt)[i]? = some q' := by
  cases h' : kl key q'.1 with
  | true => exact Or.inl (brat_one h hl h0 (fun x hx => by rcases List.mem_cons.1 hx with rfl | hx; exact h'; exact hrt x hx))
  | false =>
    have e : l ++ q :: q' :: rt = (l ++ [q]) ++ q' :: rt := by simp
    rw [e] at h ⊢
    exact Or.inr (brat_one h (fun x hx => by rcases List.mem_append.1 hx with hx | hx; exact hl x hx; simp at hx; rw [hx]; exact h0) h' hrt)
/-- The lows on both sides of a key's branch. -/
theorem BrAt.sides {nd : Nat → Nd} {r H : Nat} {lv : Nat → List Br} {dep : Nat → Nat} (h : Shape nd r H lv dep) {j : Nat} (hj : j < H) {key : ByteArray} {A B : List Br} {p : Br} (hp : Path lv key j A p B) {i : Nat} (hb : BrAt (nd p.2).bs key i) : (∀ x ∈ (nd p.2).bs.take (i + 1), kl key x.1 = false) ∧ (∀ x ∈ (nd p.2).bs.drop (i + 1), kl key x.1 = true) := by
  have h0 := BrAt.path h hj hp hb
  have hl := h.lows_in hj (p := p) (by rw [hp.at_]; simp)
  constructor
  · intro x hx
    obtain ⟨t, ht, rfl⟩ := List.getElem_of_mem hx
    rw [List.length_take] at ht
    rw [List.getElem_take]
    by_cases e : t = i
    · subst e; exact h0
    · have := List.pairwise_iff_getElem.1 hl t i (by simp; omega) (by simpa using hb.lt) (by omega)
      simp only [List.getElem_map] at this
      exact kl_le_le this h0
  · intro x hx
    obtain ⟨t, ht, rfl⟩ := List.getElem_of_mem hx
    rw [List.length_drop] at ht
    rw [List.getElem_drop]
    exact hb.hi (i + 1 + t) (by omega) (by omega)
set_option maxHeartbeats 2000000 in
theorem splitFull_any (base r : Nat) (key : ByteArray) : Ready base 38 r key (fun s => s < 8) (fun n => 2 ≤ n) (fun j n => n.sz < 8) := by
  intro w ro nd H lv dep j A p B i ts hj hpath hbr hgp hb
  have hpm : p ∈ lv j := by rw [hpath.at_]; simp
  have hn := ts.inn j (by omega) p hpm
  have hps := ts.toSZ.all ts.sh (by omega) hpm
  have hi := hbr.lt
  have hq := part_at hi
  obtain ⟨l, hl⟩ : ∃ l, (nd p.2).bs.take i = l := ⟨_, rfl⟩
  obtain ⟨rt, hrt⟩ : ∃ rt, (nd p.2).bs.drop (i + 1) = rt := ⟨_, rfl⟩
  have hll : l.length = i := by rw [← hl, List.length_take]; omega
  have hgi : (nd p.2).bs[i]? = some (nd p.2).bs[i] := List.getElem?_eq_getElem hi
  have hplo := BrAt.path ts.sh hj hpath hbr
  have hside := BrAt.sides ts.sh hj hpath hbr
  obtain ⟨lo, c, hx⟩ : ∃ lo c, (nd p.2).bs[i] = (lo, c) := ⟨_, _, rfl⟩
  have hrow := ts.mem.rowB p.2 hn
  have hN := ts.mem.at_ hn
  have hle := bs_le (nd p.2)
  obtain ⟨g, cap, hvb, hcap, _, _⟩ := hrow.at_ (by omega)
  rw [hvb] at hrow
  have q1 := mem_cellB' hrow i hi
  rw [hl, hrt, hx] at hq
  rw [hx] at q1 hgi hplo
  simp only at q1 hq hplo
  have hcm : (lo, c) ∈ lv (j + 1) := by rw [ts.sh.kids hj hpath.at_ hq]; simp
  have hc := ts.inn (j + 1) hj (lo, c) hcm
  have hcs := ts.sz (j + 1) (by omega) hj (lo, c) hcm
  simp only at hc hcs
  have hsz := msize_any ts.mem hc (by omega)
  have c1 := hN.c1
  rw [hvb] at c1
  have hz : (i : Int) < ((nd p.2).bs.length : Int) := by omega
  by_cases h8 : (nd c).sz < 8
  · have HO : Hid (∀ q, RdOut base w ro nd r H lv key j p i (fun s => s < 8) (fun n => 2 ≤ n) (.returned (.bool false)) (w.drewN q)) := fun q => .no rfl ⟨rfl, rfl, rfl, Nat.le_refl _, fun _ _ => rfl⟩ (fun q hq' => by rw [hgi] at hq'; cases hq'; exact h8)
    have h8' : ((nd c).sz : Int) < 8 := by omega
    clear ts hpath hbr hgp hrow hN hq hl hrt hx hvb hcap hgi hplo hside
    generalize (nd p.2).bs.length = nb at *
    generalize (nd c).sz = sc at *
    go_enter Try.func38, Try.ntmps38
    go_wp2_with (go_at_call 33; refine hsz.mono ?_; clear hsz; rintro e wx ⟨rfl, nq, rfl⟩)
    go_ret
    exact HO.out _
  · have h8e : (nd c).sz = 8 := by omega
    have hgp' : (nd p.2).sz < 8 := by
      rcases hgp with h | h
      · exact h
      · have := h _ hgi; simp only at this; omega
    have HSp : Hid (∀ nq, Calls Try.prog 45 #[pt p.2, .int .i64 i, .int .i64 4] (w.drewN nq) fun e w' => e = .returned (.tuple #[]) ∧ RdOut base w ro nd r H lv key j p i (fun s => s < 8) (fun n => 2 ≤ n) (.returned (.bool true)) w') := fun nq => by
      have bq : Below w.heap.size w (w.drewN nq) := ⟨rfl, rfl, rfl, Nat.le_refl _, fun _ _ => rfl⟩
      have hsp := split_any (ts.toTM.below bq) hj hpath.at_ hq (by omega) (by omega) 4 (by omega) (by omega) hb
      rw [hll] at hsp
      refine hsp.mono ?_
      rintro e w' ⟨ro', nd', f, lo', he', mt, hs, hf, hr, hl', hi'⟩
      refine ⟨he', ?_⟩
      obtain ⟨lv', dep', ts', k1, k2, k3, k4, k5⟩ := (ts.toTM.below bq).split hj hpath.at_ hq mt hs hf hr (by omega) hl' hi' (fun i h0 hi q hq' _ _ => ts.sz i h0 hi q hq') ts.top (by omega) (fun h0 => by have := ts.sz j h0 (by omega) p hpm; omega) (by omega) (by omega)
      refine .yes ro' nd' lv' dep' rfl ts' ((MTo.of_below ts.mem bq).trans mt) k1 k2 (fun i' hbr' q hq' => ?_) (fun e => by rw [← e, hs.nbs]; simp; omega) (fun e => hs.oth r (fun e' => e e'.symm) (fun e' => by have := ts.sh.only_root hj hcm e'.symm; omega) (ts.toTM.fresh hf 0 (by omega) (ByteArray.empty, r) (by rw [ts.sh.top]; simp))) ⟨_, hgi, h8⟩
      rw [hs.nbs] at hq' hbr'
      rcases brat_two hbr' (fun x hx => hside.1 x (by rw [← hl] at hx; exact List.mem_of_mem_take (i := i) (by rw [List.take_take, Nat.min_eq_left (by omega)]; exact hx))) hplo (fun x hx => hside.2 x (by rw [hrt]; exact hx)) with h | h
      · rw [h] at hq'; cases hq'; simp only; omega
      · rw [h] at hq'; cases hq'; simp only; omega
    clear ts hpath hbr hgp hrow hN hq hl hrt hx hvb hcap hgi hplo hside
    generalize (nd p.2).bs.length = nb at *
    rw [h8e] at hsz
    clear h8 h8e hcs
    go_enter Try.func38, Try.ntmps38
    go_wp2_with (first
      | (go_at_call 33; refine hsz.mono ?_; clear hsz; rintro e wx ⟨rfl, nq, rfl⟩)
      | (go_at_call 45; refine (HSp.out _).mono ?_; rintro e w' ⟨rfl, hO⟩))
    go_ret
    exact hO
end Go.Proofs.Ytfobcnmhghfanaa

/- A child is mended ahead of going down: what fillShort comes to, but for the walk. -/
import Derived.Test.YtfobcnmhghfanaaB9F
import Derived.Test.YtfobcnmhghfanaaB9J
namespace Go.Proofs.Ytfobcnmhghfanaa
open Go.RowKit Go.Shelf
set_option linter.unusedVariables false
set_option linter.unusedSimpArgs false

/-- Where fillShort stands: the two children that it joins. -/
structure Fs (nd : Nat → Nd) (H : Nat) (lv : Nat → List Br) (key : ByteArray) (j : Nat) (p : Br) (i left : Nat) (l : List Br) (lo : ByteArray) (c : Nat) (lo2 : ByteArray) (d : Nat) (rt : List Br) : Prop where
  hq : (nd p.2).bs = l ++ (lo, c) :: (lo2, d) :: rt
  ll : l.length = left
  at_ : i = left ∧ left = 0 ∧ (nd c).sz = 4 ∨ i = left + 1 ∧ (nd d).sz = 4
  cs : 4 ≤ (nd c).sz ∧ (nd c).sz ≤ 8
  ds : 4 ≤ (nd d).sz ∧ (nd d).sz ≤ 8
  big : 0 < j → 5 ≤ (nd p.2).sz
theorem Fs.low {nd : Nat → Nd} {r H : Nat} {lv : Nat → List Br} {dep : Nat → Nat} {key : ByteArray} {j : Nat} {A B : List Br} {p : Br} {i left : Nat} {l rt : List Br} {lo lo2 : ByteArray} {c d : Nat} (h : Fs nd H lv key j p i left l lo c lo2 d rt) (hs : Shape nd r H lv dep) (hj : j < H) (hp : Path lv key j A p B) (hb : BrAt (nd p.2).bs key i) : (∀ x ∈ l, kl key x.1 = false) ∧ kl key lo = false ∧ (∀ x ∈ rt, kl key x.1 = true) ∧ (i = left → kl key lo2 = true) ∧ (i = left + 1 → kl key lo2 = false) := by
  obtain ⟨h1, h2⟩ := BrAt.sides hs hj hp hb
  have hl := h.ll
  have hq := h.hq
  rw [hq] at h1 h2
  have hi : left ≤ i ∧ i ≤ left + 1 := by rcases h.at_ with h | h <;> omega
  have e1 : ∀ x ∈ l, kl key x.1 = false := fun x hx => h1 x (by rw [List.take_append]; exact List.mem_append_left _ (by rw [List.take_of_length_le (by omega)]; exact hx))
  have e2 : kl key lo = false := h1 (lo, c) (by
    rw [List.take_append]
    refine List.mem_append_right _ ?_
    obtain ⟨k, hk⟩ : ∃ k, i + 1 - l.length = k + 1 := ⟨i - l.length, by omega⟩
    rw [hk, List.take_succ_cons]; exact List.mem_cons_self ..)
  refine ⟨e1, e2, fun x hx => h2 x ?_, fun e => h2 (lo2, d) ?_, fun e => h1 (lo2, d) ?_⟩
  · rw [List.drop_append]
    refine List.mem_append_right _ ?_
    rcases Nat.lt_or_ge i (left + 1) with h' | h'
    · rw [show i + 1 - l.length = 1 by omega]; simp [hx]
    · rw [show i + 1 - l.length = 2 by omega]; simp [hx]
  · rw [List.drop_append]
    refine List.mem_append_right _ ?_
    rw [show i + 1 - l.length = 1 by omega]; simp
  · rw [List.take_append]
    refine List.mem_append_right _ ?_
    rw [show i + 1 - l.length = 2 by omega]; simp
theorem Fs.bad {nd : Nat → Nd} {H : Nat} {lv : Nat → List Br} {key : ByteArray} {j : Nat} {p : Br} {i left : Nat} {l rt : List Br} {lo lo2 : ByteArray} {c d : Nat} (h : Fs nd H lv key j p i left l lo c lo2 d rt) : ∃ q, (nd p.2).bs[i]? = some q ∧ ¬ 4 < (nd q.2).sz := by
  rcases h.at_ with ⟨h1, _, h2⟩ | ⟨h1, h2⟩
  · exact ⟨(lo, c), by rw [h.hq, h1, ← h.ll]; simp, by simp only; omega⟩
  · refine ⟨(lo2, d), ?_, by simp only; omega⟩
    rw [h.hq, h1, ← h.ll, List.getElem?_append_right (by omega), Nat.add_sub_cancel_left]; rfl
/-- Both children have become one. -/
theorem fill_join {base : Nat} {w w1 : World} {ro ro1 : Ro} {nd nd1 : Nat → Nd} {r H : Nat} {lv : Nat → List Br} {dep : Nat → Nat} {key : ByteArray} (ts : TS base w ro nd r H lv dep) {j : Nat} (hj : j < H) {A B : List Br} {p : Br} (hp : Path lv key j A p B) {i left : Nat} (hb : BrAt (nd p.2).bs key i) {l rt : List Br} {lo lo2 : ByteArray} {c d : Nat} (h : Fs nd H lv key j p i left l lo c lo2 d rt) (mt : MTo base w ro nd w1 ro1 nd1) (hs : Jn nd p.2 l lo c lo2 d rt nd1) (h8 : (nd c).sz + (nd d).sz ≤ 8) {w' : World} (hw : Below w1.heap.size w1 w') :
    RdOut base w ro nd r H lv key j p i (fun s => 4 < s) (fun _ => True) (.returned (.bool true)) w' := by
  obtain ⟨lv1, tm, k1, k2, k3, k4, k5⟩ := ts.toTM.join hj hp.at_ h.hq mt hs
  obtain ⟨a1, a2, a3, _, _⟩ := h.low ts.sh hj hp hb
  have hcs := h.cs
  have hds := h.ds
  have hpm : p ∈ lv j := by rw [hp.at_]; simp
  have hkk : lv (j + 1) = (next nd A ++ l) ++ (lo, c) :: (lo2, d) :: (rt ++ next nd B) := by have := ts.sh.kids hj hp.at_ h.hq; simpa using this
  have hcm : (lo, c) ∈ lv (j + 1) := by rw [hkk]; simp
  have dp := ts.sh.dp j (by omega) p hpm
  have dc := ts.sh.dp (j + 1) hj (lo, c) hcm
  simp only at dc
  have hpsz := ts.toSZ.all ts.sh (by omega) hpm
  have hrm : (ByteArray.empty, r) ∈ lv 0 := by rw [ts.sh.top]; simp
  have dr := ts.sh.dp 0 (by omega) _ hrm
  simp only at dr
  have hrc : r ≠ c := fun e => by rw [e] at dr; omega
  have hsz1 : ∀ i, i ≤ H → 0 < i → ∀ q ∈ lv i, q.2 ≠ c → 4 ≤ (nd1 q.2).sz ∧ (nd1 q.2).sz ≤ 8 := fun i hi h0 q hq hqc => by
    by_cases e : q.2 = p.2
    · have : i = j := by have := ts.sh.dp i hi q hq; rw [e] at this; omega
      rw [e]
      have := h.big (by omega)
      omega
    · rw [hs.oth _ e hqc]; exact ts.sz i h0 hi q hq
  have ts1 : TS base w1 ro1 nd1 r H lv1 dep := by
    refine ⟨tm, ⟨fun i h0 hi q hq => ?_, ?_⟩⟩
    · by_cases e : q.2 = c
      · rw [e, k3]; omega
      · exact hsz1 i hi h0 q (k5 i hi q hq) e
    · by_cases e : r = p.2
      · rw [e]; omega
      · rw [hs.oth r e hrc]; exact ts.top
  refine .yes ro1 nd1 lv1 dep rfl (ts1.below hw) (mt.trans (MTo.of_below mt.mem hw)) k1 k2 (fun i' hbr' q hq' => ?_) (fun _ => trivial) (fun e => hs.oth r (fun e' => e e'.symm) hrc) h.bad
  rw [hs.nbs] at hq' hbr'
  rw [brat_one hbr' a1 a2 a3] at hq'
  cases hq'
  show 4 < (nd1 c).sz
  rw [k3]; omega
theorem drop_of {α : Type} {x y : List α} {k : Nat} {e : α} {t : List α} (h : (x ++ y).drop k = e :: t) : (x.length ≤ k → e ∈ y) ∧ (k < x.length → e ∈ x) := by
  constructor
  · intro hk
    rw [List.drop_append, List.drop_eq_nil_of_le hk, List.nil_append] at h
    exact List.mem_of_mem_drop (i := k - x.length) (by rw [h]; exact List.mem_cons_self ..)
  · intro hk
    rw [List.drop_append, List.drop_eq_getElem_cons hk, List.cons_append] at h
    cases h
    exact List.getElem_mem hk
/-- Both children have got their share. -/
theorem fill_split {base : Nat} {w w1 w2 w' : World} {ro ro1 : Ro} {nd nd1 : Nat → Nd} {r H : Nat} {lv : Nat → List Br} {dep : Nat → Nat} {key : ByteArray} (ts : TS base w ro nd r H lv dep) {j : Nat} (hj : j < H) {A B : List Br} {p : Br} (hp : Path lv key j A p B) {i left : Nat} (hb : BrAt (nd p.2).bs key i) {l rt : List Br} {lo lo2 : ByteArray} {c d : Nat} (h : Fs nd H lv key j p i left l lo c lo2 d rt) (mt : MTo base w ro nd w1 ro1 nd1) (hs : Jn nd p.2 l lo c lo2 d rt nd1) (h8 : 8 < (nd c).sz + (nd d).sz) (hw : Below w1.heap.size w1 w2) {keep : Nat} (hk1 : i = left → keep = (nd c).sz + (nd d).sz - ((nd c).sz + (nd d).sz) / 2) (hk2 : i = left + 1 → keep = ((nd c).sz + (nd d).sz) / 2) {e : Ending} (hsp : SpOut base w2 ro1 nd1 p.2 l lo c rt keep e w') :
    e = .returned (.tuple #[]) ∧ RdOut base w ro nd r H lv key j p i (fun s => 4 < s) (fun _ => True) (.returned (.bool true)) w' := by
  obtain ⟨lv1, tm, k1, k2, k3, k4, k5⟩ := ts.toTM.join hj hp.at_ h.hq mt hs
  obtain ⟨a1, a2, a3, a4, a5⟩ := h.low ts.sh hj hp hb
  have hcs := h.cs
  have hds := h.ds
  have hpm : p ∈ lv j := by rw [hp.at_]; simp
  have hkk : lv (j + 1) = (next nd A ++ l) ++ (lo, c) :: (lo2, d) :: (rt ++ next nd B) := by have := ts.sh.kids hj hp.at_ h.hq; simpa using this
  have hcm : (lo, c) ∈ lv (j + 1) := by rw [hkk]; simp
  have hdm : (lo2, d) ∈ lv (j + 1) := by rw [hkk]; simp
  have dp := ts.sh.dp j (by omega) p hpm
  have dc := ts.sh.dp (j + 1) hj (lo, c) hcm
  simp only at dc
  have hpsz := ts.toSZ.all ts.sh (by omega) hpm
  have hrm : (ByteArray.empty, r) ∈ lv 0 := by rw [ts.sh.top]; simp
  have dr := ts.sh.dp 0 (by omega) _ hrm
  simp only at dr
  have hrc : r ≠ c := fun e => by rw [e] at dr; omega
  have hat := h.at_
  obtain ⟨ro', nd', f, lo', he, mt2, hs2, hf, hr, hl', hi'⟩ := hsp
  refine ⟨he, ?_⟩
  have htop1 : (nd1 r).sz ≤ 8 := by
    by_cases e : r = p.2
    · rw [e]; omega
    · rw [hs.oth r e hrc]; exact ts.top
  have tm2 := tm.below hw
  obtain ⟨lv', dep', ts', m1, m2, m3, m4, m5⟩ := tm2.split hj (by rw [k1 j (Nat.le_refl _)]; exact hp.at_) hs.nbs mt2 hs2 hf hr (by omega) hl' hi' (fun i h0 hi q hq e1 e2 => by rw [hs.oth _ e2 e1]; exact ts.sz i h0 hi q (k5 i hi q hq)) htop1 (by omega) (fun h0 => by have := h.big h0; omega) (by omega) (by omega)
  refine .yes ro' nd' lv' dep' rfl ts' (mt.trans ((MTo.of_below mt.mem hw).trans mt2)) (fun i hi => (m1 i hi).trans (k1 i hi)) (m2.trans k2) (fun i' hbr' q hq' => ?_) (fun _ => trivial) (fun e => ?_) h.bad
  · rw [hs2.nbs] at hq' hbr'
    have hown := ts.sh.own_lo hj hdm
    have hsib := ts.sh.sib_lo hj hkk
    rcases hat with ⟨e1, _, e2⟩ | ⟨e1, e2⟩
    · have hkey : kl key lo' = true := by
        rcases Nat.lt_or_ge (j + 1) H with e | e
        · obtain ⟨_, c0, t0, hb0⟩ := ts.sh.inner (j + 1) e (lo, c) hcm
          have hes := (ts.sh.inner (j + 1) e (lo, c) hcm).1
          simp only at hb0 hes
          obtain ⟨dd, t, hdr⟩ := hi' (by rw [hs.cbs, hb0]; simp)
          rw [hs.cbs] at hdr
          have hm := (drop_of hdr).1 (by unfold Nd.sz at e2; rw [hes, List.length_nil] at e2; omega)
          exact kl_lt_le (a4 e1) (hown.1 _ hm)
        · have hbs := ts.sh.leaf (lo, c) (by rw [show H = j + 1 by omega]; exact hcm)
          have hbd := ts.sh.leaf (lo2, d) (by rw [show H = j + 1 by omega]; exact hdm)
          simp only at hbs hbd
          obtain ⟨x, t, hdr, hxk⟩ := hl' (by rw [hs.cbs, hbs, hbd]; rfl)
          rw [hs.ces] at hdr
          have hm := (drop_of hdr).1 (by unfold Nd.sz at e2; rw [hbs, List.length_nil] at e2; omega)
          rw [← hxk]
          exact kl_lt_le (a4 e1) (hown.2 (by omega) _ hm)
      rw [brat_one hbr' a1 a2 (fun x hx => by rcases List.mem_cons.1 hx with rfl | hx; exact hkey; exact a3 x hx)] at hq'
      cases hq'
      show 4 < (nd' c).sz
      rw [m3]; have := hk1 e1; omega
    · have hkey : kl key lo' = false := by
        rcases Nat.lt_or_ge (j + 1) H with e | e
        · obtain ⟨_, c0, t0, hb0⟩ := ts.sh.inner (j + 1) e (lo, c) hcm
          have hes := (ts.sh.inner (j + 1) e (lo, c) hcm).1
          simp only at hb0 hes
          obtain ⟨dd, t, hdr⟩ := hi' (by rw [hs.cbs, hb0]; simp)
          rw [hs.cbs] at hdr
          have hm := (drop_of hdr).2 (by have := hk2 e1; unfold Nd.sz at h8 this e2 hcs; rw [hes, List.length_nil] at h8 this hcs; omega)
          exact kl_le_le (hsib.1 _ hm) (a5 e1)
        · have hbs := ts.sh.leaf (lo, c) (by rw [show H = j + 1 by omega]; exact hcm)
          have hbd := ts.sh.leaf (lo2, d) (by rw [show H = j + 1 by omega]; exact hdm)
          simp only at hbs hbd
          obtain ⟨x, t, hdr, hxk⟩ := hl' (by rw [hs.cbs, hbs, hbd]; rfl)
          rw [hs.ces] at hdr
          have hm := (drop_of hdr).2 (by have := hk2 e1; unfold Nd.sz at h8 this e2 hcs; rw [hbs, List.length_nil] at h8 this hcs; omega)
          rw [← hxk]
          exact kl_asymm (kl_lt_le (hsib.2 (by omega) _ hm) (a5 e1))
      have e0 : l ++ (lo, c) :: (lo', f) :: rt = (l ++ [(lo, c)]) ++ (lo', f) :: rt := by simp
      rw [e0] at hbr' hq'
      rw [brat_one hbr' (fun x hx => by rcases List.mem_append.1 hx with hx | hx; exact a1 x hx; simp at hx; rw [hx]; exact a2) hkey a3] at hq'
      cases hq'
      show 4 < (nd' f).sz
      rw [m4, k3]; have := hk2 e1; omega
  · rw [hs2.oth r (fun e' => e e'.symm) hrc (tm2.fresh hf 0 (by omega) (ByteArray.empty, r) (by rw [tm2.sh.top]; simp)), hs.oth r (fun e' => e e'.symm) hrc]
end Go.Proofs.Ytfobcnmhghfanaa

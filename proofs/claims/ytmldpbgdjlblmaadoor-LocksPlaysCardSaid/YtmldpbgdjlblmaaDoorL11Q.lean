/- The table of locks: who is woken; pure. -/
import Derived.Test.YtmldpbgdjlblmaaDoorL11P
namespace Go.Proofs.YtmldpbgdjlblmaaDoor
open Go.RowKit
set_option linter.unusedVariables false
set_option linter.unusedSimpArgs false

/-- What stays so while requests are dropped and woken. -/
structure TPre (L : List Rq) : Prop where
  right : ∀ r ∈ L, 1 ≤ r.tx ∧ pl r.ob = true ∧ 1 ≤ r.md ∧ r.md ≤ 6
  odds : L.Pairwise fun a b => a.gr = true → b.gr = true → ¬ (ag a b = true ∧ ag b a = true)
  one : L.Pairwise fun a b => a.gr = false → b.gr = false → a.tx ≠ b.tx
theorem TInv.pre {L : List Rq} (h : TInv L) : TPre L := ⟨h.right, h.odds, h.one⟩
theorem TPre.filter {L : List Rq} (h : TPre L) (p : Rq → Bool) : TPre (L.filter p) :=
  ⟨fun r hr => h.right r (List.mem_filter.1 hr).1, h.odds.filter p, h.one.filter p⟩
/-- May the request at a place be granted, and does it wait? -/
def isMay (L : List Rq) (i : Nat) : Bool := match L[i]? with
  | none => false
  | some r => !r.gr && mayP (L.take i) r (L.drop (i + 1))
def fm (L : List Rq) : Option Nat := (List.range L.length).find? (isMay L)
def gset (r : Rq) : Rq := { r with gr := true }
def grant (L : List Rq) (i : Nat) : List Rq := L.modify i gset
def txAt (L : List Rq) (i : Nat) : Int := (L[i]?.map Rq.tx).getD 0
def wc (L : List Rq) : Nat := L.countP fun r => !r.gr
def wakeN : Nat → List Rq → List Rq × List Int
  | 0, L => (L, [])
  | n + 1, L => match fm L with
    | none => (L, [])
    | some i => ((wakeN n (grant L i)).1, txAt L i :: (wakeN n (grant L i)).2)
/-- All that may be granted is: the table, and who was woken. -/
def wake (L : List Rq) : List Rq × List Int := wakeN (wc L) L
theorem isMay_split {pre suf : List Rq} {r : Rq} : isMay (pre ++ r :: suf) pre.length = (!r.gr && mayP pre r suf) := by
  simp [isMay, List.getElem?_append_right]
theorem isMay_form {L : List Rq} {i : Nat} (h : isMay L i = true) : ∃ pre r suf, L = pre ++ r :: suf ∧ pre.length = i ∧ r.gr = false ∧ mayP pre r suf = true := by
  unfold isMay at h
  split at h
  · cases h
  · rename_i r hr
    obtain ⟨hi, e⟩ := List.getElem?_eq_some_iff.1 hr
    simp only [Bool.and_eq_true, Bool.not_eq_true'] at h
    refine ⟨L.take i, r, L.drop (i + 1), ?_, by simp; omega, h.1, h.2⟩
    rw [← e, List.getElem_cons_drop, List.take_append_drop]
theorem fm_none {L : List Rq} (h : fm L = none) : ∀ pre r suf, L = pre ++ r :: suf → r.gr = false → mayP pre r suf = false := by
  intro pre r suf e hr
  unfold fm at h
  rw [List.find?_eq_none] at h
  have := h pre.length (by rw [e]; simp)
  rw [e, isMay_split, hr] at this
  simpa using this
theorem fm_some {L : List Rq} {i : Nat} (h : fm L = some i) : isMay L i = true ∧ i < L.length ∧ ∀ j, j < i → isMay L j = false := by
  unfold fm at h
  rw [List.find?_range_eq_some] at h
  exact ⟨h.1, by simpa using h.2.1, fun j hj => by simpa using h.2.2 j hj⟩
theorem fm_at {L : List Rq} {i : Nat} (hi : i < L.length) (h1 : isMay L i = true) (h2 : ∀ j, j < i → isMay L j = false) : fm L = some i := by
  unfold fm
  rw [List.find?_range_eq_some]
  exact ⟨h1, by simpa using hi, fun j hj => by simp [h2 j hj]⟩
theorem fm_no {L : List Rq} (h : ∀ j, j < L.length → isMay L j = false) : fm L = none := by
  unfold fm
  rw [List.find?_eq_none]
  intro j hj
  simp [h j (by simpa using hj)]
theorem grant_split {pre suf : List Rq} {r : Rq} : grant (pre ++ r :: suf) pre.length = pre ++ gset r :: suf := by
  induction pre with
  | nil => rfl
  | cons a l ih =>
    show a :: grant (l ++ r :: suf) l.length = a :: (l ++ gset r :: suf)
    rw [ih]
theorem grant_wc {L : List Rq} {i : Nat} (h : isMay L i = true) : wc L = wc (grant L i) + 1 := by
  obtain ⟨pre, r, suf, rfl, rfl, hr, _⟩ := isMay_form h
  rw [grant_split]
  simp [wc, List.countP_append, List.countP_cons, hr, gset]
  omega
theorem wake_none {L : List Rq} (h : fm L = none) : wake L = (L, []) := by
  unfold wake
  cases wc L with
  | zero => rfl
  | succ n => simp [wakeN, h]
theorem wake_some {L : List Rq} {i : Nat} (h : fm L = some i) : wake L = ((wake (grant L i)).1, txAt L i :: (wake (grant L i)).2) := by
  have h1 := grant_wc (fm_some h).1
  unfold wake
  rw [h1]
  simp only [wakeN, h]
/-- By what happens at each step. -/
theorem wake_ind {P : List Rq → List Rq × List Int → Prop} (h0 : ∀ L, fm L = none → P L (L, [])) (h1 : ∀ L i, fm L = some i → P (grant L i) (wake (grant L i)) → P L ((wake (grant L i)).1, txAt L i :: (wake (grant L i)).2)) : ∀ L, P L (wake L) := by
  have : ∀ n L, wc L = n → P L (wake L) := by
    intro n
    induction n with
    | zero =>
      intro L hL
      cases hf : fm L with
      | none => rw [wake_none hf]; exact h0 L hf
      | some i => have := grant_wc (fm_some hf).1; omega
    | succ n ih =>
      intro L hL
      cases hf : fm L with
      | none => rw [wake_none hf]; exact h0 L hf
      | some i =>
        rw [wake_some hf]
        exact h1 L i hf (ih _ (by have := grant_wc (fm_some hf).1; omega))
  exact fun L => this _ L rfl
theorem ag_gset_left (a b : Rq) : ag (gset a) b = ag a b := rfl
theorem ag_gset_right (a b : Rq) : ag a (gset b) = ag a b := rfl
theorem TPre.grant {L : List Rq} (h : TPre L) {i : Nat} (hi : isMay L i = true) : TPre (grant L i) := by
  obtain ⟨pre, r, suf, rfl, rfl, hr, hm⟩ := isMay_form hi
  rw [grant_split]
  have hg1 : gb pre r = false := by cases e : gb pre r with | false => rfl | true => simp [mayP, e] at hm
  have hg2 : gb suf r = false := by cases e : gb suf r with | false => rfl | true => simp [mayP, e] at hm
  obtain ⟨h1, h2, h3⟩ := h
  refine ⟨fun x hx => ?_, ?_, ?_⟩
  · rcases List.mem_append.1 hx with hx | hx
    · exact h1 x (List.mem_append_left _ hx)
    · rcases List.mem_cons.1 hx with rfl | hx
      · exact h1 r (by simp)
      · exact h1 x (by simp [hx])
  · rw [List.pairwise_append, List.pairwise_cons] at h2 ⊢
    obtain ⟨p1, ⟨p2, p3⟩, p4⟩ := h2
    refine ⟨p1, ⟨fun b hb _ gb' => ?_, p3⟩, fun a ha b hb ga gb' => ?_⟩
    · rintro ⟨_, q⟩
      rw [ag_gset_right, gb_none hg2 hb gb'] at q
      cases q
    · rcases List.mem_cons.1 hb with rfl | hb
      · rintro ⟨q, _⟩
        rw [ag_gset_right, gb_none hg1 ha ga] at q
        cases q
      · exact p4 a ha b (by simp [hb]) ga gb'
  · rw [List.pairwise_append, List.pairwise_cons] at h3 ⊢
    obtain ⟨p1, ⟨p2, p3⟩, p4⟩ := h3
    refine ⟨p1, ⟨(fun b hb q => by cases q), p3⟩, fun a ha b hb ga gb' => ?_⟩
    rcases List.mem_cons.1 hb with rfl | hb
    · cases gb'
    · exact p4 a ha b (by simp [hb]) ga gb'
theorem TPre.wake {L : List Rq} (h : TPre L) : TInv (wake L).1 := by
  refine wake_ind (P := fun L W => TPre L → TInv W.1) (fun L hf h => ⟨h.right, h.odds, fm_none hf, h.one⟩) (fun L i hf ih h => ih (h.grant (fm_some hf).1)) L h
/-- What may become of a request while others are woken: it may be granted. -/
def Rq.grow (a b : Rq) : Prop := b = a ∨ b = gset a
/-- .. one by one. -/
inductive GrowL : List Rq → List Rq → Prop
  | nil : GrowL [] []
  | cons {a b : Rq} {A B : List Rq} (h : a.grow b) (t : GrowL A B) : GrowL (a :: A) (b :: B)
theorem wake_grow (L : List Rq) : GrowL L (wake L).1 := by
  have refl : ∀ L : List Rq, GrowL L L := fun L => by
    induction L with
    | nil => exact .nil
    | cons a l ih => exact .cons (Or.inl rfl) ih
  have one : ∀ (pre suf : List Rq) (r : Rq), GrowL (pre ++ r :: suf) (pre ++ gset r :: suf) := fun pre suf r => by
    induction pre with
    | nil => exact .cons (Or.inr rfl) (refl suf)
    | cons a l ih => exact .cons (Or.inl rfl) ih
  have tr : ∀ {A B C : List Rq}, GrowL A B → GrowL B C → GrowL A C := by
    intro A B C h
    induction h generalizing C with
    | nil => intro h; cases h; exact .nil
    | cons h1 _ ih =>
      intro h
      cases h with
      | cons h2 h3 =>
        refine .cons ?_ (ih h3)
        rcases h1 with rfl | rfl
        · exact h2
        · rcases h2 with rfl | rfl
          · exact Or.inr rfl
          · exact Or.inr rfl
  refine wake_ind (P := fun L W => GrowL L W.1) (fun L _ => refl L) (fun L i hf ih => ?_) L
  obtain ⟨pre, r, suf, rfl, rfl, _, _⟩ := isMay_form (fm_some hf).1
  rw [grant_split] at ih ⊢
  exact tr (one pre suf r) ih
/-- Does a request stay? -/
def stays (tx : Int) (all : Bool) (r : Rq) : Bool := decide (r.tx ≠ tx) || (!all && !(r.gr && r.sh))
/-- End and EndShort: the table, and who was woken. -/
def endF (L : List Rq) (tx : Int) (all : Bool) : List Rq × List Int := wake (L.filter (stays tx all))
theorem TInv.end_ {L : List Rq} (h : TInv L) (tx : Int) (all : Bool) : TInv (endF L tx all).1 := (h.pre.filter _).wake
/-- Who is alone waits for nobody. -/
theorem TInv.alone {L : List Rq} (h : TInv L) {t : Int} (ha : ∀ r ∈ L, r.tx = t) : ∀ r ∈ L, r.gr = true := by
  intro r hr
  cases hg : r.gr with
  | true => rfl
  | false =>
    obtain ⟨pre, suf, e⟩ := List.append_of_mem hr
    have hm := h.ready pre r suf e hg
    have hno : ∀ g ∈ L, ag g r = false ∧ ag r g = false := fun g hg' => by
      have e1 := ha g hg'
      have e2 := ha r hr
      constructor <;> simp [ag, e1, e2]
    have g1 : gb pre r = false := by
      simp only [gb, List.any_eq_false]
      intro x hx
      rw [(hno x (by rw [e]; simp [hx])).1]; simp
    have g2 : gb suf r = false := by
      simp only [gb, List.any_eq_false]
      intro x hx
      rw [(hno x (by rw [e]; simp [hx])).1]; simp
    have g3 : wb pre r = false := by
      simp only [wb, List.any_eq_false]
      intro x hx
      have := hno x (by rw [e]; simp [hx])
      rw [this.1, this.2]; simp
    rw [mayP, g1, g2, g3] at hm
    simp at hm
/-- Does a transaction have it? -/
def heldB (g : Rq) (tx : Int) (o : Ob) (m : Int) : Bool := g.gr && decide (g.tx = tx) && wi o g.ob && cv g.md m
def hasB (L : List Rq) (tx : Int) (o : Ob) (m : Int) : Bool := L.any fun g => heldB g tx o m
def waitsB (L : List Rq) (tx : Int) : Bool := L.any fun r => decide (r.tx = tx) && !r.gr
def unshort (tx : Int) (o : Ob) (m : Int) (s : Bool) (r : Rq) : Rq := if heldB r tx o m && !s && oe r.ob o && decide (r.md = m) then { r with sh := false } else r
/-- Ask: the answer, the error's number, the table. -/
def askF (most : Int) (L : List Rq) (tx : Int) (o : Ob) (m : Int) (s : Bool) : (Bool × Int) × List Rq :=
  if decide (tx < 1) || !pl o || decide (m < 1) || decide (m > 6) || waitsB L tx then ((false, 114), L)
  else if hasB L tx o m then ((true, 0), L.map (unshort tx o m s))
  else if most ≤ (L.length : Int) then ((false, 112), L)
  else ((mayP L ⟨tx, o, m, false, s⟩ [], 0), L ++ [⟨tx, o, m, mayP L ⟨tx, o, m, false, s⟩ [], s⟩])
theorem unshort_like (tx : Int) (o : Ob) (m : Int) (s : Bool) (r : Rq) : (unshort tx o m s r).like r := by
  unfold unshort
  split
  · exact ⟨rfl, rfl, rfl, rfl⟩
  · exact like_refl r
theorem TInv.ask {L : List Rq} (h : TInv L) (most tx : Int) (o : Ob) (m : Int) (s : Bool) : TInv (askF most L tx o m s).2 := by
  unfold askF
  split
  · exact h
  · rename_i hc
    simp only [Bool.or_eq_true, decide_eq_true_eq, Bool.not_eq_true', not_or] at hc
    obtain ⟨⟨⟨⟨c1, c2⟩, c3⟩, c4⟩, c5⟩ := hc
    split
    · exact h.map (unshort_like tx o m s)
    · split
      · exact h
      · refine h.push _ ⟨by show 1 ≤ tx; omega, by simpa using c2, by show 1 ≤ m; omega, by show m ≤ 6; omega⟩ rfl (fun r hr hg e => c5 ?_)
        unfold waitsB
        rw [List.any_eq_true]
        exact ⟨r, hr, by simp [hg]; exact e⟩
end Go.Proofs.YtmldpbgdjlblmaaDoor

/- The document's heap as it lies: its rows are its own, its records lie apart from them (for HeapPlays). -/
import Derived.Test.YtkmgahembhgloaaH8Y
namespace Go.Proofs.Ytkmgahembhgloaa
open Go.RowKit Go.Maps
set_option linter.unusedVariables false
set_option linter.unusedSimpArgs false

/-- Which block is what: 0 none of it, 1 the heap, 2 its row of pages, 3 a record, 4 + j the row of page j. -/
structure RefIn (base : Nat) (w : World) (ro : Nat → Nat) (rg gp cap : Nat) (PV : Nat → Value) (VS : Nat → List Value) (n : Nat) (R : Nat → List (List UInt8)) : Prop where
  hz : ∀ i, w.heap.size ≤ i → ro i = 0
  lo : ∀ i, ro i ≠ 0 → base ≤ i
  hrg : w.heap[rg]? = some (.cells #[.slice (some ⟨gp, 0, none⟩) n cap] 63 (0, 0))
  r1 : ro rg = 1
  r2 : ro gp = 2
  row : w.ownsRow base 71 1 (.slice (some ⟨gp, 0, none⟩) n cap) n ((List.range n).map PV)
  pg : ∀ j, j < n → w.ownsRow base 30 1 (PV j) (R j).length (VS j)
  pr : ∀ j, j < n → ∀ c, (PV j).ownBlock = some c → ro c = 4 + j
  vs : ∀ j, j < n → ∀ i (h : i < (R j).length), ∃ ao c, (VS j)[i]? = some (.slice ao (R j)[i].length c) ∧ Bytes w (.slice ao (R j)[i].length c) (R j)[i] ∧ ∀ a, ao = some a → ro a.block = 3
theorem RefIn.keep {base : Nat} {w w' : World} {ro : Nat → Nat} {rg gp cap : Nat} {PV : Nat → Value} {VS : Nat → List Value} {n : Nat} {R : Nat → List (List UInt8)} {S : Nat → Prop} (h : RefIn base w ro rg gp cap PV VS n R) (hf : Fr w w' S) (hd : ∀ i, S i → ro i = 0) : RefIn base w' ro rg gp cap PV VS n R := by
  have hn : ∀ i, ro i ≠ 0 → ¬ S i := fun i hi hs => hi (hd i hs)
  refine ⟨fun i hi => h.hz i (Nat.le_trans hf.size hi), h.lo, (hf.block rg (Array.getElem?_eq_some_iff.1 h.hrg).1 (hn rg (by rw [h.r1]; decide))).trans h.hrg, h.r1, h.r2, ?_, fun j hj => ?_, h.pr, fun j hj i hi => ?_⟩
  · refine own_of_block h.row (fun b hb => hf.block b (World.ownsRow.lt h.row b hb).2 (hn b ?_))
    simp only [Value.ownBlock, Option.some.injEq] at hb
    rw [← hb, h.r2]; decide
  · exact own_of_block (h.pg j hj) (fun b hb => hf.block b (World.ownsRow.lt (h.pg j hj) b hb).2 (hn b (by rw [h.pr j hj b hb]; omega)))
  · obtain ⟨ao, c, h1, h2, h3⟩ := h.vs j hj i hi
    refine ⟨ao, c, h1, h2.fr8 (fun a n c e => ?_) hf, h3⟩
    simp only [Value.slice.injEq] at e
    exact hn _ (by rw [h3 a e.1]; decide)
theorem RefIn.keepB {base : Nat} {w w' : World} {ro : Nat → Nat} {rg gp cap : Nat} {PV : Nat → Value} {VS : Nat → List Value} {n : Nat} {R : Nat → List (List UInt8)} (h : RefIn base w ro rg gp cap PV VS n R) (hb : Below w.heap.size w w') : RefIn base w' ro rg gp cap PV VS n R :=
  h.keep (Fr.of_below (F := fun _ => False) hb) (fun i hi => hi.elim)
/-- A page as it lies. -/
theorem RefIn.page {base : Nat} {w : World} {ro : Nat → Nat} {rg gp cap : Nat} {PV : Nat → Value} {VS : Nat → List Value} {n : Nat} {R : Nat → List (List UInt8)} (h : RefIn base w ro rg gp cap PV VS n R) {j : Nat} (hj : j < n) : ∃ (ao : Option Addr) (cp : Nat), PV j = .slice ao (R j).length cp ∧ (R j).length ≤ cp ∧ (R j = [] ∨ ∃ g, ao = some ⟨g, 0, none⟩ ∧ ∀ i (hi : i < (R j).length), ∃ vo vc, w.cell? ⟨g, i, none⟩ = some (.slice vo (R j)[i].length vc) ∧ Bytes w (.slice vo (R j)[i].length vc) (R j)[i]) := by
  have hp := h.pg j hj
  rcases id hp with ⟨h1, ⟨hv, hn⟩ | ⟨g, cp, cur, hv, hg, hh, hc, _⟩⟩
  · exact ⟨none, 0, by rw [hv, hn], by omega, Or.inl (List.eq_nil_of_length_eq_zero hn)⟩
  · refine ⟨some ⟨g, 0, none⟩, cp, hv, hc, Or.inr ⟨g, rfl, fun i hi => ?_⟩⟩
    obtain ⟨vo, vc, e, hb, _⟩ := h.vs j hj i hi
    have c1 := World.ownsRow.cells hp (g := g) (by rw [hv]; rfl) i _ e
    rw [Addr.add_mid, Nat.zero_add] at c1
    exact ⟨vo, vc, c1, hb⟩
theorem RefIn.rowCell {base : Nat} {w : World} {ro : Nat → Nat} {rg gp cap : Nat} {PV : Nat → Value} {VS : Nat → List Value} {n : Nat} {R : Nat → List (List UInt8)} (h : RefIn base w ro rg gp cap PV VS n R) {j : Nat} (hj : j < n) : w.cell? ⟨gp, j, none⟩ = some (PV j) ∧ w.frozen? ⟨gp, j, none⟩ = false := by
  have c1 := World.ownsRow.cells h.row (g := gp) rfl j (PV j) (by simp [hj])
  rw [Addr.add_mid, Nat.zero_add] at c1
  exact ⟨c1, World.ownsRow.frozenAt h.row j⟩
theorem RefIn.rgCell {base : Nat} {w : World} {ro : Nat → Nat} {rg gp cap : Nat} {PV : Nat → Value} {VS : Nat → List Value} {n : Nat} {R : Nat → List (List UInt8)} (h : RefIn base w ro rg gp cap PV VS n R) : w.cell? ⟨rg, 0, none⟩ = some (.slice (some ⟨gp, 0, none⟩) n cap) := by
  rw [cell_of_row w rg 0 _ _ _ h.hrg]; rfl
theorem RefIn.capLe {base : Nat} {w : World} {ro : Nat → Nat} {rg gp cap : Nat} {PV : Nat → Value} {VS : Nat → List Value} {n : Nat} {R : Nat → List (List UInt8)} (h : RefIn base w ro rg gp cap PV VS n R) : n ≤ cap := by
  rcases id h.row with ⟨_, ⟨hv, hn⟩ | ⟨g, cp, cur, hv, hg, hh, hc, _⟩⟩
  · cases hv
  · simp only [Value.slice.injEq] at hv
    rw [hv.2.2]; exact hc
theorem RefIn.pages {base : Nat} {w : World} {ro : Nat → Nat} {rg gp cap : Nat} {PV : Nat → Value} {VS : Nat → List Value} {n : Nat} {R : Nat → List (List UInt8)} (h : RefIn base w ro rg gp cap PV VS n R) : Pages w (.pointer (some ⟨rg, 0, none⟩)) n R :=
  ⟨rg, gp, cap, PV, rfl, h.rgCell, h.capLe, fun j hj => ⟨(h.rowCell hj).1, h.page hj⟩⟩
/-- A block of nobody's is a record's from now on. -/
theorem RefIn.mark {base : Nat} {w : World} {ro : Nat → Nat} {rg gp cap : Nat} {PV : Nat → Value} {VS : Nat → List Value} {n : Nat} {R : Nat → List (List UInt8)} (h : RefIn base w ro rg gp cap PV VS n R) (c m : Nat) (h0 : ro c = 0) (hb : base ≤ c) (hc : c < w.heap.size) : RefIn base w (fun i => if i = c then m else ro i) rg gp cap PV VS n R := by
  have k : ∀ i, ro i ≠ 0 → (if i = c then m else ro i) = ro i := fun i hi => if_neg (fun e => hi (by rw [e]; exact h0))
  refine ⟨fun i hi => ?_, fun i hi => ?_, h.hrg, ?_, ?_, h.row, h.pg, fun j hj c' hc' => ?_, fun j hj i hi => ?_⟩
  · show (if i = c then m else ro i) = 0
    rw [if_neg (by omega)]; exact h.hz i hi
  · by_cases e : i = c
    · omega
    · exact h.lo i (by simpa [e] using hi)
  · show (if rg = c then m else ro rg) = 1
    rw [k rg (by rw [h.r1]; decide), h.r1]
  · show (if gp = c then m else ro gp) = 2
    rw [k gp (by rw [h.r2]; decide), h.r2]
  · show (if c' = c then m else ro c') = 4 + j
    rw [k c' (by rw [h.pr j hj c' hc']; omega), h.pr j hj c' hc']
  · obtain ⟨ao, cc, h1, h2, h3⟩ := h.vs j hj i hi
    refine ⟨ao, cc, h1, h2, fun a ha => ?_⟩
    show (if a.block = c then m else ro a.block) = 3
    rw [k _ (by rw [h3 a ha]; decide), h3 a ha]
/-- A record is put in a page's slot. -/
theorem RefIn.set {base : Nat} {w : World} {ro : Nat → Nat} {rg gp cap : Nat} {PV : Nat → Value} {VS : Nat → List Value} {n : Nat} {R : Nat → List (List UInt8)} (h : RefIn base w ro rg gp cap PV VS n R) {k s g cp : Nat} (hk : k < n) (hs : s < (R k).length) (hpv : PV k = .slice (some ⟨g, 0, none⟩) (R k).length cp) {vo : Option Addr} {vc : Nat} {b : List UInt8} (hb : Bytes w (.slice vo b.length vc) b) (hv : ∀ a, vo = some a → ro a.block = 3) :
    RefIn base (w.setCell ⟨g, s, none⟩ (.slice vo b.length vc)) ro rg gp cap PV (fun j => if j = k then (VS k).set s (.slice vo b.length vc) else VS j) n (upR R k (some ((R k).set s b))) ∧ Fr w (w.setCell ⟨g, s, none⟩ (.slice vo b.length vc)) (fun i => ro i ≠ 0) := by
  have hrg : ro g = 4 + k := h.pr k hk g (by rw [hpv]; rfl)
  have hf : Fr w (w.setCell ⟨g, s, none⟩ (.slice vo b.length vc)) (fun i => i = g) := fr_set w g s _
  have hsz : (w.setCell ⟨g, s, none⟩ (.slice vo b.length vc)).heap.size = w.heap.size := by simp [World.setCell]
  have hpk := h.pg k hk
  rw [hpv] at hpk
  obtain ⟨hst, _⟩ := World.ownsRow.stored hpk s (.slice vo b.length vc)
  have hne : ∀ i, ro i ≠ 4 + k → ¬ (i = g) := fun i hi e => hi (e ▸ hrg)
  refine ⟨⟨fun i hi => h.hz i (by omega), h.lo, (hf.block rg (Array.getElem?_eq_some_iff.1 h.hrg).1 (hne rg (by rw [h.r1]; omega))).trans h.hrg, h.r1, h.r2, ?_, fun j hj => ?_, h.pr, fun j hj i hi => ?_⟩, hf.mono (fun i hi => by rw [hi, hrg]; omega)⟩
  · refine own_of_block h.row (fun c hc => hf.block c (World.ownsRow.lt h.row c hc).2 (hne c ?_))
    simp only [Value.ownBlock, Option.some.injEq] at hc
    rw [← hc, h.r2]; omega
  · by_cases e : j = k
    · subst e
      rw [upR_at, if_pos rfl, if_pos rfl, List.length_set, hpv]
      exact hst
    · rw [upR_at, if_neg e, if_neg e]
      exact own_of_block (h.pg j hj) (fun c hc => hf.block c (World.ownsRow.lt (h.pg j hj) c hc).2 (hne c (by rw [h.pr j hj c hc]; omega)))
  · by_cases e : j = k
    · subst e
      have hR : upR R j (some ((R j).set s b)) j = (R j).set s b := by rw [upR_at, if_pos rfl]
      rw [if_pos rfl]
      have hi' : i < (R j).length := by rw [hR] at hi; simpa using hi
      by_cases es : i = s
      · subst es
        have hg : (upR R j (some ((R j).set i b)) j)[i] = b := by
          have : (upR R j (some ((R j).set i b)) j)[i]? = some b := by rw [hR]; simp [hi']
          rw [List.getElem?_eq_getElem hi] at this
          exact Option.some.inj this
        rw [hg]
        refine ⟨vo, vc, ?_, hb.fr8 (fun a n c e => ?_) hf, hv⟩
        · have hl : (VS j).length = (R j).length := by have := hpk.1; omega
          simp [hl, hi']
        · simp only [Value.slice.injEq] at e
          exact hne _ (by rw [hv a e.1]; omega)
      · obtain ⟨ao, c, h1, h2, h3⟩ := h.vs j hj i hi'
        have hg : (upR R j (some ((R j).set s b)) j)[i] = (R j)[i] := by
          have : (upR R j (some ((R j).set s b)) j)[i]? = some (R j)[i] := by rw [hR, List.getElem?_set_ne (by omega)]; exact List.getElem?_eq_getElem hi'
          rw [List.getElem?_eq_getElem hi] at this
          exact Option.some.inj this
        rw [hg]
        refine ⟨ao, c, by rw [List.getElem?_set_ne (by omega)]; exact h1, h2.fr8 (fun a n c e => ?_) hf, h3⟩
        simp only [Value.slice.injEq] at e
        exact hne _ (by rw [h3 a e.1]; omega)
    · have hR : upR R k (some ((R k).set s b)) j = R j := by rw [upR_at, if_neg e]
      rw [if_neg e]
      have hi' : i < (R j).length := by rw [hR] at hi; exact hi
      obtain ⟨ao, c, h1, h2, h3⟩ := h.vs j hj i hi'
      have hg : (upR R k (some ((R k).set s b)) j)[i] = (R j)[i] := by
        have : (upR R k (some ((R k).set s b)) j)[i]? = some (R j)[i] := by rw [hR]; exact List.getElem?_eq_getElem hi'
        rw [List.getElem?_eq_getElem hi] at this
        exact Option.some.inj this
      rw [hg]
      refine ⟨ao, c, h1, h2.fr8 (fun a n c e => ?_) hf, h3⟩
      simp only [Value.slice.injEq] at e
      exact hne _ (by rw [h3 a e.1]; omega)

theorem map_range_set (n k : Nat) (PV : Nat → Value) (u : Value) : ((List.range n).map PV).set k u = (List.range n).map (fun j => if j = k then u else PV j) := by
  apply List.ext_getElem?
  intro i
  by_cases hi : i < n
  · by_cases e : i = k
    · subst e
      simp [hi]
    · rw [List.getElem?_set_ne (by omega)]
      simp [hi, e]
  · rw [List.getElem?_eq_none (by simp; omega), List.getElem?_eq_none (by simp; omega)]
theorem RefIn.push {base : Nat} {w w2 : World} {ro : Nat → Nat} {rg gp cap : Nat} {PV : Nat → Value} {VS : Nat → List Value} {n : Nat} {R : Nat → List (List UInt8)} (h : RefIn base w ro rg gp cap PV VS n R) {k g cp : Nat} (hk : k < n) {vo : Option Addr} {vc : Nat} {b : List UInt8} (hb : Bytes w (.slice vo b.length vc) b) (hv : ∀ a, vo = some a → ro a.block = 3)
    (hown : w2.ownsRow base 30 1 (.slice (some ⟨g, 0, none⟩) ((R k).length + 1) cp) ((R k).length + 1) (VS k ++ [.slice vo b.length vc])) (hgr : w.grownBy w2 (PV k).ownBlock) (hat : (PV k).ownBlock = some g ∨ w.heap.size ≤ g) (hbw : base ≤ w.heap.size) :
    RefIn base (w2.setCell ⟨gp, k, none⟩ (.slice (some ⟨g, 0, none⟩) ((R k).length + 1) cp)) (fun i => if i = g then 4 + k else ro i) rg gp cap (fun j => if j = k then .slice (some ⟨g, 0, none⟩) ((R k).length + 1) cp else PV j) (fun j => if j = k then VS k ++ [.slice vo b.length vc] else VS j) n (upR R k (some (R k ++ [b]))) ∧ Fr w (w2.setCell ⟨gp, k, none⟩ (.slice (some ⟨g, 0, none⟩) ((R k).length + 1) cp)) (fun i => ro i ≠ 0) := by
  have hg2 := World.ownsRow.lt hown g rfl
  have hrog : ro g = 4 + k ∨ ro g = 0 := hat.imp (fun e => h.pr k hk g e) (fun e => h.hz g e)
  have hne : ∀ i, ro i ≠ 0 → ro i ≠ 4 + k → i ≠ g := fun i h1 h2 e => hrog.elim (fun q => h2 (e ▸ q)) (fun q => h1 (e ▸ q))
  have kr : ∀ i, ro i ≠ 0 → ro i ≠ 4 + k → (if i = g then 4 + k else ro i) = ro i := fun i h1 h2 => if_neg (hne i h1 h2)
  have hrgp : ro gp ≠ 0 ∧ ro gp ≠ 4 + k := by rw [h.r2]; omega
  have hgpg : g ≠ gp := fun e => hne gp hrgp.1 hrgp.2 e.symm
  have hf2 : Fr w w2 (fun i => (PV k).ownBlock = some i) := Fr.of_grown hgr (fun i hi => hi)
  have hp2 : ∀ i, ro i ≠ 0 → ro i ≠ 4 + k → ¬ ((PV k).ownBlock = some i) := fun i h1 h2 e => h2 (h.pr k hk i e)
  have hf3 : Fr w2 (w2.setCell ⟨gp, k, none⟩ (.slice (some ⟨g, 0, none⟩) ((R k).length + 1) cp)) (fun i => i = gp) := fr_set w2 gp k _
  have hsz3 : (w2.setCell ⟨gp, k, none⟩ (.slice (some ⟨g, 0, none⟩) ((R k).length + 1) cp)).heap.size = w2.heap.size := by simp [World.setCell]
  have hs2 := hf2.size
  have hrow2 : w2.ownsRow base 71 1 (.slice (some ⟨gp, 0, none⟩) n cap) n ((List.range n).map PV) := by
    refine own_of_block h.row (fun c hc => hf2.block c (World.ownsRow.lt h.row c hc).2 (hp2 c ?_ ?_))
    · simp only [Value.ownBlock, Option.some.injEq] at hc
      rw [← hc]; exact hrgp.1
    · simp only [Value.ownBlock, Option.some.injEq] at hc
      rw [← hc]; exact hrgp.2
  obtain ⟨hrow3, _⟩ := World.ownsRow.stored hrow2 k (.slice (some ⟨g, 0, none⟩) ((R k).length + 1) cp)
  rw [map_range_set] at hrow3
  have hb3 : ∀ c, c < w.heap.size → ro c ≠ 0 → ro c ≠ 4 + k → c ≠ gp → (w2.setCell ⟨gp, k, none⟩ (.slice (some ⟨g, 0, none⟩) ((R k).length + 1) cp)).heap[c]? = w.heap[c]? := fun c h0 h1 h2 h3 =>
    (hf3.block c (by omega) h3).trans (hf2.block c h0 (hp2 c h1 h2))
  have hrec : ∀ {v : Value} {r : List UInt8}, Bytes w v r → (∀ a n c, v = .slice (some a) n c → ro a.block = 3) → Bytes (w2.setCell ⟨gp, k, none⟩ (.slice (some ⟨g, 0, none⟩) ((R k).length + 1) cp)) v r := fun {v r} h1 h2 =>
    (h1.fr8 (fun a n c e => hp2 _ (by rw [h2 a n c e]; decide) (by rw [h2 a n c e]; omega)) hf2).fr8 (fun a n c e e' => by have := h2 a n c e; rw [e', h.r2] at this; omega) hf3
  refine ⟨⟨fun i hi => ?_, fun i hi => ?_, (hb3 rg (Array.getElem?_eq_some_iff.1 h.hrg).1 (by rw [h.r1]; decide) (by rw [h.r1]; omega) (fun e => by have := h.r1; rw [e, h.r2] at this; omega)).trans h.hrg, ?_, ?_, hrow3, fun j hj => ?_, fun j hj c hc => ?_, fun j hj i hi => ?_⟩, ?_⟩
  · show (if i = g then 4 + k else ro i) = 0
    rw [if_neg (by omega)]; exact h.hz i (by omega)
  · by_cases e : i = g
    · rw [e]; exact hg2.1
    · exact h.lo i (by simpa [e] using hi)
  · show (if rg = g then 4 + k else ro rg) = 1
    rw [kr rg (by rw [h.r1]; decide) (by rw [h.r1]; omega), h.r1]
  · show (if gp = g then 4 + k else ro gp) = 2
    rw [kr gp hrgp.1 hrgp.2, h.r2]
  · by_cases e : j = k
    · subst e
      rw [upR_at, if_pos rfl, if_pos rfl, if_pos rfl]
      refine own_of_block (k := (R j ++ [b]).length) ?_ (fun c hc => hf3.block c (World.ownsRow.lt hown c hc).2 ?_)
      · simpa using hown
      · simp only [Value.ownBlock, Option.some.injEq] at hc
        rw [← hc]; exact hgpg
    · rw [upR_at, if_neg e, if_neg e, if_neg e]
      refine own_of_block (h.pg j hj) (fun c hc => ?_)
      have hr := h.pr j hj c hc
      exact hb3 c (World.ownsRow.lt (h.pg j hj) c hc).2 (by omega) (by omega) (fun e' => by rw [e', h.r2] at hr; omega)
  · show (if c = g then 4 + k else ro c) = 4 + j
    by_cases e : j = k
    · subst e
      rw [if_pos rfl] at hc
      simp only [Value.ownBlock, Option.some.injEq] at hc
      rw [if_pos hc.symm]
    · rw [if_neg e] at hc
      have hr := h.pr j hj c hc
      rw [kr c (by omega) (by omega), hr]
  · by_cases e : j = k
    · subst e
      have hR : upR R j (some (R j ++ [b])) j = R j ++ [b] := by rw [upR_at, if_pos rfl]
      rw [if_pos rfl]
      have hl : (VS j).length = (R j).length := by have := (h.pg j hj).1; omega
      by_cases hi' : i < (R j).length
      · obtain ⟨ao, c, h1, h2, h3⟩ := h.vs j hj i hi'
        have hg : (upR R j (some (R j ++ [b])) j)[i] = (R j)[i] := by
          have : (upR R j (some (R j ++ [b])) j)[i]? = some (R j)[i] := by rw [hR, List.getElem?_append_left hi']; exact List.getElem?_eq_getElem hi'
          rw [List.getElem?_eq_getElem hi] at this
          exact Option.some.inj this
        rw [hg]
        refine ⟨ao, c, by rw [List.getElem?_append_left (by omega)]; exact h1, hrec h2 (fun a n c e => h3 a (by simp only [Value.slice.injEq] at e; exact e.1)), fun a ha => ?_⟩
        show (if a.block = g then 4 + j else ro a.block) = 3
        rw [kr _ (by rw [h3 a ha]; decide) (by rw [h3 a ha]; omega), h3 a ha]
      · have hie : i = (R j).length := by rw [hR] at hi; simp at hi; omega
        have hg : (upR R j (some (R j ++ [b])) j)[i] = b := by
          have : (upR R j (some (R j ++ [b])) j)[i]? = some b := by rw [hR, hie]; simp
          rw [List.getElem?_eq_getElem hi] at this
          exact Option.some.inj this
        rw [hg]
        refine ⟨vo, vc, by rw [hie, ← hl]; simp, hrec hb (fun a n c e => hv a (by simp only [Value.slice.injEq] at e; exact e.1)), fun a ha => ?_⟩
        show (if a.block = g then 4 + j else ro a.block) = 3
        rw [kr _ (by rw [hv a ha]; decide) (by rw [hv a ha]; omega), hv a ha]
    · have hR : upR R k (some (R k ++ [b])) j = R j := by rw [upR_at, if_neg e]
      rw [if_neg e]
      have hi' : i < (R j).length := by rw [hR] at hi; exact hi
      obtain ⟨ao, c, h1, h2, h3⟩ := h.vs j hj i hi'
      have hg : (upR R k (some (R k ++ [b])) j)[i] = (R j)[i] := by
        have : (upR R k (some (R k ++ [b])) j)[i]? = some (R j)[i] := by rw [hR]; exact List.getElem?_eq_getElem hi'
        rw [List.getElem?_eq_getElem hi] at this
        exact Option.some.inj this
      rw [hg]
      refine ⟨ao, c, h1, hrec h2 (fun a n c e => h3 a (by simp only [Value.slice.injEq] at e; exact e.1)), fun a ha => ?_⟩
      show (if a.block = g then 4 + k else ro a.block) = 3
      rw [kr _ (by rw [h3 a ha]; decide) (by rw [h3 a ha]; omega), h3 a ha]
  · exact (hf2.mono (fun i hi => by rw [h.pr k hk i hi]; omega)).trans hf3 (fun i hi => Or.inl (by rw [hi]; exact hrgp.1))
end Go.Proofs.Ytkmgahembhgloaa

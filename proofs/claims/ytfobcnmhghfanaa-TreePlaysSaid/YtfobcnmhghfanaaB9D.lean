/- Nodes that are read: branchFor, entryFrom. -/
import Derived.Test.YtfobcnmhghfanaaB9C
import Derived.Laws.Cover1
namespace Go.Proofs.Ytfobcnmhghfanaa
open Go.RowKit Go.Shelf
set_option linter.unusedVariables false
set_option linter.unusedSimpArgs false

theorem gt_kl (a b : ByteArray) : (!(Op.bytesLess a.toList b.toList || a.toList == b.toList)) = kl b a := by
  by_cases e : a = b
  · subst e
    rw [kl_irrefl]; simp
  · have h2 : (a.toList == b.toList) = false := by
      rw [beq_eq_false_iff_ne]
      intro h
      apply e
      rw [ByteArray.toList_eq, ByteArray.toList_eq] at h
      cases a; cases b
      simpa using h
    rw [h2, Bool.or_false]
    show (!kl a b) = kl b a
    cases h : kl a b with
    | true => rw [kl_asymm h]; rfl
    | false =>
      cases h' : kl b a with
      | true => rfl
      | false => exact absurd (kl_eq h h') e
theorem eq_kl (a b : ByteArray) : (a.toList == b.toList) = decide (a = b) := by
  by_cases e : a = b
  · subst e; simp
  · rw [decide_eq_false e, beq_eq_false_iff_ne]
    intro h
    apply e
    rw [ByteArray.toList_eq, ByteArray.toList_eq] at h
    cases a; cases b
    simpa using h
theorem box_new (w : World) (v : Value) (t : TypeId) : (w.alloc (.cells #[v] t)).cell? ⟨w.heap.size, 0, none⟩ = some v := by rw [cell_of_row _ _ 0 _ _ _ (heap_alloc_new w _)]; rfl
theorem box_at (w : World) (v : Value) (t : TypeId) {B : Nat} (h : B = w.heap.size) : (w.alloc (.cells #[v] t)).cell? ⟨B, 0, none⟩ = some v := by subst h; exact box_new w v t
theorem box_old {w : World} {a : Addr} {v : Value} (o : Obj) (h : w.cell? a = some v) : (w.alloc o).cell? a = some v := World.grownBy.cell (World.grownBy_alloc w o none) h (by simp)
theorem enters_bf1 : Enters Try.prog 51 := enters_of Try.func51 (by kernel_rfl) rfl
theorem bf1_any {W : World} {bn bk b g n cap i : Nat} {key low : ByteArray} (h1 : W.cell? ⟨bn, 0, none⟩ = some (pt b)) (h2 : W.cell? ⟨bk, 0, none⟩ = some (.string key)) (h3 : W.cell? ⟨b, 1, none⟩ = some (.slice (some ⟨g, 0, none⟩) n cap)) (hi : i < n) (h4 : W.cell? ⟨g, i * 2, none⟩ = some (.string low)) :
    Calls Try.prog 51 (#[.int .i64 i] ++ #[pt bn, pt bk]) W fun e w' => e = .returned (.bool (kl key low)) ∧ ∃ q, w' = W.drewN q := by
  have hz : (i : Int) < (n : Int) := by omega
  have hgt := gt_kl low key
  go_enter Try.func51, Try.ntmps51
  go_wp2
  go_quiet (fail)
  go_wp2
  go_ret
  exact ⟨rfl, _, rfl⟩
theorem enters_ef1 : Enters Try.prog 49 := enters_of Try.func49 (by kernel_rfl) rfl
theorem ef1_any {W : World} {bn bk bi b g n cap i : Nat} {key k : ByteArray} {is : Bool} (h1 : W.cell? ⟨bn, 0, none⟩ = some (pt b)) (h2 : W.cell? ⟨bk, 0, none⟩ = some (.string key)) (h5 : W.cell? ⟨bi, 0, none⟩ = some (.bool is)) (h3 : W.cell? ⟨b, 0, none⟩ = some (.slice (some ⟨g, 0, none⟩) n cap)) (hi : i < n) (h4 : W.cell? ⟨g, i * 3, none⟩ = some (.string k)) :
    Calls Try.prog 49 (#[.int .i64 i] ++ #[pt bn, pt bk, pt bi]) W fun e w' => e = .returned (.bool (kl key k || (is && decide (k = key)))) ∧ ∃ q, w' = W.drewN q := by
  have hz : (i : Int) < (n : Int) := by omega
  have hgt := gt_kl k key
  cases hkl : kl key k with
  | true =>
    rw [hkl] at hgt
    go_enter Try.func49, Try.ntmps49
    go_wp2
    go_quiet (fail)
    go_wp2
    go_ret
    exact ⟨rfl, _, rfl⟩
  | false =>
    rw [hkl] at hgt
    cases is with
    | false =>
      go_enter Try.func49, Try.ntmps49
      go_wp2
      go_quiet (fail)
      go_wp2
      go_ret
      exact ⟨rfl, _, rfl⟩
    | true =>
      go_enter Try.func49, Try.ntmps49
      go_wp2
      go_quiet (fail)
      go_wp2
      go_ret
      refine ⟨?_, _, rfl⟩
      rw [eq_kl]; rfl
/-- The branch under which a key belongs: the last one whose low is not above it, or the first one. -/
structure BrAt (bs : List Br) (key : ByteArray) (i : Nat) : Prop where
  lt : i < bs.length
  hi : ∀ t (h : t < bs.length), i < t → kl key bs[t].1 = true
  lo : ∀ (h : 0 < bs.length), kl key bs[0].1 = false → kl key (bs[i]'lt).1 = false
  zero : ∀ (h : 0 < bs.length), kl key bs[0].1 = true → i = 0
theorem brAt {bs : List Br} {key : ByteArray} {k : Nat} (hb : 0 < bs.length) (h : Found (fun i => kl key (bs.getD i (ByteArray.empty, 0)).1) bs.length k) : BrAt bs key (k - 1) := by
  have hd : ∀ t (ht : t < bs.length), bs.getD t (ByteArray.empty, 0) = bs[t] := fun t ht => by rw [List.getD_eq_getElem?_getD, List.getElem?_eq_getElem ht]; rfl
  have hle := h.le
  refine ⟨by omega, fun t ht h1 => ?_, fun _ h0 => ?_, fun _ h0 => ?_⟩
  · have := h.hi t (by omega) ht
    simp only [hd t ht] at this
    exact this
  · by_cases e : k = 0
    · subst e; exact h0
    · have := h.lo (k - 1) (by omega)
      simp only [hd (k - 1) (by omega)] at this
      exact this
  · by_cases e : k = 0
    · omega
    · have := h.lo 0 (by omega)
      simp only [hd 0 hb] at this
      rw [this] at h0; cases h0
/-- What branchFor comes to. -/
inductive BfOut (w : World) (bs : List Br) (key : ByteArray) (e : Ending) (w' : World) : Prop
  | mk (i : Nat) (he : e = .returned (.int .i64 i)) (h : BrAt bs key i) (hb : Below w.heap.size w w')
set_option maxHeartbeats 1000000 in
theorem branchFor_any {w : World} {b : Nat} {ve vb : Value} {bs : List Br} {base : Nat} (h : NodeC w b ve vb) (hr : OwnN base w vb bs) (hn : 0 < bs.length) (hn2 : bs.length ≤ 1000) (hs : (bs.map (·.1)).Pairwise (fun a b => kl b a = false)) (key : ByteArray) :
    Calls Try.prog 44 #[pt b, .string key] w fun e w' => BfOut w bs key e w' := by
  obtain ⟨g, cap, rfl, hc, _, hg⟩ := hr.at_ hn
  have hlt := World.block_lt_of_cell? w _ h.c0
  obtain ⟨W0, hW0⟩ : ∃ W0, (w.alloc (.cells #[pt b] 71)).alloc (.cells #[.string key] 9) = W0 := ⟨_, rfl⟩
  have b0 : Below w.heap.size w W0 := by rw [← hW0]; exact ((Below.refl _ _).alloc (Nat.le_refl _) _).alloc (by simp) _
  have k1 : W0.cell? ⟨w.heap.size, 0, none⟩ = some (pt b) := by rw [← hW0]; exact box_old _ (box_new w _ _)
  have k2 : W0.cell? ⟨w.heap.size + 1, 0, none⟩ = some (.string key) := by rw [← hW0]; simp
  have hN := h.below b0
  have hd : ∀ t (ht : t < bs.length), bs.getD t (ByteArray.empty, 0) = bs[t] := fun t ht => by rw [List.getD_eq_getElem?_getD, List.getElem?_eq_getElem ht]; rfl
  have hcl : ∀ i (hi : i < bs.length), W0.cell? ⟨g, i * 2, none⟩ = some (.string (bs.getD i (ByteArray.empty, 0)).1) := fun i hi => by
    rw [hd i hi]
    have := hr.cell (cB_len bs) i hi 0 (by omega)
    exact (b0.cell (p := ⟨g, i * 2, none⟩) hg).trans (by simpa [cB] using this)
  have hsr := search_any 51 #[pt w.heap.size, pt (w.heap.size + 1)] bs.length (fun i => kl key (bs.getD i (ByteArray.empty, 0)).1) W0 enters_bf1 (by omega)
    (fun m i hi => (bf1_any (W := W0.drewN m) (n := bs.length) (cap := cap) k1 k2 hN.c1 hi (hcl i hi)).mono (by rintro e w' ⟨rfl, q, rfl⟩; exact ⟨rfl, _, World.drewN_drewN W0 m q⟩))
    (fun a c hac hcn ha => by
      by_cases e : a = c
      · subst e; exact ha
      · simp only [hd a (by omega), hd c hcn] at ha ⊢
        have := List.pairwise_iff_getElem.1 hs a c (by simp; omega) (by simpa using hcn) (by omega)
        simp only [List.getElem_map] at this
        exact kl_lt_le ha this)
  have HB : Hid (∀ k, Found (fun i => kl key (bs.getD i (ByteArray.empty, 0)).1) bs.length k → BrAt bs key (k - 1)) := fun k hk => brAt hn hk
  have c1 := hN.c1
  generalize (fun i => kl key (bs.getD i (ByteArray.empty, 0)).1) = P at *
  clear h hr hcl hN k2 hd hs hc
  generalize hln : bs.length = n at *
  clear hln
  go_enter Try.func44, Try.ntmps44
  go_wp2_with fail
  refine hsr.mono ?_
  clear hsr
  rintro e w1 ⟨k, q, rfl, rfl, hF⟩
  have HF : Hid (BrAt bs key (k - 1)) := HB.out k hF
  have hk := hF.le
  have bq : Below w.heap.size w (W0.drewN q) := b0.trans ⟨rfl, rfl, rfl, Nat.le_refl _, fun _ _ => rfl⟩
  clear hF HB
  by_cases hk0 : k = 0
  · subst hk0
    go_wp2
    go_ret
    exact .mk 0 rfl HF.out bq
  · obtain ⟨m, rfl⟩ : ∃ m, k = m + 1 := ⟨k - 1, by omega⟩
    go_wp2
    go_ret
    exact .mk m rfl HF.out bq
/-- What entryFrom comes to. -/
inductive EfOut (w : World) (es : List E) (key : ByteArray) (is : Bool) (e : Ending) (w' : World) : Prop
  | mk (i : Nat) (he : e = .returned (.int .i64 i)) (h : Bnd es key is i) (hb : Below w.heap.size w w')
set_option maxHeartbeats 1000000 in
theorem entryFrom_any {w : World} {b : Nat} {ve vb : Value} {es : List E} {base : Nat} (h : NodeC w b ve vb) (hr : OwnE base w ve es) (hn2 : es.length ≤ 1000) (hs : Line es) (key : ByteArray) (is : Bool) :
    Calls Try.prog 40 #[pt b, .string key, .bool is] w fun e w' => EfOut w es key is e w' := by
  obtain ⟨ao, cap, rfl, hc, _⟩ := hr.form
  have hlt := World.block_lt_of_cell? w _ h.c0
  obtain ⟨W0, hW0⟩ : ∃ W0, ((w.alloc (.cells #[pt b] 71)).alloc (.cells #[.string key] 9)).alloc (.cells #[.bool is] 4) = W0 := ⟨_, rfl⟩
  have b0 : Below w.heap.size w W0 := by rw [← hW0]; exact (((Below.refl _ _).alloc (Nat.le_refl _) _).alloc (by simp) _).alloc (by simp; omega) _
  have k1 : W0.cell? ⟨w.heap.size, 0, none⟩ = some (pt b) := by rw [← hW0]; exact box_old _ (box_old _ (box_new w _ _))
  have k2 : W0.cell? ⟨w.heap.size + 1, 0, none⟩ = some (.string key) := by rw [← hW0]; exact box_old _ (box_at _ _ _ (by simp))
  have k3 : W0.cell? ⟨w.heap.size + 1 + 1, 0, none⟩ = some (.bool is) := by rw [← hW0]; exact box_at _ _ _ (by simp)
  have hN := h.below b0
  let e0 : E := ⟨ByteArray.empty, 0, false⟩
  have hd : ∀ t (ht : t < es.length), es.getD t e0 = es[t] := fun t ht => by rw [List.getD_eq_getElem?_getD, List.getElem?_eq_getElem ht]; rfl
  have hsr := search_any 49 #[pt w.heap.size, pt (w.heap.size + 1), pt (w.heap.size + 1 + 1)] es.length (fun i => nextP key is (es.getD i e0)) W0 enters_ef1 (by omega)
    (fun m i hi => by
      obtain ⟨g, cap', hv, _, _, hg⟩ := hr.at_ (by omega)
      cases hv
      have hcl : W0.cell? ⟨g, i * 3, none⟩ = some (.string (es.getD i e0).key) := by
        rw [hd i hi]
        have := hr.cell (cE_len es) i hi 0 (by omega)
        exact (b0.cell (p := ⟨g, i * 3, none⟩) hg).trans (by simpa [cE] using this)
      exact (ef1_any (W := W0.drewN m) (n := es.length) (cap := cap) k1 k2 k3 hN.c0 hi hcl).mono (by rintro e w' ⟨rfl, q, rfl⟩; exact ⟨rfl, _, World.drewN_drewN W0 m q⟩))
    (fun a c hac hcn ha => by
      simp only [hd a (by omega), hd c hcn] at ha ⊢
      exact hs.mono hac hcn ha)
  have HB : Hid (∀ k, Found (fun i => nextP key is (es.getD i e0)) es.length k → Bnd es key is k) := fun k hk => ⟨hk.le, fun t ht h1 => by have := hk.lo t h1; simp only [hd t ht] at this; exact this, fun t ht h1 => by have := hk.hi t h1 ht; simp only [hd t ht] at this; exact this⟩
  have c0 := hN.c0
  generalize (fun i => nextP key is (es.getD i e0)) = P at *
  clear h hr hN k2 k3 hd hs hc e0
  generalize hln : es.length = n at *
  clear hln
  go_enter Try.func40, Try.ntmps40
  go_wp2_with fail
  refine hsr.mono ?_
  clear hsr
  rintro e w1 ⟨k, q, rfl, rfl, hF⟩
  have HF : Hid (Bnd es key is k) := HB.out k hF
  have bq : Below w.heap.size w (W0.drewN q) := b0.trans ⟨rfl, rfl, rfl, Nat.le_refl _, fun _ _ => rfl⟩
  clear hF HB
  go_wp2
  go_ret
  exact .mk k rfl HF.out bq
end Go.Proofs.Ytfobcnmhghfanaa

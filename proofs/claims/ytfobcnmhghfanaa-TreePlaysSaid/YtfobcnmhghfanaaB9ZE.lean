/- Is a tree well-formed? height of a node that is no leaf; Well; New. -/
import Derived.Test.YtfobcnmhghfanaaB9ZD
namespace Go.Proofs.Ytfobcnmhghfanaa
open Go.RowKit Go.Shelf
set_option linter.unusedVariables false
set_option linter.unusedSimpArgs false

theorem flat_ge {α β : Type} (f : α → List β) (m : Nat) (l : List α) (h : ∀ x ∈ l, m ≤ (f x).length) : m * l.length ≤ (l.flatMap f).length := by
  induction l with
  | nil => simp
  | cons x l ih =>
    rw [List.flatMap_cons, List.length_append, List.length_cons, Nat.mul_succ]
    have := h x (by simp)
    have := ih (fun y hy => h y (by simp [hy]))
    omega
/-- A tree is no higher than it has entries. -/
theorem TS.high {base : Nat} {w : World} {ro : Ro} {nd : Nat → Nd} {r H : Nat} {lv : Nat → List Br} {dep : Nat → Nat} (ts : TS base w ro nd r H lv dep) : H ≤ (ents nd (lv H)).length := by
  have h1 : ∀ j, 0 < j → j ≤ H → j ≤ (lv j).length := by
    intro j
    induction j with
    | zero => intro h; omega
    | succ j ih =>
      intro _ hj
      by_cases e : j = 0
      · subst e
        obtain ⟨_, c, t, hb⟩ := ts.sh.inner 0 (by omega) (ByteArray.empty, r) (by rw [ts.sh.top]; simp)
        rw [ts.sh.nx 0 (by omega), ts.sh.top, next_cons, next_nil, hb]
        simp
      · have h2 := ih (by omega) (by omega)
        rw [ts.sh.nx j (by omega)]
        have h3 := flat_ge (fun p => (nd p.2).bs) 4 (lv j) (fun p hp => by
          have h4 := (ts.sz j (by omega) (by omega) p hp).1
          unfold Nd.sz at h4
          rw [(ts.sh.inner j (by omega) p hp).1, List.length_nil] at h4
          omega)
        unfold next
        omega
  by_cases e : H = 0
  · omega
  · have h2 := h1 H (by omega) (Nat.le_refl _)
    have h3 := flat_ge (fun p => (nd p.2).es) 4 (lv H) (fun p hp => by
      have h4 := (ts.sz H (by omega) (Nat.le_refl _) p hp).1
      unfold Nd.sz at h4
      rw [ts.sh.leaf p hp, List.length_nil] at h4
      omega)
    unfold ents
    omega
set_option maxHeartbeats 4000000 in
set_option maxRecDepth 100000 in
theorem height_inner {base : Nat} {w : World} {ro : Ro} {nd : Nat → Nd} {r H : Nat} {lv : Nat → List Br} {dep : Nat → Nat} (ts : TS base w ro nd r H lv dep) {k j : Nat} (hk : j + (k + 1) = H) (hkb : k ≤ 900000) {q : Br} (hq : q ∈ lv j) {ob : Nat} (hro : ro ob = none) (hob : OB w ob (q.1, false)) (f : Nat) (hf : f ≤ (nd q.2).sz) (hf4 : f ≤ 4)
    (IH : ∀ w' q', TS base w' ro nd r H lv dep → q' ∈ lv (j + 1) → OB w' ob (q'.1, false) → Calls Try.prog 27 #[pt q'.2, .int .i64 4, pt ob] w' fun e w2 => HtOut w' ob ((k : Int) + 1) (lastI (U nd k q')) e w2) :
    Calls Try.prog 27 #[pt q.2, .int .i64 f, pt ob] w fun e w' => HtOut w ob ((k : Int) + 1 + 1) (lastI (U nd (k + 1) q)) e w' := by
  obtain ⟨hrq, hlb, hle, hleaf⟩ := ts.node (by omega) hq
  have hsz8 := ts.toSZ.all ts.sh (by omega) hq
  obtain ⟨hes, c0', t0', hb0⟩ := ts.sh.inner j (by omega) q hq
  have hsz : ∀ nq, Calls Try.prog 33 #[pt q.2] (w.drewN nq) fun e w' => e = .returned (.int .i64 ((nd q.2).sz : Nat)) ∧ ∃ q, w' = w.drewN q := fun nq => (msize_any (ts.mem.below (w' := w.drewN nq) ⟨rfl, rfl, rfl, Nat.le_refl _, fun _ _ => rfl⟩) hrq (by omega)).mono (by rintro e w' ⟨rfl, m, rfl⟩; exact ⟨rfl, _, World.drewN_drewN w nq m⟩)
  have hsz0 : Calls Try.prog 33 #[pt q.2] w fun e w' => e = .returned (.int .i64 ((nd q.2).sz : Nat)) ∧ ∃ q, w' = w.drewN q := hsz 0
  obtain ⟨ao, cap, hve, _, _⟩ := (ts.mem.rowE _ hrq).form
  rw [hes, List.length_nil] at hve
  have hnb : 0 < (nd q.2).bs.length := by rw [hb0]; simp
  obtain ⟨g, cap', hvb, hcap', _, _⟩ := (ts.mem.rowB _ hrq).at_ hnb
  have hN := ts.mem.at_ hrq
  have c0 := hN.c0
  have c1 := hN.c1
  rw [hve] at c0
  rw [hvb] at c1
  have hqb : q.2 ≠ ob := fun e => by rw [e, hro] at hrq; cases hrq
  have hdis : ∀ k, ro k ≠ none → ¬ (k = ob) := fun k hk e => hk (by rw [e]; exact hro)
  have hmem : ∀ i (hi : i < (nd q.2).bs.length), (nd q.2).bs[i] ∈ lv (j + 1) := fun i hi => by
    rw [ts.sh.nx j (by omega)]; exact List.mem_flatMap.2 ⟨q, hq, List.getElem_mem hi⟩
  -- one branch
  have HB : Hid (∀ wr i, i < (nd q.2).bs.length → Fr w wr (fun k => k = ob) → OB wr ob (stI nd k q i) → ∃ lo c, wr.cell? ⟨g, i * 2, none⟩ = some (.string lo) ∧ wr.cell? ⟨g, i * 2 + 1, none⟩ = some (pt c) ∧
      ∀ W1, Below wr.heap.size wr W1 → Calls Try.prog 35 #[pt ob, .string lo, .bool false] W1 fun e w3 => e = .returned (.bool true) ∧ Below W1.heap.size W1 W1 ∧ (∀ a v, a ≠ ob → W1.cell? ⟨a, 1, none⟩ = some v → w3.cell? ⟨a, 1, none⟩ = some v) ∧ Calls Try.prog 27 #[pt c, .int .i64 4, pt ob] w3 fun e w4 => e = .returned (.tuple #[.int .i64 ((k : Int) + 1), .bool true]) ∧ OB w4 ob (stI nd k q (i + 1)) ∧ Fr w w4 (fun k => k = ob)) := fun wr i hi hfr hO => by
    have tsr := ts.keep hfr hdis
    have hrow := tsr.mem.rowB _ hrq
    rw [hvb] at hrow
    have x1 := hrow.cell (cB_len _) i hi 0 (by omega)
    have x2 := hrow.cell (cB_len _) i hi 1 (by omega)
    obtain ⟨hR, hst⟩ := stI_step ts.sh hk hq hi
    refine ⟨(nd q.2).bs[i].1, (nd q.2).bs[i].2, by simpa [cB] using x1, by simpa [cB] using x2, fun W1 hW1 => ?_⟩
    refine (passes_any (hO.below hW1) ((nd q.2).bs[i].1, false) hR).mono ?_
    rintro e w3 ⟨he, ho3, hf3⟩
    have hfr3 : Fr w w3 (fun k => k = ob) := (hfr.trans (Fr.of_below hW1 (F := fun _ => False)) (fun _ h => h.elim)).trans hf3 (fun k hk => Or.inl hk)
    refine ⟨he, Below.refl _ _, fun a v ha hv => fr_cell hf3 ha hv, ?_⟩
    refine (IH w3 (nd q.2).bs[i] (ts.keep hfr3 hdis) (hmem i hi) ho3).mono ?_
    rintro e w4 ⟨he4, ho4, hf4⟩
    exact ⟨he4, by rw [hst]; exact ho4, hfr3.trans hf4 (fun k hk => Or.inl hk)⟩
  have HE : Hid (∀ wr, OB wr ob (stI nd k q (nd q.2).bs.length) → Fr w wr (fun k => k = ob) → HtOut w ob ((k : Int) + 1 + 1) (lastI (U nd (k + 1) q)) (.returned (.tuple #[.int .i64 ((k : Int) + 1 + 1), .bool true])) wr) := fun wr h1 h2 => .mk rfl (by rw [← stI_end ts.sh hk hq]; exact h1) h2
  have HW : Hid (∀ nq, Fr w (w.drewN nq) (fun k => k = ob) ∧ OB (w.drewN nq) ob (stI nd k q 0)) := fun nq => ⟨⟨rfl, rfl, rfl, Nat.le_refl _, fun _ _ _ => rfl⟩, hob⟩
  have hd1 : decide ((nd q.2).sz < f) = false := decide_eq_false (by omega)
  have hd2 : decide ((8 : Int) < ((nd q.2).sz : Int)) = false := decide_eq_false (by omega)
  have hz1 : ¬ (((nd q.2).sz : Int) < (f : Int)) := by omega
  have hobl : ob < w.heap.size := (Array.getElem?_eq_some_iff.1 hob).1
  have HSI : Hid (∀ wr, Fr w wr (fun k => k = ob) → ob < wr.heap.size) := fun wr h => Nat.lt_of_lt_of_le hobl h.size
  clear IH ts hve hvb hleaf hob hN hb0 hes hmem hqb hdis hrq hq hro hcap'
  generalize hne : (nd q.2).bs.length = nb at *
  clear hne
  generalize (nd q.2).sz = sz at *
  generalize lastI (U nd (k + 1) q) = ZE at *
  generalize stI nd k q = st at *
  have hw0 : IntKind.i64.wrap ((k : Int) + 1 + 1) = (k : Int) + 1 + 1 := by rw [IntKind.wrap_i64]; omega
  go_enter Try.func27, Try.ntmps27
  go_wp2_with (first
    | (go_at_call 33; refine hsz0.mono ?_; clear hsz0; rintro e wx ⟨rfl, nq0, rfl⟩)
    | (go_at_call 33; refine (hsz _).mono ?_; rintro e wx ⟨rfl, nq, rfl⟩))
  obtain ⟨hfr0, hob0⟩ := HW.out nq
  have HF0 : Hid _ := hfr0
  have HOB0 : Hid _ := hob0
  clear hfr0 hob0
  go_loopg [42] 0 (fun kx s42 wr => s42 = .int .i64 0 ∧ wr = w.drewN nq)
  case atStart => exact ⟨rfl, rfl⟩
  case round =>
    obtain ⟨rfl, rfl⟩ := hrel
    go_wp2
    go_loopg [57, 10] nb (fun kx s57 s10 wr => ∃ i : Nat, s57 = .int .i64 i ∧ i ≤ nb ∧ nb - i ≤ kx ∧ (i = 0 ∧ s10 = .int .i64 0 ∨ 0 < i ∧ s10 = .int .i64 ((k : Int) + 1)) ∧ Hid (OB wr ob (st i)) ∧ Hid (Fr w wr (fun k => k = ob)))
    case atStart => exact ⟨0, rfl, by omega, by omega, Or.inl ⟨rfl, rfl⟩, HOB0, HF0⟩
    case round =>
      obtain ⟨i, rfl, hi, hkx, h10, hO, hF⟩ := hrel
      by_cases hin : i < nb
      · have hz4 : (i : Int) < (nb : Int) := by omega
        obtain ⟨lo, c, x1, x2, hps⟩ := HB.out wr i hin hF.out hO.out
        obtain ⟨W1, hW1⟩ : ∃ W1, wr.alloc (.cells #[.string lo, pt c] 75) = W1 := ⟨_, rfl⟩
        have b1 : Below wr.heap.size wr W1 := by rw [← hW1]; exact (Below.refl _ _).alloc (Nat.le_refl _) _
        have hk1 : W1.cell? ⟨wr.heap.size, 0, none⟩ = some (.string lo) := by rw [← hW1, cell_of_row _ _ 0 _ _ _ (heap_alloc_new wr _)]; rfl
        have hk2 : W1.cell? ⟨wr.heap.size, 1, none⟩ = some (pt c) := by rw [← hW1, cell_of_row _ _ 1 _ _ _ (heap_alloc_new wr _)]; rfl
        have hps1 := hps W1 b1
        have hlob := HSI.out wr hF.out
        have hw1 : IntKind.i64.wrap ((i : Int) + 1) = (i : Int) + 1 := by rw [IntKind.wrap_i64]; omega
        clear hO hF hps HB b1
        rcases h10 with ⟨rfl, rfl⟩ | ⟨hi0, rfl⟩
        · go_wp2_with (first
            | (go_at_call 35; refine hps1.mono ?_; clear hps1; rintro e w3 ⟨rfl, _, hc3, hht⟩; have hk3 := hc3 wr.heap.size (pt c) (by omega) hk2; clear hc3)
            | (go_at_call 27; refine hht.mono ?_; clear hht; rintro e w4 ⟨rfl, h3, h4⟩; have H3 : Hid _ := h3; have H4 : Hid _ := h4; clear h3 h4))
          go_roundg (nb - 1)
          case measure => omega
          case rel => exact ⟨1, rfl, by omega, by omega, Or.inr ⟨by omega, rfl⟩, H3, H4⟩
        · have hz5 : (0 : Int) < (i : Int) := by omega
          go_wp2_with (first
            | (go_at_call 35; refine hps1.mono ?_; clear hps1; rintro e w3 ⟨rfl, _, hc3, hht⟩; have hk3 := hc3 wr.heap.size (pt c) (by omega) hk2; clear hc3)
            | (go_at_call 27; refine hht.mono ?_; clear hht; rintro e w4 ⟨rfl, h3, h4⟩; have H3 : Hid _ := h3; have H4 : Hid _ := h4; clear h3 h4))
          go_roundg (nb - (i + 1))
          case measure => omega
          case rel => exact ⟨i + 1, by rw [Int.natCast_add]; rfl, by omega, by omega, Or.inr ⟨by omega, rfl⟩, H3, H4⟩
      · obtain rfl : i = nb := by omega
        have hz4 : ¬ ((i : Int) < (i : Int)) := by omega
        have HE1 : Hid _ := HE.out wr hO.out hF.out
        clear hO hF HB HE
        rcases h10 with ⟨h0, _⟩ | ⟨hi0, rfl⟩
        · omega
        · go_wp2
          refine bodyPost_ret (v := .tuple #[.int .i64 ((k : Int) + 1 + 1), .bool true]) (by simp [results, Try.results27, go_sem]) rfl ?_
          exact HE1.out
end Go.Proofs.Ytfobcnmhghfanaa

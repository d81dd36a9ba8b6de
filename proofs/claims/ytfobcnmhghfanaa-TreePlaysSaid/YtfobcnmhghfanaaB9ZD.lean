/- Is a tree well-formed? height. -/
import Derived.Test.YtfobcnmhghfanaaB9ZC
import Derived.Test.YtfobcnmhghfanaaB9J
namespace Go.Proofs.Ytfobcnmhghfanaa
open Go.RowKit Go.Shelf
set_option linter.unusedVariables false
set_option linter.unusedSimpArgs false

theorem TS.keep {base : Nat} {w w' : World} {ro : Ro} {nd : Nat → Nd} {r H : Nat} {lv : Nat → List Br} {dep : Nat → Nat} (h : TS base w ro nd r H lv dep) {G : Nat → Prop} (hf : Fr w w' G) (hd : ∀ k, ro k ≠ none → ¬ G k) : TS base w' ro nd r H lv dep := ⟨⟨h.mem.keep hf hd, h.sh, h.inn⟩, h.toSZ⟩
/-- What height comes to. -/
inductive HtOut (w : World) (ob : Nat) (n : Int) (o : It) (e : Ending) (w' : World) : Prop
  | mk (he : e = .returned (.tuple #[.int .i64 n, .bool true])) (hob : OB w' ob o) (hf : Fr w w' (fun k => k = ob))
set_option maxHeartbeats 4000000 in
set_option maxRecDepth 100000 in
theorem height_leaf {base : Nat} {w : World} {ro : Ro} {nd : Nat → Nd} {r H : Nat} {lv : Nat → List Br} {dep : Nat → Nat} (ts : TS base w ro nd r H lv dep) {q : Br} (hq : q ∈ lv H) {ob : Nat} (hro : ro ob = none) (hob : OB w ob (q.1, false)) (f : Nat) (hf : f ≤ (nd q.2).sz) (hf4 : f ≤ 4) :
    Calls Try.prog 27 #[pt q.2, .int .i64 f, pt ob] w fun e w' => HtOut w ob 1 (lastI (U nd 0 q)) e w' := by
  obtain ⟨hrq, hlb, hle, hleaf⟩ := ts.node (Nat.le_refl _) hq
  have hbs := hleaf.2 rfl
  have hsz8 := ts.toSZ.all ts.sh (Nat.le_refl _) hq
  have hsz : ∀ nq, Calls Try.prog 33 #[pt q.2] (w.drewN nq) fun e w' => e = .returned (.int .i64 ((nd q.2).sz : Nat)) ∧ ∃ q, w' = w.drewN q := fun nq => (msize_any (ts.mem.below (w' := w.drewN nq) ⟨rfl, rfl, rfl, Nat.le_refl _, fun _ _ => rfl⟩) hrq (by omega)).mono (by rintro e w' ⟨rfl, m, rfl⟩; exact ⟨rfl, _, World.drewN_drewN w nq m⟩)
  have hil : ∀ nq, Calls Try.prog 34 #[pt q.2] (w.drewN nq) fun e w' => e = .returned (.bool true) ∧ w' = w.drewN nq := fun nq => by
    have := misLeaf_any (ts.mem.below (w' := w.drewN nq) ⟨rfl, rfl, rfl, Nat.le_refl _, fun _ _ => rfl⟩) hrq hlb
    rwa [decide_eq_true hbs] at this
  obtain ⟨ao, cap, hve, hcap, _⟩ := (ts.mem.rowE _ hrq).form
  obtain ⟨ao', cap', hvb, _, _⟩ := (ts.mem.rowB _ hrq).form
  rw [hbs, List.length_nil] at hvb
  have hN := ts.mem.at_ hrq
  have c0 := hN.c0
  have c1 := hN.c1
  rw [hve] at c0
  rw [hvb] at c1
  have HT : Hid (TS base w ro nd r H lv dep) := ts
  have hqb : q.2 ≠ ob := fun e => by rw [e, hro] at hrq; cases hrq
  have HRow : (∀ wr i (hi : i < (nd q.2).es.length), Fr w wr (fun k => k = ob) → ∃ g, ao = some ⟨g, 0, none⟩ ∧ wr.cell? ⟨g, i * 3, none⟩ = some (.string (nd q.2).es[i].key) ∧ wr.cell? ⟨g, i * 3 + 1, none⟩ = some (.int .i64 (nd q.2).es[i].num) ∧ wr.cell? ⟨g, i * 3 + 2, none⟩ = some (.bool (nd q.2).es[i].ghost)) := fun wr i hi hf => by
    have hrow := (HT.out.keep hf (fun k hk e => hk (by rw [e]; exact hro))).mem.rowE _ hrq
    obtain ⟨g, cp, hv, _⟩ := hrow.at_ (by omega)
    rw [hv] at hrow
    have : ao = some ⟨g, 0, none⟩ := by rw [hve] at hv; simpa using (by cases hv; rfl : ao = some ⟨g, 0, none⟩)
    exact ⟨g, this, ent_cells hrow i hi⟩
  have HC1 : Hid (∀ wr, Fr w wr (fun k => k = ob) → wr.cell? ⟨q.2, 1, none⟩ = some (.slice ao' 0 cap')) := fun wr hf => fr_cell hf hqb c1
  -- what is passed
  obtain ⟨Z, hZ⟩ : ∃ Z : Nat → It, ∀ i, Z i = (its nd q).getD i (ByteArray.empty, false) := ⟨_, fun i => rfl⟩
  have HZ0 : Z 0 = (q.1, false) := by rw [hZ]; rfl
  have hlen : (its nd q).length = (nd q.2).es.length + 1 := by simp [its]
  have HZS : (∀ i (hi : i < (nd q.2).es.length), Z (i + 1) = ((nd q.2).es[i].key, true) ∧ R (Z i) ((nd q.2).es[i].key, true)) := fun i hi => by
    have e1 : Z (i + 1) = ((nd q.2).es[i].key, true) := by rw [hZ]; simp [its, hi]
    refine ⟨e1, ?_⟩
    have ho := ts.sh.ordU (k := 0) (by omega) hq
    rw [U_zero] at ho
    have := List.pairwise_iff_getElem.1 ho i (i + 1) (by omega) (by omega) (by omega)
    rw [← e1, hZ, hZ, List.getD_eq_getElem?_getD, List.getD_eq_getElem?_getD, List.getElem?_eq_getElem (by omega), List.getElem?_eq_getElem (by omega)]
    exact this
  have HRZ : Hid (∀ wr i, i < (nd q.2).es.length → Fr w wr (fun k => k = ob) → ∃ g k n b, ao = some ⟨g, 0, none⟩ ∧ wr.cell? ⟨g, i * 3, none⟩ = some (.string k) ∧ wr.cell? ⟨g, i * 3 + 1, none⟩ = some (.int .i64 n) ∧ wr.cell? ⟨g, i * 3 + 2, none⟩ = some (.bool b) ∧ Z (i + 1) = (k, true) ∧ R (Z i) (k, true)) := fun wr i hi hf => by
    obtain ⟨g, h1, h2, h3, h4⟩ := HRow wr i hi hf
    exact ⟨g, _, _, _, h1, h2, h3, h4, (HZS i hi).1, (HZS i hi).2⟩
  clear HRow HZS
  have HZE : Hid (Z (nd q.2).es.length = lastI (U nd 0 q)) := by
    rw [U_zero, hZ]
    unfold lastI
    rw [List.getLastD_eq_getLast?, List.getLast?_eq_getElem?, hlen, List.getD_eq_getElem?_getD]
    rfl
  have HO0 : Hid (OB w ob (Z 0)) := by rw [HZ0]; exact hob
  have hz1 : ¬ (((nd q.2).sz : Int) < (f : Int)) := by omega
  have hz2 : ¬ ((8 : Int) < ((nd q.2).sz : Int)) := by omega
  clear hN ts hve hvb hbs hleaf hob hZ HZ0 hlen
  generalize hne : (nd q.2).es.length = ne at *
  clear hne
  generalize (nd q.2).sz = sz at *
  generalize lastI (U nd 0 q) = ZE at *
  have HE : Hid (∀ wr, OB wr ob (Z ne) → Fr w wr (fun k => k = ob) → HtOut w ob 1 ZE (.returned (.tuple #[.int .i64 1, .bool true])) wr) := fun wr h1 h2 => .mk rfl (by rw [← HZE.out]; exact h1) h2
  have HW : Hid (∀ nq, Fr w (w.drewN nq) (fun k => k = ob) ∧ OB (w.drewN nq) ob (Z 0)) := fun nq => ⟨⟨rfl, rfl, rfl, Nat.le_refl _, fun _ _ _ => rfl⟩, HO0.out⟩
  clear HZE HT HO0 hqb hro hrq hq
  have hsz0 : Calls Try.prog 33 #[pt q.2] w fun e w' => e = .returned (.int .i64 (sz : Nat)) ∧ ∃ q, w' = w.drewN q := hsz 0
  have hd1 : decide (sz < f) = false := decide_eq_false (by omega)
  have hd2 : decide ((8 : Int) < (sz : Int)) = false := decide_eq_false (by omega)
  have hnec : ne = 0 ∨ 0 < ne := by omega
  rcases hnec with hn0 | hn0
  · subst hn0
    go_enter Try.func27, Try.ntmps27
    go_wp2_with (first
      | (go_at_call 33; refine hsz0.mono ?_; clear hsz0; rintro e wx ⟨rfl, nq0, rfl⟩)
      | (go_at_call 33; refine (hsz _).mono ?_; rintro e wx ⟨rfl, nq, rfl⟩))
    obtain ⟨hfr0, hob0⟩ := HW.out nq
    have HF0 : Hid _ := hfr0
    have HOB0 : Hid _ := hob0
    clear hfr0 hob0
    go_loopg [42] 0 (fun kx s42 wr => s42 = .int .i64 0 ∧ wr = w.drewN nq)
    case atStart => exact ⟨rfl, rfl⟩
    case round =>
      obtain ⟨rfl, rfl⟩ := hrel
      go_wp2
      go_loopg [57, 10] 0 (fun kx s57 s10 wr => s57 = .int .i64 0 ∧ s10 = .int .i64 0 ∧ wr = w.drewN nq)
      case atStart => exact ⟨rfl, rfl, rfl⟩
      case round =>
        obtain ⟨rfl, rfl, rfl⟩ := hrel
        go_wp2
        refine bodyPost_ret (v := .tuple #[.int .i64 1, .bool true]) (by simp [results, Try.results27, go_sem]) rfl ?_
        exact HE.out _ HOB0.out HF0.out
  · have hz3 : (0 : Int) < (ne : Int) := by omega
    go_enter Try.func27, Try.ntmps27
    go_wp2_with (first
      | (go_at_call 33; refine hsz0.mono ?_; clear hsz0; rintro e wx ⟨rfl, nq0, rfl⟩)
      | (go_at_call 33; refine (hsz _).mono ?_; rintro e wx ⟨rfl, nq, rfl⟩)
      | (go_at_call 34; refine (hil _).mono ?_; rintro e wx ⟨rfl, hwx⟩; rw [hwx]; clear hwx wx))
    obtain ⟨hfr0, hob0⟩ := HW.out nq
    have HF0 : Hid _ := hfr0
    have HOB0 : Hid _ := hob0
    clear hfr0 hob0
    go_loopg [42] ne (fun kx s42 wr => ∃ i : Nat, s42 = .int .i64 i ∧ i ≤ ne ∧ ne - i ≤ kx ∧ Hid (OB wr ob (Z i)) ∧ Hid (Fr w wr (fun k => k = ob)))
    case atStart => exact ⟨0, rfl, by omega, by omega, HOB0, HF0⟩
    case round =>
      obtain ⟨i, rfl, hi, hkx, hO, hF⟩ := hrel
      by_cases hin : i < ne
      · have hz4 : (i : Int) < (ne : Int) := by omega
        obtain ⟨g, k, n, b, hao, x1, x2, x3, hZ1, hR⟩ := HRZ.out wr i hin hF.out
        subst hao
        obtain ⟨W1, hW1⟩ : ∃ W1, wr.alloc (.cells #[.string k, .int .i64 n, .bool b] 66) = W1 := ⟨_, rfl⟩
        have b1 : Below wr.heap.size wr W1 := by rw [← hW1]; exact (Below.refl _ _).alloc (Nat.le_refl _) _
        have hk1 : W1.cell? ⟨wr.heap.size, 0, none⟩ = some (.string k) := by rw [← hW1, cell_of_row _ _ 0 _ _ _ (heap_alloc_new wr _)]; rfl
        have hps := passes_any (hO.out.below b1) (k, true) hR
        simp only at hps
        have HN : Hid (∀ w3, OB w3 ob (k, true) → Fr W1 w3 (fun k => k = ob) → OB w3 ob (Z (i + 1)) ∧ Fr w w3 (fun k => k = ob)) := fun w3 h1 h2 => ⟨by rw [hZ1]; exact h1, (hF.out.trans (Fr.of_below b1 (F := fun _ => False)) (fun _ h => h.elim)).trans h2 (fun k hk => Or.inl hk)⟩
        have hw1 : IntKind.i64.wrap ((i : Int) + 1) = (i : Int) + 1 := by rw [IntKind.wrap_i64]; omega
        clear hO hF hR hZ1 HRZ b1
        go_wp2_with (go_at_call 35; refine hps.mono ?_; clear hps; rintro e w3 ⟨rfl, h1, h2⟩; obtain ⟨h3, h4⟩ := HN.out w3 h1 h2; have H3 : Hid _ := h3; have H4 : Hid _ := h4; clear h1 h2 h3 h4 HN)
        go_roundg (ne - (i + 1))
        case measure => omega
        case rel => exact ⟨i + 1, by rw [Int.natCast_add]; rfl, by omega, by omega, H3, H4⟩
      · obtain rfl : i = ne := by omega
        have hz4 : ¬ ((i : Int) < (i : Int)) := by omega
        have c1r := HC1.out wr hF.out
        have HE1 : Hid _ := HE.out wr hO.out hF.out
        clear hO hF HRZ HC1 HE
        go_wp2
        go_loopg [57, 10] 0 (fun kx s57 s10 wx => s57 = .int .i64 0 ∧ s10 = .int .i64 0 ∧ wx = wr)
        case atStart => exact ⟨rfl, rfl, rfl⟩
        case round =>
          obtain ⟨rfl, rfl, rfl⟩ := hrel
          go_wp2
          refine bodyPost_ret (v := .tuple #[.int .i64 1, .bool true]) (by simp [results, Try.results27, go_sem]) rfl ?_
          exact HE1.out
end Go.Proofs.Ytfobcnmhghfanaa

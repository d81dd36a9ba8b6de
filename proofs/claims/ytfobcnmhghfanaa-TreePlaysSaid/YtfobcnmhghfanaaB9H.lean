/- A child becomes two: split. -/
import Derived.Test.YtfobcnmhghfanaaB9G
namespace Go.Proofs.Ytfobcnmhghfanaa
open Go.RowKit Go.Shelf
set_option linter.unusedVariables false
set_option linter.unusedSimpArgs false

/-- What split leaves. -/
inductive SpOut (base : Nat) (w : World) (ro : Ro) (nd : Nat → Nd) (n : Nat) (l : List Br) (lo : ByteArray) (c : Nat) (rt : List Br) (keep : Nat) (e : Ending) (w' : World) : Prop
  | mk (ro' : Ro) (nd' : Nat → Nd) (f : Nat) (lo' : ByteArray) (he : e = .returned (.tuple #[])) (hm : MTo base w ro nd w' ro' nd') (hs : Spl nd n l lo c rt keep f lo' nd') (hf : w.heap.size ≤ f) (hr : ro' f = some (f, 0))
      (hl : (nd c).bs = [] → ∃ e t, (nd c).es.drop keep = e :: t ∧ e.key = lo') (hi : (nd c).bs ≠ [] → ∃ d t, (nd c).bs.drop keep = (lo', d) :: t)
/-- split behind the cutting: a branch to the new node comes. -/
theorem split_end {base : Nat} {w w4 : World} {ro ro4 : Ro} {nd nd4 : Nat → Nd} {n c f keep : Nat} (T : MTo base w ro nd w4 ro4 nd4) (hn : ro n = some (n, 0)) (hnc : n ≠ c) (hnf : n ≠ f) (hcf : c ≠ f) {l rt : List Br} {lo lo' : ByteArray} (hq : (nd n).bs = l ++ (lo, c) :: rt) (hf : w.heap.size ≤ f) (hr : ro4 f = some (f, 0))
    (h1 : (nd4 c).es = (nd c).es.take keep) (h2 : (nd4 c).bs = (nd c).bs.take keep) (h3 : (nd4 f).es = (nd c).es.drop keep) (h4 : (nd4 f).bs = (nd c).bs.drop keep) (ho : ∀ b, b ≠ c → b ≠ f → nd4 b = nd b)
    (hl : (nd c).bs = [] → ∃ e t, (nd c).es.drop keep = e :: t ∧ e.key = lo') (hi : (nd c).bs ≠ [] → ∃ d t, (nd c).bs.drop keep = (lo', d) :: t)
    {W : World} (hW : Below w4.heap.size w4 W) {v' : Value} {w6 : World} (h5 : OwnN base w6 v' ((nd4 n).bs.take (l.length + 1) ++ (lo', f) :: (nd4 n).bs.drop (l.length + 1))) (h6 : GrowB W (nd4 n).vb w6 v') :
    SpOut base w ro nd n l lo c rt keep (.returned (.tuple #[])) (w6.setCell ⟨n, 1, none⟩ v') := by
  have T5 := MTo.of_below T.mem hW
  have T6 := T5.mem.putB (T.node n hn) h5 h6
  have en := ho n hnc hnf
  refine .mk _ _ f lo' rfl (T.trans (T5.trans T6)) ⟨?_, ?_, ?_, ?_, ?_, ?_, ?_⟩ hf (T6.node f hr) hl hi
  · rw [updN_same]; show (nd4 n).es = _; rw [en]
  · rw [updN_same]; show (nd4 n).bs.take (l.length + 1) ++ (lo', f) :: (nd4 n).bs.drop (l.length + 1) = _
    rw [en, hq]
    have e1 : (l ++ (lo, c) :: rt).take (l.length + 1) = l ++ [(lo, c)] := by rw [List.take_append, List.take_of_length_le (by omega)]; simp
    have e2 : (l ++ (lo, c) :: rt).drop (l.length + 1) = rt := by rw [List.drop_append]; simp
    rw [e1, e2]; simp
  · rw [updN_other _ _ hnc.symm, h1]
  · rw [updN_other _ _ hnc.symm, h2]
  · rw [updN_other _ _ hnf.symm, h3]
  · rw [updN_other _ _ hnf.symm, h4]
  · intro b b1 b2 b3
    rw [updN_other _ _ b1, ho b b2 b3]
theorem split_cells {W1 w2 w3 : World} {c f : Nat} {ve vb v : Value} (h : NodeC W1 c ve vb) (hf : W1.heap[f]? = some (.cells #[.slice none 0 0, .slice none 0 0] 52 (0, 0))) (hb : Below W1.heap.size W1 w2) (hne : f ≠ c) (hw : w2.setCell ⟨c, 0, none⟩ v = w3) : w2.cell? ⟨c, 0, none⟩ = some ve ∧ w2.frozen? ⟨c, 0, none⟩ = false ∧ w3.cell? ⟨f, 0, none⟩ = some (.slice none 0 0) ∧ w3.frozen? ⟨f, 0, none⟩ = false := by
  have h2 := h.below hb
  have hfl := (Array.getElem?_eq_some_iff.1 hf).1
  have hf2 := (hb.block f hfl).trans hf
  have hf3 : w3.heap[f]? = some (.cells #[.slice none 0 0, .slice none 0 0] 52 (0, 0)) := by rw [← hw]; exact ((fr_set w2 c 0 v).block f (Array.getElem?_eq_some_iff.1 hf2).1 hne).trans hf2
  exact ⟨h2.c0, h2.fz 0, by rw [cell_of_row w3 f 0 _ _ _ hf3]; rfl, frozen_row hf3 0⟩
theorem split_cells1 {W1 w2 w3 : World} {c f : Nat} {ve vb v : Value} (h : NodeC W1 c ve vb) (hf : W1.heap[f]? = some (.cells #[.slice none 0 0, .slice none 0 0] 52 (0, 0))) (hb : Below W1.heap.size W1 w2) (hne : f ≠ c) (hw : w2.setCell ⟨c, 1, none⟩ v = w3) : w2.cell? ⟨c, 1, none⟩ = some vb ∧ w2.frozen? ⟨c, 1, none⟩ = false ∧ w3.cell? ⟨f, 1, none⟩ = some (.slice none 0 0) ∧ w3.frozen? ⟨f, 1, none⟩ = false := by
  have h2 := h.below hb
  have hfl := (Array.getElem?_eq_some_iff.1 hf).1
  have hf2 := (hb.block f hfl).trans hf
  have hf3 : w3.heap[f]? = some (.cells #[.slice none 0 0, .slice none 0 0] 52 (0, 0)) := by rw [← hw]; exact ((fr_set w2 c 1 v).block f (Array.getElem?_eq_some_iff.1 hf2).1 hne).trans hf2
  exact ⟨h2.c1, h2.fz 1, by rw [cell_of_row w3 f 1 _ _ _ hf3]; rfl, frozen_row hf3 1⟩
theorem head_key {l : List E} (h : 0 < l.length) : ∃ e t, l = e :: t ∧ e.key = l[0].key := by
  cases l with
  | nil => simp at h
  | cons e t => exact ⟨e, t, rfl, rfl⟩
theorem head_br {l : List Br} (h : 0 < l.length) : ∃ d t, l = (l[0].1, d) :: t := by
  cases l with
  | nil => simp at h
  | cons e t => exact ⟨e.2, t, rfl⟩
theorem build_node (w : World) : (Instr.build 52 #[]).run Try.prog w = .ok (.agg #[.slice none 0 0, .slice none 0 0]) w := by kernel_rfl
theorem build_br (w : World) (a : ByteArray) (p : Option Addr) : (Instr.build 75 #[(0, .string a), (1, .pointer p)]).run Try.prog w = .ok (.agg #[.string a, .pointer p]) w := by kernel_rfl
theorem build_brs (w : World) (a : ByteArray) (p : Option Addr) : (Instr.buildSlice 50 1 #[(0, .agg #[.string a, .pointer p])]).run Try.prog w = .ok (.slice (some ⟨w.heap.size, 0, none⟩) 1 1) (w.alloc (.cells #[.string a, .pointer p] 75)) := by kernel_rfl
theorem insAnyN' {base : Nat} {w : World} {ao : Option Addr} {n cap : Nat} {l : List Br} (h : OwnN base w (.slice ao n cap) l) (i : Nat) (hi : i ≤ n) (x : Br) {vb : Nat} {tv : TypeId} (hv : w.heap[vb]? = some (.cells (cB x).toArray tv (0, 0))) (hvb : ∀ k, (Value.slice ao n cap).ownBlock = some k → vb ≠ k) (hn : n ≤ 1000) (hb : base ≤ w.heap.size) (di : Int) (hd : di = i) :
    Calls Try.prog 54 #[.slice ao n cap, .int .i64 di, .slice (some ⟨vb, 0, none⟩) 1 1] w fun e w' => InsN base w (.slice ao n cap) (l.take i ++ x :: l.drop i) (n + 1) e w' := by
  subst hd; exact insAnyN h i hi x hv hvb hn hb
set_option maxHeartbeats 4000000 in
set_option maxRecDepth 100000 in
theorem split_leaf {base : Nat} {w : World} {ro : Ro} {nd : Nat → Nd} (hm : Mem base w ro nd) {n c : Nat} (hn : ro n = some (n, 0)) (hc : ro c = some (c, 0)) (hnc : n ≠ c) {l rt : List Br} {lo : ByteArray} (hq : (nd n).bs = l ++ (lo, c) :: rt) (h1 : (nd n).bs.length ≤ 100) (h2 : (nd c).es.length ≤ 100) (h3 : (nd c).bs = []) (keep : Nat) (hk0 : 0 < keep) (hk : keep < (nd c).es.length) (hb : base ≤ w.heap.size) :
    Calls Try.prog 45 #[pt n, .int .i64 l.length, .int .i64 keep] w fun e w' => SpOut base w ro nd n l lo c rt keep e w' := by
  have hN := hm.at_ hn
  have hC := hm.at_ hc
  have hlc := hm.lt hc
  have hln := hm.lt hn
  have hrow := hm.rowB n hn
  have hrc := hm.rowE c hc
  have hrcb := hm.rowB c hc
  have hlen : (nd n).bs.length = l.length + (rt.length + 1) := by rw [hq]; simp
  obtain ⟨g, cap, hvb, hcap, _, _⟩ := hrow.at_ (by omega)
  obtain ⟨ge, cape, hve, hcape, _, _⟩ := hrc.at_ (by omega)
  obtain ⟨aob, capb, hvcb, _, _⟩ := hrcb.form
  rw [h3, List.length_nil] at hvcb
  have q1 : w.cell? ⟨g, l.length * 2 + 1, none⟩ = some (pt c) := by
    rw [hvb] at hrow
    have := mem_cellB' hrow l.length (by omega)
    simpa [hq] using this
  have c1 := hN.c1
  rw [hvb, hlen] at c1
  obtain ⟨W1, hW1⟩ : ∃ W1, w.alloc (.cells #[.slice none 0 0, .slice none 0 0] 52) = W1 := ⟨_, rfl⟩
  have b1 : Below w.heap.size w W1 := by rw [← hW1]; exact (Below.refl _ _).alloc (Nat.le_refl _) _
  have hf1 : W1.heap[w.heap.size]? = some (.cells #[.slice none 0 0, .slice none 0 0] 52 (0, 0)) := by rw [← hW1]; exact heap_alloc_new w _
  have hs1 : w.heap.size < W1.heap.size := (Array.getElem?_eq_some_iff.1 hf1).1
  have hC1 := hC.below b1
  rw [hve, hvcb] at hC1
  have hil := isLeaf_any hC1 (by omega)
  have d0 := hC1.c0
  rw [hve] at hrc
  have hcut := cutfE (hrc.of_block (w' := W1) (fun k hk' => b1.block k (hrc.lo k hk').2)) keep hk0 hk (by omega) (by omega)
  have hw1 : IntKind.i64.wrap ((l.length : Int) + 1) = (l.length : Int) + 1 := by rw [IntKind.wrap_i64]; omega
  have hz1 : (l.length : Int) < (l.length : Int) + ((rt.length : Int) + 1) := by omega
  have HM : Hid (Mem base w ro nd) := hm
  have HQ : Hid ((nd n).bs = l ++ (lo, c) :: rt) := hq
  have HV : Hid ((nd n).vb = .slice (some ⟨g, 0, none⟩) (l.length + (rt.length + 1)) cap) := by rw [← hlen]; exact hvb
  have H3 : Hid ((nd c).bs = []) := h3
  have HL : Hid ((nd n).bs.length = l.length + (rt.length + 1)) := hlen
  rw [hlen] at h1
  have hbn := build_node
  have HC1 : Hid (NodeC W1 c (.slice (some ⟨ge, 0, none⟩) (nd c).es.length cape) (.slice aob 0 capb)) := hC1
  clear hm hN hC hC1 hrow hrc hrcb hlen hvb hve hvcb hq h3 hcap hcape
  generalize hkk : l.length = k at *
  generalize hmm : rt.length = m at *
  generalize hee : (nd c).es.length = ne at h2 hk d0 HC1 hcut
  have HE : Hid ((nd c).es.length = ne) := hee
  have HK : Hid (l.length = k) := hkk
  clear hkk hmm hee
  go_enter Try.func45, Try.ntmps45
  go_wp2_with (first
    | (go_at_call 34; refine hil.mono ?_; clear hil; rintro e wx ⟨rfl, hwx⟩; rw [hwx]; clear hwx wx)
    | (go_at_call 52; refine hcut.mono ?_; clear hcut; rintro e w2 hC2; obtain ⟨g1, cp1, g2, cp2, he, o1, o2, kg1, kg2, hne, hb2⟩ := hC2; subst he; obtain ⟨w3, hw3⟩ : ∃ w3, w2.setCell ⟨c, 0, none⟩ (.slice (some ⟨g1, 0, none⟩) keep cp1) = w3 := ⟨_, rfl⟩; obtain ⟨p1, p2, p3, p4⟩ := split_cells HC1.out hf1 hb2 (by omega) hw3))
  have hll := o2.len
  rw [List.length_drop] at hll
  have hfd : w2.heap[w.heap.size]? = some (.cells #[.slice none 0 0, .slice none 0 0] 52 (0, 0)) := (hb2.block _ hs1).trans hf1
  obtain ⟨ro4, nd4, T, hr4, e1, e2, e3, e4, e5, e6, eo⟩ := mem_cutE HM.out hc hb (b1.trans (hb2.mono (by omega))) hfd o1 o2 (by omega) (by omega) hne
  rw [hw3] at T
  clear p1 p2 p3 p4 o1 o2 hfd hw3 hf1 d0 HC1 c1 q1
  generalize w3.setCell ⟨w.heap.size, 0, none⟩ (.slice (some ⟨g2, 0, none⟩) ((nd c).es.length - keep) cp2) = w4 at *
  have hn4 := T.node n hn
  have en4 : nd4 n = nd n := eo n hnc (by omega)
  have hb4 : base ≤ w4.heap.size := Nat.le_trans hb T.fr.size
  have hls : 0 < (nd4 w.heap.size).es.length := by rw [e3, List.length_drop, HE.out]; omega
  have hlo := low_leaf (w := w4.drew) (b := w.heap.size) (g := g2) (n := (nd c).es.length - keep) (cap := cp2) (base := base) (es := (nd4 w.heap.size).es) (by have := (T.mem.drew.at_ hr4); rwa [e5, e6] at this) (by have := T.mem.drew.rowE _ hr4; rwa [e5] at this) hls
  have hdx : ∃ e t, (nd c).es.drop keep = e :: t ∧ e.key = (nd4 w.heap.size).es[0].key := by
    rw [← e3]
    exact head_key hls
  generalize (nd4 w.heap.size).es[0].key = lo' at *
  have c1 := (T.mem.at_ hn4).c1
  have f1 := (T.mem.at_ hn4).fz 1
  rw [en4, HV.out] at c1
  have hrow4 := T.mem.rowB n hn4
  have HI : Hid (∀ W vb, Below w4.heap.size w4 W → W.heap[vb]? = some (.cells #[.string lo', .pointer (some ⟨w.heap.size, 0, none⟩)] 75 (0, 0)) → w4.heap.size ≤ vb → Calls Try.prog 54 #[.slice (some ⟨g, 0, none⟩) (k + (m + 1)) cap, .int .i64 ((k : Int) + 1), .slice (some ⟨vb, 0, none⟩) 1 1] W fun e w' => InsN base W (.slice (some ⟨g, 0, none⟩) (k + (m + 1)) cap) ((nd4 n).bs.take (k + 1) ++ (lo', w.heap.size) :: (nd4 n).bs.drop (k + 1)) (k + (m + 1) + 1) e w') := fun W vb hW hvb hvl => by
    have hr' := hrow4.of_block (w' := W) (fun k hk => hW.block k (hrow4.lo k hk).2)
    have hlk := hrow4.lo
    rw [en4, HV.out] at hr' hlk
    rw [← en4] at hr'
    exact insAnyN' hr' (k + 1) (by omega) (lo', w.heap.size) hvb (fun x hx => by have := (hlk x hx).2; omega) (by omega) (Nat.le_trans hb4 hW.size) _ (by omega)
  have HEND : Hid (∀ W v' w6, Below w4.heap.size w4 W → OwnN base w6 v' ((nd4 n).bs.take (k + 1) ++ (lo', w.heap.size) :: (nd4 n).bs.drop (k + 1)) → GrowB W (.slice (some ⟨g, 0, none⟩) (k + (m + 1)) cap) w6 v' → SpOut base w ro nd n l lo c rt keep (.returned (.tuple #[])) (w6.setCell ⟨n, 1, none⟩ v')) := fun W v' w6 hW h5 h6 => by
    refine split_end (f := w.heap.size) (lo' := lo') (keep := keep) T hn hnc (by omega) (by omega) HQ.out (Nat.le_refl _) hr4 e1 (by rw [e2, H3.out, List.take_nil]) e3 (by rw [e4, H3.out, List.drop_nil]) eo (fun _ => hdx) (fun h => absurd H3.out h) hW (by rw [HK.out]; exact h5) (by rw [en4, HV.out]; exact h6)
  have HNB : Hid (∀ W w6, Below w4.heap.size w4 W → W.grownBy w6 (some g) → w6.cell? ⟨n, 1, none⟩ = some (.slice (some ⟨g, 0, none⟩) (k + (m + 1)) cap) ∧ w6.frozen? ⟨n, 1, none⟩ = false) := fun W w6 hW hg => by
    have hnW := (T.mem.at_ hn4).below hW
    have hne2 : ¬ (some n = some g) := fun e => T.mem.ne2 hn4 (by rw [en4, HV.out]; exact e.symm)
    rw [en4, HV.out] at hnW
    exact ⟨hg.cell (a := ⟨n, 1, none⟩) hnW.c1 hne2, (hg.frozen_far ⟨n, 1, none⟩ (Nat.lt_of_lt_of_le (T.mem.lt hn4) hW.size) hne2).trans (hnW.fz 1)⟩
  have hnl : n < w4.heap.size := T.mem.lt hn4
  have c1a : ∀ o, (w4.alloc o).cell? ⟨n, 1, none⟩ = some (.slice (some ⟨g, 0, none⟩) (k + (m + 1)) cap) := fun o => box_old o c1
  have hbb := build_br
  have hbbs := build_brs
  clear T hr4 e1 e2 e3 e4 e5 e6 eo hrow4 hn4 en4 hls hdx hb2 hne kg1 kg2 hll b1 hW1 hs1 HM
  go_region_with (first
    | (go_at_call 55; refine hlo.mono ?_; rintro e wx ⟨rfl, hwx⟩; rw [hwx]; clear hwx wx)
    | (go_at_call 54; (refine (HI.out _ _ (((Below.refl _ _).alloc (Nat.le_refl _) _).drew) (heap_alloc_new w4 _) (Nat.le_refl _)).mono ?_; rintro e w6 hI; obtain ⟨g6, c6, he, h5, h6⟩ := hI; subst he; obtain ⟨x1, x2⟩ := HNB.out _ w6 (((Below.refl _ _).alloc (Nat.le_refl _) _).drew) h6.grown)))
  all_goals
    have HF := HEND.out _ _ _ (((Below.refl _ _).alloc (Nat.le_refl _) _).drew) h5 h6
    clear h5 h6 HEND HI HNB
    refine bodyPost_ret (v := .tuple #[]) (by simp [results, Try.results45, go_sem]) rfl ?_
    exact HF
set_option maxHeartbeats 4000000 in
set_option maxRecDepth 100000 in
theorem split_inner {base : Nat} {w : World} {ro : Ro} {nd : Nat → Nd} (hm : Mem base w ro nd) {n c : Nat} (hn : ro n = some (n, 0)) (hc : ro c = some (c, 0)) (hnc : n ≠ c) {l rt : List Br} {lo : ByteArray} (hq : (nd n).bs = l ++ (lo, c) :: rt) (h1 : (nd n).bs.length ≤ 100) (h2 : (nd c).bs.length ≤ 100) (h3 : (nd c).es = []) (keep : Nat) (hk0 : 0 < keep) (hk : keep < (nd c).bs.length) (hb : base ≤ w.heap.size) :
    Calls Try.prog 45 #[pt n, .int .i64 l.length, .int .i64 keep] w fun e w' => SpOut base w ro nd n l lo c rt keep e w' := by
  have hN := hm.at_ hn
  have hC := hm.at_ hc
  have hlc := hm.lt hc
  have hln := hm.lt hn
  have hrow := hm.rowB n hn
  have hrc := hm.rowE c hc
  have hrcb := hm.rowB c hc
  have hlen : (nd n).bs.length = l.length + (rt.length + 1) := by rw [hq]; simp
  obtain ⟨g, cap, hvb, hcap, _, _⟩ := hrow.at_ (by omega)
  obtain ⟨ge, cape, hvcb, hcape, _, _⟩ := hrcb.at_ (by omega)
  obtain ⟨aob, capb, hve, _, _⟩ := hrc.form
  rw [h3, List.length_nil] at hve
  have q1 : w.cell? ⟨g, l.length * 2 + 1, none⟩ = some (pt c) := by
    rw [hvb] at hrow
    have := mem_cellB' hrow l.length (by omega)
    simpa [hq] using this
  have c1 := hN.c1
  rw [hvb, hlen] at c1
  obtain ⟨W1, hW1⟩ : ∃ W1, w.alloc (.cells #[.slice none 0 0, .slice none 0 0] 52) = W1 := ⟨_, rfl⟩
  have b1 : Below w.heap.size w W1 := by rw [← hW1]; exact (Below.refl _ _).alloc (Nat.le_refl _) _
  have hf1 : W1.heap[w.heap.size]? = some (.cells #[.slice none 0 0, .slice none 0 0] 52 (0, 0)) := by rw [← hW1]; exact heap_alloc_new w _
  have hs1 : w.heap.size < W1.heap.size := (Array.getElem?_eq_some_iff.1 hf1).1
  have hC1 := hC.below b1
  rw [hve, hvcb] at hC1
  have hil := isLeaf_any hC1 (by omega)
  rw [decide_eq_false (by omega)] at hil
  have d0 := hC1.c1
  rw [hvcb] at hrcb
  have hcut := cutfN (hrcb.of_block (w' := W1) (fun k hk' => b1.block k (hrcb.lo k hk').2)) keep hk0 hk (by omega) (by omega)
  have hw1 : IntKind.i64.wrap ((l.length : Int) + 1) = (l.length : Int) + 1 := by rw [IntKind.wrap_i64]; omega
  have hz1 : (l.length : Int) < (l.length : Int) + ((rt.length : Int) + 1) := by omega
  have HM : Hid (Mem base w ro nd) := hm
  have HQ : Hid ((nd n).bs = l ++ (lo, c) :: rt) := hq
  have HV : Hid ((nd n).vb = .slice (some ⟨g, 0, none⟩) (l.length + (rt.length + 1)) cap) := by rw [← hlen]; exact hvb
  have H3 : Hid ((nd c).es = []) := h3
  have HL : Hid ((nd n).bs.length = l.length + (rt.length + 1)) := hlen
  rw [hlen] at h1
  have hbn := build_node
  have HC1 : Hid (NodeC W1 c (.slice aob 0 capb) (.slice (some ⟨ge, 0, none⟩) (nd c).bs.length cape)) := hC1
  clear hm hN hC hC1 hrow hrc hrcb hlen hvb hve hvcb hq h3 hcap hcape
  generalize hkk : l.length = k at *
  generalize hmm : rt.length = m at *
  generalize hee : (nd c).bs.length = ne at h2 hk d0 HC1 hcut
  have HE : Hid ((nd c).bs.length = ne) := hee
  have HK : Hid (l.length = k) := hkk
  clear hkk hmm hee
  go_enter Try.func45, Try.ntmps45
  go_wp2_with (first
    | (go_at_call 34; refine hil.mono ?_; clear hil; rintro e wx ⟨rfl, hwx⟩; rw [hwx]; clear hwx wx)
    | (go_at_call 53; refine hcut.mono ?_; clear hcut; rintro e w2 hC2; obtain ⟨g1, cp1, g2, cp2, he, o1, o2, kg1, kg2, hne, hb2⟩ := hC2; subst he; obtain ⟨w3, hw3⟩ : ∃ w3, w2.setCell ⟨c, 1, none⟩ (.slice (some ⟨g1, 0, none⟩) keep cp1) = w3 := ⟨_, rfl⟩; obtain ⟨p1, p2, p3, p4⟩ := split_cells1 HC1.out hf1 hb2 (by omega) hw3))
  have hll := o2.len
  rw [List.length_drop] at hll
  have hfd : w2.heap[w.heap.size]? = some (.cells #[.slice none 0 0, .slice none 0 0] 52 (0, 0)) := (hb2.block _ hs1).trans hf1
  obtain ⟨ro4, nd4, T, hr4, e1, e2, e3, e4, e5, e6, eo⟩ := mem_cutB HM.out hc hb (b1.trans (hb2.mono (by omega))) hfd o1 o2 (by omega) (by omega) hne
  rw [hw3] at T
  clear p1 p2 p3 p4 o1 o2 hfd hw3 hf1 d0 HC1 c1 q1
  generalize w3.setCell ⟨w.heap.size, 1, none⟩ (.slice (some ⟨g2, 0, none⟩) ((nd c).bs.length - keep) cp2) = w4 at *
  have hn4 := T.node n hn
  have en4 : nd4 n = nd n := eo n hnc (by omega)
  have hb4 : base ≤ w4.heap.size := Nat.le_trans hb T.fr.size
  have hls : 0 < (nd4 w.heap.size).bs.length := by rw [e4, List.length_drop, HE.out]; omega
  have hls2 : (nd4 w.heap.size).bs.length ≤ 100000 := by rw [e4, List.length_drop, HE.out]; omega
  have hlo := low_inner (w := w4.drew) (b := w.heap.size) (g := g2) (n := (nd c).bs.length - keep) (cap := cp2) (base := base) (bs := (nd4 w.heap.size).bs) (ve := (nd4 w.heap.size).ve) (by have := (T.mem.drew.at_ hr4); rwa [e6] at this) (by have := T.mem.drew.rowB _ hr4; rwa [e6] at this) hls hls2
  have hdx : ∃ d t, (nd c).bs.drop keep = ((nd4 w.heap.size).bs[0].1, d) :: t := by
    rw [← e4]
    exact head_br hls
  generalize (nd4 w.heap.size).bs[0].1 = lo' at *
  have c1 := (T.mem.at_ hn4).c1
  have f1 := (T.mem.at_ hn4).fz 1
  rw [en4, HV.out] at c1
  have hrow4 := T.mem.rowB n hn4
  have HI : Hid (∀ W vb, Below w4.heap.size w4 W → W.heap[vb]? = some (.cells #[.string lo', .pointer (some ⟨w.heap.size, 0, none⟩)] 75 (0, 0)) → w4.heap.size ≤ vb → Calls Try.prog 54 #[.slice (some ⟨g, 0, none⟩) (k + (m + 1)) cap, .int .i64 ((k : Int) + 1), .slice (some ⟨vb, 0, none⟩) 1 1] W fun e w' => InsN base W (.slice (some ⟨g, 0, none⟩) (k + (m + 1)) cap) ((nd4 n).bs.take (k + 1) ++ (lo', w.heap.size) :: (nd4 n).bs.drop (k + 1)) (k + (m + 1) + 1) e w') := fun W vb hW hvb hvl => by
    have hr' := hrow4.of_block (w' := W) (fun k hk => hW.block k (hrow4.lo k hk).2)
    have hlk := hrow4.lo
    rw [en4, HV.out] at hr' hlk
    rw [← en4] at hr'
    exact insAnyN' hr' (k + 1) (by omega) (lo', w.heap.size) hvb (fun x hx => by have := (hlk x hx).2; omega) (by omega) (Nat.le_trans hb4 hW.size) _ (by omega)
  have HEND : Hid (∀ W v' w6, Below w4.heap.size w4 W → OwnN base w6 v' ((nd4 n).bs.take (k + 1) ++ (lo', w.heap.size) :: (nd4 n).bs.drop (k + 1)) → GrowB W (.slice (some ⟨g, 0, none⟩) (k + (m + 1)) cap) w6 v' → SpOut base w ro nd n l lo c rt keep (.returned (.tuple #[])) (w6.setCell ⟨n, 1, none⟩ v')) := fun W v' w6 hW h5 h6 => by
    refine split_end (f := w.heap.size) (lo' := lo') (keep := keep) T hn hnc (by omega) (by omega) HQ.out (Nat.le_refl _) hr4 (by rw [e1, H3.out, List.take_nil]) e2 (by rw [e3, H3.out, List.drop_nil]) e4 eo (fun h => by have := HE.out; rw [h, List.length_nil] at this; omega) (fun _ => hdx) hW (by rw [HK.out]; exact h5) (by rw [en4, HV.out]; exact h6)
  have HNB : Hid (∀ W w6, Below w4.heap.size w4 W → W.grownBy w6 (some g) → w6.cell? ⟨n, 1, none⟩ = some (.slice (some ⟨g, 0, none⟩) (k + (m + 1)) cap) ∧ w6.frozen? ⟨n, 1, none⟩ = false) := fun W w6 hW hg => by
    have hnW := (T.mem.at_ hn4).below hW
    have hne2 : ¬ (some n = some g) := fun e => T.mem.ne2 hn4 (by rw [en4, HV.out]; exact e.symm)
    rw [en4, HV.out] at hnW
    exact ⟨hg.cell (a := ⟨n, 1, none⟩) hnW.c1 hne2, (hg.frozen_far ⟨n, 1, none⟩ (Nat.lt_of_lt_of_le (T.mem.lt hn4) hW.size) hne2).trans (hnW.fz 1)⟩
  have hnl : n < w4.heap.size := T.mem.lt hn4
  have c1a : ∀ o, (w4.alloc o).cell? ⟨n, 1, none⟩ = some (.slice (some ⟨g, 0, none⟩) (k + (m + 1)) cap) := fun o => box_old o c1
  have hbb := build_br
  have hbbs := build_brs
  clear T hr4 e1 e2 e3 e4 e5 e6 eo hrow4 hn4 en4 hls hls2 hdx hb2 hne kg1 kg2 hll b1 hW1 hs1 HM
  go_region_with (first
    | (go_at_call 55; refine hlo.mono ?_; rintro e wx ⟨rfl, hwx⟩; rw [hwx]; clear hwx wx)
    | (go_at_call 54; (refine (HI.out _ _ (((Below.refl _ _).alloc (Nat.le_refl _) _).drew) (heap_alloc_new w4 _) (Nat.le_refl _)).mono ?_; rintro e w6 hI; obtain ⟨g6, c6, he, h5, h6⟩ := hI; subst he; obtain ⟨x1, x2⟩ := HNB.out _ w6 (((Below.refl _ _).alloc (Nat.le_refl _) _).drew) h6.grown)))
  all_goals
    have HF := HEND.out _ _ _ (((Below.refl _ _).alloc (Nat.le_refl _) _).drew) h5 h6
    clear h5 h6 HEND HI HNB
    refine bodyPost_ret (v := .tuple #[]) (by simp [results, Try.results45, go_sem]) rfl ?_
    exact HF
end Go.Proofs.Ytfobcnmhghfanaa

/- What is done to a pinned page: Insert's, Update's, Delete's, Get's functions. -/
import Derived.Test.YtkmgahembhgloaaH8I
import Derived.Test.YtkmgahembhgloaaH8H
namespace Go.Proofs.Ytkmgahembhgloaa
open Go.RowKit Go.Maps Go.Shelf
set_option linter.unusedVariables false
set_option linter.unusedSimpArgs false

theorem Cont.of_own {base : Nat} {w : World} {b cap : Nat} {c : List UInt8} (h : OwnB base w (.slice (some ⟨b, 0, none⟩) 2048 cap) c) : Cont w ⟨b, 0, none⟩ cap c := by
  have hl := own_len h
  obtain ⟨a, cap', e, hC⟩ := Cont.of_bytes h.toBytes hl
  cases e; exact hC
/-- An element of a row of slices is stored. -/
theorem own_setV {base : Nat} {w : World} {g cap m : Nat} {vs : List Value} (h : OwnV base w (.slice (some ⟨g, 0, none⟩) m cap) vs) (hm : vs.length = m) (j : Nat) (u : Value) : OwnV base (w.setCell ⟨g, j, none⟩ u) (.slice (some ⟨g, 0, none⟩) m cap) (vs.set j u) ∧ w.grownBy (w.setCell ⟨g, j, none⟩ u) (some g) := by
  subst hm
  obtain ⟨h1, h2⟩ := World.ownsRow.stored h j u
  exact ⟨by unfold OwnV; rw [List.length_set]; exact h1, h2⟩
theorem own_cellV {base : Nat} {w : World} {g cap m : Nat} {vs : List Value} (h : OwnV base w (.slice (some ⟨g, 0, none⟩) m cap) vs) (hm : vs.length = m) (j : Nat) (hj : j < m) : w.cell? ⟨g, j, none⟩ = some (vs[j]'(by omega)) ∧ w.frozen? ⟨g, j, none⟩ = false := by
  subst hm
  have := World.ownsRow.cells h (g := g) rfl j vs[j] (by simp [hj])
  rw [Addr.add_mid, Nat.zero_add] at this
  exact ⟨this, World.ownsRow.frozenAt h j⟩
theorem sum_recs {c : List UInt8} {rs : List (List UInt8)} (h : PageOk c rs) : sumL rs ≤ 2046 := by have := h.room; unfold roomP at this; omega
theorem Bytes.fr8 {w w' : World} {rv : Value} {r : List UInt8} {S : Nat → Prop} (h : Bytes w rv r) (ha : ∀ a n c, rv = .slice (some a) n c → ¬ S a.block) (hf : Fr w w' S) : Bytes w' rv r := by
  rcases h with h | ⟨a, cap, hv, hc, h⟩
  · exact Or.inl h
  · refine Or.inr ⟨a, cap, hv, hc, fun j hj => ?_⟩
    have h1 := h j hj
    have hlt := World.block_lt_of_cell? w _ h1
    rw [World.cell?_of_block (w := w) (w' := w') (a := a.add j) (by rw [add_block] at hlt ⊢; exact hf.block _ hlt (ha a _ _ hv))]; exact h1
theorem ElB.fr8 {w w' : World} {vs : List Value} {rs : List (List UInt8)} {S : Nat → Prop} (h : ElB w vs rs) (ha : ∀ u ∈ vs, ∀ a n c, u = .slice (some a) n c → ¬ S a.block) (hf : Fr w w' S) : ElB w' vs rs :=
  ⟨h.len, fun k h1 h2 => (h.el k h1 h2).fr8 (fun a n c e => ha _ (List.getElem_mem h2) a n c e) hf⟩
theorem own_at {base : Nat} {w : World} {v : Value} {vs : List Value} (h : OwnV base w v vs) (hl : 0 < vs.length) : ∃ g cap, v = .slice (some ⟨g, 0, none⟩) vs.length cap ∧ base ≤ g ∧ g < w.heap.size := by
  rcases id h with ⟨_, ⟨hv, hn⟩ | ⟨g, cap, cur, hv, hg, hh, hc, _⟩⟩
  · omega
  · exact ⟨g, cap, hv, hg, (Array.getElem?_eq_some_iff.1 hh).1⟩
/-- The boxes of Insert's function: b, slot, found. -/
structure InsBox (w : World) (Bb Bs Bf b0 : Nat) (bval : Value) (bs : List UInt8) : Prop where
  bb : Boxed w Bb 30 bval
  bs_ : ∃ x, Boxed w Bs 3 (.int .i64 x)
  bf : ∃ x, Boxed w Bf 4 (.bool x)
  by_ : Bytes w bval bs
  ne : Bs ≠ Bf ∧ Bs ≠ b0 ∧ Bf ≠ b0 ∧ Bb ≠ Bs ∧ Bb ≠ Bf
  ap : ∀ a n c, bval = .slice (some a) n c → a.block ≠ Bs ∧ a.block ≠ Bf
def InsPost (rs : List (List UInt8)) (bs : List UInt8) (Bs Bf : Nat) (w1 : World) (o : Option (List (List UInt8))) (w2 : World) : Prop :=
  w2.cell? ⟨Bs, 0, none⟩ = some (.int .i64 (freeAt rs)) ∧ w2.cell? ⟨Bf, 0, none⟩ = some (.bool (fitsP rs bs.length)) ∧ o = if fitsP rs bs.length then some (insP rs bs) else none
set_option maxHeartbeats 1000000 in
theorem insert1_any {w : World} {base Bb Bs Bf b0 cap : Nat} {c : List UInt8} {rs : List (List UInt8)} {bval : Value} {bs : List UInt8} (hO : OwnB base w (.slice (some ⟨b0, 0, none⟩) 2048 cap) c) (hP : PageOk c rs) (hB : InsBox w Bb Bs Bf b0 bval bs) (hn : bs.length ≤ 1500) :
    Calls Try.prog 39 #[.slice (some ⟨b0, 0, none⟩) 2048 cap, .pointer (some ⟨Bb, 0, none⟩), .pointer (some ⟨Bs, 0, none⟩), .pointer (some ⟨Bf, 0, none⟩)] w fun e w2 => WOut w b0 (fun i => i = Bs ∨ i = Bf) (InsPost rs bs Bs Bf) e w2 := by
  have hC := Cont.of_own hO
  have hrc := recordsOf_any hC
  rw [hP.recs] at hrc
  obtain ⟨x0, hbs⟩ := hB.bs_
  obtain ⟨f0, hbf⟩ := hB.bf
  have hbb := hB.bb
  have hls := hbs.lt
  have hlf := hbf.lt
  have hlb := hbb.lt
  obtain ⟨ba, bc, rfl, hbc, _⟩ := hB.by_.form
  have HB : Hid (InsBox w Bb Bs Bf b0 (.slice ba bs.length bc) bs) := hB
  have HP : Hid (PageOk c rs) := hP
  obtain ⟨n, hnn⟩ : ∃ n, bs.length = n := ⟨_, rfl⟩
  have HNN : Hid (bs.length = n) := hnn
  rw [hnn] at hbb hn HB
  have hfew := hP.few
  have hsum := sum_recs hP
  clear hO hC hB hP hnn hbc
  go_enter Try.func39, Try.ntmps39
  go_wp2_with fail
  refine hrc.mono ?_
  clear hrc
  rintro e w1 ⟨ao, vs, cp, rfl, hV, hE, hAt, hb1⟩
  have hvl := hE.len
  obtain ⟨ao', cp', e, hcp, hrow⟩ := hV.row
  cases e
  have hE1 := hE.keep hb1
  have hpf := placeFor_any hrow hE1 hcp hfew (by omega) n (by omega)
  have hbb1 : w1.cell? ⟨Bb, 0, none⟩ = some (.slice ba n bc) := (hb1.cell (p := ⟨Bb, 0, none⟩) hlb).trans hbb.cell
  have k1 : Boxed w1 Bs 3 (.int .i64 x0) := (hb1.block Bs hls).trans hbs
  have k2 : Boxed w1 Bf 4 (.bool f0) := (hb1.block Bf hlf).trans hbf
  have s1 := k1.cell
  have s2 := k1.frozen
  obtain ⟨hsf, hs0, hf0, hbs1, hbf1⟩ := HB.out.ne
  obtain ⟨fa, hfa⟩ : ∃ fa, freeAt rs = fa := ⟨_, rfl⟩
  obtain ⟨ft, hft⟩ : ∃ ft, fitsP rs n = ft := ⟨_, rfl⟩
  rw [hfa, hft] at hpf
  have HFA : Hid (freeAt rs = fa) := hfa
  have HFT : Hid (fitsP rs n = ft) := hft
  have hfal : fa ≤ rs.length := hfa ▸ freeAt_le rs
  have q1 := k1.set (.int .i64 fa)
  have q2 : Boxed (w1.setCell ⟨Bs, 0, none⟩ (.int .i64 fa)) Bf 4 (.bool f0) := k2.kept (grownBy_setCell' w1 Bs _) (fun e => by cases e; exact hsf rfl)
  have s3 := q2.cell
  have s4 := q2.frozen
  have q3 := q2.set (.bool ft)
  have q4 : Boxed ((w1.setCell ⟨Bs, 0, none⟩ (.int .i64 fa)).setCell ⟨Bf, 0, none⟩ (.bool ft)) Bs 3 (.int .i64 fa) := q1.kept (grownBy_setCell' _ Bf _) (fun e => by cases e; exact hsf rfl)
  have hb1s := hb1.size
  have hf12 : Fr w1 ((w1.setCell ⟨Bs, 0, none⟩ (.int .i64 fa)).setCell ⟨Bf, 0, none⟩ (.bool ft)) (fun i => i = Bs ∨ i = Bf) := ((fr_set w1 Bs 0 _).mono (fun i hi => Or.inl hi)).trans (fr_set _ Bf 0 _) (fun i hi => Or.inl (Or.inr hi))
  obtain ⟨w2, hw2⟩ : ∃ w2, (w1.setCell ⟨Bs, 0, none⟩ (.int .i64 fa)).setCell ⟨Bf, 0, none⟩ (.bool ft) = w2 := ⟨_, rfl⟩
  rw [hw2] at q3 q4 hf12
  have r1 := q3.cell
  have r2 := q4.cell
  have hf02 : Fr w w2 (fun i => (i = Bs ∨ i = Bf) ∨ i = b0) := (Fr.of_below hb1).trans hf12 (fun i hi => Or.inl (Or.inl hi))
  have r3 : w2.cell? ⟨Bb, 0, none⟩ = some (.slice ba n bc) := fr_cell hf12 (fun h => h.elim hbs1 hbf1) hbb1
  have hV2 : OwnV w.heap.size w2 (.slice ao vs.length cp) vs := own_of_block hV (fun b hb => hf12.block b (World.ownsRow.lt hV b hb).2 (fun h => by have := (World.ownsRow.lt hV b hb).1; omega))
  have hs2 := hf12.size
  have HV2 : Hid (OwnV w.heap.size w2 (.slice ao vs.length cp) vs) := hV2
  have HE0 : Hid (ElB w vs rs) := hE
  have HAT : Hid (∀ u ∈ vs, ∀ a n c, u = .slice (some a) n c → ¬ (a.block = Bs ∨ a.block = Bf)) := fun u hu a n c e h => by have := hAt u hu a n c e; omega
  have hf02' : Fr w w2 (fun i => i = Bs ∨ i = Bf) := (Fr.of_below hb1).trans hf12 (fun i hi => Or.inl hi)
  have hpost : ∀ w5, Hid (Fr w2 w5 (fun i => w.heap.size ≤ i)) → w5.cell? ⟨Bs, 0, none⟩ = some (.int .i64 fa) ∧ w5.cell? ⟨Bf, 0, none⟩ = some (.bool ft) := fun w5 h => ⟨fr_cell h.out (by show ¬ w.heap.size ≤ Bs; omega) r2, fr_cell h.out (by show ¬ w.heap.size ≤ Bf; omega) r1⟩
  rw [hvl] at hpf hcp ⊢
  have HVL : Hid (vs.length = rs.length) := hvl
  clear hvl
  clear hrow hE1 hV hE hV2 hAt k1 k2 q1 q2 q3 q4 hb1 hbb hbs hbf hfa hft
  cases ft with
  | false =>
    go_wp2_with (first
      | (go_at_call 40; refine hpf.mono ?_; clear hpf; rintro e wx ⟨rfl, hwx⟩; rw [hwx]; clear hwx wx))
    refine bodyPost_ret (v := .slice none 0 0) (by simp [results, Try.results39, go_sem]) rfl ?_
    have hp := hpost w2 (Fr.refl _ _)
    exact .none_ rfl hf02 ⟨by rw [HFA.out]; exact hp.1, by rw [HNN.out, HFT.out]; exact hp.2, by rw [HNN.out, HFT.out]; rfl⟩
  | true =>
    have hend : ∀ (w4 : World) (v4 : Value) (vs4 : List Value), Hid (OwnV w.heap.size w4 v4 vs4 ∧ ElB w vs4 (insP rs bs) ∧ (∀ u ∈ vs4, u ∈ vs ∨ u = .slice ba n bc) ∧ Fr w2 w4 (fun i => w.heap.size ≤ i)) → Calls Try.prog 41 #[v4] w4 fun e w5 => ∃ a, e = .returned (.slice (some a) 2048 2048) ∧ WOut w b0 (fun i => i = Bs ∨ i = Bf) (InsPost rs bs Bs Bf) e w5 := by
      intro w4 v4 vs4 ⟨h1, h2, hm, h3⟩
      obtain ⟨ao4, cp4, rfl, hc4, hr4⟩ := h1.row
      have hfit : fitsP rs bs.length = true := by rw [HNN.out]; exact HFT.out
      have h24 : ElB w4 vs4 (insP rs bs) := h2.fr8 (fun u hu a n' c e h => by
        rcases hm u hu with h' | h'
        · exact HAT.out u h' a n' c e h
        · exact h.elim (HB.out.ap a n' c (h' ▸ e)).1 (HB.out.ap a n' c (h' ▸ e)).2) (hf02'.trans h3 (fun i hi => Or.inr hi))
      refine (layOut_any hr4 h24 hc4 (ins_few hfew hfit) (ins_room hfit)).mono ?_
      rintro e w5 ⟨c5, rfl, ho5, hp5, hb5⟩
      have h25 : Fr w2 w5 (fun i => w.heap.size ≤ i) := h3.trans (Fr.of_below hb5 (F := fun _ => False)) (fun i hi => hi.elim)
      have hp := hpost w5 h25
      exact ⟨_, rfl, .some_ (insP rs bs) _ _ c5 rfl ho5.toBytes hp5 (hf02.trans h25 (fun i hi => Or.inr hi)) ⟨by rw [HFA.out]; exact hp.1, by rw [HNN.out, HFT.out]; exact hp.2, by rw [HNN.out, HFT.out]; rfl⟩⟩
    clear hpost
    by_cases hfr : fa < rs.length
    · have hI : insP rs bs = rs.set fa bs := by unfold insP; rw [HFA.out, if_pos hfr]
      have hvl := HVL.out
      obtain ⟨g, cpx, hgv, hg1, hg2⟩ := own_at HV2.out (by omega)
      rw [hvl] at hgv
      cases hgv
      have HV3 : Hid (OwnV w.heap.size w2 (.slice (some ⟨g, 0, none⟩) rs.length cp) vs) := by have := HV2.out; rw [hvl] at this; exact this
      obtain ⟨u1, p1⟩ : ∃ u, w2.cell? ⟨g, fa, none⟩ = some u := ⟨_, (own_cellV HV3.out hvl fa hfr).1⟩
      have p2 := (own_cellV HV3.out hvl fa hfr).2
      obtain ⟨o1, o2⟩ := own_setV HV3.out hvl fa (.slice ba n bc)
      have hf4 : Fr w2 (w2.setCell ⟨g, fa, none⟩ (.slice ba n bc)) (fun i => w.heap.size ≤ i) := Fr.of_grown o2 (fun k hk => by cases hk; exact hg1)
      have hL := hend _ _ _ ⟨o1, by rw [hI]; exact HE0.out.set fa HB.out.by_, fun u hu => (List.mem_or_eq_of_mem_set hu), hf4⟩
      have t1 : ((fa : Int) == (rs.length : Int)) = false := by simp; omega
      clear hend HV3 HV2 o1 o2 hvl hI
      go_wp2_with (first
        | (go_at_call 40; refine hpf.mono ?_; clear hpf; rintro e wx ⟨rfl, hwx⟩; rw [hwx]; clear hwx wx)
        | (go_at_call 41; refine hL.mono ?_; clear hL; rintro e w5 ⟨a5, rfl, hW⟩))
      go_ret
      exact hW
    · obtain rfl : fa = rs.length := by omega
      have hvl := HVL.out
      have hI : insP rs bs = rs ++ [bs] := by unfold insP; rw [HFA.out, if_neg (by omega)]
      have hV2' : OwnV w.heap.size w2 (.slice ao rs.length cp) vs := by have := HV2.out; rw [hvl] at this; exact this
      have HV4 : Hid (OwnV w.heap.size (w2.alloc (.cells #[.slice none 0 0] 30)) (.slice ao rs.length cp) vs) := World.ownsRow.alloc hV2' _
      have hnb : (w2.alloc (.cells #[.slice none 0 0] 30)).heap[w2.heap.size]? = some (.cells #[.slice none 0 0] 30 (0, 0)) := heap_alloc_new w2 _
      have hsz : w.heap.size ≤ (w2.alloc (.cells #[.slice none 0 0] 30)).heap.size := by simp; omega
      have hlo : ∀ k, (Value.slice ao rs.length cp).ownBlock = some k → w.heap.size ≤ k := fun k hk => (World.ownsRow.lt hV2' k hk).1
      clear hV2'
      go_wp2_with (first
        | (go_at_call 40; refine hpf.mono ?_; clear hpf; rintro e wx ⟨rfl, hwx⟩; rw [hwx]; clear hwx wx)
        | (at_builtin; refine wp_appV _ rfl _ _ rfl w.heap.size _ vs rfl HV4.out w2.heap.size (.slice none 0 0) rfl hnb rfl (by rw [hvl]; omega) hsz ?_))
      intro v' w3 _ _ _ hv' ho3 hg3
      clear hv'
      have hl3 : (vs ++ [Value.slice none 0 0]).length = rs.length + 1 := by simp [hvl]
      obtain ⟨g, cpx, rfl, hg1, hg2⟩ := own_at ho3 (by rw [hl3]; omega)
      rw [hl3] at ho3 hg3 ⊢
      have hs3 := hg3.grown.size
      have hs3' : w2.heap.size + 1 ≤ w3.heap.size := by simpa using hs3
      have hf3 : Fr w2 w3 (fun i => w.heap.size ≤ i) := (Fr.alloc w2 (.cells #[.slice none 0 0] 30) _).trans (Fr.of_grown (F := fun i => w.heap.size ≤ i) hg3.grown hlo) (fun i hi => Or.inl hi)
      obtain ⟨u1, p1⟩ : ∃ u, w3.cell? ⟨g, rs.length, none⟩ = some u := ⟨_, (own_cellV ho3 hl3 rs.length (by omega)).1⟩
      have p2 := (own_cellV ho3 hl3 rs.length (by omega)).2
      obtain ⟨o1, o2⟩ := own_setV ho3 hl3 rs.length (.slice ba n bc)
      have hset : (vs ++ [Value.slice none 0 0]).set rs.length (.slice ba n bc) = vs ++ [.slice ba n bc] := by
        rw [← hvl, List.set_append_right _ _ (Nat.le_refl _), Nat.sub_self]; rfl
      rw [hset] at o1
      have hf4 : Fr w2 (w3.setCell ⟨g, rs.length, none⟩ (.slice ba n bc)) (fun i => w.heap.size ≤ i) := hf3.trans (Fr.of_grown (F := fun i => w.heap.size ≤ i) o2 (fun k hk => by cases hk; exact hg1)) (fun i hi => Or.inl hi)
      have hL := hend _ _ _ ⟨o1, by rw [hI]; exact HE0.out.snoc HB.out.by_, fun u hu => (List.mem_append.1 hu).imp id (fun h => by simpa using h), hf4⟩
      have r2' := fr_cell hf3 (by show ¬ w.heap.size ≤ Bs; omega) r2
      have r3' := fr_cell hf3 (by show ¬ w.heap.size ≤ Bb; omega) r3
      clear hend HV4 HV2 o1 o2 hvl hI ho3 hg3 hf3 hf4 hset hl3 hnb
      go_wp2_with (first
        | (go_at_call 41; refine hL.mono ?_; clear hL; rintro e w5 ⟨a5, rfl, hW⟩))
      go_ret
      exact hW
end Go.Proofs.Ytkmgahembhgloaa

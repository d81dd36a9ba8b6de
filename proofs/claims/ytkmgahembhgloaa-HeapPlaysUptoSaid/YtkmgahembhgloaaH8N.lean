/- Get's, Update's, Delete's functions. -/
import Derived.Test.YtkmgahembhgloaaH8M
namespace Go.Proofs.Ytkmgahembhgloaa
open Go.RowKit Go.Maps Go.Shelf
set_option linter.unusedVariables false
set_option linter.unusedSimpArgs false

/-- slices.Clone. -/
theorem sclone_bytes (base : Nat) (v : Value) (xs : List UInt8) (w : World) (h : Bytes w v xs) (hx : 0 < xs.length) (hl : xs.length ≤ 1000000) (hb : base ≤ w.heap.size) :
    Calls Try.prog 34 #[v] w fun e w' => ∃ ao n cp, e = .returned (.slice ao n cp) ∧ OwnB base w' (.slice ao n cp) xs ∧ (∀ k, (Value.slice ao n cp).ownBlock = some k → w.heap.size ≤ k) ∧ Below w.heap.size w w' := by
  obtain ⟨ao, cap, rfl, hc, hcells⟩ := h.form
  obtain ⟨a, rfl, _⟩ := hcells hx
  clear hcells
  have h0 : Below w.heap.size w (w.alloc (.cells #[] 5)) := (Below.refl _ _).alloc (Nat.le_refl _) _
  have h1 := h.keep h0
  have HC : Hid (∀ j (hj : j < xs.length), (w.alloc (.cells #[] 5)).cell? (a.add j) = some (bv xs[j])) := by
    rcases h1 with ⟨h, _⟩ | ⟨a', cap', h, _, h2⟩
    · cases h
    · cases h; exact h2
  have HO : Hid (OwnB base (w.alloc (.cells #[] 5)) (.slice (some ⟨w.heap.size, 0, none⟩) 0 0) []) := own_empty base w hb
  have hbe := build_empty w
  have hq := nil_eql
  clear h1 h
  go_enter Try.func34, Try.ntmps34
  go_wp2_with (first | (at_builtin; refine wp_appA _ rfl _ _ rfl base _ [] rfl HO.out a xs.length cap xs rfl HC.out rfl hx (by simp; omega) (by simp; omega) ?_))
  intro v' w2 ho hg
  have hG : GrowB w (.slice (some ⟨w.heap.size, 0, none⟩) 0 0) w2 v' := ((GrowB.refl w _).alloc _).trans hg
  have hb2 : Below w.heap.size w w2 := h0.grown hg.grown (by simp) (by intro k hk; simp [Value.ownBlock] at hk; omega)
  have hn : ∀ k, v'.ownBlock = some k → w.heap.size ≤ k := fun k hk => by
    rcases hg.own with e | e
    · rw [e] at hk; simp [Value.ownBlock] at hk; omega
    · have := e k hk; simp at this; omega
  obtain ⟨ao', cp', hv', _, _⟩ := ho.toBytes.form
  subst hv'
  clear hG hg
  go_wp2
  go_ret
  exact ⟨_, _, _, rfl, by simpa using ho, hn, hb2⟩
/-- What Get's function leaves. -/
inductive GetPost (rs : List (List UInt8)) (s Bf : Nat) (w1 : World) (o : Option (List (List UInt8))) (x : Int) (w2 : World) : Prop
  | mk (ho : o = none) (hx : x = 0) (ao : Option Addr) (n cp : Nat) (hb : Boxed w2 Bf 30 (.slice ao n cp)) (hv : OwnB w1.heap.size w2 (.slice ao n cp) (rs.getD s []))
set_option maxHeartbeats 1000000 in
theorem get1_any {w : World} {base Bf b0 cap : Nat} {c : List UInt8} {rs : List (List UInt8)} {s : Nat} (hO : OwnB base w (.slice (some ⟨b0, 0, none⟩) 2048 cap) c) (hP : PageOk c rs) (hy : thereP rs s) {v0 : Value} (bf : Boxed w Bf 30 v0) (hb0 : Bf ≠ b0) :
    Calls Try.prog 33 #[.slice (some ⟨b0, 0, none⟩) 2048 cap, .int .i64 s, .pointer (some ⟨Bf, 0, none⟩)] w fun e w2 => WOut2 w b0 (fun i => i = Bf) (GetPost rs s Bf) e w2 := by
  have hC := Cont.of_own hO
  have hrc := recordsOf_any hC
  rw [hP.recs] at hrc
  obtain ⟨hs, hl⟩ := hy
  have e0 : rs.getD s [] = rs[s] := by rw [List.getD_eq_getElem?_getD, List.getElem?_eq_getElem hs]; rfl
  have hlr : rs[s].length ≤ 1000000 := by
    have h1 := sum_recs hP
    have h2 := sumL_take rs s hs
    have h3 := sumL_le rs (s + 1)
    omega
  rw [e0] at hl
  have HE0 : Hid (rs.getD s [] = rs[s]) := e0
  have hlf := bf.lt
  have hfew := hP.few
  clear hO hC hP e0
  go_enter Try.func33, Try.ntmps33
  go_wp2_with fail
  refine hrc.mono ?_
  clear hrc
  rintro e w1 ⟨ao, vs, cp, rfl, hV, hE, hAt, hb1⟩
  have hvl := hE.len
  have hE1 := hE.keep hb1
  obtain ⟨g, cpx, hgv, hg1, hg2⟩ := own_at hV (by omega)
  cases hgv
  have p1 := (own_cellV hV rfl s (by omega)).1
  have hby := hE1.el s hs (by omega)
  obtain ⟨u, hu⟩ : ∃ u, vs[s]'(by omega) = u := ⟨_, rfl⟩
  rw [hu] at p1 hby
  obtain ⟨ua, uc, rfl, _, _⟩ := hby.form
  have hcl := sclone_bytes w1.heap.size _ rs[s] w1 hby hl hlr (Nat.le_refl _)
  have b1 : Boxed w1 Bf 30 v0 := (hb1.block Bf hlf).trans bf
  have hs1 := hb1.size
  rw [hvl] at *
  generalize rs[s].length = m at *
  have hsi : s < rs.length := hs
  clear hV hE hE1 hAt hby hu
  go_wp2_with fail
  refine hcl.mono ?_
  clear hcl
  rintro e w2 ⟨ao2, n2, cp2, rfl, ho2, hn2, hb2⟩
  have b2 : Boxed w2 Bf 30 v0 := (hb2.block Bf (by omega)).trans b1
  have q1 := b2.cell
  have q2 := b2.frozen
  have b3 := b2.set (.slice ao2 n2 cp2)
  have ho3 : OwnB w.heap.size (w2.setCell ⟨Bf, 0, none⟩ (.slice ao2 n2 cp2)) (.slice ao2 n2 cp2) rs[s] := own_base (own_of_block ho2 (fun k hk => (fr_set w2 Bf 0 _).block k (World.ownsRow.lt ho2 k hk).2 (fun e => by have := hn2 k hk; omega))) (by omega)
  have hfr : Fr w (w2.setCell ⟨Bf, 0, none⟩ (.slice ao2 n2 cp2)) (fun i => i = Bf ∨ i = b0) := ((Fr.of_below hb1).trans (Fr.of_below hb2 (F := fun _ => False)) (fun i hi => hi.elim)).trans (fr_set w2 Bf 0 _) (fun i hi => Or.inl (Or.inl hi))
  clear ho2
  go_wp2
  refine bodyPost_ret (v := .tuple #[.slice none 0 0, .int .i64 0]) (by simp [results, Try.results33, go_sem]) rfl ?_
  exact .none_ 0 rfl hfr (.mk rfl rfl ao2 n2 cp2 b3 (by rw [HE0.out]; exact ho3))
/-- What Delete's function leaves. -/
def DelPost (rs : List (List UInt8)) (s : Nat) (w1 : World) (o : Option (List (List UInt8))) (x : Int) (w2 : World) : Prop := o = some (rs.set s []) ∧ x = 0
theorem delete1_any {w : World} {base b0 cap : Nat} {c : List UInt8} {rs : List (List UInt8)} {s : Nat} (hO : OwnB base w (.slice (some ⟨b0, 0, none⟩) 2048 cap) c) (hP : PageOk c rs) (hy : thereP rs s) :
    Calls Try.prog 44 #[.slice (some ⟨b0, 0, none⟩) 2048 cap, .int .i64 s] w fun e w2 => WOut2 w b0 (fun _ => False) (DelPost rs s) e w2 := by
  have hfew := hP.few
  have hs := hy.1
  have hst := setSlot_any hO s 0 0 (by omega) (by omega) (by omega)
  have HP : Hid (PageOk (freeP c s) (rs.set s [])) := hP.free hs
  have hl := own_len hO
  clear hO hP hy
  go_enter Try.func44, Try.ntmps44
  go_wp2_with (go_at_call 45; refine hst.mono ?_; clear hst; rintro e w1 ⟨rfl, ho, hg⟩)
  refine bodyPost_ret (v := .tuple #[.slice (some ⟨b0, 0, none⟩) 2048 cap, .int .i64 0]) (by simp [results, Try.results44, go_sem]) rfl ?_
  exact .some_ (rs.set s []) ⟨b0, 0, none⟩ cap (freeP c s) 0 rfl ho.toBytes (Or.inl rfl) HP.out (Fr.of_grown hg (fun k hk => by cases hk; exact Or.inr rfl)) ⟨rfl, rfl⟩
/-- What Update's function leaves. -/
def updO (rs : List (List UInt8)) (s : Nat) (b : List UInt8) : Option (List (List UInt8)) × Int :=
  if b.length = 0 ∨ b.length > 1500 then (none, 81) else if roomP rs + (rs.getD s []).length < b.length then (none, 83) else (some (rs.set s b), 0)
def UpdPost (rs : List (List UInt8)) (s : Nat) (b : List UInt8) (w1 : World) (o : Option (List (List UInt8))) (x : Int) (w2 : World) : Prop := (o, x) = updO rs s b
set_option maxHeartbeats 2000000 in
theorem update1_any {w : World} {base Bb b0 cap : Nat} {c : List UInt8} {rs : List (List UInt8)} {s : Nat} (hO : OwnB base w (.slice (some ⟨b0, 0, none⟩) 2048 cap) c) (hP : PageOk c rs) (hy : thereP rs s) (hb0 : b0 < w.heap.size) {bval : Value} {bs : List UInt8} (bb : Boxed w Bb 30 bval) (hbs : Bytes w bval bs) (hbl : bs.length ≤ 140737488355328) :
    Calls Try.prog 42 #[.slice (some ⟨b0, 0, none⟩) 2048 cap, .int .i64 s, .pointer (some ⟨Bb, 0, none⟩)] w fun e w2 => WOut2 w b0 (fun _ => False) (UpdPost rs s bs) e w2 := by
  have hil := isLong_any hbs hbl
  have hC := Cont.of_own hO
  have hrc := recordsOf_any hC
  rw [hP.recs] at hrc
  obtain ⟨hs, hl⟩ := hy
  have e0 : rs.getD s [] = rs[s] := by rw [List.getD_eq_getElem?_getD, List.getElem?_eq_getElem hs]; rfl
  have hsum := sum_recs hP
  have hlr : rs[s].length ≤ 2046 := by
    have h2 := sumL_take rs s hs
    have h3 := sumL_le rs (s + 1)
    omega
  have HU : Hid (updO rs s bs = if bs.length = 0 ∨ bs.length > 1500 then (none, 81) else if roomP rs + rs[s].length < bs.length then (none, 83) else (some (rs.set s bs), 0)) := by rw [← e0]; exact rfl
  have hfew := hP.few
  have hroom := roomP_bound hfew (show sumL rs ≤ 1000000 by omega)
  have HRS : Hid (∀ b : List UInt8, roomP (rs.set s b) = roomP rs + rs[s].length - b.length) := fun b => roomP_set rs s hs b
  have hlb := bb.lt
  have c1 := bb.cell
  obtain ⟨ba, bc, rfl, _, _⟩ := hbs.form
  have HBS : Hid (Bytes w (.slice ba bs.length bc) bs) := hbs
  obtain ⟨n, hnn⟩ : ∃ n, bs.length = n := ⟨_, rfl⟩
  have HNN : Hid (bs.length = n) := hnn
  rw [hnn] at c1 hil HU HBS hbl
  clear hO hC hP e0 hnn hbs bb
  by_cases hlong : n = 0 ∨ n > 1500
  · rw [decide_eq_true hlong] at hil
    rw [if_pos hlong] at HU
    clear hrc hlr hroom
    go_enter Try.func42, Try.ntmps42
    go_wp2_with (go_at_call 38; refine hil.mono ?_; clear hil; rintro e wx ⟨rfl, hwx⟩; rw [hwx]; clear hwx wx)
    refine bodyPost_ret (v := .tuple #[.slice none 0 0, .int .i64 81]) (by simp [results, Try.results42, go_sem]) rfl ?_
    exact .none_ 81 rfl (Fr.refl _ _) HU.out.symm
  · rw [decide_eq_false hlong] at hil
    rw [if_neg hlong] at HU
    have hn15 : n ≤ 1500 := by omega
    have hn1 : 0 < n := by omega
    clear hlong
    go_enter Try.func42, Try.ntmps42
    go_wp2_with (go_at_call 38; refine hil.mono ?_; clear hil; rintro e wx ⟨rfl, hwx⟩; rw [hwx]; clear hwx wx)
    refine hrc.mono ?_
    clear hrc
    rintro e w1 ⟨ao, vs, cp, rfl, hV, hE, hAt, hb1⟩
    have hvl := hE.len
    have hE1 := hE.keep hb1
    obtain ⟨ao', cp', e, hcp, hrow⟩ := hV.row
    cases e
    have hrm : ∀ nq, Calls Try.prog 43 #[.slice ao vs.length cp] (w1.drewN nq) fun e w' => e = .returned (.int .i64 (roomP rs)) ∧ w' = w1.drewN nq := fun nq => hroom_any (w := w1.drewN nq) (by cases hrow with | mt h => exact .mt h | at_ g o h1 h2 => exact .at_ g o h1 h2) (hE1.keep (below_drewN (Below.refl _ _) nq)) hcp hfew (by omega)
    obtain ⟨g, cpx, hgv, hg1, hg2⟩ := own_at hV (by omega)
    cases hgv
    have p1 := (own_cellV hV rfl s (by omega)).1
    have p2 := (own_cellV hV rfl s (by omega)).2
    have hby := hE1.el s hs (by omega)
    obtain ⟨u, hu⟩ : ∃ u, vs[s]'(by omega) = u := ⟨_, rfl⟩
    rw [hu] at p1 hby
    obtain ⟨ua, uc, rfl, _, _⟩ := hby.form
    have c2 := (hb1.cell (p := ⟨Bb, 0, none⟩) hlb).trans c1
    have hs1 := hb1.size
    have HV : Hid (OwnV w.heap.size w1 (.slice (some ⟨g, 0, none⟩) rs.length cp) vs) := by rw [← hvl]; exact hV
    have HE : Hid (ElB w1 vs rs) := hE1
    have HAT : Hid (∀ u ∈ vs, ∀ a' n c', u = .slice (some a') n c' → a'.block = b0) := hAt
    have HVL : Hid (vs.length = rs.length) := hvl
    rw [hvl] at hrm hcp ⊢
    generalize rs[s].length = m at *
    generalize roomP rs = r at *
    clear hV hE hE1 hby hu hvl hAt hrow
    go_wp2
    go_quiet ((go_at_call 43; exact Calls.quiet_of_same (hrm _)))
    rename_i nq
    have hbq : Below w.heap.size w (w1.drewN nq) := below_drewN hb1 nq
    have p1q : (w1.drewN nq).cell? ⟨g, s, none⟩ = some (.slice ua m uc) := p1
    have p2q : (w1.drewN nq).frozen? ⟨g, s, none⟩ = false := p2
    have c2q : (w1.drewN nq).cell? ⟨Bb, 0, none⟩ = some (.slice ba n bc) := c2
    have HVq : Hid (OwnV w.heap.size (w1.drewN nq) (.slice (some ⟨g, 0, none⟩) rs.length cp) vs) := HV.out
    have HEq : Hid (ElB (w1.drewN nq) vs rs) := HE.out.keep (below_drewN (Below.refl _ _) nq)
    have HBq : Hid (Bytes (w1.drewN nq) (.slice ba n bc) bs) := HBS.out.keep hbq
    clear HV HE p1 p2 c2 hrm hb1
    generalize w1.drewN nq = wq at *
    rcases Decidable.em (r + (m : Int) < (n : Int)) with hfull | hfull
    · rw [if_pos hfull] at HU
      rw [decide_eq_true hfull]
      go_wp2
      refine bodyPost_ret (v := .tuple #[.slice none 0 0, .int .i64 83]) (by simp [results, Try.results42, go_sem]) rfl ?_
      exact .none_ 83 rfl (Fr.of_below hbq) HU.out.symm
    · rw [if_neg hfull] at HU
      rw [decide_eq_false hfull]
      have hvl := HVL.out
      obtain ⟨o1, o2⟩ := own_setV HVq.out hvl s (.slice ba n bc)
      have hf4 : Fr wq (wq.setCell ⟨g, s, none⟩ (.slice ba n bc)) (fun i => i = g) := Fr.of_grown o2 (fun k hk => by cases hk; rfl)
      have hE4 : ElB (wq.setCell ⟨g, s, none⟩ (.slice ba n bc)) (vs.set s (.slice ba n bc)) (rs.set s bs) := by
        refine (?_ : ElB _ vs rs).set s ?_
        · refine HEq.out.fr8 (fun u hu a n c e h => ?_) hf4
          have := HAT.out u hu a n c e
          omega
        · refine HBq.out.fr8 (fun a n' c e h => ?_) hf4
          have := HBS.out.lt (by rw [HNN.out]; exact hn1) a n' c e
          omega
      obtain ⟨ao4, cp4, e4, hc4, hr4⟩ := o1.row
      have hrm4 : 0 ≤ roomP (rs.set s bs) := by rw [HRS.out bs, HNN.out]; omega
      have hL := layOut_any hr4 hE4 hc4 (by simpa using hfew) hrm4
      rw [← e4] at hL
      have hf5 : Fr w (wq.setCell ⟨g, s, none⟩ (.slice ba n bc)) (fun i => False ∨ i = b0) := (Fr.of_below hbq).trans hf4 (fun i hi => Or.inr (by omega))
      have hs4 := hf5.size
      clear o1 o2 hE4 e4 hr4 hc4 HVq HEq hf4 hvl
      go_wp2_with (go_at_call 41; refine hL.mono ?_; clear hL; rintro e w5 ⟨c5, rfl, ho5, hp5, hb5⟩)
      refine bodyPost_ret (v := .tuple #[.slice (some ⟨(wq.setCell ⟨g, s, none⟩ (.slice ba n bc)).heap.size, 0, none⟩) 2048 2048, .int .i64 0]) (by simp [results, Try.results42, go_sem]) rfl ?_
      exact .some_ (rs.set s bs) _ 2048 c5 0 rfl ho5.toBytes (Or.inr hs4) hp5 (hf5.trans (Fr.of_below hb5 (F := fun _ => False)) (fun i hi => hi.elim)) HU.out.symm
end Go.Proofs.Ytkmgahembhgloaa

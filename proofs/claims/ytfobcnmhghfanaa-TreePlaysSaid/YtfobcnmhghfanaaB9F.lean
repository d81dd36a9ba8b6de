/- Two children become one: join. -/
import Derived.Test.YtfobcnmhghfanaaB9E
namespace Go.Proofs.Ytfobcnmhghfanaa
open Go.RowKit Go.Shelf
set_option linter.unusedVariables false
set_option linter.unusedSimpArgs false

theorem delN' {base : Nat} {w : World} {g n cap : Nat} {l : List Br} (h : OwnN base w (.slice (some ⟨g, 0, none⟩) n cap) l) (i : Nat) (hi : i < n) (hn : n ≤ 1000) (di dj : Int) (h1 : di = i) (h2 : dj = (i : Int) + 1) :
    Calls Try.prog 57 #[.slice (some ⟨g, 0, none⟩) n cap, .int .i64 di, .int .i64 dj] w fun e w' => e = .returned (.slice (some ⟨g, 0, none⟩) (n - 1) cap) ∧ OwnN base w' (.slice (some ⟨g, 0, none⟩) (n - 1) cap) (l.eraseIdx i) ∧ w.grownBy w' (some g) := by
  subst h1 h2
  exact delN h i hi hn
/-- What join leaves. -/
inductive JnOut (base : Nat) (w : World) (ro : Ro) (nd : Nat → Nd) (n : Nat) (l : List Br) (lo : ByteArray) (c : Nat) (lo2 : ByteArray) (d : Nat) (rt : List Br) (e : Ending) (w' : World) : Prop
  | mk (ro' : Ro) (nd' : Nat → Nd) (he : e = .returned (.tuple #[])) (hm : MTo base w ro nd w' ro' nd') (hj : Jn nd n l lo c lo2 d rt nd')
theorem mem_cellB {base : Nat} {w : World} {g n cap : Nat} {bs : List Br} (h : OwnN base w (.slice (some ⟨g, 0, none⟩) n cap) bs) (i : Nat) (hi : i < bs.length) : w.cell? ⟨g, i * 2 + 1, none⟩ = some (pt bs[i].2) := by
  have := h.cell (cB_len bs) i hi 1 (by omega)
  simpa [cB] using this
set_option maxHeartbeats 4000000 in
set_option maxRecDepth 100000 in
theorem join_any {base : Nat} {w : World} {ro : Ro} {nd : Nat → Nd} (hm : Mem base w ro nd) {n c d : Nat} (hn : ro n = some (n, 0)) (hc : ro c = some (c, 0)) (hd : ro d = some (d, 0)) (hnc : n ≠ c) (hnd : n ≠ d) (hcd : c ≠ d) {l rt : List Br} {lo lo2 : ByteArray} (hq : (nd n).bs = l ++ (lo, c) :: (lo2, d) :: rt) (h1 : (nd n).bs.length ≤ 100) (h2 : (nd c).sz ≤ 100) (h3 : (nd d).sz ≤ 100) (hb : base ≤ w.heap.size) :
    Calls Try.prog 50 #[pt n, .int .i64 l.length] w fun e w' => JnOut base w ro nd n l lo c lo2 d rt e w' := by
  have hN := hm.at_ hn
  have hrow := hm.rowB n hn
  have hlen : (nd n).bs.length = l.length + (rt.length + 2) := by rw [hq]; simp
  obtain ⟨g, cap, hvb, hcap, _, _⟩ := hrow.at_ (by omega)
  have q1 : w.cell? ⟨g, l.length * 2 + 1, none⟩ = some (pt c) := by
    rw [hvb] at hrow
    have := mem_cellB hrow l.length (by omega)
    simpa [hq] using this
  have q2 : w.cell? ⟨g, (l.length + 1) * 2 + 1, none⟩ = some (pt d) := by
    rw [hvb] at hrow
    have := mem_cellB hrow (l.length + 1) (by omega)
    simpa [hq] using this
  have c1 := hN.c1
  rw [hvb, hlen] at c1
  have HM : Hid (Mem base w ro nd) := hm
  have HQ : Hid ((nd n).bs = l ++ (lo, c) :: (lo2, d) :: rt) := hq
  have HV : Hid ((nd n).vb = .slice (some ⟨g, 0, none⟩) (l.length + (rt.length + 2)) cap) := by rw [← hlen]; exact hvb
  have HS : Hid ((nd c).es.length + (nd d).es.length ≤ 1000 ∧ (nd c).bs.length + (nd d).bs.length ≤ 1000) := by unfold Nd.sz at h2 h3; exact ⟨by omega, by omega⟩
  have HLEN : Hid ((nd n).bs.length = l.length + (rt.length + 2)) := hlen
  rw [hlen] at h1
  have hz1 : (l.length : Int) < (l.length : Int) + ((rt.length : Int) + 2) := by omega
  have hz2 : (l.length : Int) + 1 < (l.length : Int) + ((rt.length : Int) + 2) := by omega
  have hw1 : IntKind.i64.wrap ((l.length : Int) + 1) = (l.length : Int) + 1 := by rw [IntKind.wrap_i64]; omega
  have hw2 : IntKind.i64.wrap ((l.length : Int) + 2) = (l.length : Int) + 2 := by rw [IntKind.wrap_i64]; omega
  have hz3 : (0 : Int) ≤ (l.length : Int) + 1 := by omega
  have hz4 : ((l.length : Int) + 1).toNat = l.length + 1 := by omega
  have HLL : Hid (l.length = l.length) := rfl
  clear hm hN hrow hlen hvb hq h2 h3 hcap
  clear HLL
  generalize hk : l.length = k at *
  generalize hmm : rt.length = m at *
  have HK : Hid (l.length = k) := hk
  clear hk hmm
  go_enter Try.func50, Try.ntmps50
  go_wp2
  go_quiet (fail)
  rename_i nq
  have T0 : MTo base w ro nd (w.drewN nq) ro nd := MTo.of_below HM.out ⟨rfl, rfl, rfl, Nat.le_refl _, fun _ _ => rfl⟩
  have hb1 : base ≤ (w.drewN nq).heap.size := hb
  clear q1 q2 c1 HM
  generalize w.drewN nq = w1 at *
  obtain ⟨ao1, n1, cp1, w2, hr1, hA1⟩ := run_appE 49 (T0.mem.drew.rowE c hc) (T0.mem.drew.rowE d hd) HS.out.1 hb1
  have T1 : Hid (MTo base w1 ro nd (w2.setCell ⟨c, 0, none⟩ (.slice ao1 n1 cp1)) _ _) := (T0.mem.drew.putE hc hA1.own hA1.gr).undrew
  have p1 := (T0.mem.at_ hc).c0
  have p2 := (T0.mem.at_ hd).c0
  have s1 : w2.cell? ⟨c, 0, none⟩ = some (nd c).ve := hA1.gr.grown.cell (a := ⟨c, 0, none⟩) p1 (fun e => T0.mem.ne1 hc e.symm)
  have s2 : w2.frozen? ⟨c, 0, none⟩ = false := (hA1.gr.grown.frozen_far ⟨c, 0, none⟩ (T0.mem.lt hc) (fun e => T0.mem.ne1 hc e.symm)).trans ((T0.mem.at_ hc).fz 0)
  have HT0 : Hid (MTo base w ro nd w1 ro nd) := T0
  clear hA1 T0
  generalize hve : (nd c).ve = vec at *
  generalize hve2 : (nd d).ve = ved at *
  go_wp2
  go_region_law (refine step_appendZ rfl (.tmp 27) (.tmp 31) 49 49 rfl (by simp [Act.eval, Act.put]) (by simp [Act.eval, Act.put]) hr1 ?_)
  all_goals
    have e1c : updN nd c (putE (nd c) ((nd c).es ++ (nd d).es) (.slice ao1 n1 cp1)) c = putE (nd c) ((nd c).es ++ (nd d).es) (.slice ao1 n1 cp1) := updN_same _ _ _
    have e1d : updN nd c (putE (nd c) ((nd c).es ++ (nd d).es) (.slice ao1 n1 cp1)) d = nd d := updN_other _ _ hcd.symm
    have e1n : updN nd c (putE (nd c) ((nd c).es ++ (nd d).es) (.slice ao1 n1 cp1)) n = nd n := updN_other _ _ hnc
    have EX : Hid (∀ b, b ≠ c → updN nd c (putE (nd c) ((nd c).es ++ (nd d).es) (.slice ao1 n1 cp1)) b = nd b) := fun b h => updN_other _ _ h
    have T1' := T1.out
    clear p1 p2 s1 s2 hr1 T1
    generalize updN nd c (putE (nd c) ((nd c).es ++ (nd d).es) (.slice ao1 n1 cp1)) = nd1 at *
    generalize roPut ro c (putE (nd c) ((nd c).es ++ (nd d).es) (.slice ao1 n1 cp1)) = ro1 at *
    generalize w2.setCell ⟨c, 0, none⟩ (.slice ao1 n1 cp1) = w3 at *
    have hc1 := T1'.node c hc
    have hd1 := T1'.node d hd
    have hb3 : base ≤ w3.heap.size := Nat.le_trans hb1 T1'.fr.size
    have E1C : Hid (nd1 c = putE (nd c) ((nd c).es ++ (nd d).es) (.slice ao1 n1 cp1)) := e1c
    have E1D : Hid (nd1 d = nd d) := e1d
    have E1N : Hid (nd1 n = nd n) := e1n
    have hs2 : (nd1 c).bs.length + (nd1 d).bs.length ≤ 1000 := by rw [e1c, e1d]; exact HS.out.2
    clear e1c e1d e1n
    obtain ⟨ao2, n2, cp2, w4, hr2, hA2⟩ := run_appN 50 (T1'.mem.drew.rowB c hc1) (T1'.mem.drew.rowB d hd1) hs2 hb3
    have T2 : Hid (MTo base w3 ro1 nd1 (w4.setCell ⟨c, 1, none⟩ (.slice ao2 n2 cp2)) _ _) := (T1'.mem.drew.putB hc1 hA2.own hA2.gr).undrew
    have p1 := (T1'.mem.at_ hc1).c1
    have p2 := (T1'.mem.at_ hd1).c1
    have s1 : w4.cell? ⟨c, 1, none⟩ = some (nd1 c).vb := hA2.gr.grown.cell (a := ⟨c, 1, none⟩) p1 (fun e => T1'.mem.ne2 hc1 e.symm)
    have s2 : w4.frozen? ⟨c, 1, none⟩ = false := (hA2.gr.grown.frozen_far ⟨c, 1, none⟩ (T1'.mem.lt hc1) (fun e => T1'.mem.ne2 hc1 e.symm)).trans ((T1'.mem.at_ hc1).fz 1)
    have HT1 : Hid (MTo base w1 ro nd w3 ro1 nd1) := T1'
    clear hA2 T1' hs2 hve hve2
    generalize hvb : (nd1 c).vb = vbc at *
    generalize hvb2 : (nd1 d).vb = vbd at *
    go_wp2
    go_region_law (refine step_appendZ rfl (.tmp 39) (.tmp 43) 50 50 rfl (by simp [Act.eval, Act.put]) (by simp [Act.eval, Act.put]) hr2 ?_)
  all_goals
    have e2c : updN nd1 c (putB (nd1 c) ((nd1 c).bs ++ (nd1 d).bs) (.slice ao2 n2 cp2)) c = putB (nd1 c) ((nd1 c).bs ++ (nd1 d).bs) (.slice ao2 n2 cp2) := updN_same _ _ _
    have e2n : updN nd1 c (putB (nd1 c) ((nd1 c).bs ++ (nd1 d).bs) (.slice ao2 n2 cp2)) n = nd1 n := updN_other _ _ hnc
    have EO : Hid (∀ b, b ≠ c → updN nd1 c (putB (nd1 c) ((nd1 c).bs ++ (nd1 d).bs) (.slice ao2 n2 cp2)) b = nd1 b) := fun b h => updN_other _ _ h
    have T2' := T2.out
    clear p1 p2 s1 s2 hr2 T2 hvb hvb2
    generalize updN nd1 c (putB (nd1 c) ((nd1 c).bs ++ (nd1 d).bs) (.slice ao2 n2 cp2)) = nd2 at *
    generalize roPut ro1 c (putB (nd1 c) ((nd1 c).bs ++ (nd1 d).bs) (.slice ao2 n2 cp2)) = ro2 at *
    generalize w4.setCell ⟨c, 1, none⟩ (.slice ao2 n2 cp2) = w5 at *
    have hn2 := T2'.node n (HT1.out.node n hn)
    have en2 : nd2 n = nd n := e2n.trans E1N.out
    have hrow2 := T2'.mem.rowB n hn2
    have c2 := (T2'.mem.at_ hn2).c1
    have f2 := (T2'.mem.at_ hn2).fz 1
    rw [en2, HV.out] at hrow2 c2
    have hdl := delN' hrow2 (k + 1) (by omega) (by omega) ((k : Int) + 1) ((k : Int) + 2) (by omega) (by omega)
    have E2C : Hid (nd2 c = putB (nd1 c) ((nd1 c).bs ++ (nd1 d).bs) (.slice ao2 n2 cp2)) := e2c
    have EN2 : Hid (nd2 n = nd n) := en2
    have HT2 : Hid (MTo base w3 ro1 nd1 w5 ro2 nd2) := T2'
    clear e2c e2n en2 T2' hrow2
    go_wp2_with (go_at_call 57; refine hdl.mono ?_; clear hdl; rintro e w6 ⟨rfl, ho, hg⟩; have hgB : GrowB w5 (nd2 n).vb w6 (.slice (some ⟨g, 0, none⟩) (k + (m + 2) - 1) cap) := (by rw [EN2.out, HV.out]; exact ⟨hg, Or.inl rfl⟩); have c3 : w6.cell? ⟨n, 1, none⟩ = some (.slice (some ⟨g, 0, none⟩) (k + (m + 2)) cap) := hg.cell (a := ⟨n, 1, none⟩) c2 (fun e => HT2.out.mem.ne2 hn2 (by rw [EN2.out, HV.out]; exact e.symm)); have f3 : w6.frozen? ⟨n, 1, none⟩ = false := (hg.frozen_far ⟨n, 1, none⟩ (HT2.out.mem.lt hn2) (fun e => HT2.out.mem.ne2 hn2 (by rw [EN2.out, HV.out]; exact e.symm))).trans f2; clear c2 f2)
    have T3 := HT2.out.mem.putB hn2 ho hgB
    refine bodyPost_ret (v := .tuple #[]) (by simp [results, Try.results50, go_sem]) rfl ?_
    refine .mk _ _ rfl (HT0.out.trans (HT1.out.trans (HT2.out.trans T3))) ⟨?_, ?_, ?_, ?_, ?_⟩
    · rw [updN_same]; show (nd2 n).es = _; rw [EN2.out]
    · rw [updN_same]; show ((nd n).bs).eraseIdx (k + 1) = _
      rw [HQ.out, ← HK.out, List.eraseIdx_append_of_length_le (by omega), Nat.add_sub_cancel_left]; rfl
    · rw [updN_other _ _ hnc.symm, E2C.out]; show (nd1 c).es = _; rw [E1C.out]; rfl
    · rw [updN_other _ _ hnc.symm, E2C.out]; show (nd1 c).bs ++ (nd1 d).bs = _; rw [E1C.out, E1D.out]; rfl
    · intro b hb1 hb2
      rw [updN_other _ _ hb1, EO.out b hb2, EX.out b hb2]
end Go.Proofs.Ytfobcnmhghfanaa

/- The document's reader: CASE (walks by genr.py). -/
import Derived.Test.YtaenpacfbheppaaGreatDoorCR2
set_option maxHeartbeats 16000000
set_option maxRecDepth 100000
set_option linter.unusedVariables false
set_option linter.unusedSimpArgs false
namespace Go.Proofs.YtaenpacfbheppaaGreatDoor
open Go.RowKit
def casX (R : Rc) (ts : List Tok) : Option (Tr × List Tok) := if sdB 0 0 [119, 104, 101, 110] ts = true then WH R none ts (fun x r => cTl R (whN R none (r.length + 1) [x] r)) else bd (R.expr ts) fun a ts => WH R (some a) ts (fun x r => cTl R (whN R (some a) (r.length + 1) [x] r))
theorem casX_eq (R : Rc) : caseF R = casX R := by
  funext ts
  unfold caseF casX
  split
  · exact caseWhF_x R none ts
  · cases R.expr ts with
    | none => rfl
    | some p => exact caseWhF_x R (some p.1) p.2
theorem q_rcasW {E : Env} {B : Nat} {w0 w : World} {st : Option (List Tok)} {H : List Bx} {L : List Tn} {R : Rc} {n : Nat} (RC : Cw E R n) (hg : GoodE E) (hC : Cx E B w0 w (.r st) H L) (hn : sl st < n) (hw : ∀ ts, st = some ts → sdB 0 0 [119, 104, 101, 110] ts = false) :
    Calls Tryz.prog 202 #[.pointer (some ⟨E.b, 0, none⟩)] w (RN E B w0 H L (st.bind (caseF R))) := by
  obtain ⟨o, ho⟩ : ∃ o, st.bind (caseF R) = o := ⟨_, rfl⟩
  rw [ho]
  rw [casX_eq] at ho
  unfold casX at ho
  have HO : Hid (st.bind (fun ts => bd (R.expr ts) fun a ts => WH R (some a) ts (fun x r => cTl R (whN R (some a) (r.length + 1) [x] r))) = o) := bindD (c := fun ts => sdB 0 0 [119, 104, 101, 110] ts) hw ho
  clear ho
  have h601 := hC.rsl
  go_enter Tryz.func202, Tryz.ntmps202
  go_wp2_with (first
  | (guard_target = wpList _ _ _ (Oper.mk (some 2) (Op.alloc 24) _ _ _ _ :: _) _ _; refine hC.aN ?_; clear hC; intro W kR hC; (try simp only [pP]))
  | (guard_target = wpList _ _ _ (Oper.mk (some 4) (Op.alloc 24) _ _ _ _ :: _) _ _; refine hC.aN ?_; clear hC; intro W kF hC; (try simp only [pP]))
  | refine bL ?_
  | (refine bA ?_; clear hC; intro W k hC)
  | (refine bS ?_; clear hC; intro W hC)
  | (go_at_call 29; have hD := hC; clear hC; refine q_isW hg hD _ (by decide) _ (by decide) ?_ ?_; (focus (intro ts e hb; rw [hw ts e] at hb; cases hb)); (intro hb; have hC := hD; clear hD hb))
  | (go_at_call 70; refine uN (RC.expr hC (by omega)) HO ?_; clear hC HO; intro tO st2 W aO pO he hC HO; have hl := sl_of RC.len.expr he; clear he))
  skip
  go_loopg [5] (sl st2) (fun kx sv wr => ∃ (st' : Option (List Tok)) (L' : List Tn), sl st' ≤ kx ∧ sl st' ≤ sl st ∧ Hid (∀ y ∈ L, y ∈ L') ∧ Hid ((aO, pO, tO) ∈ L') ∧ ((sv = .slice none 0 0 ∧ Hid (Cx E B w0 wr (.r st') ((kF, ncs aO pO tO, 24) :: (kR, [.string ⟨#[]⟩, .string ⟨#[]⟩, .int .i64 0, .slice none 0 0], 24) :: H) L') ∧ Hid (st'.bind (fun ts => WH R (some tO) ts (fun x r => cTl R (whN R (some tO) (r.length + 1) [x] r))) = o)) ∨ (∃ (k : Nat) (l : List Tr) (cp : Nat) (cur : List Value) (ks : List Kid) (f : Nat), sv = .slice (some ⟨k, 0, none⟩) l.length cp ∧ Hid (Cx E B w0 wr (.r st') ((k, cur, 24) :: (kF, ncs aO pO tO, 24) :: (kR, [.string ⟨#[]⟩, .string ⟨#[]⟩, .int .i64 0, .slice none 0 0], 24) :: H) L') ∧ Hid (Rw cp l ks cur) ∧ Hid (Rin ks l L') ∧ Hid (st'.bind (fun ts => WH R (some tO) ts (fun x r => cTl R (whN R (some tO) f (l ++ [x]) r))) = o) ∧ sl st' ≤ f + 1 ∧ l.length + sl st' ≤ 602 ∧ 0 < l.length)))
  case atStart => exact ⟨st2, _, Nat.le_refl _, by omega, mL, .head _, Or.inl ⟨rfl, hC, HO⟩⟩
  case round =>
    rename World => wr
    clear hC HO
    obtain ⟨st', L', hk, hst, hS, HMT, ⟨rfl, hC', HO2⟩ | ⟨k, l, cp, cur, ks, f, rfl, hC', hR, hN, HO2, hf, h6, h0l⟩⟩ := hrel
    · have hC := hC'.out
      clear hC'
      cases st' with
      | none =>
        have HO : Hid ((none : Option (List Tok)).bind (endX R []) = o) := HO2.out
        clear HO2
        unfold endX at HO
        go_wp2_with (first
        | refine bL ?_
        | (refine bA ?_; clear hC; intro W k hC)
        | (refine bS ?_; clear hC; intro W hC)
        | (go_at_call 15; refine aGot ?_ ?_ <;> clear hC HO; (focus (intro ts r W hC e hl HO; first | (cases e; done) | cases e)); rotate_left; (focus (intro hC HO)); rotate_left)
        | (go_at_call 70; refine uN (RC.expr hC (by omega)) HO ?_; clear hC HO; intro tc st2 W ao cap he hC HO; have hl := sl_of RC.len.expr he; clear he)
        | (go_at_call 35; refine aMust ?_; clear hC HO; intro st2 W hC hl HO)
        | (go_at_call 33; guard_target = Calls _ _ #[_, _, _, Value.slice none 0 0] _ _; (first | refine useRD (q_rnode0 hC _ _ _) ?_); clear hC; intro W ao cap hC)
        | (at_builtin; refine wl_app0B rfl hC (.head _) (by rfl) (by rfl) (by rfl) ?_; clear hC; intro W k cap3 cur3 hC hR3 hN3; (try simp only [pP]))
        | (go_at_call 33; have hD := hC; clear hC; (first | (have hE := hD.madeAt 0 (by rfl) hR3 (hN3.mono mL) (by simp) [] [] 0) | (have hE := hD.madeAt 1 (by rfl) hR3 (hN3.mono mL) (by simp) [] [] 0) | (have hE := hD.madeAt 2 (by rfl) hR3 (hN3.mono mL) (by simp) [] [] 0)); simp only [List.eraseIdx_cons_zero, List.eraseIdx_cons_succ] at hE; refine useRD (q_rnodeL _ _ _ hE (.head _) (by simp) (by first | (simp; done) | (simp; omega))) ?_; intro W ao cap hC; clear hD hE))
        all_goals ((try simp only [List.append_assoc, List.cons_append, List.nil_append] at HO hC); refine hC.rc ?_; refine endRN HO (hC.fin ?_ ?_ ?_); (repeat (first | exact List.Sublist.refl _ | apply List.Sublist.cons)); (repeat (first | exact List.mem_cons_self | apply List.mem_cons_of_mem)); intro y hy; have hy := hS.out y hy; (repeat (first | exact hy | apply List.mem_cons_of_mem)); done)
      | some ts0 =>
        have hp0 := sl_pos ts0
        have HO : Hid ((some ts0).bind (fun ts => (needF [[119, 104, 101, 110]] ts).bind fun r => bd (R.expr r) fun c r2 => (needF [[116, 104, 101, 110]] r2).bind fun r3 => bd (R.expr r3) fun e r4 => cTl R (whN R (some tO) (r4.length + 1) [nd [119, 104, 101, 110] [] [cnd (some tO) c, e]] r4)) = o) := HO2.out
        clear HO2
        go_wp2_with (first
        | refine bL ?_
        | (refine bA ?_; clear hC; intro W k hC)
        | (refine bS ?_; clear hC; intro W hC)
        | (go_at_call 35; refine aMust ?_; clear hC HO; intro st2 W hC hl HO)
        | (go_at_call 70; refine uN (RC.expr hC (by omega)) HO ?_; clear hC HO; intro tc st2 W ao cap he hC HO; have hl := sl_of RC.len.expr he; clear he)
        | (go_at_call 33; guard_target = Calls _ _ #[_, _, _, Value.slice (some _) 2 2] _ _; (first | refine useRD (q_rnode2 _ _ _ hC (.tail _ HMT.out) (.head _)) ?_ | refine useRD (q_rnode2 _ _ _ hC (.tail _ (.head _)) (.head _)) ?_); clear hC; intro W ao cap hC)
        | (guard_target = Code.wp _ (Code.region 12 _ true) _ _ _; refine wp_region_held_drew (S := HB [_]) (by kernel_rfl) (hC.drew.hbI1 0 (by rfl)) (fun hHeld => ?_); replace hC := hC.drew; refine qk 0 ?_; (try simp only [pQ]); refine qkN 1 ?_; (try simp only [pQ]); refine qk 2 ?_; (try simp only [pQ]); refine ry [3] ?_; refine rd1 fun K hK => ?_; go_simp; (first | (go_at_call 70; refine uN (RC.expr hC (by omega)) HO ?_; clear hC HO; intro te st2 W ao cap he hC HO; have hl := sl_of RC.len.expr he; clear he)); refine hK.out _ _ hC.hb1' fun hHeld => ?_; clear hK K; (try simp only [pQ]); refine ry [4] ?_; refine rd1 fun K hK => ?_; refine st_of rfl ?_; refine wp_build2C hC (by rfl) (by rfl) (by rfl) ?_; clear hC; intro W k hC; refine hK.out _ _ hC.hb1' fun hHeld => ?_; clear hK K; (try simp only [pQ]); refine ry [5] ?_; refine rd1 fun K hK => ?_; go_simp; (first | (go_at_call 33; guard_target = Calls _ _ #[_, _, _, Value.slice (some _) 2 2] _ _; (first | refine useRD (q_rnode2 _ _ _ hC (.tail _ (.head _)) (.head _)) ?_); clear hC; intro W ao cap hC)); refine hK.out _ _ hC.hb1' fun hHeld => ?_; clear hK K; (try simp only [pQ]); refine ry [6] ?_; refine rd1 fun K hK => ?_; refine st_of rfl ?_; refine wp_build1C hC (by rfl) (by rfl) ?_; clear hC; intro W k hC; refine hK.out _ _ hC.hb1' fun hHeld => ?_; clear hK K; (try simp only [pQ]); refine ry [7] ?_; refine rd1 fun K hK => ?_; (first | (refine st_of rfl ?_; refine wp_app0B hC (.head _) (by rfl) (by rfl) (by rfl) ?_; clear hC; intro W k cap2 cur2 hC hR2 hN2)); refine hK.out _ _ hC.hb1' fun hHeld => ?_; clear hK K; (try simp only [pQ]); refine ry [8] ?_; refine rd1 fun K hK => ?_; go_simp; refine hK.out _ _ hC.hb1' fun hHeld => ?_; clear hK K; (try simp only [pQ]); refine dn ?_ _)
        | (go_at_call 29; replace HO := hidk (nextW (Nat.le_refl _) (startW HO.out)); have hD := hC; clear hC; (first | (refine q_isW hg hD _ (by decide) _ (by decide) ?_ ?_; (focus (intro ts e hb; have hC := hD; clear hD; have hp := sl_pos ts; first | (cases e; done) | (cases e; replace HO := hidk (bindC (c := fun ts => sdB _ _ _ ts) hb HO.out); clear hb))); rotate_left; (focus (intro hb; have hC := hD; clear hD; replace HO := hidk (bindD (c := fun ts => sdB _ _ _ ts) hb HO.out); clear hb)); rotate_left) | (refine q_isS hg hD _ (by decide) _ (by decide) ?_ ?_; (focus (intro ts e hb; have hC := hD; clear hD; have hp := sl_pos ts; first | (cases e; done) | (cases e; replace HO := hidk (bindC (c := fun ts => sdB _ _ _ ts) hb HO.out); clear hb))); rotate_left; (focus (intro hb; have hC := hD; clear hD; replace HO := hidk (bindD (c := fun ts => sdB _ _ _ ts) hb HO.out); clear hb)); rotate_left)))
        | (go_at_call 15; refine aGot ?_ ?_ <;> clear hC HO; (focus (intro ts r W hC e hl HO; first | (cases e; done) | cases e)); rotate_left; (focus (intro hC HO)); rotate_left)
        | (go_at_call 33; guard_target = Calls _ _ #[_, _, _, Value.slice none 0 0] _ _; (first | refine useRD (q_rnode0 hC _ _ _) ?_); clear hC; intro W ao cap hC)
        | (at_builtin; have hD := hC; clear hC; refine m8 ?_; clear hD; intro W k cap3 cur3 hC hR3 hN3; simp only [pS] at hC; (try simp only [pP]))
        | (go_at_call 33; have hD := hC; clear hC; (first | (have hE := hD.madeAt 0 (by rfl) hR3 (hN3.mono mL) (by simp) [] [] 0) | (have hE := hD.madeAt 1 (by rfl) hR3 (hN3.mono mL) (by simp) [] [] 0) | (have hE := hD.madeAt 2 (by rfl) hR3 (hN3.mono mL) (by simp) [] [] 0)); simp only [List.eraseIdx_cons_zero, List.eraseIdx_cons_succ] at hE; refine useRD (q_rnodeL _ _ _ hE (.head _) (by simp) (by first | (simp; done) | (simp; omega))) ?_; intro W ao cap hC; clear hD hE))
        · go_roundg (sl (some ts))
          case measure => omega
          case rel => exact ⟨some ts, _, Nat.le_refl _, by omega, (mS hS.out), (by (repeat (first | exact HMT.out | apply List.mem_cons_of_mem)); done), Or.inr ⟨k, [nd [119, 104, 101, 110] [] [cnd (some tO) tc, te]], cap2, cur2, _, sl (some ts) - 1, rfl, hC.less (by (repeat (first | exact List.Sublist.refl _ | apply List.Sublist.cons_cons | apply List.Sublist.cons)); done) (fun y hy => hy), hR2, (hN2.mono mL), HO, by omega, by simp; omega, by simp⟩⟩
        all_goals ((try simp only [List.append_assoc, List.cons_append, List.nil_append] at HO hC); refine hC.rc ?_; refine endRN HO (hC.fin ?_ ?_ ?_); (repeat (first | exact List.Sublist.refl _ | apply List.Sublist.cons)); (repeat (first | exact List.mem_cons_self | apply List.mem_cons_of_mem)); intro y hy; have hy := hS.out y hy; (repeat (first | exact hy | apply List.mem_cons_of_mem)); done)
    · have hC := hC'.out
      clear hC'
      cases st' with
      | none =>
        have HO : Hid ((none : Option (List Tok)).bind (endX R l) = o) := HO2.out
        clear HO2
        unfold endX at HO
        go_wp2_with (first
        | refine bL ?_
        | (refine bA ?_; clear hC; intro W k hC)
        | (refine bS ?_; clear hC; intro W hC)
        | (go_at_call 15; refine aGot ?_ ?_ <;> clear hC HO; (focus (intro ts r W hC e hl HO; first | (cases e; done) | cases e)); rotate_left; (focus (intro hC HO)); rotate_left)
        | (go_at_call 70; refine uN (RC.expr hC (by omega)) HO ?_; clear hC HO; intro tc st2 W ao cap he hC HO; have hl := sl_of RC.len.expr he; clear he)
        | (go_at_call 35; refine aMust ?_; clear hC HO; intro st2 W hC hl HO)
        | (go_at_call 33; guard_target = Calls _ _ #[_, _, _, Value.slice none 0 0] _ _; (first | refine useRD (q_rnode0 hC _ _ _) ?_); clear hC; intro W ao cap hC)
        | (at_builtin; have hD := hC; clear hC; refine m9 ?_; clear hD; intro W k cap3 cur3 hC hR3 hN3; simp only [pS] at hC; (try simp only [pP]))
        | (go_at_call 33; have hD := hC; clear hC; (first | (have hE := hD.madeAt 0 (by rfl) hR3 (hN3.mono mL) (by simp) [] [] 0) | (have hE := hD.madeAt 1 (by rfl) hR3 (hN3.mono mL) (by simp) [] [] 0) | (have hE := hD.madeAt 2 (by rfl) hR3 (hN3.mono mL) (by simp) [] [] 0)); simp only [List.eraseIdx_cons_zero, List.eraseIdx_cons_succ] at hE; refine useRD (q_rnodeL _ _ _ hE (.head _) (by simp) (by first | (simp; done) | (simp; omega))) ?_; intro W ao cap hC; clear hD hE))
        all_goals ((try simp only [List.append_assoc, List.cons_append, List.nil_append] at HO hC); refine hC.rc ?_; refine endRN HO (hC.fin ?_ ?_ ?_); (repeat (first | exact List.Sublist.refl _ | apply List.Sublist.cons)); (repeat (first | exact List.mem_cons_self | apply List.mem_cons_of_mem)); intro y hy; have hy := hS.out y hy; (repeat (first | exact hy | apply List.mem_cons_of_mem)); done)
      | some ts0 =>
        have hp0 := sl_pos ts0
        have HO : Hid ((some ts0).bind (fun ts => (needF [[119, 104, 101, 110]] ts).bind fun r => bd (R.expr r) fun c r2 => (needF [[116, 104, 101, 110]] r2).bind fun r3 => bd (R.expr r3) fun e r4 => cTl R (whN R (some tO) f (l ++ [nd [119, 104, 101, 110] [] [cnd (some tO) c, e]]) r4)) = o) := HO2.out
        clear HO2
        go_wp2_with (first
        | refine bL ?_
        | (refine bA ?_; clear hC; intro W k hC)
        | (refine bS ?_; clear hC; intro W hC)
        | (go_at_call 35; refine aMust ?_; clear hC HO; intro st2 W hC hl HO)
        | (go_at_call 70; refine uN (RC.expr hC (by omega)) HO ?_; clear hC HO; intro tc st2 W ao cap he hC HO; have hl := sl_of RC.len.expr he; clear he)
        | (go_at_call 33; guard_target = Calls _ _ #[_, _, _, Value.slice (some _) 2 2] _ _; (first | refine useRD (q_rnode2 _ _ _ hC (.tail _ HMT.out) (.head _)) ?_ | refine useRD (q_rnode2 _ _ _ hC (.tail _ (.head _)) (.head _)) ?_); clear hC; intro W ao cap hC)
        | (guard_target = Code.wp _ (Code.region 12 _ true) _ _ _; refine wp_region_held_drew (S := HB [_]) (by kernel_rfl) (hC.drew.hbI1 0 (by rfl)) (fun hHeld => ?_); replace hC := hC.drew; refine qk 0 ?_; (try simp only [pQ]); refine qkN 1 ?_; (try simp only [pQ]); refine qk 2 ?_; (try simp only [pQ]); refine ry [3] ?_; refine rd1 fun K hK => ?_; go_simp; (first | (go_at_call 70; refine uN (RC.expr hC (by omega)) HO ?_; clear hC HO; intro te st2 W ao cap he hC HO; have hl := sl_of RC.len.expr he; clear he)); refine hK.out _ _ hC.hb1' fun hHeld => ?_; clear hK K; (try simp only [pQ]); refine ry [4] ?_; refine rd1 fun K hK => ?_; refine st_of rfl ?_; refine wp_build2C hC (by rfl) (by rfl) (by rfl) ?_; clear hC; intro W k hC; refine hK.out _ _ hC.hb1' fun hHeld => ?_; clear hK K; (try simp only [pQ]); refine ry [5] ?_; refine rd1 fun K hK => ?_; go_simp; (first | (go_at_call 33; guard_target = Calls _ _ #[_, _, _, Value.slice (some _) 2 2] _ _; (first | refine useRD (q_rnode2 _ _ _ hC (.tail _ (.head _)) (.head _)) ?_); clear hC; intro W ao cap hC)); refine hK.out _ _ hC.hb1' fun hHeld => ?_; clear hK K; (try simp only [pQ]); refine ry [6] ?_; refine rd1 fun K hK => ?_; refine st_of rfl ?_; refine wp_build1C hC (by rfl) (by rfl) ?_; clear hC; intro W k hC; refine hK.out _ _ hC.hb1' fun hHeld => ?_; clear hK K; (try simp only [pQ]); refine ry [7] ?_; refine rd1 fun K hK => ?_; (first | (refine st_of rfl ?_; have hD := hC; clear hC; refine wp_app1R hD (.head _) 1 (by rfl) (by rfl) (by rfl) rfl hR.out (hN.out.mono mL) (by rfl) (by omega) ?_; clear hD; intro W k cap2 cur2 hC hR2 hN2; simp only [pS] at hC)); refine hK.out _ _ hC.hb1' fun hHeld => ?_; clear hK K; (try simp only [pQ]); refine ry [8] ?_; refine rd1 fun K hK => ?_; go_simp; refine hK.out _ _ hC.hb1' fun hHeld => ?_; clear hK K; (try simp only [pQ]); refine dn ?_ _)
        | (go_at_call 29; replace HO := hidk (nextW (by omega) HO.out); have hD := hC; clear hC; (first | (refine q_isW hg hD _ (by decide) _ (by decide) ?_ ?_; (focus (intro ts e hb; have hC := hD; clear hD; have hp := sl_pos ts; first | (cases e; done) | (cases e; replace HO := hidk (bindC (c := fun ts => sdB _ _ _ ts) hb HO.out); clear hb))); rotate_left; (focus (intro hb; have hC := hD; clear hD; replace HO := hidk (bindD (c := fun ts => sdB _ _ _ ts) hb HO.out); clear hb)); rotate_left) | (refine q_isS hg hD _ (by decide) _ (by decide) ?_ ?_; (focus (intro ts e hb; have hC := hD; clear hD; have hp := sl_pos ts; first | (cases e; done) | (cases e; replace HO := hidk (bindC (c := fun ts => sdB _ _ _ ts) hb HO.out); clear hb))); rotate_left; (focus (intro hb; have hC := hD; clear hD; replace HO := hidk (bindD (c := fun ts => sdB _ _ _ ts) hb HO.out); clear hb)); rotate_left)))
        | (go_at_call 15; refine aGot ?_ ?_ <;> clear hC HO; (focus (intro ts r W hC e hl HO; first | (cases e; done) | cases e)); rotate_left; (focus (intro hC HO)); rotate_left)
        | (go_at_call 33; guard_target = Calls _ _ #[_, _, _, Value.slice none 0 0] _ _; (first | refine useRD (q_rnode0 hC _ _ _) ?_); clear hC; intro W ao cap hC)
        | (at_builtin; have hD := hC; clear hC; refine m8 ?_; clear hD; intro W k cap3 cur3 hC hR3 hN3; simp only [pS] at hC; (try simp only [pP]))
        | (go_at_call 33; have hD := hC; clear hC; (first | (have hE := hD.madeAt 0 (by rfl) hR3 (hN3.mono mL) (by simp) [] [] 0) | (have hE := hD.madeAt 1 (by rfl) hR3 (hN3.mono mL) (by simp) [] [] 0) | (have hE := hD.madeAt 2 (by rfl) hR3 (hN3.mono mL) (by simp) [] [] 0)); simp only [List.eraseIdx_cons_zero, List.eraseIdx_cons_succ] at hE; refine useRD (q_rnodeL _ _ _ hE (.head _) (by simp) (by first | (simp; done) | (simp; omega))) ?_; intro W ao cap hC; clear hD hE))
        · go_roundg (sl (some ts))
          case measure => omega
          case rel => exact ⟨some ts, _, Nat.le_refl _, by omega, (mS hS.out), (by (repeat (first | exact HMT.out | apply List.mem_cons_of_mem)); done), Or.inr ⟨k, l ++ [nd [119, 104, 101, 110] [] [cnd (some tO) tc, te]], cap2, cur2, _, f - 1, (by simp), hC.less (by (repeat (first | exact List.Sublist.refl _ | apply List.Sublist.cons_cons | apply List.Sublist.cons)); done) (fun y hy => hy), hR2, (hN2.mono mL), HO, by omega, by simp; omega, by simp⟩⟩
        all_goals ((try simp only [List.append_assoc, List.cons_append, List.nil_append] at HO hC); refine hC.rc ?_; refine endRN HO (hC.fin ?_ ?_ ?_); (repeat (first | exact List.Sublist.refl _ | apply List.Sublist.cons)); (repeat (first | exact List.mem_cons_self | apply List.mem_cons_of_mem)); intro y hy; have hy := hS.out y hy; (repeat (first | exact hy | apply List.mem_cons_of_mem)); done)
theorem q_rcasT {E : Env} {B : Nat} {w0 w : World} {st : Option (List Tok)} {H : List Bx} {L : List Tn} {R : Rc} {n : Nat} (RC : Cw E R n) (hg : GoodE E) (hC : Cx E B w0 w (.r st) H L) (hn : sl st ≤ n) (h0 : 0 < n) (hw : ∃ ts, st = some ts ∧ sdB 0 0 [119, 104, 101, 110] ts = true) :
    Calls Tryz.prog 202 #[.pointer (some ⟨E.b, 0, none⟩)] w (RN E B w0 H L (st.bind (caseF R))) := by
  obtain ⟨o, ho⟩ : ∃ o, st.bind (caseF R) = o := ⟨_, rfl⟩
  rw [ho]
  rw [casX_eq] at ho
  unfold casX at ho
  obtain ⟨tsW, rfl, hw2⟩ := hw
  have HO : Hid ((some tsW).bind (fun ts => WH R none ts (fun x r => cTl R (whN R none (r.length + 1) [x] r))) = o) := bindC (c := fun ts => sdB 0 0 [119, 104, 101, 110] ts) hw2 ho
  clear ho
  have h601 := hC.rsl
  go_enter Tryz.func202, Tryz.ntmps202
  go_wp2_with (first
  | (guard_target = wpList _ _ _ (Oper.mk (some 2) (Op.alloc 24) _ _ _ _ :: _) _ _; refine hC.aN ?_; clear hC; intro W kR hC; (try simp only [pP]))
  | (guard_target = wpList _ _ _ (Oper.mk (some 4) (Op.alloc 24) _ _ _ _ :: _) _ _; refine hC.aN ?_; clear hC; intro W kF hC; (try simp only [pP]))
  | refine bL ?_
  | (refine bA ?_; clear hC; intro W k hC)
  | (refine bS ?_; clear hC; intro W hC)
  | (go_at_call 29; have hD := hC; clear hC; refine q_isW hg hD _ (by decide) _ (by decide) ?_ ?_; (focus (intro ts e hb; have hC := hD; clear hD hb e)); rotate_left; (focus (intro hb; rw [hb _ rfl] at hw2; cases hw2))))
  skip
  go_loopg [5] (sl (some tsW)) (fun kx sv wr => ∃ (st' : Option (List Tok)) (L' : List Tn), sl st' ≤ kx ∧ sl st' ≤ sl (some tsW) ∧ Hid (∀ y ∈ L, y ∈ L') ∧ ((sv = .slice none 0 0 ∧ Hid (Cx E B w0 wr (.r st') ((kF, [.string ⟨#[]⟩, .string ⟨#[]⟩, .int .i64 0, .slice none 0 0], 24) :: (kR, [.string ⟨#[]⟩, .string ⟨#[]⟩, .int .i64 0, .slice none 0 0], 24) :: H) L') ∧ Hid (st'.bind (fun ts => WH R none ts (fun x r => cTl R (whN R none (r.length + 1) [x] r))) = o)) ∨ (∃ (k : Nat) (l : List Tr) (cp : Nat) (cur : List Value) (ks : List Kid) (f : Nat), sv = .slice (some ⟨k, 0, none⟩) l.length cp ∧ Hid (Cx E B w0 wr (.r st') ((k, cur, 24) :: (kF, [.string ⟨#[]⟩, .string ⟨#[]⟩, .int .i64 0, .slice none 0 0], 24) :: (kR, [.string ⟨#[]⟩, .string ⟨#[]⟩, .int .i64 0, .slice none 0 0], 24) :: H) L') ∧ Hid (Rw cp l ks cur) ∧ Hid (Rin ks l L') ∧ Hid (st'.bind (fun ts => WH R none ts (fun x r => cTl R (whN R none f (l ++ [x]) r))) = o) ∧ sl st' ≤ f + 1 ∧ l.length + sl st' ≤ 602 ∧ 0 < l.length)))
  case atStart => exact ⟨(some tsW), _, Nat.le_refl _, by omega, mL, Or.inl ⟨rfl, hC, HO⟩⟩
  case round =>
    rename World => wr
    clear hC HO
    obtain ⟨st', L', hk, hst, hS, ⟨rfl, hC', HO2⟩ | ⟨k, l, cp, cur, ks, f, rfl, hC', hR, hN, HO2, hf, h6, h0l⟩⟩ := hrel
    · have hC := hC'.out
      clear hC'
      cases st' with
      | none =>
        have HO : Hid ((none : Option (List Tok)).bind (endX R []) = o) := HO2.out
        clear HO2
        unfold endX at HO
        go_wp2_with (first
        | refine bL ?_
        | (refine bA ?_; clear hC; intro W k hC)
        | (refine bS ?_; clear hC; intro W hC)
        | (go_at_call 15; refine aGot ?_ ?_ <;> clear hC HO; (focus (intro ts r W hC e hl HO; first | (cases e; done) | cases e)); rotate_left; (focus (intro hC HO)); rotate_left)
        | (go_at_call 70; refine uN (RC.expr hC (by omega)) HO ?_; clear hC HO; intro tc st2 W ao cap he hC HO; have hl := sl_of RC.len.expr he; clear he)
        | (go_at_call 35; refine aMust ?_; clear hC HO; intro st2 W hC hl HO)
        | (go_at_call 33; guard_target = Calls _ _ #[_, _, _, Value.slice none 0 0] _ _; (first | refine useRD (q_rnode0 hC _ _ _) ?_); clear hC; intro W ao cap hC)
        | (at_builtin; refine wl_app0B rfl hC (.head _) (by rfl) (by rfl) (by rfl) ?_; clear hC; intro W k cap3 cur3 hC hR3 hN3; (try simp only [pP]))
        | (go_at_call 33; have hD := hC; clear hC; (first | (have hE := hD.madeAt 0 (by rfl) hR3 (hN3.mono mL) (by simp) [] [] 0) | (have hE := hD.madeAt 1 (by rfl) hR3 (hN3.mono mL) (by simp) [] [] 0) | (have hE := hD.madeAt 2 (by rfl) hR3 (hN3.mono mL) (by simp) [] [] 0)); simp only [List.eraseIdx_cons_zero, List.eraseIdx_cons_succ] at hE; refine useRD (q_rnodeL _ _ _ hE (.head _) (by simp) (by first | (simp; done) | (simp; omega))) ?_; intro W ao cap hC; clear hD hE))
        all_goals ((try simp only [List.append_assoc, List.cons_append, List.nil_append] at HO hC); refine hC.rc ?_; refine endRN HO (hC.fin ?_ ?_ ?_); (repeat (first | exact List.Sublist.refl _ | apply List.Sublist.cons)); (repeat (first | exact List.mem_cons_self | apply List.mem_cons_of_mem)); intro y hy; have hy := hS.out y hy; (repeat (first | exact hy | apply List.mem_cons_of_mem)); done)
      | some ts0 =>
        have hp0 := sl_pos ts0
        have HO : Hid ((some ts0).bind (fun ts => (needF [[119, 104, 101, 110]] ts).bind fun r => bd (R.expr r) fun c r2 => (needF [[116, 104, 101, 110]] r2).bind fun r3 => bd (R.expr r3) fun e r4 => cTl R (whN R none (r4.length + 1) [nd [119, 104, 101, 110] [] [cnd none c, e]] r4)) = o) := HO2.out
        clear HO2
        go_wp2_with (first
        | refine bL ?_
        | (refine bA ?_; clear hC; intro W k hC)
        | (refine bS ?_; clear hC; intro W hC)
        | (go_at_call 35; refine aMust ?_; clear hC HO; intro st2 W hC hl HO)
        | (go_at_call 70; refine uN (RC.expr hC (by omega)) HO ?_; clear hC HO; intro tc st2 W ao cap he hC HO; have hl := sl_of RC.len.expr he; clear he)
        | (guard_target = Code.wp _ (Code.region 12 _ true) _ _ _; refine wp_region_held_drew (S := HB [_]) (by kernel_rfl) (hC.drew.hbI1 0 (by rfl)) (fun hHeld => ?_); replace hC := hC.drew; refine qk 0 ?_; (try simp only [pQ]); refine qkN 1 ?_; (try simp only [pQ]); refine qk 2 ?_; (try simp only [pQ]); refine ry [3] ?_; refine rd1 fun K hK => ?_; go_simp; (first | (go_at_call 70; refine uN (RC.expr hC (by omega)) HO ?_; clear hC HO; intro te st2 W ao cap he hC HO; have hl := sl_of RC.len.expr he; clear he)); refine hK.out _ _ hC.hb1' fun hHeld => ?_; clear hK K; (try simp only [pQ]); refine ry [4] ?_; refine rd1 fun K hK => ?_; refine st_of rfl ?_; refine wp_build2C hC (by rfl) (by rfl) (by rfl) ?_; clear hC; intro W k hC; refine hK.out _ _ hC.hb1' fun hHeld => ?_; clear hK K; (try simp only [pQ]); refine ry [5] ?_; refine rd1 fun K hK => ?_; go_simp; (first | (go_at_call 33; guard_target = Calls _ _ #[_, _, _, Value.slice (some _) 2 2] _ _; (first | refine useRD (q_rnode2 _ _ _ hC (.tail _ (.head _)) (.head _)) ?_); clear hC; intro W ao cap hC)); refine hK.out _ _ hC.hb1' fun hHeld => ?_; clear hK K; (try simp only [pQ]); refine ry [6] ?_; refine rd1 fun K hK => ?_; refine st_of rfl ?_; refine wp_build1C hC (by rfl) (by rfl) ?_; clear hC; intro W k hC; refine hK.out _ _ hC.hb1' fun hHeld => ?_; clear hK K; (try simp only [pQ]); refine ry [7] ?_; refine rd1 fun K hK => ?_; (first | (refine st_of rfl ?_; refine wp_app0B hC (.head _) (by rfl) (by rfl) (by rfl) ?_; clear hC; intro W k cap2 cur2 hC hR2 hN2)); refine hK.out _ _ hC.hb1' fun hHeld => ?_; clear hK K; (try simp only [pQ]); refine ry [8] ?_; refine rd1 fun K hK => ?_; go_simp; refine hK.out _ _ hC.hb1' fun hHeld => ?_; clear hK K; (try simp only [pQ]); refine dn ?_ _)
        | (go_at_call 29; replace HO := hidk (nextW (Nat.le_refl _) (startW HO.out)); have hD := hC; clear hC; (first | (refine q_isW hg hD _ (by decide) _ (by decide) ?_ ?_; (focus (intro ts e hb; have hC := hD; clear hD; have hp := sl_pos ts; first | (cases e; done) | (cases e; replace HO := hidk (bindC (c := fun ts => sdB _ _ _ ts) hb HO.out); clear hb))); rotate_left; (focus (intro hb; have hC := hD; clear hD; replace HO := hidk (bindD (c := fun ts => sdB _ _ _ ts) hb HO.out); clear hb)); rotate_left) | (refine q_isS hg hD _ (by decide) _ (by decide) ?_ ?_; (focus (intro ts e hb; have hC := hD; clear hD; have hp := sl_pos ts; first | (cases e; done) | (cases e; replace HO := hidk (bindC (c := fun ts => sdB _ _ _ ts) hb HO.out); clear hb))); rotate_left; (focus (intro hb; have hC := hD; clear hD; replace HO := hidk (bindD (c := fun ts => sdB _ _ _ ts) hb HO.out); clear hb)); rotate_left)))
        | (go_at_call 15; refine aGot ?_ ?_ <;> clear hC HO; (focus (intro ts r W hC e hl HO; first | (cases e; done) | cases e)); rotate_left; (focus (intro hC HO)); rotate_left)
        | (go_at_call 33; guard_target = Calls _ _ #[_, _, _, Value.slice none 0 0] _ _; (first | refine useRD (q_rnode0 hC _ _ _) ?_); clear hC; intro W ao cap hC)
        | (at_builtin; have hD := hC; clear hC; refine m8 ?_; clear hD; intro W k cap3 cur3 hC hR3 hN3; simp only [pS] at hC; (try simp only [pP]))
        | (go_at_call 33; have hD := hC; clear hC; (first | (have hE := hD.madeAt 0 (by rfl) hR3 (hN3.mono mL) (by simp) [] [] 0) | (have hE := hD.madeAt 1 (by rfl) hR3 (hN3.mono mL) (by simp) [] [] 0) | (have hE := hD.madeAt 2 (by rfl) hR3 (hN3.mono mL) (by simp) [] [] 0)); simp only [List.eraseIdx_cons_zero, List.eraseIdx_cons_succ] at hE; refine useRD (q_rnodeL _ _ _ hE (.head _) (by simp) (by first | (simp; done) | (simp; omega))) ?_; intro W ao cap hC; clear hD hE))
        · go_roundg (sl (some ts))
          case measure => omega
          case rel => exact ⟨some ts, _, Nat.le_refl _, by omega, (mS hS.out), Or.inr ⟨k, [nd [119, 104, 101, 110] [] [cnd none tc, te]], cap2, cur2, _, sl (some ts) - 1, rfl, hC.less (by (repeat (first | exact List.Sublist.refl _ | apply List.Sublist.cons_cons | apply List.Sublist.cons)); done) (fun y hy => hy), hR2, (hN2.mono mL), HO, by omega, by simp; omega, by simp⟩⟩
        all_goals ((try simp only [List.append_assoc, List.cons_append, List.nil_append] at HO hC); refine hC.rc ?_; refine endRN HO (hC.fin ?_ ?_ ?_); (repeat (first | exact List.Sublist.refl _ | apply List.Sublist.cons)); (repeat (first | exact List.mem_cons_self | apply List.mem_cons_of_mem)); intro y hy; have hy := hS.out y hy; (repeat (first | exact hy | apply List.mem_cons_of_mem)); done)
    · have hC := hC'.out
      clear hC'
      cases st' with
      | none =>
        have HO : Hid ((none : Option (List Tok)).bind (endX R l) = o) := HO2.out
        clear HO2
        unfold endX at HO
        go_wp2_with (first
        | refine bL ?_
        | (refine bA ?_; clear hC; intro W k hC)
        | (refine bS ?_; clear hC; intro W hC)
        | (go_at_call 15; refine aGot ?_ ?_ <;> clear hC HO; (focus (intro ts r W hC e hl HO; first | (cases e; done) | cases e)); rotate_left; (focus (intro hC HO)); rotate_left)
        | (go_at_call 70; refine uN (RC.expr hC (by omega)) HO ?_; clear hC HO; intro tc st2 W ao cap he hC HO; have hl := sl_of RC.len.expr he; clear he)
        | (go_at_call 35; refine aMust ?_; clear hC HO; intro st2 W hC hl HO)
        | (go_at_call 33; guard_target = Calls _ _ #[_, _, _, Value.slice none 0 0] _ _; (first | refine useRD (q_rnode0 hC _ _ _) ?_); clear hC; intro W ao cap hC)
        | (at_builtin; have hD := hC; clear hC; refine m9 ?_; clear hD; intro W k cap3 cur3 hC hR3 hN3; simp only [pS] at hC; (try simp only [pP]))
        | (go_at_call 33; have hD := hC; clear hC; (first | (have hE := hD.madeAt 0 (by rfl) hR3 (hN3.mono mL) (by simp) [] [] 0) | (have hE := hD.madeAt 1 (by rfl) hR3 (hN3.mono mL) (by simp) [] [] 0) | (have hE := hD.madeAt 2 (by rfl) hR3 (hN3.mono mL) (by simp) [] [] 0)); simp only [List.eraseIdx_cons_zero, List.eraseIdx_cons_succ] at hE; refine useRD (q_rnodeL _ _ _ hE (.head _) (by simp) (by first | (simp; done) | (simp; omega))) ?_; intro W ao cap hC; clear hD hE))
        all_goals ((try simp only [List.append_assoc, List.cons_append, List.nil_append] at HO hC); refine hC.rc ?_; refine endRN HO (hC.fin ?_ ?_ ?_); (repeat (first | exact List.Sublist.refl _ | apply List.Sublist.cons)); (repeat (first | exact List.mem_cons_self | apply List.mem_cons_of_mem)); intro y hy; have hy := hS.out y hy; (repeat (first | exact hy | apply List.mem_cons_of_mem)); done)
      | some ts0 =>
        have hp0 := sl_pos ts0
        have HO : Hid ((some ts0).bind (fun ts => (needF [[119, 104, 101, 110]] ts).bind fun r => bd (R.expr r) fun c r2 => (needF [[116, 104, 101, 110]] r2).bind fun r3 => bd (R.expr r3) fun e r4 => cTl R (whN R none f (l ++ [nd [119, 104, 101, 110] [] [cnd none c, e]]) r4)) = o) := HO2.out
        clear HO2
        go_wp2_with (first
        | refine bL ?_
        | (refine bA ?_; clear hC; intro W k hC)
        | (refine bS ?_; clear hC; intro W hC)
        | (go_at_call 35; refine aMust ?_; clear hC HO; intro st2 W hC hl HO)
        | (go_at_call 70; refine uN (RC.expr hC (by omega)) HO ?_; clear hC HO; intro tc st2 W ao cap he hC HO; have hl := sl_of RC.len.expr he; clear he)
        | (guard_target = Code.wp _ (Code.region 12 _ true) _ _ _; refine wp_region_held_drew (S := HB [_]) (by kernel_rfl) (hC.drew.hbI1 0 (by rfl)) (fun hHeld => ?_); replace hC := hC.drew; refine qk 0 ?_; (try simp only [pQ]); refine qkN 1 ?_; (try simp only [pQ]); refine qk 2 ?_; (try simp only [pQ]); refine ry [3] ?_; refine rd1 fun K hK => ?_; go_simp; (first | (go_at_call 70; refine uN (RC.expr hC (by omega)) HO ?_; clear hC HO; intro te st2 W ao cap he hC HO; have hl := sl_of RC.len.expr he; clear he)); refine hK.out _ _ hC.hb1' fun hHeld => ?_; clear hK K; (try simp only [pQ]); refine ry [4] ?_; refine rd1 fun K hK => ?_; refine st_of rfl ?_; refine wp_build2C hC (by rfl) (by rfl) (by rfl) ?_; clear hC; intro W k hC; refine hK.out _ _ hC.hb1' fun hHeld => ?_; clear hK K; (try simp only [pQ]); refine ry [5] ?_; refine rd1 fun K hK => ?_; go_simp; (first | (go_at_call 33; guard_target = Calls _ _ #[_, _, _, Value.slice (some _) 2 2] _ _; (first | refine useRD (q_rnode2 _ _ _ hC (.tail _ (.head _)) (.head _)) ?_); clear hC; intro W ao cap hC)); refine hK.out _ _ hC.hb1' fun hHeld => ?_; clear hK K; (try simp only [pQ]); refine ry [6] ?_; refine rd1 fun K hK => ?_; refine st_of rfl ?_; refine wp_build1C hC (by rfl) (by rfl) ?_; clear hC; intro W k hC; refine hK.out _ _ hC.hb1' fun hHeld => ?_; clear hK K; (try simp only [pQ]); refine ry [7] ?_; refine rd1 fun K hK => ?_; (first | (refine st_of rfl ?_; have hD := hC; clear hC; refine wp_app1R hD (.head _) 1 (by rfl) (by rfl) (by rfl) rfl hR.out (hN.out.mono mL) (by rfl) (by omega) ?_; clear hD; intro W k cap2 cur2 hC hR2 hN2; simp only [pS] at hC)); refine hK.out _ _ hC.hb1' fun hHeld => ?_; clear hK K; (try simp only [pQ]); refine ry [8] ?_; refine rd1 fun K hK => ?_; go_simp; refine hK.out _ _ hC.hb1' fun hHeld => ?_; clear hK K; (try simp only [pQ]); refine dn ?_ _)
        | (go_at_call 29; replace HO := hidk (nextW (by omega) HO.out); have hD := hC; clear hC; (first | (refine q_isW hg hD _ (by decide) _ (by decide) ?_ ?_; (focus (intro ts e hb; have hC := hD; clear hD; have hp := sl_pos ts; first | (cases e; done) | (cases e; replace HO := hidk (bindC (c := fun ts => sdB _ _ _ ts) hb HO.out); clear hb))); rotate_left; (focus (intro hb; have hC := hD; clear hD; replace HO := hidk (bindD (c := fun ts => sdB _ _ _ ts) hb HO.out); clear hb)); rotate_left) | (refine q_isS hg hD _ (by decide) _ (by decide) ?_ ?_; (focus (intro ts e hb; have hC := hD; clear hD; have hp := sl_pos ts; first | (cases e; done) | (cases e; replace HO := hidk (bindC (c := fun ts => sdB _ _ _ ts) hb HO.out); clear hb))); rotate_left; (focus (intro hb; have hC := hD; clear hD; replace HO := hidk (bindD (c := fun ts => sdB _ _ _ ts) hb HO.out); clear hb)); rotate_left)))
        | (go_at_call 15; refine aGot ?_ ?_ <;> clear hC HO; (focus (intro ts r W hC e hl HO; first | (cases e; done) | cases e)); rotate_left; (focus (intro hC HO)); rotate_left)
        | (go_at_call 33; guard_target = Calls _ _ #[_, _, _, Value.slice none 0 0] _ _; (first | refine useRD (q_rnode0 hC _ _ _) ?_); clear hC; intro W ao cap hC)
        | (at_builtin; have hD := hC; clear hC; refine m8 ?_; clear hD; intro W k cap3 cur3 hC hR3 hN3; simp only [pS] at hC; (try simp only [pP]))
        | (go_at_call 33; have hD := hC; clear hC; (first | (have hE := hD.madeAt 0 (by rfl) hR3 (hN3.mono mL) (by simp) [] [] 0) | (have hE := hD.madeAt 1 (by rfl) hR3 (hN3.mono mL) (by simp) [] [] 0) | (have hE := hD.madeAt 2 (by rfl) hR3 (hN3.mono mL) (by simp) [] [] 0)); simp only [List.eraseIdx_cons_zero, List.eraseIdx_cons_succ] at hE; refine useRD (q_rnodeL _ _ _ hE (.head _) (by simp) (by first | (simp; done) | (simp; omega))) ?_; intro W ao cap hC; clear hD hE))
        · go_roundg (sl (some ts))
          case measure => omega
          case rel => exact ⟨some ts, _, Nat.le_refl _, by omega, (mS hS.out), Or.inr ⟨k, l ++ [nd [119, 104, 101, 110] [] [cnd none tc, te]], cap2, cur2, _, f - 1, (by simp), hC.less (by (repeat (first | exact List.Sublist.refl _ | apply List.Sublist.cons_cons | apply List.Sublist.cons)); done) (fun y hy => hy), hR2, (hN2.mono mL), HO, by omega, by simp; omega, by simp⟩⟩
        all_goals ((try simp only [List.append_assoc, List.cons_append, List.nil_append] at HO hC); refine hC.rc ?_; refine endRN HO (hC.fin ?_ ?_ ?_); (repeat (first | exact List.Sublist.refl _ | apply List.Sublist.cons)); (repeat (first | exact List.mem_cons_self | apply List.mem_cons_of_mem)); intro y hy; have hy := hS.out y hy; (repeat (first | exact hy | apply List.mem_cons_of_mem)); done)
theorem q_rcases {E : Env} {B : Nat} {w0 w : World} {st : Option (List Tok)} {H : List Bx} {L : List Tn} {R : Rc} {n : Nat} (RC : Cw E R n) (hg : GoodE E) (hC : Cx E B w0 w (.r st) H L) (hn : sl st < n) : Calls Tryz.prog 202 #[.pointer (some ⟨E.b, 0, none⟩)] w (RN E B w0 H L (st.bind (caseF R))) := by
  cases st with
  | none => exact q_rcasW RC hg hC hn (fun ts h => by cases h)
  | some ts =>
    cases hw : sdB 0 0 [119, 104, 101, 110] ts with
    | true => exact q_rcasT RC hg hC (by omega) (by omega) ⟨ts, rfl, hw⟩
    | false => exact q_rcasW RC hg hC hn (fun ts' h => by cases h; exact hw)
end Go.Proofs.YtaenpacfbheppaaGreatDoor
namespace Go.Proofs.YtaenpacfbheppaaGreatDoor
open Go.RowKit
theorem Cx.rat {E : Env} {B : Nat} {w0 w : World} {H : List Bx} {L : List Tn} {j : Nat} (h : Cx E B w0 w (.r (some (E.l.drop j))) H L) (hj : j ≤ E.l.length) : w.cell? ⟨E.b, 1, none⟩ = some (.int .i64 j) := by
  obtain ⟨i, ao, cap, hi, hts, hv, c0, c1, _⟩ := h.rdS
  have := congrArg List.length hts
  simp only [List.length_drop] at this
  obtain rfl : i = j := by omega
  exact c1
def TkS (E : Env) (i : Nat) (ao : Option Addr) (cap g : Nat) (s : List UInt8) (w : World) : Prop := w.cell? ⟨E.b, 0, none⟩ = some (.slice ao E.l.length cap) ∧ w.cell? ⟨E.b, 1, none⟩ = some (.int .i64 ((i : Int) + 1)) ∧ w.cell? ⟨g, i * 4 + 1, none⟩ = some (.string ⟨s.toArray⟩)
theorem yi_loadS {ops : Array Oper} {o : Oper} {a : Act} {S : World → Prop} (hg : o.guard = none) {x : Operand} {T : Nat} (ho : o.op = .load T x) (hT : (Tryz.prog.underlying T).map TypeDesc.isRow = some false) {p : Addr} (hx : a.eval x = .pointer (some p)) {v : Value} (hv : ∀ w, S w → w.cell? p = some v) : YieldsIf Tryz.prog ops S o v a := by
  obtain ⟨d, hu, hd⟩ := und1 hT
  refine Or.inl ⟨by simp [Region.wanted, hg], fun w hw => ?_⟩
  have hc := hv w hw
  have e : (loadVar T p).run Tryz.prog w = .ok v w := by
    have hagg : (isAgg T).run Tryz.prog w = .ok false w := by
      unfold isAgg
      rw [Sem.run_bind, run_underlying hu w]
      cases d <;> simp_all
    unfold loadVar
    simp [hagg, hc]
  unfold execOp
  simp only [ho, hx, Instr.loadAt, Instr.sureAddr, Sem.run_bind, Sem.run_pure, Result.andThen_ok, e]
theorem q_rone2 {E : Env} {B : Nat} {w0 w : World} {H : List Bx} {L : List Tn} {t : Tok} {r : List Tok} (hC : Cx E B w0 w (.r (some (t :: r))) H L) (hk : t.k = 2) :
    Calls Tryz.prog 194 #[.pointer (some ⟨E.b, 0, none⟩)] w (RN E B w0 H L (some (nd [116, 101, 120, 116] t.s [], r))) := by
  obtain ⟨i, ao, cap, hi, hts, hv, c0, c1, c2, f1, f2, hcap⟩ := hC.rdS
  obtain ⟨hlt, ht, hr⟩ := drop_cons hts
  obtain ⟨g, cap', hv', hcap', t0, t1, t2, t3⟩ := hC.tok (ts := t :: r) hlt
  rw [hv] at hv'
  cases hv'
  have h6 := hC.ok.len
  have HTK : Hid (∀ {W : World} {H' : List Bx} {L' : List Tn}, Cx E B w0 W (.r (some r)) H' L' → TkS E i (some ⟨g, 0, none⟩) cap g t.s W) := fun {W H' L'} h => by
    have h8 : Cx E B w0 W (.r (some (E.l.drop (i + 1)))) H' L' := by rw [hr]; exact h
    obtain ⟨i2, ao2, cap2, hi2, hts2, hv2, d0, d1, _⟩ := h.rdS
    obtain ⟨g2, cap3, hv3, hcap3, u0, u1, u2, u3⟩ := h.tok (ts := r) hlt
    rw [hv] at hv2 hv3
    cases hv2
    cases hv3
    rw [ht] at u1
    exact ⟨d0, h8.rat (by omega), u1⟩
  have HGO : Hid (∀ {W : World} {H' : List Bx} {L' : List Tn}, Cx E B w0 W (.r (some (t :: r))) H' L' → Cx E B w0 (W.setCell ⟨E.b, 1, none⟩ (.int .i64 ((i : Int) + 1))) (.r (some r)) H' L' ∧ W.cell? ⟨E.b, 1, none⟩ = some (.int .i64 i) ∧ W.frozen? ⟨E.b, 1, none⟩ = false) := fun {W H' L'} h => by
    have h8 : Cx E B w0 W (.r (some (E.l.drop i))) H' L' := by rw [hts]; exact h
    have h9 := h8.rgo hi (h8.rat hi) (j := i + 1) (by omega)
    rw [hr] at h9
    obtain ⟨_, _, _, _, _, _, _, _, _, f, _⟩ := h.rdS
    exact ⟨h9, h8.rat hi, f⟩
  have tlt : (i : Int) < (E.l.length : Int) := by omega
  have e1 : (i : Int) + 1 - 1 = (i : Int) := by omega
  have hwr : IntKind.i64.wrap (i : Int) = (i : Int) := by unfold IntKind.wrap; simp [IntKind.signed, IntKind.bits]; omega
  have hwi : 0 ≤ (i : Int) ∧ (i : Int) < (E.l.length : Int) := ⟨by omega, by omega⟩
  clear c0 c1 c2 f1 f2 hv hts ht hr t0 t1 t2 t3
  go_enter Tryz.func194, Tryz.ntmps194
  go_wp2_with (first
  | (refine bA ?_; clear hC; intro W k hC)
  | refine bL ?_
  | (refine bS ?_; clear hC; intro W hC)
  | (go_at_call 31; have hD := hC; clear hC; refine kindK hD _ ?_ ?_; (focus (intro t9 r9 W e hk9 hC; clear hD; cases e; first | (exact absurd (hk9.symm.trans hk) (by decide)) | (clear hk9; obtain ⟨hE, g1, g2⟩ := HGO.out hC; clear hC; have hC := hE; clear hE))); rotate_left; (focus (intro W hb hC; clear hD; first | (have h9 : (t.k == 2) = false := hb _ rfl; rw [hk] at h9; exact absurd h9 (by decide)) | clear hb)); rotate_left)
  | (guard_target = Code.wp _ (Code.region 5 _ true) _ _ _; refine wp_region_held_drew (S := TkS E i (some ⟨g, 0, none⟩) cap g t.s) (by kernel_rfl) (HTK.out hC.drew) (fun hHeld => ?_); replace hC := hC.drew; refine wpAnyH_take (i := 0) (v := _) rfl (by kernel_rfl) (by kernel_rfl) (by kernel_rfl) (fun _ _ _ h => h) (Or.inl ⟨by rfl, by intro w hSw; go_simp; (try simp only [hwr, Int.toNat_natCast]); (try rw [if_pos hwi]); (try rfl)⟩) (by assumption) ?_; (try simp only [pQ]); refine wpAnyH_take (i := 1) (v := _) rfl (by kernel_rfl) (by kernel_rfl) (by kernel_rfl) (fun _ _ _ h => h) (Or.inl ⟨by rfl, by intro w hSw; go_simp; (try simp only [hwr, Int.toNat_natCast]); (try rw [if_pos hwi]); (try rfl)⟩) (by assumption) ?_; (try simp only [pQ]); refine wpAnyH_take (i := 2) (v := _) rfl (by kernel_rfl) (by kernel_rfl) (by kernel_rfl) (fun _ _ _ h => h) (Or.inl ⟨by rfl, by intro w hSw; go_simp; (try simp only [hwr, Int.toNat_natCast]); (try rw [if_pos hwi]); (try rfl)⟩) (by assumption) ?_; (try simp only [pQ]); refine wpAnyH_take (i := 3) (v := _) rfl (by kernel_rfl) (by kernel_rfl) (by kernel_rfl) (fun _ _ _ h => h) (yi_loadS (by rfl) (by rfl) (by kernel_rfl) (by rfl) (by first | exact fun w h => h.1 | exact fun w h => h.2.1 | exact fun w h => h.2.2)) (by assumption) ?_; (try simp only [pQ]); refine wpAnyH_take (i := 4) (v := _) rfl (by kernel_rfl) (by kernel_rfl) (by kernel_rfl) (fun _ _ _ h => h) (Or.inl ⟨by rfl, by intro w hSw; go_simp; (try simp only [hwr, Int.toNat_natCast]); (try rw [if_pos hwi]); (try rfl)⟩) (by assumption) ?_; (try simp only [pQ]); refine wpAnyH_take (i := 5) (v := _) rfl (by kernel_rfl) (by kernel_rfl) (by kernel_rfl) (fun _ _ _ h => h) (Or.inl ⟨by rfl, by intro w hSw; go_simp; (try simp only [hwr, Int.toNat_natCast]); (try rw [if_pos hwi]); (try rfl)⟩) (by assumption) ?_; (try simp only [pQ]); refine wpAnyH_take (i := 6) (v := _) rfl (by kernel_rfl) (by kernel_rfl) (by kernel_rfl) (fun _ _ _ h => h) (Or.inl ⟨by rfl, by intro w hSw; go_simp; (try simp only [hwr, Int.toNat_natCast]); (try rw [if_pos hwi]); (try rfl)⟩) (by assumption) ?_; (try simp only [pQ]); refine wpAnyH_take (i := 7) (v := _) rfl (by kernel_rfl) (by kernel_rfl) (by kernel_rfl) (fun _ _ _ h => h) (yi_loadS (by rfl) (by rfl) (by kernel_rfl) (by rfl) (by first | exact fun w h => h.1 | exact fun w h => h.2.1 | exact fun w h => h.2.2)) (by assumption) ?_; (try simp only [pQ]); refine wpAnyH_take (i := 8) (v := _) rfl (by kernel_rfl) (by kernel_rfl) (by kernel_rfl) (fun _ _ _ h => h) (Or.inl ⟨by rfl, by intro w hSw; go_simp; (try simp only [hwr, Int.toNat_natCast]); (try rw [if_pos hwi]); (try rfl)⟩) (by assumption) ?_; (try simp only [pQ]); refine wpAnyH_take (i := 9) (v := _) rfl (by kernel_rfl) (by kernel_rfl) (by kernel_rfl) (fun _ _ _ h => h) (Or.inl ⟨by rfl, by intro w hSw; go_simp; (try simp only [hwr, Int.toNat_natCast]); (try rw [if_pos hwi]); (try rfl)⟩) (by assumption) ?_; (try simp only [pQ]); refine wpAnyH_take (i := 10) (v := _) rfl (by kernel_rfl) (by kernel_rfl) (by kernel_rfl) (fun _ _ _ h => h) (Or.inl ⟨by rfl, by intro w hSw; go_simp; (try simp only [hwr, Int.toNat_natCast]); (try rw [if_pos hwi]); (try rfl)⟩) (by assumption) ?_; (try simp only [pQ]); refine wpAnyH_take (i := 11) (v := _) rfl (by kernel_rfl) (by kernel_rfl) (by kernel_rfl) (fun _ _ _ h => h) (yi_loadS (by rfl) (by rfl) (by kernel_rfl) (by rfl) (by first | exact fun w h => h.1 | exact fun w h => h.2.1 | exact fun w h => h.2.2)) (by assumption) ?_; (try simp only [pQ]); refine ry [12] ?_; refine rd1 fun K hK => ?_; go_simp; (first | (go_at_call 33; guard_target = Calls _ _ #[_, _, _, Value.slice none 0 0] _ _; (first | refine useRD (q_rnode0 hC _ _ _) ?_); clear hC; intro W ao cap hC)); refine hK.out _ _ (HTK.out hC) fun hHeld => ?_; clear hK K; (try simp only [pQ]); refine ry [13] ?_; refine rd1 fun K hK => ?_; refine st_of rfl ?_; refine wsN ?_; clear hC; intro W hC; refine hK.out _ _ (HTK.out hC) fun hHeld => ?_; clear hK K; (try simp only [pQ]); refine dn ?_ _))
  all_goals (refine hC.rc ?_; refine ⟨_, some r, _, _, rfl, (hC.fin ?_ (.head _) ?_), rfl⟩; (repeat (first | exact List.Sublist.refl _ | apply List.Sublist.cons)); intro y hy; (repeat (first | exact hy | apply List.mem_cons_of_mem)); done)
end Go.Proofs.YtaenpacfbheppaaGreatDoor
namespace Go.Proofs.YtaenpacfbheppaaGreatDoor
open Go.RowKit
def oneX (R : Rc) (ts : List Tok) : Option (Tr × List Tok) := if kdB 1 ts = true then bd (numF ts) (fun n r => some (.mk [110, 117, 109] [] n [], r)) else ow [116, 114, 117, 101] ts (fun r => some (.mk [98, 111, 111, 108] [] 1 [], r)) (ow [102, 97, 108, 115, 101] ts (fun r => some (nd [98, 111, 111, 108] [] [], r)) (ow [110, 117, 108, 108] ts (fun r => some (nd [110, 117, 108, 108] [] [], r)) (if opnB ts = true then bd (parF R.body ts) (fun b r => some (nd [115, 99, 97, 108, 97, 114] [] [b], r)) else og (sgF [40] ts) (fun _ r => bd (R.expr r) fun e r2 => bd (sgF [41] r2) fun _ r3 => some (e, r3)) (ow [101, 120, 105, 115, 116, 115] ts (fun r => bd (parF R.body r) fun b r2 => some (nd [101, 120, 105, 115, 116, 115] [] [b], r2)) (ow [99, 97, 115, 101] ts (fun r => caseF R r) (calX R ts))))))
theorem opn_k {t : Tok} {r : List Tok} (h : t.k ≠ 3) : opnB (t :: r) = false := by
  have : (t.k == 3) = false := by simpa using h
  unfold opnB opnN
  simp [this]
theorem sg_k {t : Tok} {r : List Tok} {s : List UInt8} (h : t.k ≠ 3) : sgF s (t :: r) = none := by
  have : (t.k == 3) = false := by simpa using h
  unfold sgF oneF
  simp [this]
theorem bd_some {x : Option (Tr × List Tok)} {f : Tr → Tr} : (match x with | none => none | some (b, r) => some (f b, r)) = bd x fun b r => some (f b, r) := by
  cases x <;> rfl
theorem cast_x (R : Rc) (r : List Tok) : parF (castF R) r = bd (sgF [40] r) fun _ r1 => bd (R.expr r1) fun e r2 => (needF [[97, 115]] r2).bind fun r3 => bd (typF r3) fun t r4 => bd (sgF [41] r4) fun _ r5 => some (nd [99, 97, 115, 116] [] [t, e], r5) := by
  rw [parX_eq]
  unfold parX castF bd
  cases sgF [40] r with
  | none => rfl
  | some p =>
    simp only
    cases R.expr p.2 with
    | none => rfl
    | some q =>
      simp only
      cases needF [[97, 115]] q.2 with
      | none => rfl
      | some r3 =>
        simp only [Option.bind_some]
        cases typF r3 with
        | none => rfl
        | some z => rfl
theorem null_x (R : Rc) (r : List Tok) : parF (nullifF R) r = bd (sgF [40] r) fun _ r1 => bd (R.expr r1) fun e r2 => bd (sgF [44] r2) fun _ r3 => bd (R.expr r3) fun f r4 => bd (sgF [41] r4) fun _ r5 => some (nd [110, 117, 108, 108, 105, 102] [] [e, f], r5) := by
  rw [parX_eq]
  unfold parX nullifF bd
  cases sgF [40] r with
  | none => rfl
  | some p =>
    simp only
    cases R.expr p.2 with
    | none => rfl
    | some q =>
      simp only
      cases sgF [44] q.2 with
      | none => rfl
      | some r3 =>
        simp only
        cases R.expr r3.2 with
        | none => rfl
        | some z => rfl
theorem coal_x (R : Rc) (r : List Tok) : (match parF (lsF R.expr) r with | none => none | some (l, r2) => some (nd [99, 111, 97, 108, 101, 115, 99, 101] [] l, r2)) = bd (sgF [40] r) fun _ r1 => bd (lsF R.expr r1) fun l r2 => bd (sgF [41] r2) fun _ r3 => some (nd [99, 111, 97, 108, 101, 115, 99, 101] [] l, r3) := by
  rw [parX_eq]
  unfold parX bd
  cases sgF [40] r with
  | none => rfl
  | some p =>
    simp only
    cases lsF R.expr p.2 with
    | none => rfl
    | some q =>
      simp only
      cases sgF [41] q.2 <;> rfl
theorem oneX_eq (R : Rc) (ts : List Tok) (h2 : ∀ t r, ts = t :: r → t.k ≠ 2) : oprF R ts = oneX R ts := by
  cases ts with
  | nil => rfl
  | cons t r =>
    have k2 : (t.k == 2) = false := by simpa using h2 t r rfl
    by_cases h1 : t.k = 1
    · unfold oprF oneX kdB numF takF bd
      simp [h1]
    · have k1 : (t.k == 1) = false := by simpa using h1
      by_cases h3 : t.k = 3
      · have e : ∀ w ws, tkB (w :: ws) (t :: r) = false := fun w ws => by simp [tkB, h3]
        have hc : colF (t :: r) = none := by unfold colF nameF takF; simp [h3]
        have k3 : (t.k == 3) = true := by simpa using h3
        unfold oprF oneX calX kdB
        simp only [k1, k2, k3, ow, e, hc, Bool.false_eq_true, if_false, if_true]
        split
        · exact bd_some
        · rw [parX_eq]
          unfold parX
          cases sgF [40] (t :: r) <;> rfl
      · have k3 : (t.k == 3) = false := by simpa using h3
        have ho := opn_k (r := r) h3
        have hs := sg_k (r := r) (s := [40]) h3
        by_cases hk : t.k = 0
        · unfold oprF oneX wopF calX kdB
          simp only [k1, k2, k3, ow, ho, hs, og, hB hk, Bool.false_eq_true, if_false, cast_x, null_x, coal_x]
          by_cases w0 : t.s = [116, 114, 117, 101]
          · simp only [w0, hR0 hk w0, oneF, hk]
            rfl
          by_cases w1 : t.s = [102, 97, 108, 115, 101]
          · simp only [w1, hR0 hk w1, oneF, hk]
            rfl
          by_cases w2 : t.s = [110, 117, 108, 108]
          · simp only [w2, hR0 hk w2, oneF, hk]
            rfl
          by_cases w3 : t.s = [101, 120, 105, 115, 116, 115]
          · simp only [w3, hR0 hk w3, oneF, hk]
            exact bd_some
          by_cases w4 : t.s = [99, 97, 115, 101]
          · simp only [w4, hR0 hk w4, oneF, hk]
            rfl
          by_cases w5 : t.s = [99, 97, 115, 116]
          · simp only [w5, hR0 hk w5, oneF, hk]
            rfl
          by_cases w6 : t.s = [99, 111, 97, 108, 101, 115, 99, 101]
          · simp only [w6, hR0 hk w6, oneF, hk]
            exact coal_x R r
          by_cases w7 : t.s = [110, 117, 108, 108, 105, 102]
          · simp only [w7, hR0 hk w7, oneF, hk]
            rfl
          by_cases w8 : t.s = [99, 111, 117, 110, 116]
          · simp only [w8, hR0 hk w8, oneF, hk]
            rfl
          by_cases w9 : t.s = [115, 117, 109]
          · simp only [w9, hR0 hk w9, oneF, hk]
            rfl
          by_cases w10 : t.s = [109, 105, 110]
          · simp only [w10, hR0 hk w10, oneF, hk]
            rfl
          by_cases w11 : t.s = [109, 97, 120]
          · simp only [w11, hR0 hk w11, oneF, hk]
            rfl
          have hO : oneF 0 [[99, 111, 117, 110, 116], [115, 117, 109], [109, 105, 110], [109, 97, 120]] (t :: r) = none := by
            unfold oneF
            simp [w8, w9, w10, w11]
          simp only [beqN w0, beqN w1, beqN w2, beqN w3, beqN w4, beqN w5, beqN w6, beqN w7, beqN w8, beqN w9, beqN w10, beqN w11, hO, Bool.false_and, Bool.false_eq_true, if_false]
        · have e : ∀ w ws, tkB (w :: ws) (t :: r) = false := fun w ws => by simp [tkB, hk]
          have hO : oneF 0 [[99, 111, 117, 110, 116], [115, 117, 109], [109, 105, 110], [109, 97, 120]] (t :: r) = none := by
            unfold oneF
            simp [hk]
          unfold oprF oneX wopF calX kdB
          simp only [k1, k2, k3, ow, ho, hs, og, e, hO, Bool.false_eq_true, if_false]
theorem q_rone0 {E : Env} {B : Nat} {w0 w : World} {st : Option (List Tok)} {H : List Bx} {L : List Tn} {R : Rc} {n : Nat} (RC : Cw E R n) (hg : GoodE E) (hC : Cx E B w0 w (.r st) H L) (hn : sl st ≤ n) (h2 : ∀ t r, st = some (t :: r) → t.k ≠ 2) :
    Calls Tryz.prog 194 #[.pointer (some ⟨E.b, 0, none⟩)] w (RN E B w0 H L (st.bind (oneX R))) := by
  obtain ⟨o, ho⟩ : ∃ o, st.bind (oneX R) = o := ⟨_, rfl⟩
  rw [ho]
  unfold oneX at ho
  have HO := hidk ho
  clear ho
  have h601 := hC.rsl
  go_enter Tryz.func194, Tryz.ntmps194
  go_wp2_with (first
  | (refine bA ?_; clear hC; intro W k hC)
  | refine bL ?_
  | (refine bS ?_; clear hC; intro W hC)
  | (go_at_call 31; guard_target = Calls _ _ #[_, Value.int _ 1] _ _; have hD := hC; clear hC; refine kindK hD _ ?_ ?_; (focus (intro t9 r9 W e hk9 hC; clear hD; first | (cases e; done) | (cases e; have hp := sl_pos (t9 :: r9); replace HO := hidk (bindC (c := kdB 1) (by simp [kdB, hk9]) HO.out); clear hk9))); rotate_left; (focus (intro W hb hC; clear hD; replace HO := hidk (bindD (c := kdB 1) hb HO.out); clear hb)); rotate_left)
  | (go_at_call 31; guard_target = Calls _ _ #[_, Value.int _ 2] _ _; have hD := hC; clear hC; refine kindK hD _ ?_ ?_; (focus (intro t9 r9 W e hk9 hC; exact absurd hk9 (h2 t9 r9 e))); rotate_left; (focus (intro W hb hC; clear hD hb)); rotate_left)
  | (go_at_call 15; refine aGot ?_ ?_ <;> clear hC HO; (focus (intro ts r W hC e hl HO; first | (cases e; done) | cases e)); rotate_left; (focus (intro hC HO)); rotate_left)
  | (go_at_call 68; have hD := hC; clear hC; refine opensK hg hD ?_ ?_; (focus (intro ts e hb hC; clear hD; have hp := sl_pos ts; first | (cases e; done) | (cases e; replace HO := hidk (bindC (c := opnB) hb HO.out); clear hb))); rotate_left; (focus (intro hb hC; clear hD; replace HO := hidk (bindD (c := opnB) hb HO.out); clear hb); rotate_left))
  | (go_at_call 103; refine useRI (q_rnumber hC) ?_; clear hC; intro s st2 W he hC; have hl := sl_lt (fun _ _ _ h => by have := numF_len h; omega) he; replace HO := hidk (bindN he HO.out); clear he)
  | (go_at_call 179; refine useRN (q_inner RC hg hC (by omega) (by omega)) ?_; clear hC; intro t st2 W ao cap he hC; have hl := sl_of (fun ts x r h => by have := parF_len RC.len.body h; omega) he; replace HO := hidk (bindN he HO.out); clear he)
  | (go_at_call 70; refine uN (RC.expr hC (by omega)) HO ?_; clear hC HO; intro t st2 W ao cap he hC HO; have hl := sl_of RC.len.expr he; clear he)
  | (go_at_call 35; refine aMust ?_; clear hC HO; intro st2 W hC hl HO)
  | (go_at_call 202; refine useRN (q_rcases RC hg hC (by omega)) ?_; clear hC; intro t st2 W ao cap he hC; have hl := sl_of (caseF_Len RC.len) he; replace HO := hidk ((bindAll HO.out he)); clear he)
  | (go_at_call 203; refine useRN (q_rcall RC hg hC (by omega)) ?_; clear hC; intro t st2 W ao cap he hC; replace HO := hidk ((bindAll HO.out he)); clear he)
  | (go_at_call 33; guard_target = Calls _ _ #[_, _, _, Value.slice none 0 0] _ _; (first | refine useRD (q_rnode0 hC _ _ _) ?_); clear hC; intro W ao cap hC)
  | (go_at_call 33; guard_target = Calls _ _ #[_, _, _, Value.slice (some _) 1 1] _ _; refine m5 ?_; clear hC; intro W ao cap hC))
  all_goals (refine hC.rc ?_; first | exact endRN HO (hC.fin mSub mMem mL) | exact endR0 HO (hC.fin mSub mMem mL))
theorem q_rone {E : Env} {B : Nat} {w0 w : World} {st : Option (List Tok)} {H : List Bx} {L : List Tn} {R : Rc} {n : Nat} (RC : Cw E R n) (hg : GoodE E) (hC : Cx E B w0 w (.r st) H L) (hn : sl st ≤ n) : Calls Tryz.prog 194 #[.pointer (some ⟨E.b, 0, none⟩)] w (RN E B w0 H L (st.bind (oprF R))) := by
  cases st with
  | none => exact q_rone0 RC hg hC hn (fun t r h => by cases h)
  | some ts =>
    by_cases h : ∃ t r, ts = t :: r ∧ t.k = 2
    · obtain ⟨t, r, rfl, hk⟩ := h
      have e : (some (t :: r)).bind (oprF R) = some (nd [116, 101, 120, 116] t.s [], r) := by
        show oprF R (t :: r) = _
        unfold oprF
        simp [hk]
      rw [e]
      exact q_rone2 hC hk
    · have h2 : ∀ t r, ts = t :: r → t.k ≠ 2 := fun t r e hk => h ⟨t, r, e, hk⟩
      have e : (some ts).bind (oprF R) = (some ts).bind (oneX R) := oneX_eq R ts h2
      rw [e]
      exact q_rone0 RC hg hC hn (fun t r h => by cases h; exact h2 t r rfl)
def facX (R : Rc) (ts : List Tok) : Option (Tr × List Tok) := og (sgF [45] ts) (fun _ r => bd (R.fac r) fun x r2 => some (nd [110, 101, 103] [] [x], r2)) (oprF R ts)
theorem facX_eq (R : Rc) : facF R = facX R := by
  funext ts
  unfold facF facX og
  cases sgF [45] ts with
  | none => rfl
  | some p =>
    simp only
    cases R.fac p.2 <;> rfl
theorem q_rsign {E : Env} {B : Nat} {w0 w : World} {st : Option (List Tok)} {H : List Bx} {L : List Tn} {R : Rc} {n : Nat} (RC : Cw E R n) (hg : GoodE E) (hC : Cx E B w0 w (.r st) H L) (hn : sl st ≤ n) :
    Calls Tryz.prog 186 #[.pointer (some ⟨E.b, 0, none⟩)] w (RN E B w0 H L (st.bind (facF R))) := by
  obtain ⟨o, ho⟩ : ∃ o, st.bind (facF R) = o := ⟨_, rfl⟩
  rw [ho]
  rw [facX_eq] at ho
  unfold facX at ho
  have HO := hidk ho
  clear ho
  have h601 := hC.rsl
  go_enter Tryz.func186, Tryz.ntmps186
  go_wp2_with (first
  | (refine bA ?_; clear hC; intro W k hC)
  | (refine bS ?_; clear hC; intro W hC)
  | (go_at_call 15; refine aGot ?_ ?_ <;> clear hC HO; (focus (intro ts r W hC e hl HO; first | (cases e; done) | cases e)); rotate_left; (focus (intro hC HO)); rotate_left)
  | (go_at_call 186; refine uN (RC.fac hC (by omega)) HO ?_; clear hC HO; intro t st2 W ao cap he hC HO; have hl := sl_of RC.len.fac he; clear he)
  | (go_at_call 194; refine useRN (q_rone RC hg hC (by omega)) ?_; clear hC; intro t st2 W ao cap he hC; have hl := sl_of (oprF_Len RC.len) he; replace HO := hidk ((bindAll HO.out he)); clear he)
  | (go_at_call 33; guard_target = Calls _ _ #[_, _, _, Value.slice (some _) 1 1] _ _; refine m5 ?_; clear hC; intro W ao cap hC))
  all_goals (refine hC.rc ?_; first | exact endRN HO (hC.fin mSub mMem mL) | exact endR0 HO (hC.fin mSub mMem mL))
end Go.Proofs.YtaenpacfbheppaaGreatDoor
namespace Go.Proofs.YtaenpacfbheppaaGreatDoor
open Go.RowKit
theorem chF_x (I : Ps Tr) (K : Lk) (ts : List Tok) : chF I K ts = bd (I ts) fun x r => chN I K (r.length + 1) x r := by
  unfold chF
  cases I ts with
  | none => rfl
  | some p => rfl
theorem startC {I : Ps Tr} {K : Lk} {a : Tr} {st : Option (List Tok)} {o : Option (Tr × List Tok)} (h : st.bind (fun r => chN I K (r.length + 1) a r) = o) : st.bind (fun r => chN I K (sl st) a r) = o := by
  rw [← h]
  cases st <;> rfl
theorem chN_w (I : Ps Tr) (w : List UInt8) (f : Nat) (a : Tr) (ts : List Tok) : ow w ts (fun r => bd (I r) fun x r2 => chN I (wdLk w) f (nd w [] [a, x]) r2) (some (a, ts)) = chN I (wdLk w) (f + 1) a ts := by
  rw [chN]
  unfold ow wdLk
  cases h : tkB [w] ts with
  | false => rfl
  | true =>
    simp only [if_true]
    cases I (tkR [w] ts) with
    | none => rfl
    | some p => rfl
theorem one_cons (kd : Int) (s : List UInt8) (of : List (List UInt8)) (ts : List Tok) : oneF kd (s :: of) ts = match oneF kd [s] ts with | some p => some p | none => oneF kd of ts := by
  unfold oneF
  cases ts with
  | nil => rfl
  | cons t r =>
    simp only [List.contains_cons, List.contains_nil, Bool.or_false]
    cases (t.k == kd) <;> cases (t.s == s) <;> simp
theorem sg_fst {s x : List UInt8} {ts r : List Tok} (h : sgF s ts = some (x, r)) : x = s := by
  have := sg_some (s := s) (ts := ts) (by rw [h]; rfl)
  rw [h] at this
  cases this
  rfl
theorem chN_s2 (I : Ps Tr) (u v : List UInt8) (f : Nat) (a : Tr) (ts : List Tok) : og (sgF u ts) (fun _ r => bd (I r) fun x r2 => chN I (sgLk [u, v]) f (nd u [] [a, x]) r2) (og (sgF v ts) (fun _ r => bd (I r) fun x r2 => chN I (sgLk [u, v]) f (nd v [] [a, x]) r2) (some (a, ts))) = chN I (sgLk [u, v]) (f + 1) a ts := by
  have e : sgLk [u, v] ts = og (sgF u ts) (fun _ r => some ((u, 0), r)) (og (sgF v ts) (fun _ r => some ((v, 0), r)) none) := by
    unfold sgLk og sgF
    rw [one_cons 3 u [v]]
    cases h1 : oneF 3 [u] ts with
    | some p =>
      obtain ⟨x, r⟩ := p
      have := sg_fst (s := u) h1
      subst this; rfl
    | none =>
      simp only
      cases h2 : oneF 3 [v] ts with
      | some p =>
        obtain ⟨x, r⟩ := p
        have := sg_fst (s := v) h2
        subst this; rfl
      | none => rfl
  rw [chN, e]
  cases sgF u ts with
  | some p => simp only [og]; cases I p.2 <;> rfl
  | none =>
    simp only [og]
    cases sgF v ts with
    | some p => simp only; cases I p.2 <;> rfl
    | none => rfl
theorem chN_s3 (I : Ps Tr) (u v z : List UInt8) (f : Nat) (a : Tr) (ts : List Tok) : og (sgF u ts) (fun _ r => bd (I r) fun x r2 => chN I (sgLk [u, v, z]) f (nd u [] [a, x]) r2) (og (sgF v ts) (fun _ r => bd (I r) fun x r2 => chN I (sgLk [u, v, z]) f (nd v [] [a, x]) r2) (og (sgF z ts) (fun _ r => bd (I r) fun x r2 => chN I (sgLk [u, v, z]) f (nd z [] [a, x]) r2) (some (a, ts)))) = chN I (sgLk [u, v, z]) (f + 1) a ts := by
  have e : sgLk [u, v, z] ts = og (sgF u ts) (fun _ r => some ((u, 0), r)) (og (sgF v ts) (fun _ r => some ((v, 0), r)) (og (sgF z ts) (fun _ r => some ((z, 0), r)) none)) := by
    unfold sgLk og sgF
    rw [one_cons 3 u [v, z], one_cons 3 v [z]]
    cases h1 : oneF 3 [u] ts with
    | some p =>
      obtain ⟨x, r⟩ := p
      have := sg_fst (s := u) h1
      subst this; rfl
    | none =>
      simp only
      cases h2 : oneF 3 [v] ts with
      | some p =>
        obtain ⟨x, r⟩ := p
        have := sg_fst (s := v) h2
        subst this; rfl
      | none =>
        simp only
        cases h3 : oneF 3 [z] ts with
        | some p =>
          obtain ⟨x, r⟩ := p
          have := sg_fst (s := z) h3
          subst this; rfl
        | none => rfl
  rw [chN, e]
  cases sgF u ts with
  | some p => simp only [og]; cases I p.2 <;> rfl
  | none =>
    simp only [og]
    cases sgF v ts with
    | some p => simp only; cases I p.2 <;> rfl
    | none =>
      simp only
      cases sgF z ts with
      | some p => simp only; cases I p.2 <;> rfl
      | none => rfl
theorem q_rproduct {E : Env} {B : Nat} {w0 w : World} {st : Option (List Tok)} {H : List Bx} {L : List Tn} {R : Rc} {n : Nat} (RC : Cw E R n) (hg : GoodE E) (hC : Cx E B w0 w (.r st) H L) (hn : sl st ≤ n) :
    Calls Tryz.prog 178 #[.pointer (some ⟨E.b, 0, none⟩)] w (RN E B w0 H L (st.bind (proF R))) := by
  obtain ⟨o, ho⟩ : ∃ o, st.bind (proF R) = o := ⟨_, rfl⟩
  rw [ho]
  have HO : Hid (st.bind (fun ts => bd ((facF R) ts) fun x r => chN (facF R) (sgLk [[42], [47]]) (r.length + 1) x r) = o) := by
    rw [← ho]
    show _ = _
    congr 1
    funext ts
    exact (chF_x (facF R) (sgLk [[42], [47]]) ts).symm
  clear ho
  have h601 := hC.rsl
  go_enter Tryz.func178, Tryz.ntmps178
  go_wp2_with (first
  | (guard_target = wpList _ _ _ (Oper.mk (some 2) (Op.alloc 24) _ _ _ _ :: _) _ _; refine hC.aN ?_; clear hC; intro W kR hC; (try simp only [pP]))
  | (guard_target = wpList _ _ _ (Oper.mk (some 3) (Op.alloc 24) _ _ _ _ :: _) _ _; refine hC.aN ?_; clear hC; intro W kN hC; (try simp only [pP]))
  | refine bL ?_
  | (refine bA ?_; clear hC; intro W k hC)
  | (refine bS ?_; clear hC; intro W hC)
  | (go_at_call 186; refine uN (q_rsign RC hg hC (by omega)) HO ?_; clear hC HO; intro t st2 W ao cap he hC HO; have hl := sl_of (facF_Len RC.len) he; clear he))
  go_loopg [] (sl st2) (fun kx wr => ∃ (tA : Tr) (aA : Option Addr) (pA : Nat) (L' : List Tn) (st' : Option (List Tok)) (f : Nat), sl st' ≤ kx ∧ sl st' ≤ sl st ∧ Hid (Cx E B w0 wr (.r st') ((kN, ncs aA pA tA, 24) :: (kR, [.string ⟨#[]⟩, .string ⟨#[]⟩, .int .i64 0, .slice none 0 0], 24) :: H) L') ∧ Hid ((aA, pA, tA) ∈ L') ∧ Hid (∀ y ∈ L, y ∈ L') ∧ Hid (st'.bind (fun ts => chN (facF R) (sgLk [[42], [47]]) f tA ts) = o) ∧ sl st' ≤ f)
  case atStart => exact ⟨t, ao, cap, _, st2, sl st2, Nat.le_refl _, by omega, hC, .head _, mL, startC HO.out, Nat.le_refl _⟩
  case round =>
    rename World => wr
    clear hC HO
    obtain ⟨tA, aA, pA, L', st', f, hk, hst, hC', hM, hS, HO2, hf⟩ := hrel
    have hC := hC'.out
    clear hC'
    unfold ncs at hC
    cases st' with
    | none =>
      have HO : Hid ((none : Option (List Tok)).bind (fun r => some (tA, r)) = o) := HO2.out
      clear HO2
      go_wp2_with (first
      | refine bL ?_
      | (refine bA ?_; clear hC; intro W k hC)
      | (refine bS ?_; clear hC; intro W hC)
      | (refine bA ?_; clear hC; intro W k hC))
      all_goals (refine hC.rc ?_; refine endRN HO (hC.fin mSub hM.out (mS hS.out)))
    | some ts0 =>
      have hp0 := sl_pos ts0
      obtain ⟨f, rfl⟩ : ∃ f', f = f' + 1 := ⟨f - 1, by omega⟩
      have HO : Hid ((some ts0).bind (fun ts => og (sgF [42] ts) (fun _ r => bd ((facF R) r) fun x r2 => chN (facF R) (sgLk [[42], [47]]) f (nd [42] [] [tA, x]) r2) (og (sgF [47] ts) (fun _ r => bd ((facF R) r) fun x r2 => chN (facF R) (sgLk [[42], [47]]) f (nd [47] [] [tA, x]) r2) ((some (tA, ts))))) = o) := by
        show _ = _
        rw [← HO2.out]
        exact congrArg ((some ts0).bind ·) (funext fun ts => chN_s2 (facF R) [42] [47] f tA ts)
      clear HO2
      go_wp2_with (first
      | refine bL ?_
      | (refine bA ?_; clear hC; intro W k hC)
      | (refine bS ?_; clear hC; intro W hC)
      | (go_at_call 15; refine aGot ?_ ?_ <;> clear hC HO; (focus (intro ts r W hC e hl HO; first | (cases e; done) | cases e)); rotate_left; (focus (intro hC HO)); rotate_left)
      | (guard_target = Code.wp _ (Code.region 8 _ true) _ _ _; refine wp_region_held_drew (S := HB []) (by kernel_rfl) (hC.drew.hbI0  ) (fun hHeld => ?_); replace hC := hC.drew; refine qk 0 ?_; (try simp only [pQ]); refine qk 2 ?_; (try simp only [pQ]); refine ry [1, 3] ?_; refine AllReadyH.cons rfl (fun K hK => ?_) (AllReadyH.cons rfl (fun K hK => ?_) AllReadyH.nil); (focus (refine st_of rfl ?_; refine wp_loadNM hC (by rfl) (by rfl) (by repeat (first | exact List.mem_cons_self | assumption | apply List.mem_cons_of_mem)) ?_; refine hK.out _ _ (hC.hbS0 ) fun hHeld => ?_; clear hK K; (try simp only [pQ]); refine ry [3] ?_; refine rd1 fun K hK => ?_; go_simp; (first | (go_at_call 186; refine uN (q_rsign RC hg hC (by omega)) HO ?_; clear hC HO; intro t st2 W ao cap he hC HO; have hl := sl_of (facF_Len RC.len) he; clear he) | (go_at_call 33; guard_target = Calls _ _ #[_, _, _, Value.slice (some _) 2 2] _ _; (first | refine useRD (q_rnode2 _ _ _ hC (.tail _ hM.out) (.head _)) ?_); clear hC; intro W ao cap hC)); refine hK.out _ _ (hC.hbS0 ) fun hHeld => ?_; clear hK K; (try simp only [pQ]); refine ry [4] ?_; refine rd1 fun K hK => ?_; refine st_of rfl ?_; refine wp_build2C hC (by rfl) (by rfl) (by rfl) ?_; clear hC; intro W k hC; refine hK.out _ _ (hC.hbS0 ) fun hHeld => ?_; clear hK K; (try simp only [pQ]); refine ry [5] ?_; refine rd1 fun K hK => ?_; go_simp; (first | (go_at_call 186; refine uN (q_rsign RC hg hC (by omega)) HO ?_; clear hC HO; intro t st2 W ao cap he hC HO; have hl := sl_of (facF_Len RC.len) he; clear he) | (go_at_call 33; guard_target = Calls _ _ #[_, _, _, Value.slice (some _) 2 2] _ _; (first | refine useRD (q_rnode2 _ _ _ hC (.tail _ hM.out) (.head _)) ?_); clear hC; intro W ao cap hC)); refine hK.out _ _ (hC.hbS0 ) fun hHeld => ?_; clear hK K; (try simp only [pQ]); refine ry [6] ?_; refine rd1 fun K hK => ?_; refine st_of rfl ?_; refine wsN ?_; clear hC; intro W hC; refine hK.out _ _ (hC.hbS0 ) fun hHeld => ?_; clear hK K; (try simp only [pQ]); refine dn ?_ _)); rotate_left; (focus (go_simp; (first | (go_at_call 186; refine uN (q_rsign RC hg hC (by omega)) HO ?_; clear hC HO; intro t st2 W ao cap he hC HO; have hl := sl_of (facF_Len RC.len) he; clear he) | (go_at_call 33; guard_target = Calls _ _ #[_, _, _, Value.slice (some _) 2 2] _ _; (first | refine useRD (q_rnode2 _ _ _ hC (.tail _ hM.out) (.head _)) ?_); clear hC; intro W ao cap hC)); refine hK.out _ _ (hC.hbS0 ) fun hHeld => ?_; clear hK K; (try simp only [pQ]); refine ry [1] ?_; refine rd1 fun K hK => ?_; refine st_of rfl ?_; refine wp_loadNM hC (by rfl) (by rfl) (by repeat (first | exact List.mem_cons_self | assumption | apply List.mem_cons_of_mem)) ?_; refine hK.out _ _ (hC.hbS0 ) fun hHeld => ?_; clear hK K; (try simp only [pQ]); refine ry [4] ?_; refine rd1 fun K hK => ?_; refine st_of rfl ?_; refine wp_build2C hC (by rfl) (by rfl) (by rfl) ?_; clear hC; intro W k hC; refine hK.out _ _ (hC.hbS0 ) fun hHeld => ?_; clear hK K; (try simp only [pQ]); refine ry [5] ?_; refine rd1 fun K hK => ?_; go_simp; (first | (go_at_call 186; refine uN (q_rsign RC hg hC (by omega)) HO ?_; clear hC HO; intro t st2 W ao cap he hC HO; have hl := sl_of (facF_Len RC.len) he; clear he) | (go_at_call 33; guard_target = Calls _ _ #[_, _, _, Value.slice (some _) 2 2] _ _; (first | refine useRD (q_rnode2 _ _ _ hC (.tail _ hM.out) (.head _)) ?_); clear hC; intro W ao cap hC)); refine hK.out _ _ (hC.hbS0 ) fun hHeld => ?_; clear hK K; (try simp only [pQ]); refine ry [6] ?_; refine rd1 fun K hK => ?_; refine st_of rfl ?_; refine wsN ?_; clear hC; intro W hC; refine hK.out _ _ (hC.hbS0 ) fun hHeld => ?_; clear hK K; (try simp only [pQ]); refine dn ?_ _)); rotate_left))
      · go_roundg (sl st2)
        case measure => omega
        case rel => exact ⟨nd [42] [] [tA, t], ao, cap, _, st2, f, Nat.le_refl _, by omega, hC.less (by (repeat (first | exact List.Sublist.refl _ | apply List.Sublist.cons_cons | apply List.Sublist.cons)); done) (fun y hy => hy), .head _, (mS hS.out), HO, by omega⟩
      · go_roundg (sl st2)
        case measure => omega
        case rel => exact ⟨nd [42] [] [tA, t], ao, cap, _, st2, f, Nat.le_refl _, by omega, hC.less (by (repeat (first | exact List.Sublist.refl _ | apply List.Sublist.cons_cons | apply List.Sublist.cons)); done) (fun y hy => hy), .head _, (mS hS.out), HO, by omega⟩
      · go_roundg (sl st2)
        case measure => omega
        case rel => exact ⟨nd [47] [] [tA, t], ao, cap, _, st2, f, Nat.le_refl _, by omega, hC.less (by (repeat (first | exact List.Sublist.refl _ | apply List.Sublist.cons_cons | apply List.Sublist.cons)); done) (fun y hy => hy), .head _, (mS hS.out), HO, by omega⟩
      · go_roundg (sl st2)
        case measure => omega
        case rel => exact ⟨nd [47] [] [tA, t], ao, cap, _, st2, f, Nat.le_refl _, by omega, hC.less (by (repeat (first | exact List.Sublist.refl _ | apply List.Sublist.cons_cons | apply List.Sublist.cons)); done) (fun y hy => hy), .head _, (mS hS.out), HO, by omega⟩
      all_goals (refine hC.rc ?_; refine endRN HO (hC.fin mSub hM.out (mS hS.out)))
theorem q_rsum {E : Env} {B : Nat} {w0 w : World} {st : Option (List Tok)} {H : List Bx} {L : List Tn} {R : Rc} {n : Nat} (RC : Cw E R n) (hg : GoodE E) (hC : Cx E B w0 w (.r st) H L) (hn : sl st ≤ n) :
    Calls Tryz.prog 167 #[.pointer (some ⟨E.b, 0, none⟩)] w (RN E B w0 H L (st.bind (sumF R))) := by
  obtain ⟨o, ho⟩ : ∃ o, st.bind (sumF R) = o := ⟨_, rfl⟩
  rw [ho]
  have HO : Hid (st.bind (fun ts => bd ((proF R) ts) fun x r => chN (proF R) (sgLk [[43], [45], [124, 124]]) (r.length + 1) x r) = o) := by
    rw [← ho]
    show _ = _
    congr 1
    funext ts
    exact (chF_x (proF R) (sgLk [[43], [45], [124, 124]]) ts).symm
  clear ho
  have h601 := hC.rsl
  go_enter Tryz.func167, Tryz.ntmps167
  go_wp2_with (first
  | (guard_target = wpList _ _ _ (Oper.mk (some 2) (Op.alloc 24) _ _ _ _ :: _) _ _; refine hC.aN ?_; clear hC; intro W kR hC; (try simp only [pP]))
  | (guard_target = wpList _ _ _ (Oper.mk (some 3) (Op.alloc 24) _ _ _ _ :: _) _ _; refine hC.aN ?_; clear hC; intro W kN hC; (try simp only [pP]))
  | refine bL ?_
  | (refine bA ?_; clear hC; intro W k hC)
  | (refine bS ?_; clear hC; intro W hC)
  | (go_at_call 178; refine uN (q_rproduct RC hg hC (by omega)) HO ?_; clear hC HO; intro t st2 W ao cap he hC HO; have hl := sl_of (proF_Len RC.len) he; clear he))
  go_loopg [] (sl st2) (fun kx wr => ∃ (tA : Tr) (aA : Option Addr) (pA : Nat) (L' : List Tn) (st' : Option (List Tok)) (f : Nat), sl st' ≤ kx ∧ sl st' ≤ sl st ∧ Hid (Cx E B w0 wr (.r st') ((kN, ncs aA pA tA, 24) :: (kR, [.string ⟨#[]⟩, .string ⟨#[]⟩, .int .i64 0, .slice none 0 0], 24) :: H) L') ∧ Hid ((aA, pA, tA) ∈ L') ∧ Hid (∀ y ∈ L, y ∈ L') ∧ Hid (st'.bind (fun ts => chN (proF R) (sgLk [[43], [45], [124, 124]]) f tA ts) = o) ∧ sl st' ≤ f)
  case atStart => exact ⟨t, ao, cap, _, st2, sl st2, Nat.le_refl _, by omega, hC, .head _, mL, startC HO.out, Nat.le_refl _⟩
  case round =>
    rename World => wr
    clear hC HO
    obtain ⟨tA, aA, pA, L', st', f, hk, hst, hC', hM, hS, HO2, hf⟩ := hrel
    have hC := hC'.out
    clear hC'
    unfold ncs at hC
    cases st' with
    | none =>
      have HO : Hid ((none : Option (List Tok)).bind (fun r => some (tA, r)) = o) := HO2.out
      clear HO2
      go_wp2_with (first
      | refine bL ?_
      | (refine bA ?_; clear hC; intro W k hC)
      | (refine bS ?_; clear hC; intro W hC)
      | (refine bA ?_; clear hC; intro W k hC))
      all_goals (refine hC.rc ?_; refine endRN HO (hC.fin mSub hM.out (mS hS.out)))
    | some ts0 =>
      have hp0 := sl_pos ts0
      obtain ⟨f, rfl⟩ : ∃ f', f = f' + 1 := ⟨f - 1, by omega⟩
      have HO : Hid ((some ts0).bind (fun ts => og (sgF [43] ts) (fun _ r => bd ((proF R) r) fun x r2 => chN (proF R) (sgLk [[43], [45], [124, 124]]) f (nd [43] [] [tA, x]) r2) (og (sgF [45] ts) (fun _ r => bd ((proF R) r) fun x r2 => chN (proF R) (sgLk [[43], [45], [124, 124]]) f (nd [45] [] [tA, x]) r2) (og (sgF [124, 124] ts) (fun _ r => bd ((proF R) r) fun x r2 => chN (proF R) (sgLk [[43], [45], [124, 124]]) f (nd [124, 124] [] [tA, x]) r2) ((some (tA, ts)))))) = o) := by
        show _ = _
        rw [← HO2.out]
        exact congrArg ((some ts0).bind ·) (funext fun ts => chN_s3 (proF R) [43] [45] [124, 124] f tA ts)
      clear HO2
      go_wp2_with (first
      | refine bL ?_
      | (refine bA ?_; clear hC; intro W k hC)
      | (refine bS ?_; clear hC; intro W hC)
      | (go_at_call 15; refine aGot ?_ ?_ <;> clear hC HO; (focus (intro ts r W hC e hl HO; first | (cases e; done) | cases e)); rotate_left; (focus (intro hC HO)); rotate_left)
      | (guard_target = Code.wp _ (Code.region 11 _ true) _ _ _; refine wp_region_held_drew (S := HB []) (by kernel_rfl) (hC.drew.hbI0  ) (fun hHeld => ?_); replace hC := hC.drew; refine qk 0 ?_; (try simp only [pQ]); refine qk 2 ?_; (try simp only [pQ]); refine ry [1, 3] ?_; refine AllReadyH.cons rfl (fun K hK => ?_) (AllReadyH.cons rfl (fun K hK => ?_) AllReadyH.nil); (focus (refine st_of rfl ?_; refine wp_loadNM hC (by rfl) (by rfl) (by repeat (first | exact List.mem_cons_self | assumption | apply List.mem_cons_of_mem)) ?_; refine hK.out _ _ (hC.hbS0 ) fun hHeld => ?_; clear hK K; (try simp only [pQ]); refine ry [3] ?_; refine rd1 fun K hK => ?_; go_simp; (first | (go_at_call 178; refine uN (q_rproduct RC hg hC (by omega)) HO ?_; clear hC HO; intro t st2 W ao cap he hC HO; have hl := sl_of (proF_Len RC.len) he; clear he) | (go_at_call 33; guard_target = Calls _ _ #[_, _, _, Value.slice (some _) 2 2] _ _; (first | refine useRD (q_rnode2 _ _ _ hC (.tail _ hM.out) (.head _)) ?_); clear hC; intro W ao cap hC)); refine hK.out _ _ (hC.hbS0 ) fun hHeld => ?_; clear hK K; (try simp only [pQ]); refine ry [4] ?_; refine rd1 fun K hK => ?_; refine st_of rfl ?_; refine wp_build2C hC (by rfl) (by rfl) (by rfl) ?_; clear hC; intro W k hC; refine hK.out _ _ (hC.hbS0 ) fun hHeld => ?_; clear hK K; (try simp only [pQ]); refine ry [5] ?_; refine rd1 fun K hK => ?_; go_simp; (first | (go_at_call 178; refine uN (q_rproduct RC hg hC (by omega)) HO ?_; clear hC HO; intro t st2 W ao cap he hC HO; have hl := sl_of (proF_Len RC.len) he; clear he) | (go_at_call 33; guard_target = Calls _ _ #[_, _, _, Value.slice (some _) 2 2] _ _; (first | refine useRD (q_rnode2 _ _ _ hC (.tail _ hM.out) (.head _)) ?_); clear hC; intro W ao cap hC)); refine hK.out _ _ (hC.hbS0 ) fun hHeld => ?_; clear hK K; (try simp only [pQ]); refine ry [6] ?_; refine rd1 fun K hK => ?_; refine st_of rfl ?_; refine wsN ?_; clear hC; intro W hC; refine hK.out _ _ (hC.hbS0 ) fun hHeld => ?_; clear hK K; (try simp only [pQ]); refine dn ?_ _)); rotate_left; (focus (go_simp; (first | (go_at_call 178; refine uN (q_rproduct RC hg hC (by omega)) HO ?_; clear hC HO; intro t st2 W ao cap he hC HO; have hl := sl_of (proF_Len RC.len) he; clear he) | (go_at_call 33; guard_target = Calls _ _ #[_, _, _, Value.slice (some _) 2 2] _ _; (first | refine useRD (q_rnode2 _ _ _ hC (.tail _ hM.out) (.head _)) ?_); clear hC; intro W ao cap hC)); refine hK.out _ _ (hC.hbS0 ) fun hHeld => ?_; clear hK K; (try simp only [pQ]); refine ry [1] ?_; refine rd1 fun K hK => ?_; refine st_of rfl ?_; refine wp_loadNM hC (by rfl) (by rfl) (by repeat (first | exact List.mem_cons_self | assumption | apply List.mem_cons_of_mem)) ?_; refine hK.out _ _ (hC.hbS0 ) fun hHeld => ?_; clear hK K; (try simp only [pQ]); refine ry [4] ?_; refine rd1 fun K hK => ?_; refine st_of rfl ?_; refine wp_build2C hC (by rfl) (by rfl) (by rfl) ?_; clear hC; intro W k hC; refine hK.out _ _ (hC.hbS0 ) fun hHeld => ?_; clear hK K; (try simp only [pQ]); refine ry [5] ?_; refine rd1 fun K hK => ?_; go_simp; (first | (go_at_call 178; refine uN (q_rproduct RC hg hC (by omega)) HO ?_; clear hC HO; intro t st2 W ao cap he hC HO; have hl := sl_of (proF_Len RC.len) he; clear he) | (go_at_call 33; guard_target = Calls _ _ #[_, _, _, Value.slice (some _) 2 2] _ _; (first | refine useRD (q_rnode2 _ _ _ hC (.tail _ hM.out) (.head _)) ?_); clear hC; intro W ao cap hC)); refine hK.out _ _ (hC.hbS0 ) fun hHeld => ?_; clear hK K; (try simp only [pQ]); refine ry [6] ?_; refine rd1 fun K hK => ?_; refine st_of rfl ?_; refine wsN ?_; clear hC; intro W hC; refine hK.out _ _ (hC.hbS0 ) fun hHeld => ?_; clear hK K; (try simp only [pQ]); refine dn ?_ _)); rotate_left))
      · go_roundg (sl st2)
        case measure => omega
        case rel => exact ⟨nd [43] [] [tA, t], ao, cap, _, st2, f, Nat.le_refl _, by omega, hC.less (by (repeat (first | exact List.Sublist.refl _ | apply List.Sublist.cons_cons | apply List.Sublist.cons)); done) (fun y hy => hy), .head _, (mS hS.out), HO, by omega⟩
      · go_roundg (sl st2)
        case measure => omega
        case rel => exact ⟨nd [43] [] [tA, t], ao, cap, _, st2, f, Nat.le_refl _, by omega, hC.less (by (repeat (first | exact List.Sublist.refl _ | apply List.Sublist.cons_cons | apply List.Sublist.cons)); done) (fun y hy => hy), .head _, (mS hS.out), HO, by omega⟩
      · go_roundg (sl st2)
        case measure => omega
        case rel => exact ⟨nd [45] [] [tA, t], ao, cap, _, st2, f, Nat.le_refl _, by omega, hC.less (by (repeat (first | exact List.Sublist.refl _ | apply List.Sublist.cons_cons | apply List.Sublist.cons)); done) (fun y hy => hy), .head _, (mS hS.out), HO, by omega⟩
      · go_roundg (sl st2)
        case measure => omega
        case rel => exact ⟨nd [45] [] [tA, t], ao, cap, _, st2, f, Nat.le_refl _, by omega, hC.less (by (repeat (first | exact List.Sublist.refl _ | apply List.Sublist.cons_cons | apply List.Sublist.cons)); done) (fun y hy => hy), .head _, (mS hS.out), HO, by omega⟩
      · go_roundg (sl st2)
        case measure => omega
        case rel => exact ⟨nd [124, 124] [] [tA, t], ao, cap, _, st2, f, Nat.le_refl _, by omega, hC.less (by (repeat (first | exact List.Sublist.refl _ | apply List.Sublist.cons_cons | apply List.Sublist.cons)); done) (fun y hy => hy), .head _, (mS hS.out), HO, by omega⟩
      · go_roundg (sl st2)
        case measure => omega
        case rel => exact ⟨nd [124, 124] [] [tA, t], ao, cap, _, st2, f, Nat.le_refl _, by omega, hC.less (by (repeat (first | exact List.Sublist.refl _ | apply List.Sublist.cons_cons | apply List.Sublist.cons)); done) (fun y hy => hy), .head _, (mS hS.out), HO, by omega⟩
      all_goals (refine hC.rc ?_; refine endRN HO (hC.fin mSub hM.out (mS hS.out)))
end Go.Proofs.YtaenpacfbheppaaGreatDoor
namespace Go.Proofs.YtaenpacfbheppaaGreatDoor
open Go.RowKit
def cmpX (R : Rc) (s : Tr) (sg : List UInt8) (ts : List Tok) : Option (Tr × List Tok) := ow [97, 108, 108] ts (fun r => bd (parF R.body r) fun b r2 => some (nd [97, 108, 108] sg [s, b], r2)) (ow [97, 110, 121] ts (fun r => bd (parF R.body r) fun b r2 => some (nd [97, 110, 121] sg [s, b], r2)) (ow [115, 111, 109, 101] ts (fun r => bd (parF R.body r) fun b r2 => some (nd [97, 110, 121] sg [s, b], r2)) (bd (sumF R ts) fun x r => some (nd sg [] [s, x], r))))
def isX (s : Tr) (no : Bool) (ts : List Tok) : Option (Tr × List Tok) := ow [110, 117, 108, 108] ts (fun r => some (turnT no (nd [105, 115] [110, 117, 108, 108] [s]), r)) (ow [116, 114, 117, 101] ts (fun r => some (turnT no (nd [105, 115] [116, 114, 117, 101] [s]), r)) (ow [102, 97, 108, 115, 101] ts (fun r => some (turnT no (nd [105, 115] [102, 97, 108, 115, 101] [s]), r)) (ow [117, 110, 107, 110, 111, 119, 110] ts (fun r => some (turnT no (nd [105, 115] [117, 110, 107, 110, 111, 119, 110] [s]), r)) (none))))
def wtX0 (R : Rc) (s : Tr) (ts : List Tok) : Option (Tr × List Tok) := ow [98, 101, 116, 119, 101, 101, 110] ts (fun r => bd (sumF R r) fun lo r2 => (needF [[97, 110, 100]] r2).bind fun r3 => bd (sumF R r3) fun hi r4 => some (turnT false (nd [98, 101, 116, 119, 101, 101, 110] [] [s, lo, hi]), r4)) (ow [108, 105, 107, 101] ts (fun r => bd (sumF R r) fun x r2 => some (turnT false (nd [108, 105, 107, 101] [] [s, x]), r2)) (ow [105, 110] ts (fun r => bd (inX R s r) fun t r2 => some (turnT false t, r2)) (some (s, ts))))
def wtX1 (R : Rc) (s : Tr) (ts : List Tok) : Option (Tr × List Tok) := ow [98, 101, 116, 119, 101, 101, 110] ts (fun r => bd (sumF R r) fun lo r2 => (needF [[97, 110, 100]] r2).bind fun r3 => bd (sumF R r3) fun hi r4 => some (turnT true (nd [98, 101, 116, 119, 101, 101, 110] [] [s, lo, hi]), r4)) (ow [108, 105, 107, 101] ts (fun r => bd (sumF R r) fun x r2 => some (turnT true (nd [108, 105, 107, 101] [] [s, x]), r2)) (ow [105, 110] ts (fun r => bd (inX R s r) fun t r2 => some (turnT true t, r2)) (none)))
def rstX (R : Rc) (s : Tr) (ts : List Tok) : Option (Tr × List Tok) := ow [105, 115] ts (fun ts => ow [110, 111, 116] ts (fun r => isX s true r) (isX s false ts)) (ow [110, 111, 116] ts (fun ts => wtX1 R s ts) (wtX0 R s ts))
def tstX (R : Rc) (ts : List Tok) : Option (Tr × List Tok) := bd (sumF R ts) fun s ts => og (sgF [61] ts) (fun _ r => cmpX R s [61] r) (og (sgF [60, 62] ts) (fun _ r => cmpX R s [60, 62] r) (og (sgF [60] ts) (fun _ r => cmpX R s [60] r) (og (sgF [60, 61] ts) (fun _ r => cmpX R s [60, 61] r) (og (sgF [62] ts) (fun _ r => cmpX R s [62] r) (og (sgF [62, 61] ts) (fun _ r => cmpX R s [62, 61] r) (rstX R s ts))))))
theorem cmpX_eq (R : Rc) (s : Tr) (sg : List UInt8) (ts : List Tok) : cmpF R s sg ts = cmpX R s sg ts := by
  have ha : ∀ op r, cmpF.anyF R s sg op r = bd (parF R.body r) fun b r2 => some (nd op sg [s, b], r2) := fun op r => by
    unfold cmpF.anyF
    cases parF R.body r <;> rfl
  have hs : (match sumF R ts with | none => none | some (x, r) => some (nd sg [] [s, x], r)) = bd (sumF R ts) fun x r => some (nd sg [] [s, x], r) := by
    cases sumF R ts <;> rfl
  unfold cmpF cmpX ow
  rw [← hs]
  simp only [ha]
  cases ts with
  | nil => rfl
  | cons t r =>
    by_cases hk : t.k = 0
    · simp only [hB hk]
      by_cases w1 : t.s = [97, 110, 121]
      · simp only [w1]; rfl
      by_cases w2 : t.s = [115, 111, 109, 101]
      · simp only [w2]; rfl
      by_cases w3 : t.s = [97, 108, 108]
      · simp only [w3]; rfl
      simp only [beqN w1, beqN w2, beqN w3, Bool.false_and, Bool.false_eq_true, if_false]
      rfl
    · have e : ∀ w ws, tkB (w :: ws) (t :: r) = false := fun w ws => by simp [tkB, hk]
      simp only [e, Bool.false_eq_true, if_false]
      rfl
theorem og_one {β : Type} (u : List UInt8) (of : List (List UInt8)) (ts : List Tok) (A : List UInt8 → List Tok → Option β) (B : Option β) : og (oneF 3 (u :: of) ts) A B = og (sgF u ts) (fun _ r => A u r) (og (oneF 3 of ts) A B) := by
  rw [one_cons 3 u of]
  unfold og sgF
  cases h : oneF 3 [u] ts with
  | some p =>
    obtain ⟨x, r⟩ := p
    have := sg_fst (s := u) h
    subst this; rfl
  | none => rfl
theorem ow_one {β : Type} (u : List UInt8) (of : List (List UInt8)) (ts : List Tok) (A : List UInt8 → List Tok → Option β) (B : Option β) : og (oneF 0 (u :: of) ts) A B = ow u ts (fun r => A u r) (og (oneF 0 of ts) A B) := by
  rw [one_cons 0 u of]
  unfold ow
  cases ts with
  | nil => rfl
  | cons t r =>
    have e1 : tkB [u] (t :: r) = (t.k == 0 && t.s == u) := by simp [tkB]
    have e2 : oneF 0 [u] (t :: r) = if (t.k == 0 && t.s == u) = true then some (t.s, r) else none := by
      unfold oneF
      simp
    rw [e1, e2]
    cases h : (t.k == 0 && t.s == u) with
    | false => rfl
    | true =>
      rw [← e1] at h
      simp only [if_true]
      rw [tkR1 h]
      have : t.s = u := by rw [e1, Bool.and_eq_true] at h; exact eq_of_beq h.2
      rw [this]
      rfl
theorem isX_eq (s : Tr) (no : Bool) (ts : List Tok) : (match istF s ts with | none => none | some (t, r2) => some (turnT no t, r2)) = isX s no ts := by
  have e : (match istF s ts with | none => none | some (t, r2) => some (turnT no t, r2)) = og (oneF 0 [[110, 117, 108, 108], [116, 114, 117, 101], [102, 97, 108, 115, 101], [117, 110, 107, 110, 111, 119, 110]] ts) (fun w r => some (turnT no (nd [105, 115] w [s]), r)) none := by
    unfold istF og
    cases oneF 0 [[110, 117, 108, 108], [116, 114, 117, 101], [102, 97, 108, 115, 101], [117, 110, 107, 110, 111, 119, 110]] ts <;> rfl
  have e0 : oneF 0 [] ts = none := by
    unfold oneF
    cases ts <;> simp
  rw [e, ow_one, ow_one, ow_one, ow_one, e0]
  rfl
theorem wt_x (R : Rc) (s : Tr) (no : Bool) (ts : List Tok) (z : Option (Tr × List Tok)) : (match wtF R s ts with | none => none | some (some t, r2) => some (turnT no t, r2) | some (none, r2) => if r2 = ts then z else none) = ow [98, 101, 116, 119, 101, 101, 110] ts (fun r => bd (sumF R r) fun lo r2 => (needF [[97, 110, 100]] r2).bind fun r3 => bd (sumF R r3) fun hi r4 => some (turnT no (nd [98, 101, 116, 119, 101, 101, 110] [] [s, lo, hi]), r4)) (ow [108, 105, 107, 101] ts (fun r => bd (sumF R r) fun x r2 => some (turnT no (nd [108, 105, 107, 101] [] [s, x]), r2)) (ow [105, 110] ts (fun r => bd (inX R s r) fun t r2 => some (turnT no t, r2)) z)) := by
  unfold wtF ow
  cases h1 : tkB [[98, 101, 116, 119, 101, 101, 110]] ts with
  | true =>
    simp only [if_true]
    cases sumF R (tkR [[98, 101, 116, 119, 101, 101, 110]] ts) with
    | none => rfl
    | some p =>
      simp only [bd]
      cases needF [[97, 110, 100]] p.2 with
      | none => rfl
      | some r2 =>
        simp only [Option.bind_some]
        cases sumF R r2 <;> rfl
  | false =>
    simp only [Bool.false_eq_true, if_false]
    cases h2 : tkB [[108, 105, 107, 101]] ts with
    | true =>
      simp only [if_true]
      cases sumF R (tkR [[108, 105, 107, 101]] ts) <;> rfl
    | false =>
      simp only [Bool.false_eq_true, if_false]
      cases h3 : tkB [[105, 110]] ts with
      | true =>
        simp only [if_true]
        unfold inX
        cases h4 : opnB (tkR [[105, 110]] ts) with
        | true =>
          simp only [if_true]
          cases parF R.body (tkR [[105, 110]] ts) <;> rfl
        | false =>
          simp only [Bool.false_eq_true, if_false]
          rw [parX_eq]
          unfold parX
          cases sgF [40] (tkR [[105, 110]] ts) with
          | none => rfl
          | some p =>
            simp only [bd]
            cases lsF R.expr p.2 with
            | none => rfl
            | some q =>
              simp only
              cases sgF [41] q.2 <;> rfl
      | false => simp
theorem tstX_eq (R : Rc) : tstF R = tstX R := by
  funext ts
  unfold tstF tstX
  simp only [cmpX_eq]
  cases sumF R ts with
  | none => rfl
  | some p =>
    obtain ⟨s, r⟩ := p
    have e : (match oneF 3 [[61], [60, 62], [60], [60, 61], [62], [62, 61]] r with
      | some (sg, r2) => cmpX R s sg r2
      | none => rstX R s r) = og (oneF 3 [[61], [60, 62], [60], [60, 61], [62], [62, 61]] r) (fun sg r2 => cmpX R s sg r2) (rstX R s r) := by
      unfold og
      cases oneF 3 [[61], [60, 62], [60], [60, 61], [62], [62, 61]] r <;> rfl
    have e0 : oneF 3 [] r = none := by
      unfold oneF
      cases r <;> simp
    rw [og_one, og_one, og_one, og_one, og_one, og_one, e0] at e
    refine Eq.trans ?_ e
    have hr : (if tkB [[105, 115]] r then match istF s (tkR [[110, 111, 116]] (tkR [[105, 115]] r)) with
        | none => none
        | some (t, r2) => some (turnT (tkB [[110, 111, 116]] (tkR [[105, 115]] r)) t, r2)
      else match wtF R s (tkR [[110, 111, 116]] r) with
        | none => none
        | some (some t, r2) => some (turnT (tkB [[110, 111, 116]] r) t, r2)
        | some (none, r2) => if tkB [[110, 111, 116]] r then none else some (s, r2)) = rstX R s r := by
      unfold rstX ow
      cases h1 : tkB [[105, 115]] r with
      | true =>
        simp only [if_true]
        cases hn : tkB [[110, 111, 116]] (tkR [[105, 115]] r) with
        | true =>
          simp only [if_true]
          rw [← isX_eq]
        | false =>
          simp only [Bool.false_eq_true, if_false]
          rw [tkR_no1 hn, ← isX_eq]
      | false =>
        simp only [Bool.false_eq_true, if_false]
        cases hn : tkB [[110, 111, 116]] r with
        | true =>
          simp only [if_true]
          have h := wt_x R s true (tkR [[110, 111, 116]] r) none
          unfold wtX1
          rw [← h]
          cases wtF R s (tkR [[110, 111, 116]] r) with
          | none => rfl
          | some p =>
            obtain ⟨x, r2⟩ := p
            cases x <;> simp
        | false =>
          simp only [Bool.false_eq_true, if_false]
          rw [tkR_no1 hn]
          have h := wt_x R s false r (some (s, r))
          unfold wtX0
          rw [← h]
          have hw : ∀ r2, wtF R s r = some (none, r2) → r2 = r := fun r2 h => by
            unfold wtF at h
            split at h
            · split at h
              · cases h
              · split at h
                · cases h
                · split at h <;> cases h
            · split at h
              · split at h <;> cases h
              · split at h
                · split at h
                  · split at h <;> cases h
                  · split at h <;> cases h
                · cases h; rfl
          cases hwt : wtF R s r with
          | none => rfl
          | some p =>
            obtain ⟨x, r2⟩ := p
            cases x with
            | some t => rfl
            | none =>
              have := hw r2 hwt
              subst this
              simp
    cases hO : oneF 3 [[61], [60, 62], [60], [60, 61], [62], [62, 61]] r with
    | some p => simp only [hO]
    | none =>
      simp only [hO]
      exact hr
theorem q_rcompared {E : Env} {B : Nat} {w0 w : World} {st : Option (List Tok)} {H : List Bx} {L : List Tn} {R : Rc} {n : Nat} (RC : Cw E R n) {aS : Option Addr} {pZ : Nat} {s : Tr} (sg : List UInt8) (ht : (aS, pZ, s) ∈ L) (hg : GoodE E) (hC : Cx E B w0 w (.r st) H L) (hn : sl st ≤ n) (h0 : 0 < n) :
    Calls Tryz.prog 168 #[.pointer (some ⟨E.b, 0, none⟩), .string ⟨sg.toArray⟩, nv s.op s.s s.n aS s.L.length pZ] w (RN E B w0 H L (st.bind (cmpX R s sg))) := by
  obtain ⟨o, ho⟩ : ∃ o, st.bind (cmpX R s sg) = o := ⟨_, rfl⟩
  rw [ho]
  unfold cmpX at ho
  have HO := hidk ho
  clear ho
  have h601 := hC.rsl
  go_enter Tryz.func168, Tryz.ntmps168
  go_wp2_with (first
  | (refine bA ?_; clear hC; intro W k hC)
  | ((first | refine hC.bP ?_ | refine hC.bN ?_ | refine hC.b1 ?_); clear hC; intro W k hC; (try simp only [pP]))
  | refine bL ?_
  | (refine bS ?_; clear hC; intro W hC)
  | (go_at_call 15; refine aGot ?_ ?_ <;> clear hC HO; (focus (intro ts r W hC e hl HO; first | (cases e; done) | cases e)); rotate_left; (focus (intro hC HO)); rotate_left)
  | (guard_target = Code.wp _ (Code.region 2 _ true) _ _ _; refine wp_region_held_drew (S := HB [_]) (by kernel_rfl) (hC.drew.hbI1 1 (by rfl)) (fun hHeld => ?_); replace hC := hC.drew; refine qk 0 ?_; (try simp only [pQ]); refine qkN 1 ?_; (try simp only [pQ]); refine qk 2 ?_; (try simp only [pQ]); refine ry [3] ?_; refine rd1 fun K hK => ?_; go_simp; (first | (go_at_call 167; refine uN (q_rsum RC hg hC (by omega)) HO ?_; clear hC HO; intro t st2 W ao cap he hC HO; have hl := sl_of (sumF_Len RC.len) he; clear he)); refine hK.out _ _ hC.hb1' fun hHeld => ?_; clear hK K; (try simp only [pQ]); refine ry [4] ?_; refine rd1 fun K hK => ?_; refine st_of rfl ?_; refine wp_build2C hC (by rfl) (by rfl) (by rfl) ?_; clear hC; intro W k hC; refine hK.out _ _ hC.hb1' fun hHeld => ?_; clear hK K; (try simp only [pQ]); refine ry [5] ?_; refine rd1 fun K hK => ?_; go_simp; (first | (go_at_call 33; guard_target = Calls _ _ #[_, _, _, Value.slice (some _) 2 2] _ _; (first | refine useRD (q_rnode2 _ _ _ hC (.tail _ ht) (.head _)) ?_); clear hC; intro W ao cap hC)); refine hK.out _ _ hC.hb1' fun hHeld => ?_; clear hK K; (try simp only [pQ]); refine ry [6] ?_; refine rd1 fun K hK => ?_; refine st_of rfl ?_; refine wsN ?_; clear hC; intro W hC; refine hK.out _ _ hC.hb1' fun hHeld => ?_; clear hK K; (try simp only [pQ]); refine dn ?_ _)
  | (guard_target = Code.wp _ (Code.region 8 _ true) _ _ _; refine wp_region_held_drew (S := HB [_]) (by kernel_rfl) (hC.drew.hbI1 1 (by rfl)) (fun hHeld => ?_); replace hC := hC.drew; refine qk 0 ?_; (try simp only [pQ]); refine qk 1 ?_; (try simp only [pQ]); refine qkN 2 ?_; (try simp only [pQ]); refine qk 3 ?_; (try simp only [pQ]); refine ry [4] ?_; refine rd1 fun K hK => ?_; go_simp; (first | (go_at_call 179; refine useRN (q_inner RC hg hC (by omega) (by omega)) ?_; clear hC; intro t st2 W ao cap he hC; have hl := sl_of (fun ts x r h => by have := parF_len RC.len.body h; omega) he; replace HO := hidk (bindN he HO.out); clear he)); refine hK.out _ _ hC.hb1' fun hHeld => ?_; clear hK K; (try simp only [pQ]); refine ry [5] ?_; refine rd1 fun K hK => ?_; refine st_of rfl ?_; refine wp_build2C hC (by rfl) (by rfl) (by rfl) ?_; clear hC; intro W k hC; refine hK.out _ _ hC.hb1' fun hHeld => ?_; clear hK K; (try simp only [pQ]); refine ry [6] ?_; refine rd1 fun K hK => ?_; go_simp; (first | (go_at_call 33; guard_target = Calls _ _ #[_, _, _, Value.slice (some _) 2 2] _ _; (first | refine useRD (q_rnode2 _ _ _ hC (.tail _ ht) (.head _)) ?_); clear hC; intro W ao cap hC)); refine hK.out _ _ hC.hb1' fun hHeld => ?_; clear hK K; (try simp only [pQ]); refine ry [7] ?_; refine rd1 fun K hK => ?_; refine st_of rfl ?_; refine wsN ?_; clear hC; intro W hC; refine hK.out _ _ hC.hb1' fun hHeld => ?_; clear hK K; (try simp only [pQ]); refine dn ?_ _))
  all_goals (refine hC.rc ?_; first | exact endRN HO (hC.fin mSub mMem mL) | exact endR0 HO (hC.fin mSub mMem mL))
end Go.Proofs.YtaenpacfbheppaaGreatDoor

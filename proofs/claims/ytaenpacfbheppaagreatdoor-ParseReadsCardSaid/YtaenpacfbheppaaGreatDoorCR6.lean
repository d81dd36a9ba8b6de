/- The document's reader: what is put in (walks by genr.py). -/
import Derived.Test.YtaenpacfbheppaaGreatDoorCR5
set_option maxHeartbeats 16000000
set_option maxRecDepth 100000
set_option linter.unusedVariables false
set_option linter.unusedSimpArgs false
namespace Go.Proofs.YtaenpacfbheppaaGreatDoor
open Go.RowKit
def insX (R : Rc) (ts : List Tok) : Option (Tr × List Tok) := (needF [[105, 110, 116, 111]] ts).bind fun r0 => bd (nameF r0) fun s r => if opnB r = true then (if sdB 0 3 [40] r = true then ow [118, 97, 108, 117, 101, 115] r (fun r5 => bd (rowF R r5) fun x r6 => bd (lsN (rowF R) (r6.length + 1) [x] r6) (fun l r4 => some (nd [105, 110, 115, 101, 114, 116] s [(nd [99, 111, 108, 117, 109, 110, 115] [] []), nd [118, 97, 108, 117, 101, 115] [] l], r4))) (bd (R.body r) fun b r5 => some (nd [105, 110, 115, 101, 114, 116] s [(nd [99, 111, 108, 117, 109, 110, 115] [] []), b], r5)) else ow [118, 97, 108, 117, 101, 115] r (fun r5 => bd (rowF R r5) fun x r6 => bd (lsN (rowF R) (r6.length + 1) [x] r6) (fun l r4 => some (nd [105, 110, 115, 101, 114, 116] s [(nd [99, 111, 108, 117, 109, 110, 115] [] []), nd [118, 97, 108, 117, 101, 115] [] l], r4))) (bd (R.body r) fun b r5 => some (nd [105, 110, 115, 101, 114, 116] s [(nd [99, 111, 108, 117, 109, 110, 115] [] []), b], r5))) else (if sdB 0 3 [40] r = true then bd (namesF r) fun lN r2 => ow [118, 97, 108, 117, 101, 115] r2 (fun r5 => bd (rowF R r5) fun x r6 => bd (lsN (rowF R) (r6.length + 1) [x] r6) (fun l r4 => some (nd [105, 110, 115, 101, 114, 116] s [(nd [99, 111, 108, 117, 109, 110, 115] [] lN), nd [118, 97, 108, 117, 101, 115] [] l], r4))) (bd (R.body r2) fun b r5 => some (nd [105, 110, 115, 101, 114, 116] s [(nd [99, 111, 108, 117, 109, 110, 115] [] lN), b], r5)) else ow [118, 97, 108, 117, 101, 115] r (fun r5 => bd (rowF R r5) fun x r6 => bd (lsN (rowF R) (r6.length + 1) [x] r6) (fun l r4 => some (nd [105, 110, 115, 101, 114, 116] s [(nd [99, 111, 108, 117, 109, 110, 115] [] []), nd [118, 97, 108, 117, 101, 115] [] l], r4))) (bd (R.body r) fun b r5 => some (nd [105, 110, 115, 101, 114, 116] s [(nd [99, 111, 108, 117, 109, 110, 115] [] []), b], r5)))
theorem ins_e (R : Rc) (s : List UInt8) (c : Tr) (r : List Tok) : insEndF R s c r = ow [118, 97, 108, 117, 101, 115] r (fun r5 => bd (rowF R r5) fun x r6 => bd (lsN (rowF R) (r6.length + 1) [x] r6) (fun l r4 => some (nd [105, 110, 115, 101, 114, 116] s [c, nd [118, 97, 108, 117, 101, 115] [] l], r4))) (bd (R.body r) fun b r5 => some (nd [105, 110, 115, 101, 114, 116] s [c, b], r5)) := by
  unfold insEndF
  cases h : tkB [[118, 97, 108, 117, 101, 115]] r with
  | true =>
    rw [ow_t h]
    simp only [if_true]
    rw [← lsF_x]
    cases lsF (rowF R) (tkR [[118, 97, 108, 117, 101, 115]] r) <;> rfl
  | false =>
    rw [ow_f h]
    simp only [Bool.false_eq_true, if_false]
    cases R.body r <;> rfl
theorem insX_eq (R : Rc) : (fun r => match needF [[105, 110, 116, 111]] r with | none => none | some r2 => insF R r2) = insX R := by
  funext ts
  unfold insX
  cases needF [[105, 110, 116, 111]] ts with
  | none => rfl
  | some r0 =>
    simp only [Option.bind_some]
    unfold insF
    cases nameF r0 with
    | none => rfl
    | some p =>
      obtain ⟨s, r⟩ := p
      rw [bd_at]
      simp only [ins_e]
      cases opnB r <;> cases sdB 0 3 [40] r <;> try rfl
      show (match namesF r with | none => none | some (l, r2) => _) = bd (namesF r) _
      cases namesF r <;> rfl
theorem rowF_Len2 {R : Rc} (hR : R.Len) {ts r : List Tok} {x : Tr} (h : rowF R ts = some (x, r)) : r.length ≤ ts.length := by
  have hp := @parF_len (List Tr) (lsF R.expr) (lsF_Len hR.expr)
  unfold rowF at h
  grind
theorem q_rinsert {E : Env} {B : Nat} {w0 w : World} {st : Option (List Tok)} {H : List Bx} {L : List Tn} {R : Rc} {n : Nat} (RC : Cw E R n) (hg : GoodE E) (hC : Cx E B w0 w (.r st) H L) (hn : sl st ≤ n) (hn0 : 0 < n) :
    Calls Tryz.prog 36 #[.pointer (some ⟨E.b, 0, none⟩)] w (RN E B w0 H L (st.bind (insX R))) := by
  obtain ⟨o, ho⟩ : ∃ o, st.bind (insX R) = o := ⟨_, rfl⟩
  rw [ho]
  unfold insX at ho
  have HO := hidk ho
  clear ho
  have h601 := hC.rsl
  go_enter Tryz.func36, Tryz.ntmps36
  go_wp2_with (first
  | (guard_target = wpList _ _ _ (Oper.mk (some 2) (Op.alloc 24) _ _ _ _ :: _) _ _; refine hC.aN ?_; clear hC; intro W kR hC; (try simp only [pP]))
  | (guard_target = wpList _ _ _ (Oper.mk (some 7) (Op.alloc 24) _ _ _ _ :: _) _ _; refine hC.aN ?_; clear hC; intro W kC hC; (try simp only [pP]))
  | (refine bA ?_; clear hC; intro W k hC)
  | refine bL ?_
  | (refine bS ?_; clear hC; intro W hC)
  | (go_at_call 35; refine aMust ?_; clear hC HO; intro st2 W hC hl HO)
  | (go_at_call 34; refine aName ?_; clear hC HO; intro s st2 W hC hl HO)
  | (go_at_call 68; have hD := hC; clear hC; refine opensK hg hD ?_ ?_; (focus (intro ts e hb hC; clear hD; have hp := sl_pos ts; first | (cases e; done) | (cases e; replace HO := hidk (bindC (c := opnB) hb HO.out); clear hb))); rotate_left; (focus (intro hb hC; clear hD; replace HO := hidk (bindD (c := opnB) hb HO.out); clear hb); rotate_left))
  | (go_at_call 29; refine aIs ?_ ?_ <;> clear hC HO; (focus (intro ts hC e hl HO; first | (cases e; done) | cases e)); rotate_left; (focus (intro hC HO)); rotate_left)
  | (go_at_call 66; refine useRL (q_rnames hg hC) ?_; clear hC; intro lN st2 W aN pN he hC h0l h1l; have hl := sl_of (fun ts x r h => namesF_len2 h) he; replace HO := hidk (bindN he HO.out); clear he)
  | (go_at_call 15; refine aGot ?_ ?_ <;> clear hC HO; (focus (intro ts r W hC e hl HO; first | (cases e; done) | cases e)); rotate_left; (focus (intro hC HO)); rotate_left)
  | (go_at_call 33; guard_target = Calls _ _ #[_, _, _, Value.slice none 0 0] _ _; (first | refine useRD (q_rnode0 hC _ _ _) ?_); clear hC; intro W aC pC hC)
  | (go_at_call 33; guard_target = Calls _ _ #[_, _, _, Value.slice _ (List.length _) _] _ _; have hD := hC; clear hC; (first | refine useRD (q_rnodeL _ _ _ hD (.head _) rfl (by first | omega | (simp; omega))) ?_); intro W aC pC hC; clear hD)
  | (go_at_call 69; refine uN (q_rrow RC hg hC (by omega) (by omega)) HO ?_; clear hC HO; intro t st2 W ao cap he hC HO; have hl := sl_of (fun ts x r h => rowF_Len2 RC.len h) he; clear he)
  | (guard_target = Code.wp _ (Code.region 10 _ true) _ _ _; refine wp_region_held_drew (S := HB [_]) (by kernel_rfl) (hC.drew.hbI1 0 (by rfl)) (fun hHeld => ?_); replace hC := hC.drew; refine qk 0 ?_; (try simp only [pQ]); refine qkN 1 ?_; (try simp only [pQ]); refine qk 2 ?_; (try simp only [pQ]); refine ry [3] ?_; refine rd1 fun K hK => ?_; go_simp; (first | (go_at_call 63; refine uN (RC.body hC (by omega)) HO ?_; clear hC HO; intro t st2 W ao cap he hC HO; have hl := sl_of RC.len.body he; clear he)); refine hK.out _ _ hC.hb1' fun hHeld => ?_; clear hK K; (try simp only [pQ]); refine ry [4] ?_; refine rd1 fun K hK => ?_; refine st_of rfl ?_; refine wp_build2C hC (by rfl) (by rfl) (by rfl) ?_; clear hC; intro W k hC; refine hK.out _ _ hC.hb1' fun hHeld => ?_; clear hK K; (try simp only [pQ]); refine ry [5] ?_; refine rd1 fun K hK => ?_; go_simp; (first | (go_at_call 33; guard_target = Calls _ _ #[_, _, _, Value.slice (some _) 2 2] _ _; refine m6 ?_; clear hC; intro W ao cap hC)); refine hK.out _ _ hC.hb1' fun hHeld => ?_; clear hK K; (try simp only [pQ]); refine ry [6] ?_; refine rd1 fun K hK => ?_; refine st_of rfl ?_; refine wsN ?_; clear hC; intro W hC; refine hK.out _ _ hC.hb1' fun hHeld => ?_; clear hK K; (try simp only [pQ]); refine dn ?_ _)
  | (go_at_call 33; guard_target = Calls _ _ #[_, _, _, Value.slice (some _) 1 1] _ _; refine m5 ?_; clear hC; intro W ao cap hC))
  all_goals (try (solve | (refine hC.rc ?_; refine endRN HO (hC.fin ?_ ?_ ?_); (repeat (first | exact List.Sublist.refl _ | apply List.Sublist.cons)); (repeat (first | exact List.mem_cons_self | apply List.mem_cons_of_mem)); intro y hy; first | ((repeat (first | exact hy | apply List.mem_cons_of_mem)); done) | (have hy := hS.out y hy; (repeat (first | exact hy | apply List.mem_cons_of_mem)); done))))
  all_goals
    · go_loopg [8] (sl st2) (fun kx sv wr => ∃ (c : Tr) (k : Nat) (l : List Tr) (cp : Nat) (cur : List Value) (ks : List Kid) (L' : List Tn) (st' : Option (List Tok)) (f : Nat), Hid (st'.bind (fun ts => bd (lsN (rowF R) f l ts) (fun l r4 => some (nd [105, 110, 115, 101, 114, 116] s [c, nd [118, 97, 108, 117, 101, 115] [] l], r4))) = o) ∧ sv = .slice (some ⟨k, 0, none⟩) l.length cp ∧ sl st' ≤ kx ∧ Hid (Cx E B w0 wr (.r st') ((k, cur, 24) :: (kC, ncs aC pC c, 24) :: (kR, [.string ⟨#[]⟩, .string ⟨#[]⟩, .int .i64 0, .slice none 0 0], 24) :: H) L') ∧ Hid (Rw cp l ks cur) ∧ Hid (Rin ks l L') ∧ Hid (∀ y ∈ L, y ∈ L') ∧ Hid ((aC, pC, c) ∈ L') ∧ sl st' ≤ f ∧ l.length + sl st' ≤ 602 ∧ sl st' ≤ n ∧ 0 < l.length)
      case atStart => exact ⟨_, _, [t], 1, _, _, _, st2, sl st2, startL HO.out, rfl, Nat.le_refl _, hC, Rw.one, Rin.one (.head _), mL, .tail _ (.head _), Nat.le_refl _, by simp; omega, by omega, by simp⟩
      case round =>
        rename World => wr
        clear hC HO
        obtain ⟨c, k, l, cp, cur, ks, L', st', f, HO2, rfl, hk, hC', hR, hN, hS, hM, hf, h6, hst, h0⟩ := hrel
        have hC := hC'.out
        clear hC'
        unfold ncs at hC
        cases st' with
        | none =>
          have HO : Hid ((none : Option (List Tok)).bind ((fun l r4 => some (nd [105, 110, 115, 101, 114, 116] s [c, nd [118, 97, 108, 117, 101, 115] [] l], r4)) l) = o) := HO2.out
          clear HO2
          go_wp2_with (first
          | refine bL ?_
          | (refine bA ?_; clear hC; intro W k hC)
          | (refine bS ?_; clear hC; intro W hC)
          | (guard_target = Code.wp _ (Code.region 16 _ true) _ _ _; refine wp_region_held_drew (S := HB [_]) (by kernel_rfl) (hC.drew.hbI1 1 (by rfl)) (fun hHeld => ?_); replace hC := hC.drew; refine qk 0 ?_; (try simp only [pQ]); refine qkN 1 ?_; (try simp only [pQ]); refine qk 2 ?_; (try simp only [pQ]); refine ry [3] ?_; refine rd1 fun K hK => ?_; go_simp; (first | (go_at_call 33; guard_target = Calls _ _ #[_, _, _, Value.slice (some _) (List.length _) _] _ _; have hD := hC; clear hC; have hE := hD.madeAt 0 (by rfl) hR.out hN.out h0 [] [] 0; simp only [List.eraseIdx_cons_zero, List.eraseIdx_cons_succ] at hE; refine useRD (q_rnodeL _ _ _ hE (.head _) rfl (by first | omega | (simp; omega))) ?_; intro W aO pO hC; clear hD hE) | (go_at_call 33; guard_target = Calls _ _ #[_, _, _, Value.slice (some _) 2 2] _ _; (first | refine useRD (q_rnode2 _ _ _ hC (.tail _ (.tail _ hM.out)) (.head _)) ?_); clear hC; intro W ao cap hC)); refine hK.out _ _ hC.hb1' fun hHeld => ?_; clear hK K; (try simp only [pQ]); refine ry [4] ?_; refine rd1 fun K hK => ?_; refine st_of rfl ?_; refine wp_build2C hC (by rfl) (by rfl) (by rfl) ?_; clear hC; intro W k hC; refine hK.out _ _ hC.hb1' fun hHeld => ?_; clear hK K; (try simp only [pQ]); refine ry [5] ?_; refine rd1 fun K hK => ?_; go_simp; (first | (go_at_call 33; guard_target = Calls _ _ #[_, _, _, Value.slice (some _) (List.length _) _] _ _; have hD := hC; clear hC; have hE := hD.madeAt 0 (by rfl) hR.out hN.out h0 [] [] 0; simp only [List.eraseIdx_cons_zero, List.eraseIdx_cons_succ] at hE; refine useRD (q_rnodeL _ _ _ hE (.head _) rfl (by first | omega | (simp; omega))) ?_; intro W aO pO hC; clear hD hE) | (go_at_call 33; guard_target = Calls _ _ #[_, _, _, Value.slice (some _) 2 2] _ _; (first | refine useRD (q_rnode2 _ _ _ hC (.tail _ (.tail _ hM.out)) (.head _)) ?_); clear hC; intro W ao cap hC)); refine hK.out _ _ hC.hb1' fun hHeld => ?_; clear hK K; (try simp only [pQ]); refine ry [6] ?_; refine rd1 fun K hK => ?_; refine st_of rfl ?_; refine wsN ?_; clear hC; intro W hC; refine hK.out _ _ hC.hb1' fun hHeld => ?_; clear hK K; (try simp only [pQ]); refine dn ?_ _))
          all_goals (refine hC.rc ?_; refine endRN HO (hC.fin ?_ ?_ ?_); (repeat (first | exact List.Sublist.refl _ | apply List.Sublist.cons)); (repeat (first | exact List.mem_cons_self | apply List.mem_cons_of_mem)); intro y hy; first | ((repeat (first | exact hy | apply List.mem_cons_of_mem)); done) | (have hy := hS.out y hy; (repeat (first | exact hy | apply List.mem_cons_of_mem)); done))
        | some ts0 =>
          have hp0 := sl_pos ts0
          obtain ⟨f, rfl⟩ : ∃ f', f = f' + 1 := ⟨f - 1, by omega⟩
          have HO3 := hidk (lsN_go (J := fun r k => bd (rowF R r) k) (fun r k => rfl) HO2.out)
          have HO : Hid ((some ts0).bind (fun ts => og (sgF [44] ts) (fun _ r => bd (rowF R r) (fun x r2 => bd (lsN (rowF R) f (l ++ [x]) r2) (fun l r4 => some (nd [105, 110, 115, 101, 114, 116] s [c, nd [118, 97, 108, 117, 101, 115] [] l], r4)))) ((fun l r4 => some (nd [105, 110, 115, 101, 114, 116] s [c, nd [118, 97, 108, 117, 101, 115] [] l], r4)) l ts)) = o) := HO3.out
          clear HO2 HO3
          go_wp2_with (first
          | refine bL ?_
          | (refine bA ?_; clear hC; intro W k hC)
          | (refine bS ?_; clear hC; intro W hC)
          | (go_at_call 15; refine aGot ?_ ?_ <;> clear hC HO; (focus (intro ts r W hC e hl HO; first | (cases e; done) | cases e)); rotate_left; (focus (intro hC HO)); rotate_left)
          | (go_at_call 69; refine uN (q_rrow RC hg hC (by omega) (by omega)) HO ?_; clear hC HO; intro t st2 W ao cap he hC HO; have hl := sl_of (fun ts x r h => rowF_Len2 RC.len h) he; clear he)
          | (at_builtin; have hD := hC; clear hC; refine wl_app1 rfl hD (.head _) 0 (by rfl) (by rfl) (by rfl) rfl hR.out (hN.out.mono mL) (by rfl) (by omega) ?_; clear hD; intro W k cap2 cur2 hC hR2 hN2; simp only [pS] at hC; (try simp only [pP]))
          | (guard_target = Code.wp _ (Code.region 16 _ true) _ _ _; refine wp_region_held_drew (S := HB [_]) (by kernel_rfl) (hC.drew.hbI1 1 (by rfl)) (fun hHeld => ?_); replace hC := hC.drew; refine qk 0 ?_; (try simp only [pQ]); refine qkN 1 ?_; (try simp only [pQ]); refine qk 2 ?_; (try simp only [pQ]); refine ry [3] ?_; refine rd1 fun K hK => ?_; go_simp; (first | (go_at_call 33; guard_target = Calls _ _ #[_, _, _, Value.slice (some _) (List.length _) _] _ _; have hD := hC; clear hC; have hE := hD.madeAt 0 (by rfl) hR.out hN.out h0 [] [] 0; simp only [List.eraseIdx_cons_zero, List.eraseIdx_cons_succ] at hE; refine useRD (q_rnodeL _ _ _ hE (.head _) rfl (by first | omega | (simp; omega))) ?_; intro W aO pO hC; clear hD hE) | (go_at_call 33; guard_target = Calls _ _ #[_, _, _, Value.slice (some _) 2 2] _ _; (first | refine useRD (q_rnode2 _ _ _ hC (.tail _ (.tail _ hM.out)) (.head _)) ?_); clear hC; intro W ao cap hC)); refine hK.out _ _ hC.hb1' fun hHeld => ?_; clear hK K; (try simp only [pQ]); refine ry [4] ?_; refine rd1 fun K hK => ?_; refine st_of rfl ?_; refine wp_build2C hC (by rfl) (by rfl) (by rfl) ?_; clear hC; intro W k hC; refine hK.out _ _ hC.hb1' fun hHeld => ?_; clear hK K; (try simp only [pQ]); refine ry [5] ?_; refine rd1 fun K hK => ?_; go_simp; (first | (go_at_call 33; guard_target = Calls _ _ #[_, _, _, Value.slice (some _) (List.length _) _] _ _; have hD := hC; clear hC; have hE := hD.madeAt 0 (by rfl) hR.out hN.out h0 [] [] 0; simp only [List.eraseIdx_cons_zero, List.eraseIdx_cons_succ] at hE; refine useRD (q_rnodeL _ _ _ hE (.head _) rfl (by first | omega | (simp; omega))) ?_; intro W aO pO hC; clear hD hE) | (go_at_call 33; guard_target = Calls _ _ #[_, _, _, Value.slice (some _) 2 2] _ _; (first | refine useRD (q_rnode2 _ _ _ hC (.tail _ (.tail _ hM.out)) (.head _)) ?_); clear hC; intro W ao cap hC)); refine hK.out _ _ hC.hb1' fun hHeld => ?_; clear hK K; (try simp only [pQ]); refine ry [6] ?_; refine rd1 fun K hK => ?_; refine st_of rfl ?_; refine wsN ?_; clear hC; intro W hC; refine hK.out _ _ hC.hb1' fun hHeld => ?_; clear hK K; (try simp only [pQ]); refine dn ?_ _)
          | (go_at_call 33; guard_target = Calls _ _ #[_, _, _, Value.slice (some _) 1 1] _ _; refine m5 ?_; clear hC; intro W ao cap hC))
          · go_roundg (sl st2)
            case measure => omega
            case rel => exact ⟨c, k, l ++ [t], cap2, cur2, _, _, st2, f, HO, (by simp), Nat.le_refl _, hC, hR2, hN2, (mS hS.out), (by have hy := hM.out; (repeat (first | exact hy | apply List.mem_cons_of_mem)); done), by omega, by simp; omega, by omega, by simp⟩
          all_goals (refine hC.rc ?_; refine endRN HO (hC.fin ?_ ?_ ?_); (repeat (first | exact List.Sublist.refl _ | apply List.Sublist.cons)); (repeat (first | exact List.mem_cons_self | apply List.mem_cons_of_mem)); intro y hy; first | ((repeat (first | exact hy | apply List.mem_cons_of_mem)); done) | (have hy := hS.out y hy; (repeat (first | exact hy | apply List.mem_cons_of_mem)); done))
end Go.Proofs.YtaenpacfbheppaaGreatDoor
namespace Go.Proofs.YtaenpacfbheppaaGreatDoor

theorem chF_none {I : Ps Tr} {K : Lk} {ts : List Tok} (h : I ts = none) : chF I K ts = none := by
  unfold chF
  rw [h]
theorem fac_cur (R : Rc) (v : Int) (a : Nat) (r : List Tok) : facF R (⟨0, [99, 117, 114, 114, 101, 110, 116], v, a⟩ :: r) = none := by rfl
theorem tst_cur (R : Rc) (v : Int) (a : Nat) (r : List Tok) : tstF R (⟨0, [99, 117, 114, 114, 101, 110, 116], v, a⟩ :: r) = none := by
  have h : sumF R (⟨0, [99, 117, 114, 114, 101, 110, 116], v, a⟩ :: r) = none := chF_none (chF_none (fac_cur R v a r))
  unfold tstF
  rw [h]
theorem expr_cur (R : Rc) (v : Int) (a : Nat) (r : List Tok) : exprF R (⟨0, [99, 117, 114, 114, 101, 110, 116], v, a⟩ :: r) = none := by
  have h : negF R (⟨0, [99, 117, 114, 114, 101, 110, 116], v, a⟩ :: r) = none := tst_cur R v a r
  exact chF_none (chF_none h)
def NoCur (R : Rc) : Prop := ∀ v a r, R.expr (⟨0, [99, 117, 114, 114, 101, 110, 116], v, a⟩ :: r) = none
theorem noCur_recsD : ∀ n, NoCur (recsD n)
  | 0 => fun _ _ _ => rfl
  | n + 1 => fun v a r => expr_cur (recsD n) v a r
theorem who_eq {R : Rc} (hR : NoCur R) : whoF R = whoX R := by
  funext ts
  unfold whoF whoX clsF
  cases hw : tkB [[119, 104, 101, 114, 101]] ts with
  | false =>
    have h3 : tkB [[119, 104, 101, 114, 101], [99, 117, 114, 114, 101, 110, 116], [111, 102]] ts = false := by
      cases ts with
      | nil => rfl
      | cons t r =>
        rw [tkB_hd] at hw ⊢
        simp only [tkB, Bool.and_true] at hw
        rw [hw]; rfl
    rw [h3, ow_f hw]
    simp only [Bool.false_eq_true, if_false]
  | true =>
    rw [ow_t hw]
    obtain ⟨t, r, rfl, hk, hs⟩ := (tk1 _ _).mp hw
    rw [tkR1 hw]
    have h3 : tkB [[119, 104, 101, 114, 101], [99, 117, 114, 114, 101, 110, 116], [111, 102]] (t :: r) = tkB [[99, 117, 114, 114, 101, 110, 116], [111, 102]] r := by
      rw [tkB_hd, hk, hs]
      simp
    rw [h3]
    have hb : ∀ x : Option (Tr × List Tok), (match x with | none => none | some (e, r) => some (nd [119, 104, 101, 114, 101] [] [e], r)) = bd x fun e r2 => some (nd [119, 104, 101, 114, 101] [] [e], r2) := fun x => by cases x <;> rfl
    cases hc : tkB [[99, 117, 114, 114, 101, 110, 116]] r with
    | false =>
      have h2 : tkB [[99, 117, 114, 114, 101, 110, 116], [111, 102]] r = false := by
        cases r with
        | nil => rfl
        | cons t2 r2 =>
          rw [tkB_hd] at hc ⊢
          simp only [tkB, Bool.and_true] at hc
          rw [hc]; rfl
      rw [h2, ow_f hc]
      simp only [Bool.false_eq_true, if_false, if_true]
      exact hb _
    | true =>
      rw [ow_t hc]
      obtain ⟨t2, r2, rfl, hk2, hs2⟩ := (tk1 _ _).mp hc
      rw [tkR1 hc]
      have h2 : tkB [[99, 117, 114, 114, 101, 110, 116], [111, 102]] (t2 :: r2) = tkB [[111, 102]] r2 := by
        rw [tkB_hd, hk2, hs2]
        simp
      rw [h2, need1]
      cases ho : tkB [[111, 102]] r2 with
      | false =>
        simp only [Bool.false_eq_true, if_false, if_true, Option.bind_none]
        obtain ⟨k2, s2, v2, a2⟩ := t2
        simp only at hk2 hs2
        subst hk2 hs2
        rw [hR]
      | true =>
        simp only [if_true, Option.bind_some]
        have h4 : tkR [[119, 104, 101, 114, 101], [99, 117, 114, 114, 101, 110, 116], [111, 102]] (t :: t2 :: r2) = tkR [[111, 102]] r2 := by
          unfold tkR
          rw [h3, h2, ho]
          simp
        rw [h4]
        cases nameF (tkR [[111, 102]] r2) <;> rfl
end Go.Proofs.YtaenpacfbheppaaGreatDoor
namespace Go.Proofs.YtaenpacfbheppaaGreatDoor
open Go.RowKit
theorem mor_set (R : Rc) : morD R [115, 101, 116] = fun ts => (needF [[116, 114, 97, 110, 115, 97, 99, 116, 105, 111, 110]] ts).bind fun r1 => (needF [[105, 115, 111, 108, 97, 116, 105, 111, 110]] r1).bind fun r2 => (needF [[108, 101, 118, 101, 108]] r2).bind fun r3 => levX r3 := by
  funext ts
  show isoD ts = _
  unfold isoD
  rw [← levX_eq]
  cases needF [[116, 114, 97, 110, 115, 97, 99, 116, 105, 111, 110]] ts with
  | none => rfl
  | some r1 =>
    simp only [Option.bind_some]
    cases needF [[105, 115, 111, 108, 97, 116, 105, 111, 110]] r1 with
    | none => rfl
    | some r2 =>
      simp only [Option.bind_some]
      cases needF [[108, 101, 118, 101, 108]] r2 with
      | none => rfl
      | some r3 =>
        simp only [Option.bind_some]
        cases lvlD r3 <;> rfl
theorem nmd_x (op : List UInt8) : nmdF op = fun ts => bd (nameF ts) fun s r => some (nd op s [], r) := by
  funext ts
  unfold nmdF
  cases nameF ts <;> rfl
theorem mor_open (R : Rc) : morD R [111, 112, 101, 110] = fun ts => bd (nameF ts) fun s r => some (nd [111, 112, 101, 110] s [], r) := by rw [← nmd_x]; rfl
theorem mor_close (R : Rc) : morD R [99, 108, 111, 115, 101] = fun ts => bd (nameF ts) fun s r => some (nd [99, 108, 111, 115, 101] s [], r) := by rw [← nmd_x]; rfl
theorem mor_else (R : Rc) {w : List UInt8} (h1 : (w == [115, 101, 116]) = false) (h2 : (w == [100, 101, 99, 108, 97, 114, 101]) = false) (h3 : (w == [111, 112, 101, 110]) = false) (h4 : (w == [99, 108, 111, 115, 101]) = false) (h5 : (w == [102, 101, 116, 99, 104]) = false) : morD R w = fun _ => none := by
  funext ts
  unfold morD
  simp only [h1, h2, h3, h4, h5, Bool.false_eq_true, if_false]
theorem q_rmore_set {E : Env} {B : Nat} {w0 w : World} {st : Option (List Tok)} {H : List Bx} {L : List Tn} {R : Rc} {n : Nat} (hg : GoodE E) (hC : Cx E B w0 w (.r st) H L) (hn : sl st ≤ n) :
    Calls Tryz.prog 39 #[.pointer (some ⟨E.b, 0, none⟩), .string ⟨#[115, 101, 116]⟩] w (RN E B w0 H L (st.bind (morD R [115, 101, 116]))) := by
  obtain ⟨o, ho⟩ : ∃ o, st.bind (morD R [115, 101, 116]) = o := ⟨_, rfl⟩
  rw [ho]
  rw [mor_set] at ho
  have HO := hidk ho
  clear ho
  have h601 := hC.rsl
  go_enter Tryz.func39, Tryz.ntmps39
  go_wp2_with (first
  | (refine bA ?_; clear hC; intro W k hC)
  | (refine bS ?_; clear hC; intro W hC)
  | (go_at_call 35; refine aMust ?_; clear hC HO; intro st2 W hC hl HO)
  | (go_at_call 71; refine useRN (q_rlevel hg hC) ?_; clear hC; intro t st2 W ao cap he hC; replace HO := hidk ((bindAll HO.out he)); clear he))
  all_goals (refine hC.rc ?_; first | exact endRN HO (hC.fin mSub mMem mL) | exact endR0 HO (hC.fin mSub mMem mL))
theorem q_rmore_open {E : Env} {B : Nat} {w0 w : World} {st : Option (List Tok)} {H : List Bx} {L : List Tn} {R : Rc} {n : Nat} (hg : GoodE E) (hC : Cx E B w0 w (.r st) H L) (hn : sl st ≤ n) :
    Calls Tryz.prog 39 #[.pointer (some ⟨E.b, 0, none⟩), .string ⟨#[111, 112, 101, 110]⟩] w (RN E B w0 H L (st.bind (morD R [111, 112, 101, 110]))) := by
  obtain ⟨o, ho⟩ : ∃ o, st.bind (morD R [111, 112, 101, 110]) = o := ⟨_, rfl⟩
  rw [ho]
  rw [mor_open] at ho
  have HO := hidk ho
  clear ho
  have h601 := hC.rsl
  go_enter Tryz.func39, Tryz.ntmps39
  go_wp2_with (first
  | (refine bA ?_; clear hC; intro W k hC)
  | (refine bS ?_; clear hC; intro W hC)
  | (go_at_call 34; refine aName ?_; clear hC HO; intro s st2 W hC hl HO)
  | (go_at_call 33; guard_target = Calls _ _ #[_, _, _, Value.slice none 0 0] _ _; (first | refine useRD (q_rnode0 hC _ _ _) ?_); clear hC; intro W ao cap hC))
  all_goals (refine hC.rc ?_; first | exact endRN HO (hC.fin mSub mMem mL) | exact endR0 HO (hC.fin mSub mMem mL))
theorem q_rmore_close {E : Env} {B : Nat} {w0 w : World} {st : Option (List Tok)} {H : List Bx} {L : List Tn} {R : Rc} {n : Nat} (hg : GoodE E) (hC : Cx E B w0 w (.r st) H L) (hn : sl st ≤ n) :
    Calls Tryz.prog 39 #[.pointer (some ⟨E.b, 0, none⟩), .string ⟨#[99, 108, 111, 115, 101]⟩] w (RN E B w0 H L (st.bind (morD R [99, 108, 111, 115, 101]))) := by
  obtain ⟨o, ho⟩ : ∃ o, st.bind (morD R [99, 108, 111, 115, 101]) = o := ⟨_, rfl⟩
  rw [ho]
  rw [mor_close] at ho
  have HO := hidk ho
  clear ho
  have h601 := hC.rsl
  go_enter Tryz.func39, Tryz.ntmps39
  go_wp2_with (first
  | (refine bA ?_; clear hC; intro W k hC)
  | (refine bS ?_; clear hC; intro W hC)
  | (go_at_call 34; refine aName ?_; clear hC HO; intro s st2 W hC hl HO)
  | (go_at_call 33; guard_target = Calls _ _ #[_, _, _, Value.slice none 0 0] _ _; (first | refine useRD (q_rnode0 hC _ _ _) ?_); clear hC; intro W ao cap hC))
  all_goals (refine hC.rc ?_; first | exact endRN HO (hC.fin mSub mMem mL) | exact endR0 HO (hC.fin mSub mMem mL))
theorem q_rmore_declare {E : Env} {B : Nat} {w0 w : World} {st : Option (List Tok)} {H : List Bx} {L : List Tn} {R : Rc} {n : Nat} (HD : ∀ {B : Nat} {w0 w : World} {st : Option (List Tok)} {H : List Bx} {L : List Tn}, Cx E B w0 w (.r st) H L → sl st ≤ n → Calls Tryz.prog 72 #[.pointer (some ⟨E.b, 0, none⟩)] w (RN E B w0 H L (st.bind (decD R)))) (hHD : Len (decD R)) (hg : GoodE E) (hC : Cx E B w0 w (.r st) H L) (hn : sl st ≤ n) :
    Calls Tryz.prog 39 #[.pointer (some ⟨E.b, 0, none⟩), .string ⟨#[100, 101, 99, 108, 97, 114, 101]⟩] w (RN E B w0 H L (st.bind (morD R [100, 101, 99, 108, 97, 114, 101]))) := by
  obtain ⟨o, ho⟩ : ∃ o, st.bind (morD R [100, 101, 99, 108, 97, 114, 101]) = o := ⟨_, rfl⟩
  rw [ho]
  replace ho : st.bind (decD R) = o := ho
  have HO := hidk ho
  clear ho
  have h601 := hC.rsl
  go_enter Tryz.func39, Tryz.ntmps39
  go_wp2_with (first
  | (refine bA ?_; clear hC; intro W k hC)
  | (refine bS ?_; clear hC; intro W hC)
  | (go_at_call 72; refine useRN (HD hC (by omega)) ?_; clear hC; intro t st2 W ao cap he hC; replace HO := hidk ((bindAll HO.out he)); clear he))
  all_goals (refine hC.rc ?_; first | exact endRN HO (hC.fin mSub mMem mL) | exact endR0 HO (hC.fin mSub mMem mL))
theorem q_rmore_fetch {E : Env} {B : Nat} {w0 w : World} {st : Option (List Tok)} {H : List Bx} {L : List Tn} {R : Rc} {n : Nat} (HF : ∀ {B : Nat} {w0 w : World} {st : Option (List Tok)} {H : List Bx} {L : List Tn}, Cx E B w0 w (.r st) H L → sl st ≤ n → Calls Tryz.prog 73 #[.pointer (some ⟨E.b, 0, none⟩)] w (RN E B w0 H L (st.bind (fetF)))) (hHF : Len (fetF)) (hg : GoodE E) (hC : Cx E B w0 w (.r st) H L) (hn : sl st ≤ n) :
    Calls Tryz.prog 39 #[.pointer (some ⟨E.b, 0, none⟩), .string ⟨#[102, 101, 116, 99, 104]⟩] w (RN E B w0 H L (st.bind (morD R [102, 101, 116, 99, 104]))) := by
  obtain ⟨o, ho⟩ : ∃ o, st.bind (morD R [102, 101, 116, 99, 104]) = o := ⟨_, rfl⟩
  rw [ho]
  replace ho : st.bind fetF = o := ho
  have HO := hidk ho
  clear ho
  have h601 := hC.rsl
  go_enter Tryz.func39, Tryz.ntmps39
  go_wp2_with (first
  | (refine bA ?_; clear hC; intro W k hC)
  | (refine bS ?_; clear hC; intro W hC)
  | (go_at_call 73; refine useRN (HF hC (by omega)) ?_; clear hC; intro t st2 W ao cap he hC; replace HO := hidk ((bindAll HO.out he)); clear he))
  all_goals (refine hC.rc ?_; first | exact endRN HO (hC.fin mSub mMem mL) | exact endR0 HO (hC.fin mSub mMem mL))
end Go.Proofs.YtaenpacfbheppaaGreatDoor
namespace Go.Proofs.YtaenpacfbheppaaGreatDoor
open Go.RowKit
theorem q_rmore_else {E : Env} {B : Nat} {w0 w : World} {st : Option (List Tok)} {H : List Bx} {L : List Tn} {R : Rc} {w1 : List UInt8} (h1 : (w1 == [115, 101, 116]) = false) (h2 : (w1 == [100, 101, 99, 108, 97, 114, 101]) = false) (h3 : (w1 == [111, 112, 101, 110]) = false) (h4 : (w1 == [99, 108, 111, 115, 101]) = false) (h5 : (w1 == [102, 101, 116, 99, 104]) = false) (hg : GoodE E) (hC : Cx E B w0 w (.r st) H L) :
    Calls Tryz.prog 39 #[.pointer (some ⟨E.b, 0, none⟩), .string ⟨w1.toArray⟩] w (RN E B w0 H L (st.bind (morD R w1))) := by
  obtain ⟨o, ho⟩ : ∃ o, st.bind (morD R w1) = o := ⟨_, rfl⟩
  rw [ho]
  rw [mor_else R h1 h2 h3 h4 h5] at ho
  have HO := hidk ho
  clear ho
  have h601 := hC.rsl
  go_enter Tryz.func39, Tryz.ntmps39
  go_wp2_with (first
  | (refine bA ?_; clear hC; intro W k hC)
  | (refine bS ?_; clear hC; intro W hC)
  | ((first | refine hC.sbT ?_ | refine hC.sbF ?_); clear hC; intro W hC; (try simp only [pP])))
  all_goals (refine hC.rc ?_; refine endR0 (T := .mk [] [] 0 []) (ao := none) (cap := 0) HO ((hC.leaf [] [] 0).fin ?_ ?_ ?_); (repeat (first | exact List.Sublist.refl _ | apply List.Sublist.cons)); (repeat (first | exact List.mem_cons_self | apply List.mem_cons_of_mem)); intro y hy; (repeat (first | exact hy | apply List.mem_cons_of_mem)); done)
theorem q_rmore {E : Env} {B : Nat} {w0 w : World} {st : Option (List Tok)} {H : List Bx} {L : List Tn} {R : Rc} {n : Nat} (HD : ∀ {B : Nat} {w0 w : World} {st : Option (List Tok)} {H : List Bx} {L : List Tn}, Cx E B w0 w (.r st) H L → sl st ≤ n → Calls Tryz.prog 72 #[.pointer (some ⟨E.b, 0, none⟩)] w (RN E B w0 H L (st.bind (decD R)))) (hHD : Len (decD R)) (HF : ∀ {B : Nat} {w0 w : World} {st : Option (List Tok)} {H : List Bx} {L : List Tn}, Cx E B w0 w (.r st) H L → sl st ≤ n → Calls Tryz.prog 73 #[.pointer (some ⟨E.b, 0, none⟩)] w (RN E B w0 H L (st.bind (fetF)))) (hHF : Len (fetF)) (w1 : List UInt8) (hg : GoodE E) (hC : Cx E B w0 w (.r st) H L) (hn : sl st ≤ n) :
    Calls Tryz.prog 39 #[.pointer (some ⟨E.b, 0, none⟩), .string ⟨w1.toArray⟩] w (RN E B w0 H L (st.bind (morD R w1))) := by
  cases h1 : w1 == [115, 101, 116] with
  | true =>
    obtain rfl := by simpa using h1
    exact q_rmore_set (R := R) hg hC hn
  | false =>
    cases h2 : w1 == [100, 101, 99, 108, 97, 114, 101] with
    | true =>
      obtain rfl := by simpa using h2
      exact q_rmore_declare HD hHD hg hC hn
    | false =>
      cases h3 : w1 == [111, 112, 101, 110] with
      | true =>
        obtain rfl := by simpa using h3
        exact q_rmore_open (R := R) hg hC hn
      | false =>
        cases h4 : w1 == [99, 108, 111, 115, 101] with
        | true =>
          obtain rfl := by simpa using h4
          exact q_rmore_close (R := R) hg hC hn
        | false =>
          cases h5 : w1 == [102, 101, 116, 99, 104] with
          | true =>
            obtain rfl := by simpa using h5
            exact q_rmore_fetch (R := R) HF hHF hg hC hn
          | false => exact q_rmore_else h1 h2 h3 h4 h5 hg hC
end Go.Proofs.YtaenpacfbheppaaGreatDoor
namespace Go.Proofs.YtaenpacfbheppaaGreatDoor

theorem jnD_len {ts r : List Tok} {x : Option (List UInt8)} (h : jnD ts = some (x, r)) : r.length ≤ ts.length := by
  unfold jnD at h
  (repeat' split at h)
  all_goals first | (cases h; done) | grind [→ oneF_len, → needF_len, tkR_len]
section
variable {R : Rc} (hR : R.Len)
include hR
theorem tbD_len : ∀ (n : Nat) (a : Tr) {ts r : List Tok} {x : Tr}, tbD R n a ts = some (x, r) → r.length ≤ ts.length
  | 0, _, _, _, _, h => by simp [tbD] at h
  | n + 1, a, ts, r, x, h => by
    have ih := fun a => @tbD_len n a
    have h1 := jdF_Len hR
    have h2 := hR.expr
    have h3 := @jnD_len ts
    unfold tbD at h
    (repeat' split at h)
    all_goals first | (cases h; done) | grind [Len, → needF_len]
theorem tabD_Len : Len (tabD R) := fun ts x r h => by
  have h1 := jdF_Len hR
  have h2 := @tbD_len R hR
  grind [tabD, Len]
omit hR in
theorem groupD_len {ts r : List Tok} {x : Tr} (h : groupD ts = some (x, r)) : r.length ≤ ts.length := by
  have h1 := @lsF_len colF (fun ts x r h => colF_len h)
  unfold groupD at h
  (repeat' split at h)
  all_goals first | (cases h; done) | grind [tkR_len, → needF_len]
theorem selD_Len : Len (selD R) := fun ts x r h => by
  have h1 := @lsF_len (itmF R) (itmF_Len hR)
  have h2 := @lsF_len (tabD R) (tabD_Len hR)
  have h3 := clsF_Len hR
  have h4 := distF_len ts
  unfold selD at h
  (repeat' split at h)
  all_goals first | (cases h; done) | grind [Len, → needF_len, → groupD_len]
theorem simD_Len : Len (simD R) := fun ts x r h => by
  have h1 := @parF_len Tr R.body hR.body
  have h2 := selD_Len hR
  grind [simD, Len, → needF_len]
theorem trmD_Len : Len (trmD R) := fun ts x r h => chF_len (simD_Len hR) (setLk_len _) h
theorem bodD_Len : Len (bodD R) := fun ts x r h => chF_len (trmD_Len hR) (setLk_len _) h
omit hR in
theorem recsD_Len : ∀ n, (recsD n).Len
  | 0 => ⟨fun _ _ _ h => by simp [recsD] at h, fun _ _ _ h => by simp [recsD] at h, fun _ _ _ h => by simp [recsD] at h, fun _ _ _ h => by simp [recsD] at h, fun _ _ _ h => by simp [recsD] at h⟩
  | n + 1 => ⟨exprF_Len (recsD_Len n), bodD_Len (recsD_Len n), negF_Len (recsD_Len n), facF_Len (recsD_Len n), tabD_Len (recsD_Len n)⟩
theorem qryD_Len : Len (qryD R) := fun ts x r h => by
  have h1 := @lsF_len keyF (fun ts x r h => keyF_Len2 h)
  have h2 := hR.body
  unfold qryD at h
  (repeat' split at h)
  all_goals first | (cases h; done) | grind [Len, tkR_len, → needF_len]
end
end Go.Proofs.YtaenpacfbheppaaGreatDoor
namespace Go.Proofs.YtaenpacfbheppaaGreatDoor
open Go.RowKit
def RB (E : Env) (B : Nat) (w0 : World) (H : List Bx) (L : List Tn) (o : Option (Option Tr × List Tok)) (e : Ending) (W : World) : Prop := ∃ (x : Option Tr) (t : Tr) (st' : Option (List Tok)) (ao : Option Addr) (cap : Nat), e = .returned (.tuple #[nv t.op t.s t.n ao t.L.length cap, .bool x.isSome]) ∧ Cx E B w0 W (.r st') H ((ao, cap, t) :: L) ∧ o = st'.map (Prod.mk x) ∧ ∀ y, x = some y → y = t
theorem endB1 {E : Env} {B : Nat} {w0 W : World} {st : Option (List Tok)} {H : List Bx} {L : List Tn} {o : Option (Option Tr × List Tok)} {T : Tr} (h : Hid (st.bind (fun r => some (some T, r)) = o)) {ao : Option Addr} {cap : Nat} (hc : Cx E B w0 W (.r st) H ((ao, cap, T) :: L)) : RB E B w0 H L o (.returned (.tuple #[nv T.op T.s T.n ao T.L.length cap, .bool true])) W := ⟨some T, T, st, ao, cap, rfl, hc, bindE h.out, fun y h => by cases h; rfl⟩
theorem endB0 {E : Env} {B : Nat} {w0 W : World} {st : Option (List Tok)} {H : List Bx} {L : List Tn} {o : Option (Option Tr × List Tok)} (h : Hid (st.bind (fun r => some ((none : Option Tr), r)) = o)) (hc : Cx E B w0 W (.r st) H ((none, 0, .mk [] [] 0 []) :: L)) : RB E B w0 H L o (.returned (.tuple #[.agg #[.string ⟨#[]⟩, .string ⟨#[]⟩, .int .i64 0, .slice none 0 0], .bool false])) W := ⟨none, .mk [] [] 0 [], st, none, 0, rfl, hc, by have := h.out; rw [← this]; cases st <;> rfl, fun y h => by cases h⟩
theorem sd_tkO (w : List UInt8) (ts : List Tok) : sdB 0 0 w ts = tkB [w] ts := by
  cases ts with
  | nil => rfl
  | cons t r => simp [sdB, tkB]
def opX (R : Rc) (ts : List Tok) : Option (Option Tr × List Tok) := ow [110, 111, 116] ts (fun r => (needF [[110, 117, 108, 108]] r).bind fun r2 => some (some (nd [110, 111, 116, 110, 117, 108, 108] [] []), r2)) (ow [112, 114, 105, 109, 97, 114, 121] ts (fun r => (needF [[107, 101, 121]] r).bind fun r2 => some (some (nd [112, 114, 105, 109, 97, 114, 121] [] []), r2)) (ow [117, 110, 105, 113, 117, 101] ts (fun r => some (some (nd [117, 110, 105, 113, 117, 101] [] []), r)) (if sdB 0 0 [99, 104, 101, 99, 107] ts = true then bd (chkX R ts) (fun t r => some (some t, r)) else ow [114, 101, 102, 101, 114, 101, 110, 99, 101, 115] ts (fun r => bd (nameF r) fun s r2 => some (some (nd [114, 101, 102, 101, 114, 101, 110, 99, 101, 115] s []), r2)) (some (none, ts)))))
theorem chkX_at (R : Rc) {ts : List Tok} (h : tkB [[99, 104, 101, 99, 107]] ts = true) : chkX R ts = chkF R (tkR [[99, 104, 101, 99, 107]] ts) := by
  unfold chkX
  rw [need1, h, if_pos rfl, chkF_x]
  rfl
theorem chkX_len {R : Rc} (hR : R.Len) {ts r : List Tok} {x : Tr} (h : chkX R ts = some (x, r)) : r.length ≤ ts.length := by
  cases hc : tkB [[99, 104, 101, 99, 107]] ts with
  | true =>
    rw [chkX_at R hc] at h
    have := chkF_Len hR _ _ _ h
    have := tkR_len [[99, 104, 101, 99, 107]] ts
    omega
  | false =>
    unfold chkX at h
    rw [need1, hc] at h
    cases h
theorem opX_eq (R : Rc) : optD R = opX R := by
  funext ts
  unfold optD opX
  rw [sd_tkO]
  cases h1 : tkB [[110, 111, 116]] ts with
  | true =>
    rw [ow_t h1]
    simp only [if_true]
    cases needF [[110, 117, 108, 108]] (tkR [[110, 111, 116]] ts) <;> rfl
  | false =>
    rw [ow_f h1]
    simp only [Bool.false_eq_true, if_false]
    cases h2 : tkB [[112, 114, 105, 109, 97, 114, 121]] ts with
    | true =>
      rw [ow_t h2]
      simp only [if_true]
      cases needF [[107, 101, 121]] (tkR [[112, 114, 105, 109, 97, 114, 121]] ts) <;> rfl
    | false =>
      rw [ow_f h2]
      simp only [Bool.false_eq_true, if_false]
      cases h3 : tkB [[117, 110, 105, 113, 117, 101]] ts with
      | true =>
        rw [ow_t h3]
        simp only [if_true]
      | false =>
        rw [ow_f h3]
        simp only [Bool.false_eq_true, if_false]
        cases h4 : tkB [[99, 104, 101, 99, 107]] ts with
        | true =>
          simp only [if_true]
          rw [chkX_at R h4]
          cases chkF R (tkR [[99, 104, 101, 99, 107]] ts) <;> rfl
        | false =>
          simp only [Bool.false_eq_true, if_false]
          cases h5 : tkB [[114, 101, 102, 101, 114, 101, 110, 99, 101, 115]] ts with
          | true =>
            rw [ow_t h5]
            simp only [if_true]
            cases nameF (tkR [[114, 101, 102, 101, 114, 101, 110, 99, 101, 115]] ts) <;> rfl
          | false =>
            rw [ow_f h5]
            simp only [Bool.false_eq_true, if_false]
theorem q_roption {E : Env} {B : Nat} {w0 w : World} {st : Option (List Tok)} {H : List Bx} {L : List Tn} {R : Rc} {n : Nat} (RC : Cw E R n) (hg : GoodE E) (hC : Cx E B w0 w (.r st) H L) (hn : sl st ≤ n) :
    Calls Tryz.prog 107 #[.pointer (some ⟨E.b, 0, none⟩)] w (RB E B w0 H L (st.bind (optD R))) := by
  obtain ⟨o, ho⟩ : ∃ o, st.bind (optD R) = o := ⟨_, rfl⟩
  rw [ho]
  rw [opX_eq] at ho
  unfold opX at ho
  have HO := hidk ho
  clear ho
  have h601 := hC.rsl
  go_enter Tryz.func107, Tryz.ntmps107
  go_wp2_with (first
  | (refine bA ?_; clear hC; intro W k hC)
  | (refine bS ?_; clear hC; intro W hC)
  | (go_at_call 15; refine aGot ?_ ?_ <;> clear hC HO; (focus (intro ts r W hC e hl HO; first | (cases e; done) | cases e)); rotate_left; (focus (intro hC HO)); rotate_left)
  | (go_at_call 35; refine aMust ?_; clear hC HO; intro st2 W hC hl HO)
  | (go_at_call 29; refine aIs ?_ ?_ <;> clear hC HO; (focus (intro ts hC e hl HO; first | (cases e; done) | cases e)); rotate_left; (focus (intro hC HO)); rotate_left)
  | (go_at_call 105; refine uN (q_rcheck RC hg hC (by omega)) HO ?_; clear hC HO; intro t st2 W ao cap he hC HO; have hl := sl_of (fun ts x r h => chkX_len RC.len h) he; clear he)
  | (go_at_call 34; refine aName ?_; clear hC HO; intro s st2 W hC hl HO)
  | (go_at_call 33; guard_target = Calls _ _ #[_, _, _, Value.slice none 0 0] _ _; (first | refine useRD (q_rnode0 hC _ _ _) ?_); clear hC; intro W ao cap hC))
  all_goals (refine hC.rcB ?_; first | (refine endB1 HO (hC.fin ?_ ?_ ?_); (repeat (first | exact List.Sublist.refl _ | apply List.Sublist.cons)); (repeat (first | exact List.mem_cons_self | apply List.mem_cons_of_mem)); intro y hy; (repeat (first | exact hy | apply List.mem_cons_of_mem)); done) | (refine endB0 HO ((hC.leaf [] [] 0).fin ?_ ?_ ?_); (repeat (first | exact List.Sublist.refl _ | apply List.Sublist.cons)); (repeat (first | exact List.mem_cons_self | apply List.mem_cons_of_mem)); intro y hy; (repeat (first | exact hy | apply List.mem_cons_of_mem)); done))
end Go.Proofs.YtaenpacfbheppaaGreatDoor
namespace Go.Proofs.YtaenpacfbheppaaGreatDoor
open Go.RowKit
theorem useRB {E : Env} {B : Nat} {w0 w : World} {H : List Bx} {L : List Tn} {f : Nat} {args : Array Value} {Q : Ending → World → Prop} {o : Option (Option Tr × List Tok)} (h : Calls Tryz.prog f args w (RB E B w0 H L o)) (k1 : ∀ t st' W ao cap, o = st'.map (Prod.mk (some t)) → Cx E B w0 W (.r st') H ((ao, cap, t) :: L) → Q (.returned (.tuple #[nv t.op t.s t.n ao t.L.length cap, .bool true])) W) (k0 : ∀ t st' W ao cap, o = st'.map (Prod.mk none) → Cx E B w0 W (.r st') H ((ao, cap, t) :: L) → Q (.returned (.tuple #[nv t.op t.s t.n ao t.L.length cap, .bool false])) W) : Calls Tryz.prog f args w Q := by
  refine h.mono fun e W hp => ?_
  obtain ⟨x, t, st', ao, cap, rfl, hC, he, hx⟩ := hp
  cases x with
  | none => exact k0 t st' W ao cap he hC
  | some y =>
    obtain rfl := hx y rfl
    exact k1 y st' W ao cap he hC
theorem opX_lt {R : Rc} (hR : R.Len) {ts r : List Tok} {t : Tr} (h : optD R ts = some (some t, r)) : r.length + 1 ≤ ts.length := by
  have h1 := @chkF_Len R hR
  have h2 := @tkR_lt [[110, 111, 116]] ts
  have h3 := @tkR_lt [[112, 114, 105, 109, 97, 114, 121]] ts
  have h4 := @tkR_lt [[117, 110, 105, 113, 117, 101]] ts
  have h5 := @tkR_lt [[99, 104, 101, 99, 107]] ts
  have h6 := @tkR_lt [[114, 101, 102, 101, 114, 101, 110, 99, 101, 115]] ts
  unfold optD at h
  (repeat' split at h)
  all_goals first | (cases h; done) | (simp only [Option.some.injEq, Prod.mk.injEq] at h; grind [Len, → needF_len, → nameF_len])
theorem optD_le {R : Rc} (hR : R.Len) {ts r : List Tok} {x : Option Tr} (h : optD R ts = some (x, r)) : r.length ≤ ts.length := by
  cases x with
  | some t => have := opX_lt hR h; omega
  | none =>
    unfold optD at h
    (repeat' split at h)
    all_goals first | (cases h; done) | (cases h; exact Nat.le_refl _)
theorem sl_opt {R : Rc} (hR : R.Len) {ts : List Tok} {st2 : Option (List Tok)} {t : Tr} (h : (some ts).bind (optD R) = st2.map (Prod.mk (some t))) : sl st2 + 1 ≤ sl (some ts) := by
  cases st2 with
  | none => simp [sl]
  | some r =>
    have := opX_lt hR (r := r) (t := t) (by simpa using h)
    simp only [sl]; omega
section
variable {R : Rc} {β : Type} {o : Option β} {K : List Tr → List Tok → Option β} {ts : List Tok} {st2 : Option (List Tok)} {f : Nat} {l : List Tr} {t : Tr}
theorem op_s0 (he : (some ts).bind (optD R) = st2.map (Prod.mk none)) (h : (some ts).bind (fun ts => bd (opD R (f + 1) l ts) K) = o) : st2.bind (K l) = o := by
  rw [← h]
  rw [Option.bind_some] at he ⊢
  rw [opD, he]
  cases st2 <;> rfl
theorem op_s1 (he : (some ts).bind (optD R) = st2.map (Prod.mk (some t))) (h : (some ts).bind (fun ts => bd (opD R (f + 1) l ts) K) = o) : st2.bind (fun ts => bd (opD R f (l ++ [t]) ts) K) = o := by
  rw [← h]
  rw [Option.bind_some] at he ⊢
  rw [opD, he]
  cases st2 <;> rfl
theorem startO {st : Option (List Tok)} {a : List Tr} (h : st.bind (fun r => bd (opD R (r.length + 1) a r) K) = o) : st.bind (fun r => bd (opD R (sl st) a r) K) = o := by
  rw [← h]
  cases st <;> rfl
end
def eleX (R : Rc) (ts : List Tok) : Option (Tr × List Tok) := ow [112, 114, 105, 109, 97, 114, 121] ts (fun r => (needF [[107, 101, 121]] r).bind fun r1 => bd (namesF r1) fun l r2 => some (nd [112, 114, 105, 109, 97, 114, 121] [] l, r2)) (ow [117, 110, 105, 113, 117, 101] ts (fun r => bd (namesF r) fun l r2 => some (nd [117, 110, 105, 113, 117, 101] [] l, r2)) (if sdB 0 0 [99, 104, 101, 99, 107] ts = true then bd (chkX R ts) (fun t r => some (t, r)) else ow [102, 111, 114, 101, 105, 103, 110] ts (fun r => (needF [[107, 101, 121]] r).bind fun r1 => bd (namesF r1) fun l r2 => (needF [[114, 101, 102, 101, 114, 101, 110, 99, 101, 115]] r2).bind fun r3 => bd (nameF r3) fun s r4 => some (nd [102, 111, 114, 101, 105, 103, 110] s l, r4)) (bd (nameF ts) fun s r => bd (typF r) fun t r2 => bd (opD R (r2.length + 1) [t] r2) (fun l r3 => some (nd [99, 111, 108, 117, 109, 110] s l, r3)))))
theorem eleX_eq (R : Rc) : eleD R = eleX R := by
  funext ts
  unfold eleD eleX
  rw [sd_tk]
  cases h1 : tkB [[112, 114, 105, 109, 97, 114, 121]] ts with
  | true =>
    rw [ow_t h1]
    simp only [if_true]
    cases needF [[107, 101, 121]] (tkR [[112, 114, 105, 109, 97, 114, 121]] ts) with
    | none => rfl
    | some r1 =>
      simp only [Option.bind_some]
      cases namesF r1 <;> rfl
  | false =>
    rw [ow_f h1]
    simp only [Bool.false_eq_true, if_false]
    cases h2 : tkB [[117, 110, 105, 113, 117, 101]] ts with
    | true =>
      rw [ow_t h2]
      simp only [if_true]
      cases namesF (tkR [[117, 110, 105, 113, 117, 101]] ts) <;> rfl
    | false =>
      rw [ow_f h2]
      simp only [Bool.false_eq_true, if_false]
      cases h3 : tkB [[99, 104, 101, 99, 107]] ts with
      | true =>
        simp only [if_true]
        rw [chkX_at R h3]
        cases chkF R (tkR [[99, 104, 101, 99, 107]] ts) <;> rfl
      | false =>
        simp only [Bool.false_eq_true, if_false]
        cases h4 : tkB [[102, 111, 114, 101, 105, 103, 110]] ts with
        | true =>
          rw [ow_t h4]
          simp only [if_true]
          cases needF [[107, 101, 121]] (tkR [[102, 111, 114, 101, 105, 103, 110]] ts) with
          | none => rfl
          | some r1 =>
            simp only [Option.bind_some]
            cases namesF r1 with
            | none => rfl
            | some p =>
              simp only [bd]
              cases needF [[114, 101, 102, 101, 114, 101, 110, 99, 101, 115]] p.2 with
              | none => rfl
              | some r3 =>
                simp only [Option.bind_some]
                cases nameF r3 <;> rfl
        | false =>
          rw [ow_f h4]
          simp only [Bool.false_eq_true, if_false]
          unfold cofD
          cases nameF ts with
          | none => rfl
          | some p =>
            simp only [bd]
            cases typF p.2 with
            | none => rfl
            | some q =>
              simp only
              cases opD R (q.2.length + 1) [q.1] q.2 <;> rfl
theorem q_relement {E : Env} {B : Nat} {w0 w : World} {st : Option (List Tok)} {H : List Bx} {L : List Tn} {R : Rc} {n : Nat} (RC : Cw E R n) (hg : GoodE E) (hC : Cx E B w0 w (.r st) H L) (hn : sl st ≤ n) :
    Calls Tryz.prog 65 #[.pointer (some ⟨E.b, 0, none⟩)] w (RN E B w0 H L (st.bind (eleD R))) := by
  obtain ⟨o, ho⟩ : ∃ o, st.bind (eleD R) = o := ⟨_, rfl⟩
  rw [ho]
  rw [eleX_eq] at ho
  unfold eleX at ho
  have HO := hidk ho
  clear ho
  have h601 := hC.rsl
  go_enter Tryz.func65, Tryz.ntmps65
  go_wp2_with (first
  | (guard_target = wpList _ _ _ (Oper.mk (some 2) (Op.alloc 24) _ _ _ _ :: _) _ _; refine hC.aN ?_; clear hC; intro W kR hC; (try simp only [pP]))
  | (refine bA ?_; clear hC; intro W k hC)
  | refine bL ?_
  | (refine bS ?_; clear hC; intro W hC)
  | (go_at_call 15; refine aGot ?_ ?_ <;> clear hC HO; (focus (intro ts r W hC e hl HO; first | (cases e; done) | cases e)); rotate_left; (focus (intro hC HO)); rotate_left)
  | (go_at_call 35; refine aMust ?_; clear hC HO; intro st2 W hC hl HO)
  | (go_at_call 29; refine aIs ?_ ?_ <;> clear hC HO; (focus (intro ts hC e hl HO; first | (cases e; done) | cases e)); rotate_left; (focus (intro hC HO)); rotate_left)
  | (go_at_call 105; refine uN (q_rcheck RC hg hC (by omega)) HO ?_; clear hC HO; intro t st2 W ao cap he hC HO; have hl := sl_of (fun ts x r h => chkX_len RC.len h) he; clear he)
  | (go_at_call 34; refine aName ?_; clear hC HO; intro s st2 W hC hl HO)
  | (go_at_call 66; refine useRL (q_rnames hg hC) ?_; clear hC; intro l st2 W ao cap he hC h0l h1l; have hl := sl_of (fun ts x r h => namesF_len2 h) he; replace HO := hidk (bindN he HO.out); clear he)
  | (go_at_call 106; refine uN (q_rtyped hg hC) HO ?_; clear hC HO; intro t st2 W ao cap he hC HO; have hl := sl_of (fun ts x r h => typF_len h) he; clear he)
  | (go_at_call 33; guard_target = Calls _ _ #[_, _, _, Value.slice _ (List.length _) _] _ _; have hD := hC; clear hC; (first | refine useRD (q_rnodeL _ _ _ hD (.head _) rfl (by first | omega | (simp; omega))) ?_ | refine useRD (q_rnodeL _ _ _ hD (.tail _ (.head _)) rfl (by first | omega | (simp; omega))) ?_ | refine useRD (q_rnodeL _ _ _ hD (.tail _ (.tail _ (.head _))) rfl (by first | omega | (simp; omega))) ?_); intro W ao cap hC; clear hD))
  all_goals (try (solve | (refine hC.rc ?_; refine endRN HO (hC.fin ?_ ?_ ?_); (repeat (first | exact List.Sublist.refl _ | apply List.Sublist.cons)); (repeat (first | exact List.mem_cons_self | apply List.mem_cons_of_mem)); intro y hy; first | ((repeat (first | exact hy | apply List.mem_cons_of_mem)); done) | (have hy := hS.out y hy; (repeat (first | exact hy | apply List.mem_cons_of_mem)); done))))
  go_loopg [5] (sl st2) (fun kx sv wr => ∃ (k : Nat) (l : List Tr) (cp : Nat) (cur : List Value) (ks : List Kid) (L' : List Tn) (H' : List Bx) (st' : Option (List Tok)) (f : Nat), sv = .slice (some ⟨k, 0, none⟩) l.length cp ∧ sl st' ≤ kx ∧ Hid (Cx E B w0 wr (.r st') ((k, cur, 24) :: (kR, [.string ⟨#[]⟩, .string ⟨#[]⟩, .int .i64 0, .slice none 0 0], 24) :: H) L') ∧ Hid (Rw cp l ks cur) ∧ Hid (Rin ks l L') ∧ Hid (∀ y ∈ L, y ∈ L') ∧ Hid (st'.bind (fun ts => bd (opD R f l ts) (fun l r3 => some (nd [99, 111, 108, 117, 109, 110] s l, r3))) = o) ∧ sl st' ≤ f ∧ l.length + sl st' ≤ 602 ∧ sl st' ≤ n ∧ 0 < l.length)
  case atStart => exact ⟨_, [t], 1, _, _, _, [], st2, sl st2, rfl, Nat.le_refl _, hC, Rw.one, Rin.one (.head _), mL, startO HO.out, Nat.le_refl _, by simp; omega, by omega, by simp⟩
  case round =>
    rename World => wr
    clear hC HO
    obtain ⟨k, l, cp, cur, ks, L', _, st', f, rfl, hk, hC', hR, hN, hS, HO2, hf, h6, hst, h0⟩ := hrel
    have hC := hC'.out
    clear hC'
    cases st' with
    | none =>
      have HO : Hid ((none : Option (List Tok)).bind ((fun l r3 => some (nd [99, 111, 108, 117, 109, 110] s l, r3)) l) = o) := HO2.out
      clear HO2
      go_wp2_with (first
      | refine bL ?_
      | (refine bA ?_; clear hC; intro W k hC)
      | (refine bS ?_; clear hC; intro W hC)
      | (go_at_call 33; guard_target = Calls _ _ #[_, _, _, Value.slice (some _) (List.length _) _] _ _; have hD := hC; clear hC; have hE := hD.madeAt 0 (by rfl) hR.out hN.out h0 [] [] 0; simp only [List.eraseIdx_cons_zero, List.eraseIdx_cons_succ] at hE; refine useRD (q_rnodeL _ _ _ hE (.head _) rfl (by first | omega | (simp; omega))) ?_; intro W aO pO hC; clear hD hE))
      all_goals (refine hC.rc ?_; refine endRN HO (hC.fin ?_ ?_ ?_); (repeat (first | exact List.Sublist.refl _ | apply List.Sublist.cons)); (repeat (first | exact List.mem_cons_self | apply List.mem_cons_of_mem)); intro y hy; first | ((repeat (first | exact hy | apply List.mem_cons_of_mem)); done) | (have hy := hS.out y hy; (repeat (first | exact hy | apply List.mem_cons_of_mem)); done))
    | some ts0 =>
      have hp0 := sl_pos ts0
      obtain ⟨f, rfl⟩ : ∃ f', f = f' + 1 := ⟨f - 1, by omega⟩
      have HO := HO2
      clear HO2
      go_wp2_with (first
      | refine bL ?_
      | (refine bA ?_; clear hC; intro W k hC)
      | (refine bS ?_; clear hC; intro W hC)
      | (go_at_call 107; have hD := hC; clear hC; refine useRB (q_roption RC hg hD (by omega)) ?_ ?_; (focus (intro t st2 W ao cap he hC; clear hD; have hl := sl_opt RC.len he; replace HO := hidk (op_s1 he HO.out); clear he)); rotate_left; (focus (intro t st2 W ao cap he hC; clear hD; replace HO := hidk (op_s0 he HO.out); clear he)); rotate_left)
      | (at_builtin; have hD := hC; clear hC; refine wl_app1 rfl hD (.head _) 1 (by rfl) (by rfl) (by rfl) rfl hR.out (hN.out.mono mL) (by rfl) (by omega) ?_; clear hD; intro W k cap2 cur2 hC hR2 hN2; simp only [pS] at hC; (try simp only [pP]))
      | (go_at_call 33; guard_target = Calls _ _ #[_, _, _, Value.slice (some _) (List.length _) _] _ _; have hD := hC; clear hC; have hE := hD.madeAt 1 (by rfl) hR.out (hN.out.mono mL) h0 [] [] 0; simp only [List.eraseIdx_cons_zero, List.eraseIdx_cons_succ] at hE; refine useRD (q_rnodeL _ _ _ hE (.head _) rfl (by first | omega | (simp; omega))) ?_; intro W aO pO hC; clear hD hE))
      · go_roundg (sl st2)
        case measure => omega
        case rel => exact ⟨k, l ++ [t], cap2, cur2, _, _, [], st2, f, (by simp), Nat.le_refl _, hC.less (by (repeat (first | exact List.Sublist.refl _ | apply List.Sublist.cons_cons | apply List.Sublist.cons)); done) (fun y hy => hy), hR2, hN2, (mS hS.out), HO, by omega, by simp; omega, by omega, by simp⟩
      all_goals (refine hC.rc ?_; refine endRN HO (hC.fin ?_ ?_ ?_); (repeat (first | exact List.Sublist.refl _ | apply List.Sublist.cons)); (repeat (first | exact List.mem_cons_self | apply List.mem_cons_of_mem)); intro y hy; first | ((repeat (first | exact hy | apply List.mem_cons_of_mem)); done) | (have hy := hS.out y hy; (repeat (first | exact hy | apply List.mem_cons_of_mem)); done))
end Go.Proofs.YtaenpacfbheppaaGreatDoor
namespace Go.Proofs.YtaenpacfbheppaaGreatDoor

theorem opD_len {R : Rc} (hR : R.Len) : ∀ (n : Nat) (l : List Tr) {ts r : List Tok} {x : List Tr}, opD R n l ts = some (x, r) → r.length ≤ ts.length
  | 0, _, _, _, _, h => by simp [opD] at h
  | n + 1, l, ts, r, x, h => by
    have ih := fun l => @opD_len R hR n l
    have h1 := @optD_le R hR ts
    unfold opD at h
    (repeat' split at h)
    all_goals first | (cases h; done) | grind
theorem eleD_Len {R : Rc} (hR : R.Len) : Len (eleD R) := fun ts x r h => by
  have h1 := @chkF_Len R hR
  have h2 := @opD_len R hR
  have h3 := @typF_len
  unfold eleD cofD at h
  (repeat' split at h)
  all_goals first | (cases h; done) | (simp only [Option.some.injEq, Prod.mk.injEq] at h; grind [Len, → needF_len, → nameF_len, → namesF_len2, tkR_len]) | grind [Len, → needF_len, → nameF_len, → namesF_len2, tkR_len]
theorem q_rcreate2 {E : Env} {B : Nat} {w0 w : World} {st : Option (List Tok)} {H : List Bx} {L : List Tn} {R : Rc} {n : Nat} (RC : Cw E R n) (hg : GoodE E) (hC : Cx E B w0 w (.r st) H L) (hn : sl st ≤ n) :
    Calls Tryz.prog 32 #[.pointer (some ⟨E.b, 0, none⟩)] w (RN E B w0 H L (st.bind (creD R))) :=
  q_rcreate (fun hC hn => q_relement RC hg hC hn) (eleD_Len RC.len) hg hC hn
theorem q_rdeclare2 {E : Env} {B : Nat} {w0 w : World} {st : Option (List Tok)} {H : List Bx} {L : List Tn} {R : Rc} {n : Nat} (RC : Cw E R n) (hg : GoodE E) (hC : Cx E B w0 w (.r st) H L) (hn : sl st < n) :
    Calls Tryz.prog 72 #[.pointer (some ⟨E.b, 0, none⟩)] w (RN E B w0 H L (st.bind (decD R))) := by
  obtain ⟨m, rfl⟩ : ∃ m, n = m + 1 := ⟨n - 1, by omega⟩
  exact q_rdeclare (n := m) (fun hC hn => q_rquery RC hg hC (by omega)) (qryD_Len RC.len) hg hC (by omega)
end Go.Proofs.YtaenpacfbheppaaGreatDoor

/- The document's reader: tests, NOT, AND, OR (walks by genr.py). -/
import Derived.Test.YtaenpacfbheppaaGreatDoorCR3
set_option maxHeartbeats 16000000
set_option maxRecDepth 100000
set_option linter.unusedVariables false
set_option linter.unusedSimpArgs false
namespace Go.Proofs.YtaenpacfbheppaaGreatDoor
open Go.RowKit
section
variable {E : Env} {B : Nat} {w0 w : World} {st : Option (List Tok)} {H : List Bx} {L : List Tn} {a : Act} {Q : Exit → Act → World → Prop} {o : Oper} {ops : Array Oper} {rest : List Oper} {x y : Operand}
theorem sb0 {b : Bool} (hC : Cx E B w0 w (.r st) H L) (h : wpList Tryz.prog ops Q rest (a.put o.dst undef) (w.setCell ⟨E.b, 2, none⟩ (.bool b))) (hgd : o.guard = none) (ho : o.op = .store 4 x y) (hx : a.eval x = .pointer (some ⟨E.b, 2, none⟩)) (hy : a.eval y = .bool b) : wpList Tryz.prog ops Q (o :: rest) a w := by
  refine wpList_plain hgd fun K hK => ?_
  obtain ⟨i, bad, ao, cap, hi, hst, hv, c0, c1, c2, f1, f2, hcap⟩ := hC.rd
  have ht : w.there E.b 2 1 := fun j hj => by
    obtain rfl : j = 0 := by omega
    exact ⟨by rw [Nat.add_zero, c2]; rfl, f2⟩
  have e : (storeVar 4 ⟨E.b, 2, none⟩ (.bool b)).run Tryz.prog w = .ok () (w.setCells E.b 2 [.bool b]) := by
    have := run_storeVar_mid (P := Tryz.prog) w E.b 2 4 #[.bool b] ht (by kernel_rfl) (by simp [Value.oneCell'])
    unfold storeVar at this ⊢
    exact this
  unfold Oper.wp execOp
  simp only [ho, hx, hy, Instr.storeAt, Instr.sureAddr, Sem.run_bind, Sem.run_pure, Result.andThen_ok, e]
  exact hK _ _ h
theorem Cx.sbT (hC : Cx E B w0 w (.r st) H L) (h : ∀ W, Cx E B w0 W (.r none) H L → wpList Tryz.prog ops Q rest (a.put o.dst undef) W) (hgd : o.guard = none := by rfl) (ho : o.op = .store 4 x y := by rfl) (hx : a.eval x = .pointer (some ⟨E.b, 2, none⟩) := by rfl) (hy : a.eval y = .bool true := by rfl) : wpList Tryz.prog ops Q (o :: rest) a w :=
  sb0 hC (h _ hC.rfail) hgd ho hx hy
theorem Cx.sbF {ts : List Tok} (hC : Cx E B w0 w (.r (some ts)) H L) (h : ∀ W, Cx E B w0 W (.r (some ts)) H L → wpList Tryz.prog ops Q rest (a.put o.dst undef) W) (hgd : o.guard = none := by rfl) (ho : o.op = .store 4 x y := by rfl) (hx : a.eval x = .pointer (some ⟨E.b, 2, none⟩) := by rfl) (hy : a.eval y = .bool false := by rfl) : wpList Tryz.prog ops Q (o :: rest) a w :=
  sb0 hC (h _ hC.rsame) hgd ho hx hy
end
theorem q_rtest {E : Env} {B : Nat} {w0 w : World} {st : Option (List Tok)} {H : List Bx} {L : List Tn} {R : Rc} {n : Nat} (RC : Cw E R n) (hg : GoodE E) (hC : Cx E B w0 w (.r st) H L) (hn : sl st ≤ n) :
    Calls Tryz.prog 149 #[.pointer (some ⟨E.b, 0, none⟩)] w (RN E B w0 H L (st.bind (tstF R))) := by
  obtain ⟨o, ho⟩ : ∃ o, st.bind (tstF R) = o := ⟨_, rfl⟩
  rw [ho]
  rw [tstX_eq] at ho
  unfold tstX at ho
  have HO := hidk ho
  clear ho
  have h601 := hC.rsl
  go_enter Tryz.func149, Tryz.ntmps149
  go_wp2_with (first
  | (guard_target = wpList _ _ _ (Oper.mk (some 2) (Op.alloc 24) _ _ _ _ :: _) _ _; refine hC.aN ?_; clear hC; intro W kR hC; (try simp only [pP]))
  | (guard_target = wpList _ _ _ (Oper.mk (some 3) (Op.alloc 24) _ _ _ _ :: _) _ _; refine hC.aN ?_; clear hC; intro W kN hC; (try simp only [pP]))
  | (guard_target = wpList _ _ _ (Oper.mk (some 14) (Op.buildSlice 82 _ _) _ _ _ _ :: _) _ _; (first | refine hC.S4 ?_ | refine hC.S6 ?_); clear hC; intro W kS hC; (try simp only [pP]))
  | (refine hC.rlb ?_; (try simp only [Option.isNone_none, Option.isNone_some, Act.put, List.setIfInBounds_toArray, List.set_cons_zero, List.set_cons_succ]))
  | (refine bA ?_; clear hC; intro W k hC)
  | refine bL ?_
  | (refine bS ?_; clear hC; intro W hC)
  | (go_at_call 167; refine uN (q_rsum RC hg hC (by omega)) HO ?_; clear hC HO; intro tS st2 W aS pZ he hC HO; have hl := sl_of (sumF_Len RC.len) he; clear he))
  go_loopw [5] (fun x wr => (x = .int .i64 0 ∧ Hid (Cx E B w0 wr (.r st2) ((kS, [.string ⟨#[61]⟩, .string ⟨#[60, 62]⟩, .string ⟨#[60]⟩, .string ⟨#[60, 61]⟩, .string ⟨#[62]⟩, .string ⟨#[62, 61]⟩], 9) :: (kN, ncs aS pZ tS, 24) :: (kR, [.string ⟨#[]⟩, .string ⟨#[]⟩, .int .i64 0, .slice none 0 0], 24) :: H) ((aS, pZ, tS) :: L)) ∧ Hid (st2.bind (fun ts => og (sgF [61] ts) (fun _ r => cmpX R tS [61] r) (og (sgF [60, 62] ts) (fun _ r => cmpX R tS [60, 62] r) (og (sgF [60] ts) (fun _ r => cmpX R tS [60] r) (og (sgF [60, 61] ts) (fun _ r => cmpX R tS [60, 61] r) (og (sgF [62] ts) (fun _ r => cmpX R tS [62] r) (og (sgF [62, 61] ts) (fun _ r => cmpX R tS [62, 61] r) (rstX R tS ts))))))) = o)) ∨ (x = .int .i64 1 ∧ Hid (Cx E B w0 wr (.r st2) ((kS, [.string ⟨#[61]⟩, .string ⟨#[60, 62]⟩, .string ⟨#[60]⟩, .string ⟨#[60, 61]⟩, .string ⟨#[62]⟩, .string ⟨#[62, 61]⟩], 9) :: (kN, ncs aS pZ tS, 24) :: (kR, [.string ⟨#[]⟩, .string ⟨#[]⟩, .int .i64 0, .slice none 0 0], 24) :: H) ((aS, pZ, tS) :: L)) ∧ Hid (st2.bind (fun ts => og (sgF [60, 62] ts) (fun _ r => cmpX R tS [60, 62] r) (og (sgF [60] ts) (fun _ r => cmpX R tS [60] r) (og (sgF [60, 61] ts) (fun _ r => cmpX R tS [60, 61] r) (og (sgF [62] ts) (fun _ r => cmpX R tS [62] r) (og (sgF [62, 61] ts) (fun _ r => cmpX R tS [62, 61] r) (rstX R tS ts)))))) = o)) ∨ (x = .int .i64 2 ∧ Hid (Cx E B w0 wr (.r st2) ((kS, [.string ⟨#[61]⟩, .string ⟨#[60, 62]⟩, .string ⟨#[60]⟩, .string ⟨#[60, 61]⟩, .string ⟨#[62]⟩, .string ⟨#[62, 61]⟩], 9) :: (kN, ncs aS pZ tS, 24) :: (kR, [.string ⟨#[]⟩, .string ⟨#[]⟩, .int .i64 0, .slice none 0 0], 24) :: H) ((aS, pZ, tS) :: L)) ∧ Hid (st2.bind (fun ts => og (sgF [60] ts) (fun _ r => cmpX R tS [60] r) (og (sgF [60, 61] ts) (fun _ r => cmpX R tS [60, 61] r) (og (sgF [62] ts) (fun _ r => cmpX R tS [62] r) (og (sgF [62, 61] ts) (fun _ r => cmpX R tS [62, 61] r) (rstX R tS ts))))) = o)) ∨ (x = .int .i64 3 ∧ Hid (Cx E B w0 wr (.r st2) ((kS, [.string ⟨#[61]⟩, .string ⟨#[60, 62]⟩, .string ⟨#[60]⟩, .string ⟨#[60, 61]⟩, .string ⟨#[62]⟩, .string ⟨#[62, 61]⟩], 9) :: (kN, ncs aS pZ tS, 24) :: (kR, [.string ⟨#[]⟩, .string ⟨#[]⟩, .int .i64 0, .slice none 0 0], 24) :: H) ((aS, pZ, tS) :: L)) ∧ Hid (st2.bind (fun ts => og (sgF [60, 61] ts) (fun _ r => cmpX R tS [60, 61] r) (og (sgF [62] ts) (fun _ r => cmpX R tS [62] r) (og (sgF [62, 61] ts) (fun _ r => cmpX R tS [62, 61] r) (rstX R tS ts)))) = o)) ∨ (x = .int .i64 4 ∧ Hid (Cx E B w0 wr (.r st2) ((kS, [.string ⟨#[61]⟩, .string ⟨#[60, 62]⟩, .string ⟨#[60]⟩, .string ⟨#[60, 61]⟩, .string ⟨#[62]⟩, .string ⟨#[62, 61]⟩], 9) :: (kN, ncs aS pZ tS, 24) :: (kR, [.string ⟨#[]⟩, .string ⟨#[]⟩, .int .i64 0, .slice none 0 0], 24) :: H) ((aS, pZ, tS) :: L)) ∧ Hid (st2.bind (fun ts => og (sgF [62] ts) (fun _ r => cmpX R tS [62] r) (og (sgF [62, 61] ts) (fun _ r => cmpX R tS [62, 61] r) (rstX R tS ts))) = o)) ∨ (x = .int .i64 5 ∧ Hid (Cx E B w0 wr (.r st2) ((kS, [.string ⟨#[61]⟩, .string ⟨#[60, 62]⟩, .string ⟨#[60]⟩, .string ⟨#[60, 61]⟩, .string ⟨#[62]⟩, .string ⟨#[62, 61]⟩], 9) :: (kN, ncs aS pZ tS, 24) :: (kR, [.string ⟨#[]⟩, .string ⟨#[]⟩, .int .i64 0, .slice none 0 0], 24) :: H) ((aS, pZ, tS) :: L)) ∧ Hid (st2.bind (fun ts => og (sgF [62, 61] ts) (fun _ r => cmpX R tS [62, 61] r) (rstX R tS ts)) = o)) ∨ (x = .int .i64 6 ∧ Hid (Cx E B w0 wr (.r st2) ((kS, [.string ⟨#[61]⟩, .string ⟨#[60, 62]⟩, .string ⟨#[60]⟩, .string ⟨#[60, 61]⟩, .string ⟨#[62]⟩, .string ⟨#[62, 61]⟩], 9) :: (kN, ncs aS pZ tS, 24) :: (kR, [.string ⟨#[]⟩, .string ⟨#[]⟩, .int .i64 0, .slice none 0 0], 24) :: H) ((aS, pZ, tS) :: L)) ∧ Hid (st2.bind (fun ts => rstX R tS ts) = o))) (fun x _ => 6 - (intOf x).toNat)
  case atStart => exact Or.inl ⟨rfl, hC, HO⟩
  case round =>
    rename World => wr
    clear hC HO
    rcases hrel with ⟨rfl, hC', HO⟩ | ⟨rfl, hC', HO⟩ | ⟨rfl, hC', HO⟩ | ⟨rfl, hC', HO⟩ | ⟨rfl, hC', HO⟩ | ⟨rfl, hC', HO⟩ | ⟨rfl, hC', HO⟩
    iterate 6
      · have hC := hC'.out
        clear hC'
        go_wp2_with (first
        | (refine hC.rlb ?_; (try simp only [Option.isNone_none, Option.isNone_some, Act.put, List.setIfInBounds_toArray, List.set_cons_zero, List.set_cons_succ]))
        | (refine bA ?_; clear hC; intro W k hC)
        | refine bL ?_
        | (refine bS ?_; clear hC; intro W hC)
        | (go_at_call 15; refine aGot ?_ ?_ <;> clear hC HO; (focus (intro ts r W hC e hl HO; first | (cases e; done) | cases e)); rotate_left; (focus (intro hC HO)); rotate_left)
        | (guard_target = Code.wp _ (Code.region 7 _ true) _ _ _; refine wp_region_held_drew (S := HB [_, _]) (by kernel_rfl) (hC.drew.hbI2 0 1 (by rfl) (by rfl)) (fun hHeld => ?_); replace hC := hC.drew; refine qk 0 ?_; (try simp only [pQ]); refine qk 1 ?_; (try simp only [pQ]); refine qk 2 ?_; (try simp only [pQ]); refine qk 3 ?_; (try simp only [pQ]); refine qkL 4 ?_; (try simp only [pQ]); refine qkN 5 ?_; (try simp only [pQ]); refine ry [6] ?_; refine rd1 fun K hK => ?_; go_simp; (first | (go_at_call 168; refine useRN (q_rcompared RC _ (.head _) hg hC (by omega) (by omega)) ?_; clear hC; intro t st2 W ao cap he hC; replace HO := hidk ((bindAll HO.out he)); clear he)); refine hK.out _ _ hC.hb2' fun hHeld => ?_; clear hK K; (try simp only [pQ]); refine ry [7] ?_; refine rd1 fun K hK => ?_; refine st_of rfl ?_; refine wsN ?_; clear hC; intro W hC; refine hK.out _ _ hC.hb2' fun hHeld => ?_; clear hK K; (try simp only [pQ]); refine dn ?_ _))
        rotate_right
        · go_roundw
          case rel => first | exact Or.inr (Or.inl ⟨rfl, hC, HO⟩) | exact Or.inr (Or.inr (Or.inl ⟨rfl, hC, HO⟩)) | exact Or.inr (Or.inr (Or.inr (Or.inl ⟨rfl, hC, HO⟩))) | exact Or.inr (Or.inr (Or.inr (Or.inr (Or.inl ⟨rfl, hC, HO⟩)))) | exact Or.inr (Or.inr (Or.inr (Or.inr (Or.inr (Or.inl ⟨rfl, hC, HO⟩))))) | exact Or.inr (Or.inr (Or.inr (Or.inr (Or.inr (Or.inr (⟨rfl, hC, HO⟩))))))
          case measure => simp [intOf]
        all_goals (refine hC.rc ?_; first | exact endRN HO (hC.fin mSub mMem mL) | exact endR0 HO (hC.fin mSub mMem mL))
    · have hC := hC'.out
      clear hC'
      unfold rstX isX wtX0 wtX1 at HO
      go_wp2_with (first
      | (guard_target = wpList _ _ _ (Oper.mk (some 104) (Op.load 4 _) _ _ _ _ :: _) _ _; cases st2)
      | (guard_target = wpList _ _ _ (Oper.mk (some 38) (Op.buildSlice 82 _ _) _ _ _ _ :: _) _ _; (first | refine hC.S4 ?_ | refine hC.S6 ?_); clear hC; intro W kW hC; (try simp only [pP]))
      | (refine hC.rlb ?_; (try simp only [Option.isNone_none, Option.isNone_some, Act.put, List.setIfInBounds_toArray, List.set_cons_zero, List.set_cons_succ]))
      | ((first | refine hC.sbT ?_ | refine hC.sbF ?_); clear hC; intro W hC; (try simp only [pP]))
      | (refine bA ?_; clear hC; intro W k hC)
      | refine bL ?_
      | (refine bS ?_; clear hC; intro W hC)
      | (go_at_call 15; refine aGot ?_ ?_ <;> clear hC HO; (focus (intro ts r W hC e hl HO; first | (cases e; done) | cases e)); rotate_left; (focus (intro hC HO)); rotate_left)
      | (go_at_call 35; refine aMust ?_; clear hC HO; intro st2 W hC hl HO)
      | (go_at_call 167; refine uN (q_rsum RC hg hC (by omega)) HO ?_; clear hC HO; intro t st2 W ao cap he hC HO; have hl := sl_of (sumF_Len RC.len) he; clear he)
      | (go_at_call 170; refine useRN (q_rin RC (.head _) hg hC (by omega) (by omega)) ?_; clear hC; intro t st2 W ao cap he hC; replace HO := hidk (bindN he HO.out); clear he)
      | (go_at_call 169; refine useRD (q_rturned _ hC (.head _)) ?_; clear hC; intro W ao cap hC)
      | (guard_target = Code.wp _ (Code.region 25 _ true) _ _ _; refine wp_region_held_drew (S := HB [_]) (by kernel_rfl) (hC.drew.hbI1 1 (by rfl)) (fun hHeld => ?_); replace hC := hC.drew; refine qk 0 ?_; (try simp only [pQ]); refine qkN 1 ?_; (try simp only [pQ]); refine qk 2 ?_; (try simp only [pQ]); refine ry [3] ?_; refine rd1 fun K hK => ?_; go_simp; (first | (go_at_call 167; refine uN (q_rsum RC hg hC (by omega)) HO ?_; clear hC HO; intro t st2 W ao cap he hC HO; have hl := sl_of (sumF_Len RC.len) he; clear he)); refine hK.out _ _ hC.hb1' fun hHeld => ?_; clear hK K; (try simp only [pQ]); refine ry [4] ?_; refine rd1 fun K hK => ?_; refine st_of rfl ?_; refine wp_build2C hC (by rfl) (by rfl) (by rfl) ?_; clear hC; intro W k hC; refine hK.out _ _ hC.hb1' fun hHeld => ?_; clear hK K; (try simp only [pQ]); refine ry [5] ?_; refine rd1 fun K hK => ?_; go_simp; (first | (go_at_call 33; guard_target = Calls _ _ #[_, _, _, Value.slice (some _) 2 2] _ _; refine m6 ?_; clear hC; intro W ao cap hC)); refine hK.out _ _ hC.hb1' fun hHeld => ?_; clear hK K; (try simp only [pQ]); refine ry [6] ?_; refine rd1 fun K hK => ?_; go_simp; (first | (go_at_call 169; refine useRD (q_rturned _ hC (.head _)) ?_; clear hC; intro W ao cap hC)); refine hK.out _ _ hC.hb1' fun hHeld => ?_; clear hK K; (try simp only [pQ]); refine ry [7] ?_; refine rd1 fun K hK => ?_; refine st_of rfl ?_; refine wsN ?_; clear hC; intro W hC; refine hK.out _ _ hC.hb1' fun hHeld => ?_; clear hK K; (try simp only [pQ]); refine dn ?_ _)
      | (go_at_call 33; guard_target = Calls _ _ #[_, _, _, Value.slice (some _) 3 3] _ _; (first | refine useRD (q_rnode3 _ _ _ hC (.tail _ (.tail _ (.head _))) (.tail _ (.head _)) (.head _)) ?_); clear hC; intro W ao cap hC))
      · go_loopw [8] (fun x wr => (x = .int .i64 0 ∧ ∃ stq, Hid (Cx E B w0 wr (.r stq) ((kW, [.string ⟨#[110, 117, 108, 108]⟩, .string ⟨#[116, 114, 117, 101]⟩, .string ⟨#[102, 97, 108, 115, 101]⟩, .string ⟨#[117, 110, 107, 110, 111, 119, 110]⟩], 9) :: (kS, [.string ⟨#[61]⟩, .string ⟨#[60, 62]⟩, .string ⟨#[60]⟩, .string ⟨#[60, 61]⟩, .string ⟨#[62]⟩, .string ⟨#[62, 61]⟩], 9) :: (kN, ncs aS pZ tS, 24) :: (kR, [.string ⟨#[]⟩, .string ⟨#[]⟩, .int .i64 0, .slice none 0 0], 24) :: H) ((aS, pZ, tS) :: L)) ∧ Hid (stq.bind (fun ts => ow [110, 117, 108, 108] ts (fun r => some (turnT true (nd [105, 115] [110, 117, 108, 108] [tS]), r)) (ow [116, 114, 117, 101] ts (fun r => some (turnT true (nd [105, 115] [116, 114, 117, 101] [tS]), r)) (ow [102, 97, 108, 115, 101] ts (fun r => some (turnT true (nd [105, 115] [102, 97, 108, 115, 101] [tS]), r)) (ow [117, 110, 107, 110, 111, 119, 110] ts (fun r => some (turnT true (nd [105, 115] [117, 110, 107, 110, 111, 119, 110] [tS]), r)) (none))))) = o)) ∨ (x = .int .i64 1 ∧ ∃ stq, Hid (Cx E B w0 wr (.r stq) ((kW, [.string ⟨#[110, 117, 108, 108]⟩, .string ⟨#[116, 114, 117, 101]⟩, .string ⟨#[102, 97, 108, 115, 101]⟩, .string ⟨#[117, 110, 107, 110, 111, 119, 110]⟩], 9) :: (kS, [.string ⟨#[61]⟩, .string ⟨#[60, 62]⟩, .string ⟨#[60]⟩, .string ⟨#[60, 61]⟩, .string ⟨#[62]⟩, .string ⟨#[62, 61]⟩], 9) :: (kN, ncs aS pZ tS, 24) :: (kR, [.string ⟨#[]⟩, .string ⟨#[]⟩, .int .i64 0, .slice none 0 0], 24) :: H) ((aS, pZ, tS) :: L)) ∧ Hid (stq.bind (fun ts => ow [116, 114, 117, 101] ts (fun r => some (turnT true (nd [105, 115] [116, 114, 117, 101] [tS]), r)) (ow [102, 97, 108, 115, 101] ts (fun r => some (turnT true (nd [105, 115] [102, 97, 108, 115, 101] [tS]), r)) (ow [117, 110, 107, 110, 111, 119, 110] ts (fun r => some (turnT true (nd [105, 115] [117, 110, 107, 110, 111, 119, 110] [tS]), r)) (none)))) = o)) ∨ (x = .int .i64 2 ∧ ∃ stq, Hid (Cx E B w0 wr (.r stq) ((kW, [.string ⟨#[110, 117, 108, 108]⟩, .string ⟨#[116, 114, 117, 101]⟩, .string ⟨#[102, 97, 108, 115, 101]⟩, .string ⟨#[117, 110, 107, 110, 111, 119, 110]⟩], 9) :: (kS, [.string ⟨#[61]⟩, .string ⟨#[60, 62]⟩, .string ⟨#[60]⟩, .string ⟨#[60, 61]⟩, .string ⟨#[62]⟩, .string ⟨#[62, 61]⟩], 9) :: (kN, ncs aS pZ tS, 24) :: (kR, [.string ⟨#[]⟩, .string ⟨#[]⟩, .int .i64 0, .slice none 0 0], 24) :: H) ((aS, pZ, tS) :: L)) ∧ Hid (stq.bind (fun ts => ow [102, 97, 108, 115, 101] ts (fun r => some (turnT true (nd [105, 115] [102, 97, 108, 115, 101] [tS]), r)) (ow [117, 110, 107, 110, 111, 119, 110] ts (fun r => some (turnT true (nd [105, 115] [117, 110, 107, 110, 111, 119, 110] [tS]), r)) (none))) = o)) ∨ (x = .int .i64 3 ∧ ∃ stq, Hid (Cx E B w0 wr (.r stq) ((kW, [.string ⟨#[110, 117, 108, 108]⟩, .string ⟨#[116, 114, 117, 101]⟩, .string ⟨#[102, 97, 108, 115, 101]⟩, .string ⟨#[117, 110, 107, 110, 111, 119, 110]⟩], 9) :: (kS, [.string ⟨#[61]⟩, .string ⟨#[60, 62]⟩, .string ⟨#[60]⟩, .string ⟨#[60, 61]⟩, .string ⟨#[62]⟩, .string ⟨#[62, 61]⟩], 9) :: (kN, ncs aS pZ tS, 24) :: (kR, [.string ⟨#[]⟩, .string ⟨#[]⟩, .int .i64 0, .slice none 0 0], 24) :: H) ((aS, pZ, tS) :: L)) ∧ Hid (stq.bind (fun ts => ow [117, 110, 107, 110, 111, 119, 110] ts (fun r => some (turnT true (nd [105, 115] [117, 110, 107, 110, 111, 119, 110] [tS]), r)) (none)) = o)) ∨ (x = .int .i64 4 ∧ ∃ stq, Hid (Cx E B w0 wr (.r stq) ((kW, [.string ⟨#[110, 117, 108, 108]⟩, .string ⟨#[116, 114, 117, 101]⟩, .string ⟨#[102, 97, 108, 115, 101]⟩, .string ⟨#[117, 110, 107, 110, 111, 119, 110]⟩], 9) :: (kS, [.string ⟨#[61]⟩, .string ⟨#[60, 62]⟩, .string ⟨#[60]⟩, .string ⟨#[60, 61]⟩, .string ⟨#[62]⟩, .string ⟨#[62, 61]⟩], 9) :: (kN, ncs aS pZ tS, 24) :: (kR, [.string ⟨#[]⟩, .string ⟨#[]⟩, .int .i64 0, .slice none 0 0], 24) :: H) ((aS, pZ, tS) :: L)) ∧ Hid (stq.bind (fun ts => none) = o))) (fun x _ => 4 - (intOf x).toNat)
        case atStart => exact Or.inl ⟨rfl, _, hC, HO⟩
        case round =>
          rename World => wr
          clear hC HO
          rcases hrel with ⟨rfl, stq, hC', HO⟩ | ⟨rfl, stq, hC', HO⟩ | ⟨rfl, stq, hC', HO⟩ | ⟨rfl, stq, hC', HO⟩ | ⟨rfl, stq, hC', HO⟩
          iterate 4
            · have hC := hC'.out
              clear hC'
              go_wp2_with (first
              | (refine hC.rlb ?_; (try simp only [Option.isNone_none, Option.isNone_some, Act.put, List.setIfInBounds_toArray, List.set_cons_zero, List.set_cons_succ]))
              | (refine bA ?_; clear hC; intro W k hC)
              | refine bL ?_
              | (refine bS ?_; clear hC; intro W hC)
              | (go_at_call 15; refine aGot ?_ ?_ <;> clear hC HO; (focus (intro ts r W hC e hl HO; first | (cases e; done) | cases e)); rotate_left; (focus (intro hC HO)); rotate_left)
              | (guard_target = Code.wp _ (Code.region 15 _ true) _ _ _; refine wp_region_held_drew (S := HB [_, _]) (by kernel_rfl) (hC.drew.hbI2 0 2 (by rfl) (by rfl)) (fun hHeld => ?_); replace hC := hC.drew; refine qk 0 ?_; (try simp only [pQ]); refine qk 1 ?_; (try simp only [pQ]); refine qk 2 ?_; (try simp only [pQ]); refine qk 3 ?_; (try simp only [pQ]); refine qkL 4 ?_; (try simp only [pQ]); refine qkN 5 ?_; (try simp only [pQ]); refine ry [6] ?_; refine rd1 fun K hK => ?_; refine st_of rfl ?_; refine wp_build1C hC (by rfl) (by rfl) ?_; clear hC; intro W k hC; refine hK.out _ _ hC.hb2' fun hHeld => ?_; clear hK K; (try simp only [pQ]); refine ry [7] ?_; refine rd1 fun K hK => ?_; go_simp; (first | (go_at_call 33; guard_target = Calls _ _ #[_, _, _, Value.slice (some _) 1 1] _ _; refine m5 ?_; clear hC; intro W ao cap hC)); refine hK.out _ _ hC.hb2' fun hHeld => ?_; clear hK K; (try simp only [pQ]); refine ry [8] ?_; refine rd1 fun K hK => ?_; go_simp; (first | (go_at_call 169; refine useRD (q_rturned _ hC (.head _)) ?_; clear hC; intro W ao cap hC)); refine hK.out _ _ hC.hb2' fun hHeld => ?_; clear hK K; (try simp only [pQ]); refine ry [9] ?_; refine rd1 fun K hK => ?_; refine st_of rfl ?_; refine wsN ?_; clear hC; intro W hC; refine hK.out _ _ hC.hb2' fun hHeld => ?_; clear hK K; (try simp only [pQ]); refine dn ?_ _))
              rotate_right
              · go_roundw
                case rel => first | exact Or.inr (Or.inl ⟨rfl, _, hC, HO⟩) | exact Or.inr (Or.inr (Or.inl ⟨rfl, _, hC, HO⟩)) | exact Or.inr (Or.inr (Or.inr (Or.inl ⟨rfl, _, hC, HO⟩))) | exact Or.inr (Or.inr (Or.inr (Or.inr (⟨rfl, _, hC, HO⟩))))
                case measure => simp [intOf]
              all_goals (refine hC.rc ?_; first | exact endRN HO (hC.fin mSub mMem mL) | exact endR0 HO (hC.fin mSub mMem mL))
          · have hC := hC'.out
            clear hC'
            go_wp2_with (first
            | (refine hC.rlb ?_; (try simp only [Option.isNone_none, Option.isNone_some, Act.put, List.setIfInBounds_toArray, List.set_cons_zero, List.set_cons_succ]))
            | ((first | refine hC.sbT ?_ | refine hC.sbF ?_); clear hC; intro W hC; (try simp only [pP]))
            | (refine bA ?_; clear hC; intro W k hC)
            | refine bL ?_
            | (refine bS ?_; clear hC; intro W hC)
            | (refine bA ?_; clear hC; intro W k hC))
            all_goals (refine hC.rc ?_; first | exact endRN HO (hC.fin mSub mMem mL) | exact endR0 HO (hC.fin mSub mMem mL))
      · go_loopw [8] (fun x wr => (x = .int .i64 0 ∧ ∃ stq, Hid (Cx E B w0 wr (.r stq) ((kW, [.string ⟨#[110, 117, 108, 108]⟩, .string ⟨#[116, 114, 117, 101]⟩, .string ⟨#[102, 97, 108, 115, 101]⟩, .string ⟨#[117, 110, 107, 110, 111, 119, 110]⟩], 9) :: (kS, [.string ⟨#[61]⟩, .string ⟨#[60, 62]⟩, .string ⟨#[60]⟩, .string ⟨#[60, 61]⟩, .string ⟨#[62]⟩, .string ⟨#[62, 61]⟩], 9) :: (kN, ncs aS pZ tS, 24) :: (kR, [.string ⟨#[]⟩, .string ⟨#[]⟩, .int .i64 0, .slice none 0 0], 24) :: H) ((aS, pZ, tS) :: L)) ∧ Hid (stq.bind (fun ts => ow [110, 117, 108, 108] ts (fun r => some (turnT false (nd [105, 115] [110, 117, 108, 108] [tS]), r)) (ow [116, 114, 117, 101] ts (fun r => some (turnT false (nd [105, 115] [116, 114, 117, 101] [tS]), r)) (ow [102, 97, 108, 115, 101] ts (fun r => some (turnT false (nd [105, 115] [102, 97, 108, 115, 101] [tS]), r)) (ow [117, 110, 107, 110, 111, 119, 110] ts (fun r => some (turnT false (nd [105, 115] [117, 110, 107, 110, 111, 119, 110] [tS]), r)) (none))))) = o)) ∨ (x = .int .i64 1 ∧ ∃ stq, Hid (Cx E B w0 wr (.r stq) ((kW, [.string ⟨#[110, 117, 108, 108]⟩, .string ⟨#[116, 114, 117, 101]⟩, .string ⟨#[102, 97, 108, 115, 101]⟩, .string ⟨#[117, 110, 107, 110, 111, 119, 110]⟩], 9) :: (kS, [.string ⟨#[61]⟩, .string ⟨#[60, 62]⟩, .string ⟨#[60]⟩, .string ⟨#[60, 61]⟩, .string ⟨#[62]⟩, .string ⟨#[62, 61]⟩], 9) :: (kN, ncs aS pZ tS, 24) :: (kR, [.string ⟨#[]⟩, .string ⟨#[]⟩, .int .i64 0, .slice none 0 0], 24) :: H) ((aS, pZ, tS) :: L)) ∧ Hid (stq.bind (fun ts => ow [116, 114, 117, 101] ts (fun r => some (turnT false (nd [105, 115] [116, 114, 117, 101] [tS]), r)) (ow [102, 97, 108, 115, 101] ts (fun r => some (turnT false (nd [105, 115] [102, 97, 108, 115, 101] [tS]), r)) (ow [117, 110, 107, 110, 111, 119, 110] ts (fun r => some (turnT false (nd [105, 115] [117, 110, 107, 110, 111, 119, 110] [tS]), r)) (none)))) = o)) ∨ (x = .int .i64 2 ∧ ∃ stq, Hid (Cx E B w0 wr (.r stq) ((kW, [.string ⟨#[110, 117, 108, 108]⟩, .string ⟨#[116, 114, 117, 101]⟩, .string ⟨#[102, 97, 108, 115, 101]⟩, .string ⟨#[117, 110, 107, 110, 111, 119, 110]⟩], 9) :: (kS, [.string ⟨#[61]⟩, .string ⟨#[60, 62]⟩, .string ⟨#[60]⟩, .string ⟨#[60, 61]⟩, .string ⟨#[62]⟩, .string ⟨#[62, 61]⟩], 9) :: (kN, ncs aS pZ tS, 24) :: (kR, [.string ⟨#[]⟩, .string ⟨#[]⟩, .int .i64 0, .slice none 0 0], 24) :: H) ((aS, pZ, tS) :: L)) ∧ Hid (stq.bind (fun ts => ow [102, 97, 108, 115, 101] ts (fun r => some (turnT false (nd [105, 115] [102, 97, 108, 115, 101] [tS]), r)) (ow [117, 110, 107, 110, 111, 119, 110] ts (fun r => some (turnT false (nd [105, 115] [117, 110, 107, 110, 111, 119, 110] [tS]), r)) (none))) = o)) ∨ (x = .int .i64 3 ∧ ∃ stq, Hid (Cx E B w0 wr (.r stq) ((kW, [.string ⟨#[110, 117, 108, 108]⟩, .string ⟨#[116, 114, 117, 101]⟩, .string ⟨#[102, 97, 108, 115, 101]⟩, .string ⟨#[117, 110, 107, 110, 111, 119, 110]⟩], 9) :: (kS, [.string ⟨#[61]⟩, .string ⟨#[60, 62]⟩, .string ⟨#[60]⟩, .string ⟨#[60, 61]⟩, .string ⟨#[62]⟩, .string ⟨#[62, 61]⟩], 9) :: (kN, ncs aS pZ tS, 24) :: (kR, [.string ⟨#[]⟩, .string ⟨#[]⟩, .int .i64 0, .slice none 0 0], 24) :: H) ((aS, pZ, tS) :: L)) ∧ Hid (stq.bind (fun ts => ow [117, 110, 107, 110, 111, 119, 110] ts (fun r => some (turnT false (nd [105, 115] [117, 110, 107, 110, 111, 119, 110] [tS]), r)) (none)) = o)) ∨ (x = .int .i64 4 ∧ ∃ stq, Hid (Cx E B w0 wr (.r stq) ((kW, [.string ⟨#[110, 117, 108, 108]⟩, .string ⟨#[116, 114, 117, 101]⟩, .string ⟨#[102, 97, 108, 115, 101]⟩, .string ⟨#[117, 110, 107, 110, 111, 119, 110]⟩], 9) :: (kS, [.string ⟨#[61]⟩, .string ⟨#[60, 62]⟩, .string ⟨#[60]⟩, .string ⟨#[60, 61]⟩, .string ⟨#[62]⟩, .string ⟨#[62, 61]⟩], 9) :: (kN, ncs aS pZ tS, 24) :: (kR, [.string ⟨#[]⟩, .string ⟨#[]⟩, .int .i64 0, .slice none 0 0], 24) :: H) ((aS, pZ, tS) :: L)) ∧ Hid (stq.bind (fun ts => none) = o))) (fun x _ => 4 - (intOf x).toNat)
        case atStart => exact Or.inl ⟨rfl, _, hC, HO⟩
        case round =>
          rename World => wr
          clear hC HO
          rcases hrel with ⟨rfl, stq, hC', HO⟩ | ⟨rfl, stq, hC', HO⟩ | ⟨rfl, stq, hC', HO⟩ | ⟨rfl, stq, hC', HO⟩ | ⟨rfl, stq, hC', HO⟩
          iterate 4
            · have hC := hC'.out
              clear hC'
              go_wp2_with (first
              | (refine hC.rlb ?_; (try simp only [Option.isNone_none, Option.isNone_some, Act.put, List.setIfInBounds_toArray, List.set_cons_zero, List.set_cons_succ]))
              | (refine bA ?_; clear hC; intro W k hC)
              | refine bL ?_
              | (refine bS ?_; clear hC; intro W hC)
              | (go_at_call 15; refine aGot ?_ ?_ <;> clear hC HO; (focus (intro ts r W hC e hl HO; first | (cases e; done) | cases e)); rotate_left; (focus (intro hC HO)); rotate_left)
              | (guard_target = Code.wp _ (Code.region 15 _ true) _ _ _; refine wp_region_held_drew (S := HB [_, _]) (by kernel_rfl) (hC.drew.hbI2 0 2 (by rfl) (by rfl)) (fun hHeld => ?_); replace hC := hC.drew; refine qk 0 ?_; (try simp only [pQ]); refine qk 1 ?_; (try simp only [pQ]); refine qk 2 ?_; (try simp only [pQ]); refine qk 3 ?_; (try simp only [pQ]); refine qkL 4 ?_; (try simp only [pQ]); refine qkN 5 ?_; (try simp only [pQ]); refine ry [6] ?_; refine rd1 fun K hK => ?_; refine st_of rfl ?_; refine wp_build1C hC (by rfl) (by rfl) ?_; clear hC; intro W k hC; refine hK.out _ _ hC.hb2' fun hHeld => ?_; clear hK K; (try simp only [pQ]); refine ry [7] ?_; refine rd1 fun K hK => ?_; go_simp; (first | (go_at_call 33; guard_target = Calls _ _ #[_, _, _, Value.slice (some _) 1 1] _ _; refine m5 ?_; clear hC; intro W ao cap hC)); refine hK.out _ _ hC.hb2' fun hHeld => ?_; clear hK K; (try simp only [pQ]); refine ry [8] ?_; refine rd1 fun K hK => ?_; go_simp; (first | (go_at_call 169; refine useRD (q_rturned _ hC (.head _)) ?_; clear hC; intro W ao cap hC)); refine hK.out _ _ hC.hb2' fun hHeld => ?_; clear hK K; (try simp only [pQ]); refine ry [9] ?_; refine rd1 fun K hK => ?_; refine st_of rfl ?_; refine wsN ?_; clear hC; intro W hC; refine hK.out _ _ hC.hb2' fun hHeld => ?_; clear hK K; (try simp only [pQ]); refine dn ?_ _))
              rotate_right
              · go_roundw
                case rel => first | exact Or.inr (Or.inl ⟨rfl, _, hC, HO⟩) | exact Or.inr (Or.inr (Or.inl ⟨rfl, _, hC, HO⟩)) | exact Or.inr (Or.inr (Or.inr (Or.inl ⟨rfl, _, hC, HO⟩))) | exact Or.inr (Or.inr (Or.inr (Or.inr (⟨rfl, _, hC, HO⟩))))
                case measure => simp [intOf]
              all_goals (refine hC.rc ?_; first | exact endRN HO (hC.fin mSub mMem mL) | exact endR0 HO (hC.fin mSub mMem mL))
          · have hC := hC'.out
            clear hC'
            go_wp2_with (first
            | (refine hC.rlb ?_; (try simp only [Option.isNone_none, Option.isNone_some, Act.put, List.setIfInBounds_toArray, List.set_cons_zero, List.set_cons_succ]))
            | ((first | refine hC.sbT ?_ | refine hC.sbF ?_); clear hC; intro W hC; (try simp only [pP]))
            | (refine bA ?_; clear hC; intro W k hC)
            | refine bL ?_
            | (refine bS ?_; clear hC; intro W hC)
            | (refine bA ?_; clear hC; intro W k hC))
            all_goals (refine hC.rc ?_; first | exact endRN HO (hC.fin mSub mMem mL) | exact endR0 HO (hC.fin mSub mMem mL))
      all_goals (refine hC.rc ?_; first | exact endRN HO (hC.fin mSub mMem mL) | exact endR0 HO (hC.fin mSub mMem mL))
def negX (R : Rc) (ts : List Tok) : Option (Tr × List Tok) := ow [110, 111, 116] ts (fun r => bd (R.neg r) fun x r2 => some (nd [110, 111, 116] [] [x], r2)) (tstF R ts)
theorem negX_eq (R : Rc) : negF R = negX R := by
  funext ts
  unfold negF negX ow
  cases tkB [[110, 111, 116]] ts with
  | true =>
    simp only [if_true]
    cases R.neg (tkR [[110, 111, 116]] ts) <;> rfl
  | false => rfl
theorem q_rnot {E : Env} {B : Nat} {w0 w : World} {st : Option (List Tok)} {H : List Bx} {L : List Tn} {R : Rc} {n : Nat} (RC : Cw E R n) (hg : GoodE E) (hC : Cx E B w0 w (.r st) H L) (hn : sl st ≤ n) :
    Calls Tryz.prog 131 #[.pointer (some ⟨E.b, 0, none⟩)] w (RN E B w0 H L (st.bind (negF R))) := by
  obtain ⟨o, ho⟩ : ∃ o, st.bind (negF R) = o := ⟨_, rfl⟩
  rw [ho]
  rw [negX_eq] at ho
  unfold negX at ho
  have HO := hidk ho
  clear ho
  have h601 := hC.rsl
  go_enter Tryz.func131, Tryz.ntmps131
  go_wp2_with (first
  | (refine bA ?_; clear hC; intro W k hC)
  | (refine bS ?_; clear hC; intro W hC)
  | (go_at_call 15; refine aGot ?_ ?_ <;> clear hC HO; (focus (intro ts r W hC e hl HO; first | (cases e; done) | cases e)); rotate_left; (focus (intro hC HO)); rotate_left)
  | (go_at_call 131; refine uN (RC.neg hC (by omega)) HO ?_; clear hC HO; intro t st2 W ao cap he hC HO; have hl := sl_of RC.len.neg he; clear he)
  | (go_at_call 149; refine useRN (q_rtest RC hg hC (by omega)) ?_; clear hC; intro t st2 W ao cap he hC; replace HO := hidk ((bindAll HO.out he)); clear he)
  | (go_at_call 33; guard_target = Calls _ _ #[_, _, _, Value.slice (some _) 1 1] _ _; refine m5 ?_; clear hC; intro W ao cap hC))
  all_goals (refine hC.rc ?_; first | exact endRN HO (hC.fin mSub mMem mL) | exact endR0 HO (hC.fin mSub mMem mL))
theorem q_rand {E : Env} {B : Nat} {w0 w : World} {st : Option (List Tok)} {H : List Bx} {L : List Tn} {R : Rc} {n : Nat} (RC : Cw E R n) (hg : GoodE E) (hC : Cx E B w0 w (.r st) H L) (hn : sl st ≤ n) :
    Calls Tryz.prog 110 #[.pointer (some ⟨E.b, 0, none⟩)] w (RN E B w0 H L (st.bind (conF R))) := by
  obtain ⟨o, ho⟩ : ∃ o, st.bind (conF R) = o := ⟨_, rfl⟩
  rw [ho]
  have HO : Hid (st.bind (fun ts => bd ((negF R) ts) fun x r => chN (negF R) (wdLk [97, 110, 100]) (r.length + 1) x r) = o) := by
    rw [← ho]
    show _ = _
    congr 1
    funext ts
    exact (chF_x (negF R) (wdLk [97, 110, 100]) ts).symm
  clear ho
  have h601 := hC.rsl
  go_enter Tryz.func110, Tryz.ntmps110
  go_wp2_with (first
  | (guard_target = wpList _ _ _ (Oper.mk (some 2) (Op.alloc 24) _ _ _ _ :: _) _ _; refine hC.aN ?_; clear hC; intro W kR hC; (try simp only [pP]))
  | (guard_target = wpList _ _ _ (Oper.mk (some 3) (Op.alloc 24) _ _ _ _ :: _) _ _; refine hC.aN ?_; clear hC; intro W kN hC; (try simp only [pP]))
  | refine bL ?_
  | (refine bA ?_; clear hC; intro W k hC)
  | (refine bS ?_; clear hC; intro W hC)
  | (go_at_call 131; refine uN (q_rnot RC hg hC (by omega)) HO ?_; clear hC HO; intro t st2 W ao cap he hC HO; have hl := sl_of (negF_Len RC.len) he; clear he))
  go_loopg [] (sl st2) (fun kx wr => ∃ (tA : Tr) (aA : Option Addr) (pA : Nat) (L' : List Tn) (st' : Option (List Tok)) (f : Nat), sl st' ≤ kx ∧ sl st' ≤ sl st ∧ Hid (Cx E B w0 wr (.r st') ((kN, ncs aA pA tA, 24) :: (kR, [.string ⟨#[]⟩, .string ⟨#[]⟩, .int .i64 0, .slice none 0 0], 24) :: H) L') ∧ Hid ((aA, pA, tA) ∈ L') ∧ Hid (∀ y ∈ L, y ∈ L') ∧ Hid (st'.bind (fun ts => chN (negF R) (wdLk [97, 110, 100]) f tA ts) = o) ∧ sl st' ≤ f)
  case atStart => exact ⟨t, ao, cap, _, st2, sl st2, Nat.le_refl _, by omega, hC, .head _, mL, startC HO.out, Nat.le_refl _⟩
  case round =>
    rename World => wr
    clear hC HO
    obtain ⟨tA, aA, pA, L', st', f, hk, hst, hC', hM, hS, HO2, hf⟩ := hrel
    have hC := hC'.out
    clear hC'
    unfold ncs at hC
    cases st' with
    | none =>
      have HO : Hid ((none : Option (List Tok)).bind (fun r => some (tA, r)) = o) := HO2.out
      clear HO2
      go_wp2_with (first
      | refine bL ?_
      | (refine bA ?_; clear hC; intro W k hC)
      | (refine bS ?_; clear hC; intro W hC)
      | (refine bA ?_; clear hC; intro W k hC))
      all_goals (refine hC.rc ?_; refine endRN HO (hC.fin mSub hM.out (mS hS.out)))
    | some ts0 =>
      have hp0 := sl_pos ts0
      obtain ⟨f, rfl⟩ : ∃ f', f = f' + 1 := ⟨f - 1, by omega⟩
      have HO : Hid ((some ts0).bind (fun ts => ow [97, 110, 100] ts (fun r => bd ((negF R) r) fun x r2 => chN (negF R) (wdLk [97, 110, 100]) f (nd [97, 110, 100] [] [tA, x]) r2) (some (tA, ts))) = o) := by
        show _ = _
        rw [← HO2.out]
        exact congrArg ((some ts0).bind ·) (funext fun ts => chN_w (negF R) [97, 110, 100] f tA ts)
      clear HO2
      go_wp2_with (first
      | refine bL ?_
      | (refine bA ?_; clear hC; intro W k hC)
      | (refine bS ?_; clear hC; intro W hC)
      | (go_at_call 15; refine aGot ?_ ?_ <;> clear hC HO; (focus (intro ts r W hC e hl HO; first | (cases e; done) | cases e)); rotate_left; (focus (intro hC HO)); rotate_left)
      | (guard_target = Code.wp _ (Code.region 5 _ true) _ _ _; refine wp_region_held_drew (S := HB []) (by kernel_rfl) (hC.drew.hbI0  ) (fun hHeld => ?_); replace hC := hC.drew; refine qk 1 ?_; (try simp only [pQ]); refine ry [0, 2] ?_; refine AllReadyH.cons rfl (fun K hK => ?_) (AllReadyH.cons rfl (fun K hK => ?_) AllReadyH.nil); (focus (refine st_of rfl ?_; refine wp_loadNM hC (by rfl) (by rfl) (by repeat (first | exact List.mem_cons_self | assumption | apply List.mem_cons_of_mem)) ?_; refine hK.out _ _ (hC.hbS0 ) fun hHeld => ?_; clear hK K; (try simp only [pQ]); refine ry [2] ?_; refine rd1 fun K hK => ?_; go_simp; (first | (go_at_call 131; refine uN (q_rnot RC hg hC (by omega)) HO ?_; clear hC HO; intro t st2 W ao cap he hC HO; have hl := sl_of (negF_Len RC.len) he; clear he)); refine hK.out _ _ (hC.hbS0 ) fun hHeld => ?_; clear hK K; (try simp only [pQ]); refine ry [3] ?_; refine rd1 fun K hK => ?_; refine st_of rfl ?_; refine wp_build2C hC (by rfl) (by rfl) (by rfl) ?_; clear hC; intro W k hC; refine hK.out _ _ (hC.hbS0 ) fun hHeld => ?_; clear hK K; (try simp only [pQ]); refine ry [4] ?_; refine rd1 fun K hK => ?_; go_simp; (first | (go_at_call 33; guard_target = Calls _ _ #[_, _, _, Value.slice (some _) 2 2] _ _; (first | refine useRD (q_rnode2 _ _ _ hC (.tail _ hM.out) (.head _)) ?_); clear hC; intro W ao cap hC)); refine hK.out _ _ (hC.hbS0 ) fun hHeld => ?_; clear hK K; (try simp only [pQ]); refine ry [5] ?_; refine rd1 fun K hK => ?_; refine st_of rfl ?_; refine wsN ?_; clear hC; intro W hC; refine hK.out _ _ (hC.hbS0 ) fun hHeld => ?_; clear hK K; (try simp only [pQ]); refine dn ?_ _)); rotate_left; (focus (go_simp; (first | (go_at_call 131; refine uN (q_rnot RC hg hC (by omega)) HO ?_; clear hC HO; intro t st2 W ao cap he hC HO; have hl := sl_of (negF_Len RC.len) he; clear he)); refine hK.out _ _ (hC.hbS0 ) fun hHeld => ?_; clear hK K; (try simp only [pQ]); refine ry [0] ?_; refine rd1 fun K hK => ?_; refine st_of rfl ?_; refine wp_loadNM hC (by rfl) (by rfl) (by repeat (first | exact List.mem_cons_self | assumption | apply List.mem_cons_of_mem)) ?_; refine hK.out _ _ (hC.hbS0 ) fun hHeld => ?_; clear hK K; (try simp only [pQ]); refine ry [3] ?_; refine rd1 fun K hK => ?_; refine st_of rfl ?_; refine wp_build2C hC (by rfl) (by rfl) (by rfl) ?_; clear hC; intro W k hC; refine hK.out _ _ (hC.hbS0 ) fun hHeld => ?_; clear hK K; (try simp only [pQ]); refine ry [4] ?_; refine rd1 fun K hK => ?_; go_simp; (first | (go_at_call 33; guard_target = Calls _ _ #[_, _, _, Value.slice (some _) 2 2] _ _; (first | refine useRD (q_rnode2 _ _ _ hC (.tail _ hM.out) (.head _)) ?_); clear hC; intro W ao cap hC)); refine hK.out _ _ (hC.hbS0 ) fun hHeld => ?_; clear hK K; (try simp only [pQ]); refine ry [5] ?_; refine rd1 fun K hK => ?_; refine st_of rfl ?_; refine wsN ?_; clear hC; intro W hC; refine hK.out _ _ (hC.hbS0 ) fun hHeld => ?_; clear hK K; (try simp only [pQ]); refine dn ?_ _)); rotate_left))
      · go_roundg (sl st2)
        case measure => omega
        case rel => exact ⟨nd [97, 110, 100] [] [tA, t], ao, cap, _, st2, f, Nat.le_refl _, by omega, hC.less (by (repeat (first | exact List.Sublist.refl _ | apply List.Sublist.cons_cons | apply List.Sublist.cons)); done) (fun y hy => hy), .head _, (mS hS.out), HO, by omega⟩
      · go_roundg (sl st2)
        case measure => omega
        case rel => exact ⟨nd [97, 110, 100] [] [tA, t], ao, cap, _, st2, f, Nat.le_refl _, by omega, hC.less (by (repeat (first | exact List.Sublist.refl _ | apply List.Sublist.cons_cons | apply List.Sublist.cons)); done) (fun y hy => hy), .head _, (mS hS.out), HO, by omega⟩
      all_goals (refine hC.rc ?_; refine endRN HO (hC.fin mSub hM.out (mS hS.out)))
theorem q_rexpr {E : Env} {B : Nat} {w0 w : World} {st : Option (List Tok)} {H : List Bx} {L : List Tn} {R : Rc} {n : Nat} (RC : Cw E R n) (hg : GoodE E) (hC : Cx E B w0 w (.r st) H L) (hn : sl st ≤ n) :
    Calls Tryz.prog 70 #[.pointer (some ⟨E.b, 0, none⟩)] w (RN E B w0 H L (st.bind (exprF R))) := by
  obtain ⟨o, ho⟩ : ∃ o, st.bind (exprF R) = o := ⟨_, rfl⟩
  rw [ho]
  have HO : Hid (st.bind (fun ts => bd ((conF R) ts) fun x r => chN (conF R) (wdLk [111, 114]) (r.length + 1) x r) = o) := by
    rw [← ho]
    show _ = _
    congr 1
    funext ts
    exact (chF_x (conF R) (wdLk [111, 114]) ts).symm
  clear ho
  have h601 := hC.rsl
  go_enter Tryz.func70, Tryz.ntmps70
  go_wp2_with (first
  | (guard_target = wpList _ _ _ (Oper.mk (some 2) (Op.alloc 24) _ _ _ _ :: _) _ _; refine hC.aN ?_; clear hC; intro W kR hC; (try simp only [pP]))
  | (guard_target = wpList _ _ _ (Oper.mk (some 3) (Op.alloc 24) _ _ _ _ :: _) _ _; refine hC.aN ?_; clear hC; intro W kN hC; (try simp only [pP]))
  | refine bL ?_
  | (refine bA ?_; clear hC; intro W k hC)
  | (refine bS ?_; clear hC; intro W hC)
  | (go_at_call 110; refine uN (q_rand RC hg hC (by omega)) HO ?_; clear hC HO; intro t st2 W ao cap he hC HO; have hl := sl_of (conF_Len RC.len) he; clear he))
  go_loopg [] (sl st2) (fun kx wr => ∃ (tA : Tr) (aA : Option Addr) (pA : Nat) (L' : List Tn) (st' : Option (List Tok)) (f : Nat), sl st' ≤ kx ∧ sl st' ≤ sl st ∧ Hid (Cx E B w0 wr (.r st') ((kN, ncs aA pA tA, 24) :: (kR, [.string ⟨#[]⟩, .string ⟨#[]⟩, .int .i64 0, .slice none 0 0], 24) :: H) L') ∧ Hid ((aA, pA, tA) ∈ L') ∧ Hid (∀ y ∈ L, y ∈ L') ∧ Hid (st'.bind (fun ts => chN (conF R) (wdLk [111, 114]) f tA ts) = o) ∧ sl st' ≤ f)
  case atStart => exact ⟨t, ao, cap, _, st2, sl st2, Nat.le_refl _, by omega, hC, .head _, mL, startC HO.out, Nat.le_refl _⟩
  case round =>
    rename World => wr
    clear hC HO
    obtain ⟨tA, aA, pA, L', st', f, hk, hst, hC', hM, hS, HO2, hf⟩ := hrel
    have hC := hC'.out
    clear hC'
    unfold ncs at hC
    cases st' with
    | none =>
      have HO : Hid ((none : Option (List Tok)).bind (fun r => some (tA, r)) = o) := HO2.out
      clear HO2
      go_wp2_with (first
      | refine bL ?_
      | (refine bA ?_; clear hC; intro W k hC)
      | (refine bS ?_; clear hC; intro W hC)
      | (refine bA ?_; clear hC; intro W k hC))
      all_goals (refine hC.rc ?_; refine endRN HO (hC.fin mSub hM.out (mS hS.out)))
    | some ts0 =>
      have hp0 := sl_pos ts0
      obtain ⟨f, rfl⟩ : ∃ f', f = f' + 1 := ⟨f - 1, by omega⟩
      have HO : Hid ((some ts0).bind (fun ts => ow [111, 114] ts (fun r => bd ((conF R) r) fun x r2 => chN (conF R) (wdLk [111, 114]) f (nd [111, 114] [] [tA, x]) r2) (some (tA, ts))) = o) := by
        show _ = _
        rw [← HO2.out]
        exact congrArg ((some ts0).bind ·) (funext fun ts => chN_w (conF R) [111, 114] f tA ts)
      clear HO2
      go_wp2_with (first
      | refine bL ?_
      | (refine bA ?_; clear hC; intro W k hC)
      | (refine bS ?_; clear hC; intro W hC)
      | (go_at_call 15; refine aGot ?_ ?_ <;> clear hC HO; (focus (intro ts r W hC e hl HO; first | (cases e; done) | cases e)); rotate_left; (focus (intro hC HO)); rotate_left)
      | (guard_target = Code.wp _ (Code.region 5 _ true) _ _ _; refine wp_region_held_drew (S := HB []) (by kernel_rfl) (hC.drew.hbI0  ) (fun hHeld => ?_); replace hC := hC.drew; refine qk 1 ?_; (try simp only [pQ]); refine ry [0, 2] ?_; refine AllReadyH.cons rfl (fun K hK => ?_) (AllReadyH.cons rfl (fun K hK => ?_) AllReadyH.nil); (focus (refine st_of rfl ?_; refine wp_loadNM hC (by rfl) (by rfl) (by repeat (first | exact List.mem_cons_self | assumption | apply List.mem_cons_of_mem)) ?_; refine hK.out _ _ (hC.hbS0 ) fun hHeld => ?_; clear hK K; (try simp only [pQ]); refine ry [2] ?_; refine rd1 fun K hK => ?_; go_simp; (first | (go_at_call 110; refine uN (q_rand RC hg hC (by omega)) HO ?_; clear hC HO; intro t st2 W ao cap he hC HO; have hl := sl_of (conF_Len RC.len) he; clear he)); refine hK.out _ _ (hC.hbS0 ) fun hHeld => ?_; clear hK K; (try simp only [pQ]); refine ry [3] ?_; refine rd1 fun K hK => ?_; refine st_of rfl ?_; refine wp_build2C hC (by rfl) (by rfl) (by rfl) ?_; clear hC; intro W k hC; refine hK.out _ _ (hC.hbS0 ) fun hHeld => ?_; clear hK K; (try simp only [pQ]); refine ry [4] ?_; refine rd1 fun K hK => ?_; go_simp; (first | (go_at_call 33; guard_target = Calls _ _ #[_, _, _, Value.slice (some _) 2 2] _ _; (first | refine useRD (q_rnode2 _ _ _ hC (.tail _ hM.out) (.head _)) ?_); clear hC; intro W ao cap hC)); refine hK.out _ _ (hC.hbS0 ) fun hHeld => ?_; clear hK K; (try simp only [pQ]); refine ry [5] ?_; refine rd1 fun K hK => ?_; refine st_of rfl ?_; refine wsN ?_; clear hC; intro W hC; refine hK.out _ _ (hC.hbS0 ) fun hHeld => ?_; clear hK K; (try simp only [pQ]); refine dn ?_ _)); rotate_left; (focus (go_simp; (first | (go_at_call 110; refine uN (q_rand RC hg hC (by omega)) HO ?_; clear hC HO; intro t st2 W ao cap he hC HO; have hl := sl_of (conF_Len RC.len) he; clear he)); refine hK.out _ _ (hC.hbS0 ) fun hHeld => ?_; clear hK K; (try simp only [pQ]); refine ry [0] ?_; refine rd1 fun K hK => ?_; refine st_of rfl ?_; refine wp_loadNM hC (by rfl) (by rfl) (by repeat (first | exact List.mem_cons_self | assumption | apply List.mem_cons_of_mem)) ?_; refine hK.out _ _ (hC.hbS0 ) fun hHeld => ?_; clear hK K; (try simp only [pQ]); refine ry [3] ?_; refine rd1 fun K hK => ?_; refine st_of rfl ?_; refine wp_build2C hC (by rfl) (by rfl) (by rfl) ?_; clear hC; intro W k hC; refine hK.out _ _ (hC.hbS0 ) fun hHeld => ?_; clear hK K; (try simp only [pQ]); refine ry [4] ?_; refine rd1 fun K hK => ?_; go_simp; (first | (go_at_call 33; guard_target = Calls _ _ #[_, _, _, Value.slice (some _) 2 2] _ _; (first | refine useRD (q_rnode2 _ _ _ hC (.tail _ hM.out) (.head _)) ?_); clear hC; intro W ao cap hC)); refine hK.out _ _ (hC.hbS0 ) fun hHeld => ?_; clear hK K; (try simp only [pQ]); refine ry [5] ?_; refine rd1 fun K hK => ?_; refine st_of rfl ?_; refine wsN ?_; clear hC; intro W hC; refine hK.out _ _ (hC.hbS0 ) fun hHeld => ?_; clear hK K; (try simp only [pQ]); refine dn ?_ _)); rotate_left))
      · go_roundg (sl st2)
        case measure => omega
        case rel => exact ⟨nd [111, 114] [] [tA, t], ao, cap, _, st2, f, Nat.le_refl _, by omega, hC.less (by (repeat (first | exact List.Sublist.refl _ | apply List.Sublist.cons_cons | apply List.Sublist.cons)); done) (fun y hy => hy), .head _, (mS hS.out), HO, by omega⟩
      · go_roundg (sl st2)
        case measure => omega
        case rel => exact ⟨nd [111, 114] [] [tA, t], ao, cap, _, st2, f, Nat.le_refl _, by omega, hC.less (by (repeat (first | exact List.Sublist.refl _ | apply List.Sublist.cons_cons | apply List.Sublist.cons)); done) (fun y hy => hy), .head _, (mS hS.out), HO, by omega⟩
      all_goals (refine hC.rc ?_; refine endRN HO (hC.fin mSub hM.out (mS hS.out)))
end Go.Proofs.YtaenpacfbheppaaGreatDoor
namespace Go.Proofs.YtaenpacfbheppaaGreatDoor
open Go.RowKit
def aliX (s : List UInt8) (ts : List Tok) : Option (List UInt8 × List Tok) := ow [97, 115] ts (fun r => if atnB r = true then bd (nameF r) (fun a r2 => some (a, r2)) else bd (nameF r) fun a r2 => some (a, r2)) (if atnB ts = true then bd (nameF ts) (fun a r2 => some (a, r2)) else some (s, ts))
theorem bd_same {α : Type} (x : Option (α × List Tok)) : bd x (fun a r => some (a, r)) = x := by cases x <;> rfl
theorem aliX_nil : aliasF = aliX [] := by
  funext ts
  unfold aliasF aliX ow
  simp only [bd_same, ite_self]
theorem aliX_len {s : List UInt8} {ts r : List Tok} {x : List UInt8} (h : aliX s ts = some (x, r)) : r.length ≤ ts.length := by
  unfold aliX ow at h
  simp only [bd_same, ite_self] at h
  grind [→ nameF_len, tkR_len]
theorem name_ne {ts r : List Tok} {a : List UInt8} (hg : ∀ t ∈ ts, Good t.k t.s t.n) (h : nameF ts = some (a, r)) : a ≠ [] := by
  unfold nameF takF at h
  cases ts with
  | nil => cases h
  | cons t r1 =>
    have h1 := (good_wl (hg t (.head _))).1
    by_cases hk : t.k = 0
    · have h2 := h1 hk
      rintro rfl
      simp only [hk] at h
      by_cases hs : t.s = []
      · rw [hs] at h2; cases h2
      · grind
    · have hk' : (t.k == 0) = false := by simpa using hk
      simp [hk'] at h
theorem alias_x {β : Type} {s : List UInt8} {ts : List Tok} (hg : ∀ t ∈ ts, Good t.k t.s t.n) (K : List UInt8 → List Tok → Option β) : bd (aliasF ts) (fun a r => K (if a == [] then s else a) r) = bd (aliX s ts) K := by
  have hn : ∀ ts', (∀ t ∈ ts', Good t.k t.s t.n) → bd (nameF ts') (fun a r => K (if a == [] then s else a) r) = bd (nameF ts') K := by
    intro ts' hg'
    cases e : nameF ts' with
    | none => rfl
    | some p =>
      have hne := name_ne (a := p.1) (r := p.2) hg' e
      show K (if p.1 == [] then s else p.1) p.2 = K p.1 p.2
      have : (p.1 == []) = false := by simpa using hne
      rw [this]; rfl
  unfold aliasF aliX ow
  simp only [bd_same, ite_self]
  cases h1 : tkB [[97, 115]] ts with
  | true =>
    simp only [if_true]
    refine hn _ fun t ht => hg t ?_
    unfold tkR at ht
    rw [h1] at ht
    simp only [if_true] at ht
    exact List.mem_of_mem_drop ht
  | false =>
    simp only [Bool.false_eq_true, if_false]
    cases atnB ts with
    | true => exact hn _ hg
    | false => simp [bd]
theorem bindAl {E : Env} {B : Nat} {w0 w : World} {st st2 : Option (List Tok)} {H : List Bx} {L : List Tn} {β : Type} {o : Option β} {s a : List UInt8} (hg : GoodE E) (hC : Cx E B w0 w (.r st) H L) (he : st.bind (aliX s) = st2.map (Prod.mk a)) (K : List UInt8 → List Tok → Option β) (h : st.bind (fun ts => bd (aliasF ts) (fun a r => K (if a == [] then s else a) r)) = o) : st2.bind (K a) = o := by
  refine bindN he ?_
  rw [← h]
  cases st with
  | none => rfl
  | some ts =>
    obtain ⟨i, ao, cap, hi, hts, _⟩ := hC.rdS
    exact (alias_x (fun t ht => hg t (by rw [← hts] at ht; exact List.mem_of_mem_drop ht)) K).symm
theorem q_ralias {E : Env} {B : Nat} {w0 w : World} {st : Option (List Tok)} {H : List Bx} {L : List Tn} (s : List UInt8) (hg : GoodE E) (hC : Cx E B w0 w (.r st) H L) :
    Calls Tryz.prog 165 #[.pointer (some ⟨E.b, 0, none⟩), .string ⟨s.toArray⟩] w (RS E B w0 H L (st.bind (aliX s))) := by
  obtain ⟨o, ho⟩ : ∃ o, st.bind (aliX s) = o := ⟨_, rfl⟩
  rw [ho]
  unfold aliX at ho
  have HO := hidk ho
  clear ho
  have h601 := hC.rsl
  go_enter Tryz.func165, Tryz.ntmps165
  go_wp2_with (first
  | (go_at_call 15; refine aGot ?_ ?_ <;> clear hC HO; (focus (intro ts r W hC e hl HO; first | (cases e; done) | cases e)); rotate_left; (focus (intro hC HO)); rotate_left)
  | (go_at_call 67; have hD := hC; clear hC; refine namedK hg hD ?_ ?_; (focus (intro ts e hb hC; clear hD; have hp := sl_pos ts; first | (cases e; done) | (cases e; replace HO := hidk (bindC (c := atnB) hb HO.out); clear hb))); rotate_left; (focus (intro hb hC; clear hD; replace HO := hidk (bindD (c := atnB) hb HO.out); clear hb); rotate_left))
  | (go_at_call 34; refine aName ?_; clear hC HO; intro s st2 W hC hl HO))
  all_goals (go_ret; exact endRS HO (hC.fin0 mSub mL))
def jdX (R : Rc) (ts : List Tok) : Option (Tr × List Tok) := if opnB ts = true then (bd (sgF [40] ts) fun _ r => bd (R.body r) fun b r2 => bd (sgF [41] r2) fun _ r3 => ow [97, 115] r3 (fun r4 => bd (nameF r4) fun s r5 => some (nd [100, 101, 114, 105, 118, 101, 100] s [b], r5)) (bd (nameF r3) fun s r5 => some (nd [100, 101, 114, 105, 118, 101, 100] s [b], r5)))
  else og (sgF [40] ts) (fun _ r => bd (R.tab r) fun b r2 => bd (sgF [41] r2) fun _ r3 => some (b, r3)) (bd (nameF ts) fun s r => bd (aliasF r) fun a r2 => some (nd [116, 97, 98, 108, 101] s [nd [97, 115] (if a == [] then s else a) []], r2))
theorem sg_sd {s : List UInt8} (ts : List Tok) : sdB 0 3 s ts = (sgF s ts).isSome := by
  cases ts with
  | nil => rfl
  | cons t r =>
    unfold sdB sgF oneF
    simp only [List.drop_zero, List.contains_cons, List.contains_nil, Bool.or_false]
    cases h : t.k == 3 && t.s == s <;> rfl
theorem jdX_eq (R : Rc) : jdF R = jdX R := by
  funext ts
  unfold jdF jdX ow
  rw [parX_eq, parX_eq, sg_sd]
  unfold parX bd og
  cases opnB ts with
  | true =>
    simp only [if_true]
    cases sgF [40] ts with
    | none => rfl
    | some p =>
      simp only
      cases R.body p.2 with
      | none => rfl
      | some q =>
        simp only
        cases sgF [41] q.2 with
        | none => rfl
        | some z =>
          simp only
          cases h1 : tkB [[97, 115]] z.2 with
          | true => cases nameF (tkR [[97, 115]] z.2) <;> rfl
          | false =>
            rw [tkR_no1 h1]
            cases nameF z.2 <;> rfl
  | false =>
    simp only [Bool.false_eq_true, if_false]
    cases sgF [40] ts with
    | none =>
      simp only [Option.isSome_none, Bool.false_eq_true, if_false]
      cases nameF ts with
      | none => rfl
      | some p =>
        simp only
        cases aliasF p.2 <;> rfl
    | some p => rfl
theorem q_rjoined {E : Env} {B : Nat} {w0 w : World} {st : Option (List Tok)} {H : List Bx} {L : List Tn} {R : Rc} {n : Nat} (RC : Cw E R n) (hg : GoodE E) (hC : Cx E B w0 w (.r st) H L) (hn : sl st ≤ n) :
    Calls Tryz.prog 166 #[.pointer (some ⟨E.b, 0, none⟩)] w (RN E B w0 H L (st.bind (jdF R))) := by
  obtain ⟨o, ho⟩ : ∃ o, st.bind (jdF R) = o := ⟨_, rfl⟩
  rw [ho]
  rw [jdX_eq] at ho
  unfold jdX at ho
  have HO := hidk ho
  clear ho
  have h601 := hC.rsl
  go_enter Tryz.func166, Tryz.ntmps166
  go_wp2_with (first
  | (refine bA ?_; clear hC; intro W k hC)
  | refine bL ?_
  | (refine bS ?_; clear hC; intro W hC)
  | (go_at_call 68; have hD := hC; clear hC; refine opensK hg hD ?_ ?_; (focus (intro ts e hb hC; clear hD; have hp := sl_pos ts; first | (cases e; done) | (cases e; replace HO := hidk (bindC (c := opnB) hb HO.out); clear hb))); rotate_left; (focus (intro hb hC; clear hD; replace HO := hidk (bindD (c := opnB) hb HO.out); clear hb); rotate_left))
  | (go_at_call 35; refine aMust ?_; clear hC HO; intro st2 W hC hl HO)
  | (go_at_call 63; refine uN (RC.body hC (by omega)) HO ?_; clear hC HO; intro t st2 W ao cap he hC HO; have hl := sl_of RC.len.body he; clear he)
  | (go_at_call 15; refine aGot ?_ ?_ <;> clear hC HO; (focus (intro ts r W hC e hl HO; first | (cases e; done) | cases e)); rotate_left; (focus (intro hC HO)); rotate_left)
  | (go_at_call 34; refine aName ?_; clear hC HO; intro s st2 W hC hl HO)
  | (go_at_call 148; refine uN (RC.tab hC (by omega)) HO ?_; clear hC HO; intro t st2 W ao cap he hC HO; have hl := sl_of RC.len.tab he; clear he)
  | (go_at_call 165; have hD := hC; clear hC; refine useRS (q_ralias s hg hD) ?_; intro sA st2 W he hC; have hl := sl_of (fun _ _ _ h => aliX_len h) he; have HO2 := hidk (bindAl hg hD he (fun a r2 => some (nd [116, 97, 98, 108, 101] s [nd [97, 115] a []], r2)) HO.out); clear HO; have HO := HO2; clear HO2; clear hD he)
  | (guard_target = Code.wp _ (Code.region 7 _ true) _ _ _; refine wp_region_held_drew (S := HB [_]) (by kernel_rfl) (hC.drew.hbI1 0 (by rfl)) (fun hHeld => ?_); replace hC := hC.drew; refine qk 0 ?_; (try simp only [pQ]); refine qkN 2 ?_; (try simp only [pQ]); refine ry [1, 3] ?_; refine AllReadyH.cons rfl (fun K hK => ?_) (AllReadyH.cons rfl (fun K hK => ?_) AllReadyH.nil); (focus (go_simp; (first | (go_at_call 34; refine aName ?_; clear hC HO; intro s st2 W hC hl HO)); refine hK.out _ _ hC.hb1' fun hHeld => ?_; clear hK K; (try simp only [pQ]); refine ry [3] ?_; refine rd1 fun K hK => ?_; refine st_of rfl ?_; refine wp_build1C hC (by rfl) (by rfl) ?_; clear hC; intro W k hC; refine hK.out _ _ hC.hb1' fun hHeld => ?_; clear hK K; (try simp only [pQ]); refine ry [4] ?_; refine rd1 fun K hK => ?_; go_simp; (first | (go_at_call 33; guard_target = Calls _ _ #[_, _, _, Value.slice (some _) 1 1] _ _; refine m5 ?_; clear hC; intro W ao cap hC)); refine hK.out _ _ hC.hb1' fun hHeld => ?_; clear hK K; (try simp only [pQ]); refine ry [5] ?_; refine rd1 fun K hK => ?_; refine st_of rfl ?_; refine wsN ?_; clear hC; intro W hC; refine hK.out _ _ hC.hb1' fun hHeld => ?_; clear hK K; (try simp only [pQ]); refine dn ?_ _)); rotate_left; (focus (refine st_of rfl ?_; refine wp_build1C hC (by rfl) (by rfl) ?_; clear hC; intro W k hC; refine hK.out _ _ hC.hb1' fun hHeld => ?_; clear hK K; (try simp only [pQ]); refine ry [1] ?_; refine rd1 fun K hK => ?_; go_simp; (first | (go_at_call 34; refine aName ?_; clear hC HO; intro s st2 W hC hl HO)); refine hK.out _ _ hC.hb1' fun hHeld => ?_; clear hK K; (try simp only [pQ]); refine ry [4] ?_; refine rd1 fun K hK => ?_; go_simp; (first | (go_at_call 33; guard_target = Calls _ _ #[_, _, _, Value.slice (some _) 1 1] _ _; refine m5 ?_; clear hC; intro W ao cap hC)); refine hK.out _ _ hC.hb1' fun hHeld => ?_; clear hK K; (try simp only [pQ]); refine ry [5] ?_; refine rd1 fun K hK => ?_; refine st_of rfl ?_; refine wsN ?_; clear hC; intro W hC; refine hK.out _ _ hC.hb1' fun hHeld => ?_; clear hK K; (try simp only [pQ]); refine dn ?_ _)); rotate_left)
  | (go_at_call 33; guard_target = Calls _ _ #[_, _, _, Value.slice none 0 0] _ _; (first | refine useRD (q_rnode0 hC _ _ _) ?_); clear hC; intro W ao cap hC)
  | (go_at_call 33; guard_target = Calls _ _ #[_, _, _, Value.slice (some _) 1 1] _ _; refine m5 ?_; clear hC; intro W ao cap hC))
  all_goals (refine hC.rc ?_; first | exact endRN HO (hC.fin mSub mMem mL) | exact endR0 HO (hC.fin mSub mMem mL))
def itmX (R : Rc) (ts : List Tok) : Option (Tr × List Tok) := og (sgF [42] ts) (fun _ r => some (nd [115, 116, 97, 114] [] [], r)) (if atnB ts = true then (if sdB 1 3 [46] ts = true then (if sdB 2 3 [42] ts = true then (bd (nameF ts) fun s r => some (nd [115, 116, 97, 114] s [], r.drop 2)) else bd (R.expr ts) fun e r => bd (aliasF r) fun a r2 => some (nd [105, 116, 101, 109] a [e], r2)) else (if sdB 2 3 [42] ts = true then bd (R.expr ts) fun e r => bd (aliasF r) fun a r2 => some (nd [105, 116, 101, 109] a [e], r2) else bd (R.expr ts) fun e r => bd (aliasF r) fun a r2 => some (nd [105, 116, 101, 109] a [e], r2))) else (if sdB 1 3 [46] ts = true then (if sdB 2 3 [42] ts = true then bd (R.expr ts) fun e r => bd (aliasF r) fun a r2 => some (nd [105, 116, 101, 109] a [e], r2) else bd (R.expr ts) fun e r => bd (aliasF r) fun a r2 => some (nd [105, 116, 101, 109] a [e], r2)) else (if sdB 2 3 [42] ts = true then bd (R.expr ts) fun e r => bd (aliasF r) fun a r2 => some (nd [105, 116, 101, 109] a [e], r2) else bd (R.expr ts) fun e r => bd (aliasF r) fun a r2 => some (nd [105, 116, 101, 109] a [e], r2))))
theorem itm_p (R : Rc) (ts : List Tok) : (match R.expr ts with | none => none | some (e, r) => match aliasF r with | none => none | some (a, r2) => some (nd [105, 116, 101, 109] a [e], r2)) = bd (R.expr ts) fun e r => bd (aliasF r) fun a r2 => some (nd [105, 116, 101, 109] a [e], r2) := by
  cases R.expr ts with
  | none => rfl
  | some p =>
    obtain ⟨e, r⟩ := p
    show (match aliasF r with | none => none | some (a, r2) => some (nd [105, 116, 101, 109] a [e], r2)) = bd (aliasF r) _
    cases aliasF r <;> rfl
theorem sd_at {k : Nat} {s : List UInt8} {ts : List Tok} (h : sdB k 3 s ts = true) : ∃ t r, ts.drop k = t :: r ∧ t.k = 3 ∧ t.s = s := by
  unfold sdB at h
  cases e : ts.drop k with
  | nil => rw [e] at h; cases h
  | cons t r =>
    rw [e] at h
    simp only [Bool.and_eq_true, beq_iff_eq] at h
    exact ⟨t, r, rfl, h.1, h.2⟩
theorem sg_at {s : List UInt8} {t : Tok} {r : List Tok} (hk : t.k = 3) (hs : t.s = s) : sgF s (t :: r) = some (s, r) := by
  unfold sgF oneF
  simp [hk, hs]
theorem name_at {ts : List Tok} (h : atnB ts = true) : ∃ t r, ts = t :: r ∧ nameF ts = some (t.s, r) := by
  cases ts with
  | nil => cases h
  | cons t r =>
    refine ⟨t, r, rfl, ?_⟩
    unfold atnB at h
    unfold nameF takF
    grind
theorem star_x {ts : List Tok} (h0 : atnB ts = true) (h1 : sdB 1 3 [46] ts = true) (h2 : sdB 2 3 [42] ts = true) : ∃ s r, nameF ts = some (s, r) ∧ 2 ≤ r.length ∧ (match sgF [46] r with | none => none | some (_, r2) => match sgF [42] r2 with | none => none | some (_, r3) => some (nd [115, 116, 97, 114] s [], r3)) = some (nd [115, 116, 97, 114] s [], r.drop 2) := by
  obtain ⟨t, r, rfl, hn⟩ := name_at h0
  obtain ⟨t1, r1, e1, k1, s1⟩ := sd_at h1
  obtain ⟨t2, r2, e2, k2, s2⟩ := sd_at h2
  simp only [List.drop_succ_cons, List.drop_zero] at e1 e2
  subst e1
  simp only [List.drop_succ_cons, List.drop_zero] at e2
  subst e2
  refine ⟨t.s, _, hn, by simp, ?_⟩
  rw [sg_at k1 s1]
  simp only
  rw [sg_at k2 s2]
  rfl
theorem star_he {ts : List Tok} {st2 : Option (List Tok)} {s : List UInt8} (h0 : atnB ts = true) (h1 : sdB 1 3 [46] ts = true) (h2 : sdB 2 3 [42] ts = true) (he : (some ts).bind nameF = st2.map (Prod.mk s)) : ∃ r, st2 = some r ∧ 2 ≤ r.length := by
  obtain ⟨s9, r9, hn, hl, _⟩ := star_x h0 h1 h2
  rw [Option.bind_some, hn] at he
  cases st2 with
  | none => cases he
  | some r =>
    have : r9 = r := by
      have := he
      simp only [Option.map_some, Option.some.injEq, Prod.mk.injEq] at this
      exact this.2
    exact ⟨r, rfl, this ▸ hl⟩
theorem itmX_eq (R : Rc) : itmF R = itmX R := by
  funext ts
  unfold itmF itmX
  cases sgF [42] ts with
  | some p => rfl
  | none =>
    show (if (atnB ts && sdB 1 3 [46] ts && sdB 2 3 [42] ts) = true then _ else _) = (if atnB ts = true then _ else _)
    cases h0 : atnB ts <;> cases h1 : sdB 1 3 [46] ts <;> cases h2 : sdB 2 3 [42] ts <;> try exact itm_p R ts
    obtain ⟨s, r, hn, _, hm⟩ := star_x h0 h1 h2
    rw [hn]
    exact hm
theorem sl_zero {st : Option (List Tok)} (h : sl st = 0) : st = none := by
  cases st with
  | none => rfl
  | some ts => exact absurd (sl_pos ts) (by omega)
theorem q_exprS {E : Env} {B : Nat} {w0 w : World} {st : Option (List Tok)} {H : List Bx} {L : List Tn} {R : Rc} {n : Nat} (RC : Cw E R n) (hg : GoodE E) (hC : Cx E B w0 w (.r st) H L) (hn : sl st = 0 ∨ sl st < n) : Calls Tryz.prog 70 #[.pointer (some ⟨E.b, 0, none⟩)] w (RN E B w0 H L (st.bind R.expr)) := by
  rcases hn with h | h
  · obtain rfl := sl_zero h
    exact q_rexpr RC hg hC (by rw [h]; exact Nat.zero_le _)
  · exact RC.expr hC h
section
variable {E : Env} {B : Nat} {w0 w : World} {ts : List Tok} {H : List Bx} {L : List Tn} {a : Act} {Q : Exit → Act → World → Prop} {o : Oper} {ops : Array Oper} {rest : List Oper} {x y : Operand}
theorem Cx.lat (hC : Cx E B w0 w (.r (some ts)) H L) (h : ∀ i : Nat, i ≤ E.l.length → E.l.drop i = ts → w.cell? ⟨E.b, 1, none⟩ = some (.int .i64 i) → wpList Tryz.prog ops Q rest (a.put o.dst (.int .i64 i)) w) (hgd : o.guard = none := by rfl) (ho : o.op = .load 3 x := by rfl) (he : a.eval x = .pointer (some ⟨E.b, 1, none⟩) := by rfl) : wpList Tryz.prog ops Q (o :: rest) a w := by
  refine wpList_plain hgd fun K hK => ?_
  obtain ⟨d, hu, hd⟩ := und1 (T := 3) (by kernel_rfl)
  obtain ⟨i, ao, cap, hi, hts, hv, c0, c1, c2, f1, f2, hcap⟩ := hC.rdS
  have e : (loadVar 3 ⟨E.b, 1, none⟩).run Tryz.prog w = .ok (.int .i64 i) w := by
    have hagg : (isAgg 3).run Tryz.prog w = .ok false w := by
      unfold isAgg
      rw [Sem.run_bind, run_underlying hu w]
      cases d <;> simp_all
    unfold loadVar
    simp [hagg, c1]
  unfold Oper.wp execOp
  simp only [ho, he, Instr.loadAt, Instr.sureAddr, Sem.run_bind, Sem.run_pure, Result.andThen_ok, e]
  exact hK _ _ (h i hi hts c1)
theorem Cx.sat {i j : Nat} (hC : Cx E B w0 w (.r (some ts)) H L) (hi : i ≤ E.l.length) (hts : E.l.drop i = ts) (c1 : w.cell? ⟨E.b, 1, none⟩ = some (.int .i64 i)) (hj : j ≤ ts.length) (hgd : o.guard = none) (ho : o.op = .store 3 x y) (hx : a.eval x = .pointer (some ⟨E.b, 1, none⟩)) (hy : a.eval y = .int .i64 ((i + j : Nat) : Int)) (h : ∀ W, Cx E B w0 W (.r (some (ts.drop j))) H L → wpList Tryz.prog ops Q rest (a.put o.dst undef) W) : wpList Tryz.prog ops Q (o :: rest) a w := by
  refine wpList_plain hgd fun K hK => ?_
  subst hts
  rw [List.length_drop] at hj
  have hD := hC.rgo hi c1 (j := i + j) (by omega)
  obtain ⟨i', ao, cap, hi', hts', hv, c0, c1', c2, f1, f2, hcap⟩ := hC.rdS
  have ht : w.there E.b 1 1 := fun j hj => by
    obtain rfl : j = 0 := by omega
    exact ⟨by rw [Nat.add_zero, c1]; rfl, f1⟩
  have e : (storeVar 3 ⟨E.b, 1, none⟩ (.int .i64 ((i + j : Nat) : Int))).run Tryz.prog w = .ok () (w.setCells E.b 1 [.int .i64 ((i + j : Nat) : Int)]) := by
    have := run_storeVar_mid (P := Tryz.prog) w E.b 1 3 #[.int .i64 ((i + j : Nat) : Int)] ht (by kernel_rfl) (by simp [Value.oneCell'])
    unfold storeVar at this ⊢
    exact this
  unfold Oper.wp execOp
  simp only [ho, hx, hy, Instr.storeAt, Instr.sureAddr, Sem.run_bind, Sem.run_pure, Result.andThen_ok, e]
  rw [List.drop_drop] at h
  exact hK _ _ (h _ hD)
end
theorem q_ritem {E : Env} {B : Nat} {w0 w : World} {st : Option (List Tok)} {H : List Bx} {L : List Tn} {R : Rc} {n : Nat} (RC : Cw E R n) (hg : GoodE E) (hC : Cx E B w0 w (.r st) H L) (hn : sl st = 0 ∨ sl st < n) :
    Calls Tryz.prog 147 #[.pointer (some ⟨E.b, 0, none⟩)] w (RN E B w0 H L (st.bind (itmF R))) := by
  obtain ⟨o, ho⟩ : ∃ o, st.bind (itmF R) = o := ⟨_, rfl⟩
  rw [ho]
  rw [itmX_eq] at ho
  unfold itmX at ho
  have HO := hidk ho
  clear ho
  have h601 := hC.rsl
  go_enter Tryz.func147, Tryz.ntmps147
  go_wp2_with (first
  | (refine bA ?_; clear hC; intro W k hC)
  | refine bL ?_
  | (refine bS ?_; clear hC; intro W hC)
  | (go_at_call 15; refine aGot ?_ ?_ <;> clear hC HO; (focus (intro ts r W hC e hl HO; first | (cases e; done) | cases e)); rotate_left; (focus (intro hC HO)); rotate_left)
  | (go_at_call 67; have hD := hC; clear hC; refine namedK hg hD ?_ ?_; (focus (intro ts e hb hC; clear hD; have hp := sl_pos ts; first | (cases e; done) | (cases e; have hb0 := hb; replace HO := hidk (bindC (c := atnB) hb HO.out); clear hb))); rotate_left; (focus (intro hb hC; clear hD; replace HO := hidk (bindD (c := atnB) hb HO.out); clear hb); rotate_left))
  | (guard_target = Calls _ _ #[_, .int .i64 1, _] _ _; (go_at_call 29; have hD := hC; clear hC; (first | (refine q_isW hg hD _ (by decide) _ (by decide) ?_ ?_; (focus (intro ts e hb; have hC := hD; clear hD; have hp := sl_pos ts; first | (cases e; done) | (cases e; have hb1 := hb; replace HO := hidk (bindC (c := fun ts => sdB _ _ _ ts) hb HO.out); clear hb))); rotate_left; (focus (intro hb; have hC := hD; clear hD; replace HO := hidk (bindD (c := fun ts => sdB _ _ _ ts) hb HO.out); clear hb)); rotate_left) | (refine q_isS hg hD _ (by decide) _ (by decide) ?_ ?_; (focus (intro ts e hb; have hC := hD; clear hD; have hp := sl_pos ts; first | (cases e; done) | (cases e; have hb1 := hb; replace HO := hidk (bindC (c := fun ts => sdB _ _ _ ts) hb HO.out); clear hb))); rotate_left; (focus (intro hb; have hC := hD; clear hD; replace HO := hidk (bindD (c := fun ts => sdB _ _ _ ts) hb HO.out); clear hb)); rotate_left))))
  | (guard_target = Calls _ _ #[_, .int .i64 2, _] _ _; (go_at_call 29; have hD := hC; clear hC; (first | (refine q_isW hg hD _ (by decide) _ (by decide) ?_ ?_; (focus (intro ts e hb; have hC := hD; clear hD; have hp := sl_pos ts; first | (cases e; done) | (cases e; have hb2 := hb; replace HO := hidk (bindC (c := fun ts => sdB _ _ _ ts) hb HO.out); clear hb))); rotate_left; (focus (intro hb; have hC := hD; clear hD; replace HO := hidk (bindD (c := fun ts => sdB _ _ _ ts) hb HO.out); clear hb)); rotate_left) | (refine q_isS hg hD _ (by decide) _ (by decide) ?_ ?_; (focus (intro ts e hb; have hC := hD; clear hD; have hp := sl_pos ts; first | (cases e; done) | (cases e; have hb2 := hb; replace HO := hidk (bindC (c := fun ts => sdB _ _ _ ts) hb HO.out); clear hb))); rotate_left; (focus (intro hb; have hC := hD; clear hD; replace HO := hidk (bindD (c := fun ts => sdB _ _ _ ts) hb HO.out); clear hb)); rotate_left))))
  | (go_at_call 34; refine useRS (q_rname hg hC) ?_; clear hC; intro s st2 W he hC; obtain ⟨r9, rfl, hln⟩ := star_he hb0 hb1 hb2 he; have HO1 := bindN he HO.out; have HO2 : Hid ((some (List.drop 2 r9)).bind (fun r => some (nd [115, 116, 97, 114] s [], r)) = o) := hidk HO1; clear HO HO1; have HO := HO2; clear HO2 he)
  | (refine hC.lat ?_; intro i9 hi9 hts9 c19; (try simp only [pP]))
    | (have hD := hC; clear hC; refine hD.sat (j := 2) hi9 hts9 c19 hln rfl rfl rfl (by go_simp; have h600 := hD.ok.len; unfold Go.RowKit.wrap64; omega) ?_; clear hD c19; intro W hC; (try simp only [pP]))
  | (go_at_call 70; refine uN (q_exprS RC hg hC (by omega)) HO ?_; clear hC HO; intro t st2 W ao cap he hC HO; have hl := sl_of RC.len.expr he; clear he)
  | (guard_target = Code.wp _ (Code.region 11 _ true) _ _ _; refine wp_region_held_drew (S := HB [_]) (by kernel_rfl) (hC.drew.hbI1 0 (by rfl)) (fun hHeld => ?_); replace hC := hC.drew; refine qk 0 ?_; (try simp only [pQ]); refine qkN 2 ?_; (try simp only [pQ]); refine ry [1, 3] ?_; refine AllReadyH.cons rfl (fun K hK => ?_) (AllReadyH.cons rfl (fun K hK => ?_) AllReadyH.nil); (focus (go_simp; (first | (go_at_call 165; refine useRS (q_ralias [] hg hC) ?_; clear hC; intro sA st2 W he hC; have hl := sl_of (fun _ _ _ h => aliX_len h) he; rw [← aliX_nil] at he; replace HO := hidk (bindN he HO.out); clear he)); refine hK.out _ _ hC.hb1' fun hHeld => ?_; clear hK K; (try simp only [pQ]); refine ry [3] ?_; refine rd1 fun K hK => ?_; refine st_of rfl ?_; refine wp_build1C hC (by rfl) (by rfl) ?_; clear hC; intro W k hC; refine hK.out _ _ hC.hb1' fun hHeld => ?_; clear hK K; (try simp only [pQ]); refine ry [4] ?_; refine rd1 fun K hK => ?_; go_simp; (first | (go_at_call 33; guard_target = Calls _ _ #[_, _, _, Value.slice (some _) 1 1] _ _; refine m5 ?_; clear hC; intro W ao cap hC)); refine hK.out _ _ hC.hb1' fun hHeld => ?_; clear hK K; (try simp only [pQ]); refine ry [5] ?_; refine rd1 fun K hK => ?_; refine st_of rfl ?_; refine wsN ?_; clear hC; intro W hC; refine hK.out _ _ hC.hb1' fun hHeld => ?_; clear hK K; (try simp only [pQ]); refine dn ?_ _)); rotate_left; (focus (refine st_of rfl ?_; refine wp_build1C hC (by rfl) (by rfl) ?_; clear hC; intro W k hC; refine hK.out _ _ hC.hb1' fun hHeld => ?_; clear hK K; (try simp only [pQ]); refine ry [1] ?_; refine rd1 fun K hK => ?_; go_simp; (first | (go_at_call 165; refine useRS (q_ralias [] hg hC) ?_; clear hC; intro sA st2 W he hC; have hl := sl_of (fun _ _ _ h => aliX_len h) he; rw [← aliX_nil] at he; replace HO := hidk (bindN he HO.out); clear he)); refine hK.out _ _ hC.hb1' fun hHeld => ?_; clear hK K; (try simp only [pQ]); refine ry [4] ?_; refine rd1 fun K hK => ?_; go_simp; (first | (go_at_call 33; guard_target = Calls _ _ #[_, _, _, Value.slice (some _) 1 1] _ _; refine m5 ?_; clear hC; intro W ao cap hC)); refine hK.out _ _ hC.hb1' fun hHeld => ?_; clear hK K; (try simp only [pQ]); refine ry [5] ?_; refine rd1 fun K hK => ?_; refine st_of rfl ?_; refine wsN ?_; clear hC; intro W hC; refine hK.out _ _ hC.hb1' fun hHeld => ?_; clear hK K; (try simp only [pQ]); refine dn ?_ _)); rotate_left)
  | (go_at_call 33; guard_target = Calls _ _ #[_, _, _, Value.slice none 0 0] _ _; (first | refine useRD (q_rnode0 hC _ _ _) ?_); clear hC; intro W ao cap hC)
  | (go_at_call 33; guard_target = Calls _ _ #[_, _, _, Value.slice (some _) 1 1] _ _; refine m5 ?_; clear hC; intro W ao cap hC))
  all_goals (refine hC.rc ?_; first | exact endRN HO (hC.fin mSub mMem mL) | exact endR0 HO (hC.fin mSub mMem mL))
end Go.Proofs.YtaenpacfbheppaaGreatDoor

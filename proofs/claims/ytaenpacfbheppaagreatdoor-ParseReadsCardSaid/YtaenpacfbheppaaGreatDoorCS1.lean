/- The document's reader: joined tables (walks by genr.py). -/
import Derived.Test.YtaenpacfbheppaaGreatDoorCS0
import Derived.Deep.CutBlock
import Derived.Deep.DeepCutAuto
set_option maxHeartbeats 16000000
set_option maxRecDepth 100000
set_option linter.unusedVariables false
set_option linter.unusedSimpArgs false
namespace Go.Proofs.YtaenpacfbheppaaGreatDoor
open Go.RowKit
theorem q_isA {E : Env} {B : Nat} {w0 w : World} {st : Option (List Tok)} {H : List Bx} {L : List Tn} (hg : GoodE E) (hC : Cx E B w0 w (.r st) H L) :
    Calls Tryz.prog 29 #[.pointer (some ⟨E.b, 0, none⟩), .int .i64 0, .string ⟨#[106, 111, 105, 110]⟩] w fun e W => ∃ b, e = .returned (.bool b) ∧ Cx E B w0 W (.r st) H L :=
  q_isW hg hC 0 (by decide) [106, 111, 105, 110] (by decide) (fun _ _ _ => ⟨true, rfl, hC⟩) (fun _ => ⟨false, rfl, hC⟩)
theorem startT {R : Rc} {a : Tr} {st : Option (List Tok)} {o : Option (Tr × List Tok)} (h : st.bind (fun r => tbD R (r.length + 1) a r) = o) : st.bind (fun r => tbD R (sl st) a r) = o := by
  rw [← h]
  cases st <;> rfl
theorem q_rtable {E : Env} {B : Nat} {w0 w : World} {st : Option (List Tok)} {H : List Bx} {L : List Tn} {R : Rc} {n : Nat} (RC : Cw E R n) (hg : GoodE E) (hC : Cx E B w0 w (.r st) H L) (hn : sl st ≤ n) :
    Calls Tryz.prog 148 #[.pointer (some ⟨E.b, 0, none⟩)] w (RN E B w0 H L (st.bind (tabD R))) := by
  obtain ⟨o, ho⟩ : ∃ o, st.bind (tabD R) = o := ⟨_, rfl⟩
  rw [ho]
  have HO : Hid (st.bind (fun ts => bd (jdF R ts) fun x r => tbD R (r.length + 1) x r) = o) := by
    rw [← ho]
    show _ = _
    congr 1
    funext ts
    unfold tabD
    cases jdF R ts <;> rfl
  clear ho
  have h601 := hC.rsl
  go_enter Tryz.func148, Tryz.ntmps148
  go_wp2_with (first
  | (guard_target = wpList _ _ _ (Oper.mk (some 2) (Op.alloc 24) _ _ _ _ :: _) _ _; refine hC.aN ?_; clear hC; intro W kR hC; (try simp only [pP]))
  | (guard_target = wpList _ _ _ (Oper.mk (some 3) (Op.alloc 24) _ _ _ _ :: _) _ _; refine hC.aN ?_; clear hC; intro W kN hC; (try simp only [pP]))
  | refine bL ?_
  | (refine bA ?_; clear hC; intro W k hC)
  | (refine bS ?_; clear hC; intro W hC)
  | (go_at_call 166; refine uN (q_rjoined RC hg hC (by omega)) HO ?_; clear hC HO; intro t st2 W ao cap he hC HO; have hl := sl_of (jdF_Len RC.len) he; clear he))
  go_loopg [] (sl st2) (fun kx wr => ∃ (tA : Tr) (aA : Option Addr) (pA : Nat) (L' : List Tn) (st' : Option (List Tok)) (f : Nat), sl st' ≤ kx ∧ sl st' ≤ sl st ∧ Hid (Cx E B w0 wr (.r st') ((kN, ncs aA pA tA, 24) :: (kR, [.string ⟨#[]⟩, .string ⟨#[]⟩, .int .i64 0, .slice none 0 0], 24) :: H) L') ∧ Hid ((aA, pA, tA) ∈ L') ∧ Hid (∀ y ∈ L, y ∈ L') ∧ Hid (st'.bind (fun ts => tbD R f tA ts) = o) ∧ sl st' ≤ f)
  case atStart => exact ⟨t, ao, cap, _, st2, sl st2, Nat.le_refl _, by omega, hC, .head _, mL, startT HO.out, Nat.le_refl _⟩
  case round =>
    rename World => wr
    clear hC HO
    obtain ⟨tA, aA, pA, L', st', f, hk, hst, hC', hM, hS, HO2, hf⟩ := hrel
    have hC := hC'.out
    clear hC'
    unfold ncs at hC
    cases st' with
    | none =>
      have HO : Hid ((none : Option (List Tok)).bind (fun r => some (tA, r)) = o) := HO2.out
      clear HO2
      go_wp2_with (first
      | refine bL ?_
      | (refine bA ?_; clear hC; intro W k hC)
      | (refine bS ?_; clear hC; intro W hC)
      | (refine bA ?_; clear hC; intro W k hC))
      all_goals (refine hC.rc ?_; refine endRN HO (hC.fin ?_ hM.out (mS hS.out)); (repeat (first | exact List.Sublist.refl _ | apply List.Sublist.cons)); done)
    | some ts0 =>
      have hp0 := sl_pos ts0
      obtain ⟨f, rfl⟩ : ∃ f', f = f' + 1 := ⟨f - 1, by omega⟩
      have HO : Hid ((some ts0).bind (fun ts => ow [99, 114, 111, 115, 115] ts (fun ts => (needF [[106, 111, 105, 110]] ts).bind fun r => bd (jdF R r) fun x r2 => tbD R f (nd [99, 114, 111, 115, 115] [] [tA, x]) r2) (ow [108, 101, 102, 116] ts (fun ts => ow [111, 117, 116, 101, 114] ts (fun ts => (needF [[106, 111, 105, 110]] ts).bind fun r => bd (jdF R r) fun x r2 => (needF [[111, 110]] r2).bind fun r3 => bd (R.expr r3) fun e r4 => tbD R f (nd [108, 101, 102, 116] [] [tA, x, e]) r4) ((needF [[106, 111, 105, 110]] ts).bind fun r => bd (jdF R r) fun x r2 => (needF [[111, 110]] r2).bind fun r3 => bd (R.expr r3) fun e r4 => tbD R f (nd [108, 101, 102, 116] [] [tA, x, e]) r4)) (ow [114, 105, 103, 104, 116] ts (fun ts => ow [111, 117, 116, 101, 114] ts (fun ts => (needF [[106, 111, 105, 110]] ts).bind fun r => bd (jdF R r) fun x r2 => (needF [[111, 110]] r2).bind fun r3 => bd (R.expr r3) fun e r4 => tbD R f (nd [114, 105, 103, 104, 116] [] [tA, x, e]) r4) ((needF [[106, 111, 105, 110]] ts).bind fun r => bd (jdF R r) fun x r2 => (needF [[111, 110]] r2).bind fun r3 => bd (R.expr r3) fun e r4 => tbD R f (nd [114, 105, 103, 104, 116] [] [tA, x, e]) r4)) (ow [102, 117, 108, 108] ts (fun ts => ow [111, 117, 116, 101, 114] ts (fun ts => (needF [[106, 111, 105, 110]] ts).bind fun r => bd (jdF R r) fun x r2 => (needF [[111, 110]] r2).bind fun r3 => bd (R.expr r3) fun e r4 => tbD R f (nd [102, 117, 108, 108] [] [tA, x, e]) r4) ((needF [[106, 111, 105, 110]] ts).bind fun r => bd (jdF R r) fun x r2 => (needF [[111, 110]] r2).bind fun r3 => bd (R.expr r3) fun e r4 => tbD R f (nd [102, 117, 108, 108] [] [tA, x, e]) r4)) (ow [105, 110, 110, 101, 114] ts (fun ts => (needF [[106, 111, 105, 110]] ts).bind fun r => bd (jdF R r) fun x r2 => (needF [[111, 110]] r2).bind fun r3 => bd (R.expr r3) fun e r4 => tbD R f (nd [105, 110, 110, 101, 114] [] [tA, x, e]) r4) (if sdB 0 0 [106, 111, 105, 110] ts = true then ((needF [[106, 111, 105, 110]] ts).bind fun r => bd (jdF R r) fun x r2 => (needF [[111, 110]] r2).bind fun r3 => bd (R.expr r3) fun e r4 => tbD R f (nd [105, 110, 110, 101, 114] [] [tA, x, e]) r4) else some (tA, ts))))))) = o) := by
        show _ = _
        rw [← HO2.out]
        exact congrArg ((some ts0).bind ·) (funext fun ts => (tbX_eq R f tA ts).symm)
      clear HO2
      go_wp2_with (first
      | (guard_target = wpList _ _ _ (Oper.mk (some 27) (Op.buildSlice 82 _ _) _ _ _ _ :: _) _ _; refine hC.S3 ?_; clear hC; intro W kW hC; (try simp only [pP]))
      | refine bL ?_
      | (refine bA ?_; clear hC; intro W k hC)
      | (refine bS ?_; clear hC; intro W hC)
      | (go_at_call 15; refine aGot ?_ ?_ <;> clear hC HO; (focus (intro ts r W hC e hl HO; first | (cases e; done) | cases e)); rotate_left; (focus (intro hC HO)); rotate_left)
      | (go_at_call 35; refine aMust ?_; clear hC HO; intro st2 W hC hl HO)
      | (guard_target = Code.wp _ (Code.region 5 _ true) _ _ _; refine wp_region_held_drew (S := HB []) (by kernel_rfl) (hC.drew.hbI0  ) (fun hHeld => ?_); replace hC := hC.drew; refine qk 1 ?_; (try simp only [pQ]); refine ry [0, 2] ?_; refine AllReadyH.cons rfl (fun K hK => ?_) (AllReadyH.cons rfl (fun K hK => ?_) AllReadyH.nil); (focus (refine st_of rfl ?_; refine wp_loadNM hC (by rfl) (by rfl) (by repeat (first | exact List.mem_cons_self | assumption | apply List.mem_cons_of_mem)) ?_; refine hK.out _ _ (hC.hbS0 ) fun hHeld => ?_; clear hK K; (try simp only [pQ]); refine ry [2] ?_; refine rd1 fun K hK => ?_; go_simp; (first | (go_at_call 166; refine uN (q_rjoined RC hg hC (by omega)) HO ?_; clear hC HO; intro t st2 W ao cap he hC HO; have hl := sl_of (jdF_Len RC.len) he; clear he)); refine hK.out _ _ (hC.hbS0 ) fun hHeld => ?_; clear hK K; (try simp only [pQ]); refine ry [3] ?_; refine rd1 fun K hK => ?_; refine st_of rfl ?_; refine wp_build2C hC (by rfl) (by rfl) (by rfl) ?_; clear hC; intro W k hC; refine hK.out _ _ (hC.hbS0 ) fun hHeld => ?_; clear hK K; (try simp only [pQ]); refine ry [4] ?_; refine rd1 fun K hK => ?_; go_simp; (first | (go_at_call 33; guard_target = Calls _ _ #[_, _, _, Value.slice (some _) 2 2] _ _; (first | refine useRD (q_rnode2 _ _ _ hC (.tail _ hM.out) (.head _)) ?_); clear hC; intro W ao cap hC)); refine hK.out _ _ (hC.hbS0 ) fun hHeld => ?_; clear hK K; (try simp only [pQ]); refine ry [5] ?_; refine rd1 fun K hK => ?_; refine st_of rfl ?_; refine wsN ?_; clear hC; intro W hC; refine hK.out _ _ (hC.hbS0 ) fun hHeld => ?_; clear hK K; (try simp only [pQ]); refine dn ?_ _)); rotate_left; (focus (go_simp; (first | (go_at_call 166; refine uN (q_rjoined RC hg hC (by omega)) HO ?_; clear hC HO; intro t st2 W ao cap he hC HO; have hl := sl_of (jdF_Len RC.len) he; clear he)); refine hK.out _ _ (hC.hbS0 ) fun hHeld => ?_; clear hK K; (try simp only [pQ]); refine ry [0] ?_; refine rd1 fun K hK => ?_; refine st_of rfl ?_; refine wp_loadNM hC (by rfl) (by rfl) (by repeat (first | exact List.mem_cons_self | assumption | apply List.mem_cons_of_mem)) ?_; refine hK.out _ _ (hC.hbS0 ) fun hHeld => ?_; clear hK K; (try simp only [pQ]); refine ry [3] ?_; refine rd1 fun K hK => ?_; refine st_of rfl ?_; refine wp_build2C hC (by rfl) (by rfl) (by rfl) ?_; clear hC; intro W k hC; refine hK.out _ _ (hC.hbS0 ) fun hHeld => ?_; clear hK K; (try simp only [pQ]); refine ry [4] ?_; refine rd1 fun K hK => ?_; go_simp; (first | (go_at_call 33; guard_target = Calls _ _ #[_, _, _, Value.slice (some _) 2 2] _ _; (first | refine useRD (q_rnode2 _ _ _ hC (.tail _ hM.out) (.head _)) ?_); clear hC; intro W ao cap hC)); refine hK.out _ _ (hC.hbS0 ) fun hHeld => ?_; clear hK K; (try simp only [pQ]); refine ry [5] ?_; refine rd1 fun K hK => ?_; refine st_of rfl ?_; refine wsN ?_; clear hC; intro W hC; refine hK.out _ _ (hC.hbS0 ) fun hHeld => ?_; clear hK K; (try simp only [pQ]); refine dn ?_ _)); rotate_left))
      · go_roundg (sl st2)
        case measure => omega
        case rel => exact ⟨nd [99, 114, 111, 115, 115] [] [tA, t], ao, cap, _, st2, f, Nat.le_refl _, by omega, hC.less (by (repeat (first | exact List.Sublist.refl _ | apply List.Sublist.cons_cons | apply List.Sublist.cons)); done) (fun y hy => hy), .head _, (mS hS.out), HO, by omega⟩
      · go_roundg (sl st2)
        case measure => omega
        case rel => exact ⟨nd [99, 114, 111, 115, 115] [] [tA, t], ao, cap, _, st2, f, Nat.le_refl _, by omega, hC.less (by (repeat (first | exact List.Sublist.refl _ | apply List.Sublist.cons_cons | apply List.Sublist.cons)); done) (fun y hy => hy), .head _, (mS hS.out), HO, by omega⟩
      go_loopw [4, 6] (fun opv x wx => (opv = .string ⟨#[]⟩ ∧ x = .int .i64 0 ∧ ∃ stq, Hid (Cx E B w0 wx (.r stq) ((kW, [.string ⟨#[108, 101, 102, 116]⟩, .string ⟨#[114, 105, 103, 104, 116]⟩, .string ⟨#[102, 117, 108, 108]⟩], 9) :: (kN, ncs aA pA tA, 24) :: (kR, [.string ⟨#[]⟩, .string ⟨#[]⟩, .int .i64 0, .slice none 0 0], 24) :: H) L') ∧ Hid (stq.bind (fun ts => ow [108, 101, 102, 116] ts (fun ts => ow [111, 117, 116, 101, 114] ts (fun ts => (needF [[106, 111, 105, 110]] ts).bind fun r => bd (jdF R r) fun x r2 => (needF [[111, 110]] r2).bind fun r3 => bd (R.expr r3) fun e r4 => tbD R f (nd [108, 101, 102, 116] [] [tA, x, e]) r4) ((needF [[106, 111, 105, 110]] ts).bind fun r => bd (jdF R r) fun x r2 => (needF [[111, 110]] r2).bind fun r3 => bd (R.expr r3) fun e r4 => tbD R f (nd [108, 101, 102, 116] [] [tA, x, e]) r4)) (ow [114, 105, 103, 104, 116] ts (fun ts => ow [111, 117, 116, 101, 114] ts (fun ts => (needF [[106, 111, 105, 110]] ts).bind fun r => bd (jdF R r) fun x r2 => (needF [[111, 110]] r2).bind fun r3 => bd (R.expr r3) fun e r4 => tbD R f (nd [114, 105, 103, 104, 116] [] [tA, x, e]) r4) ((needF [[106, 111, 105, 110]] ts).bind fun r => bd (jdF R r) fun x r2 => (needF [[111, 110]] r2).bind fun r3 => bd (R.expr r3) fun e r4 => tbD R f (nd [114, 105, 103, 104, 116] [] [tA, x, e]) r4)) (ow [102, 117, 108, 108] ts (fun ts => ow [111, 117, 116, 101, 114] ts (fun ts => (needF [[106, 111, 105, 110]] ts).bind fun r => bd (jdF R r) fun x r2 => (needF [[111, 110]] r2).bind fun r3 => bd (R.expr r3) fun e r4 => tbD R f (nd [102, 117, 108, 108] [] [tA, x, e]) r4) ((needF [[106, 111, 105, 110]] ts).bind fun r => bd (jdF R r) fun x r2 => (needF [[111, 110]] r2).bind fun r3 => bd (R.expr r3) fun e r4 => tbD R f (nd [102, 117, 108, 108] [] [tA, x, e]) r4)) (ow [105, 110, 110, 101, 114] ts (fun ts => (needF [[106, 111, 105, 110]] ts).bind fun r => bd (jdF R r) fun x r2 => (needF [[111, 110]] r2).bind fun r3 => bd (R.expr r3) fun e r4 => tbD R f (nd [105, 110, 110, 101, 114] [] [tA, x, e]) r4) (if sdB 0 0 [106, 111, 105, 110] ts = true then ((needF [[106, 111, 105, 110]] ts).bind fun r => bd (jdF R r) fun x r2 => (needF [[111, 110]] r2).bind fun r3 => bd (R.expr r3) fun e r4 => tbD R f (nd [105, 110, 110, 101, 114] [] [tA, x, e]) r4) else some (tA, ts)))))) = o) ∧ sl stq ≤ sl (some ts0)) ∨ (opv = .string ⟨#[]⟩ ∧ x = .int .i64 1 ∧ ∃ stq, Hid (Cx E B w0 wx (.r stq) ((kW, [.string ⟨#[108, 101, 102, 116]⟩, .string ⟨#[114, 105, 103, 104, 116]⟩, .string ⟨#[102, 117, 108, 108]⟩], 9) :: (kN, ncs aA pA tA, 24) :: (kR, [.string ⟨#[]⟩, .string ⟨#[]⟩, .int .i64 0, .slice none 0 0], 24) :: H) L') ∧ Hid (stq.bind (fun ts => ow [114, 105, 103, 104, 116] ts (fun ts => ow [111, 117, 116, 101, 114] ts (fun ts => (needF [[106, 111, 105, 110]] ts).bind fun r => bd (jdF R r) fun x r2 => (needF [[111, 110]] r2).bind fun r3 => bd (R.expr r3) fun e r4 => tbD R f (nd [114, 105, 103, 104, 116] [] [tA, x, e]) r4) ((needF [[106, 111, 105, 110]] ts).bind fun r => bd (jdF R r) fun x r2 => (needF [[111, 110]] r2).bind fun r3 => bd (R.expr r3) fun e r4 => tbD R f (nd [114, 105, 103, 104, 116] [] [tA, x, e]) r4)) (ow [102, 117, 108, 108] ts (fun ts => ow [111, 117, 116, 101, 114] ts (fun ts => (needF [[106, 111, 105, 110]] ts).bind fun r => bd (jdF R r) fun x r2 => (needF [[111, 110]] r2).bind fun r3 => bd (R.expr r3) fun e r4 => tbD R f (nd [102, 117, 108, 108] [] [tA, x, e]) r4) ((needF [[106, 111, 105, 110]] ts).bind fun r => bd (jdF R r) fun x r2 => (needF [[111, 110]] r2).bind fun r3 => bd (R.expr r3) fun e r4 => tbD R f (nd [102, 117, 108, 108] [] [tA, x, e]) r4)) (ow [105, 110, 110, 101, 114] ts (fun ts => (needF [[106, 111, 105, 110]] ts).bind fun r => bd (jdF R r) fun x r2 => (needF [[111, 110]] r2).bind fun r3 => bd (R.expr r3) fun e r4 => tbD R f (nd [105, 110, 110, 101, 114] [] [tA, x, e]) r4) (if sdB 0 0 [106, 111, 105, 110] ts = true then ((needF [[106, 111, 105, 110]] ts).bind fun r => bd (jdF R r) fun x r2 => (needF [[111, 110]] r2).bind fun r3 => bd (R.expr r3) fun e r4 => tbD R f (nd [105, 110, 110, 101, 114] [] [tA, x, e]) r4) else some (tA, ts))))) = o) ∧ sl stq ≤ sl (some ts0)) ∨ (opv = .string ⟨#[]⟩ ∧ x = .int .i64 2 ∧ ∃ stq, Hid (Cx E B w0 wx (.r stq) ((kW, [.string ⟨#[108, 101, 102, 116]⟩, .string ⟨#[114, 105, 103, 104, 116]⟩, .string ⟨#[102, 117, 108, 108]⟩], 9) :: (kN, ncs aA pA tA, 24) :: (kR, [.string ⟨#[]⟩, .string ⟨#[]⟩, .int .i64 0, .slice none 0 0], 24) :: H) L') ∧ Hid (stq.bind (fun ts => ow [102, 117, 108, 108] ts (fun ts => ow [111, 117, 116, 101, 114] ts (fun ts => (needF [[106, 111, 105, 110]] ts).bind fun r => bd (jdF R r) fun x r2 => (needF [[111, 110]] r2).bind fun r3 => bd (R.expr r3) fun e r4 => tbD R f (nd [102, 117, 108, 108] [] [tA, x, e]) r4) ((needF [[106, 111, 105, 110]] ts).bind fun r => bd (jdF R r) fun x r2 => (needF [[111, 110]] r2).bind fun r3 => bd (R.expr r3) fun e r4 => tbD R f (nd [102, 117, 108, 108] [] [tA, x, e]) r4)) (ow [105, 110, 110, 101, 114] ts (fun ts => (needF [[106, 111, 105, 110]] ts).bind fun r => bd (jdF R r) fun x r2 => (needF [[111, 110]] r2).bind fun r3 => bd (R.expr r3) fun e r4 => tbD R f (nd [105, 110, 110, 101, 114] [] [tA, x, e]) r4) (if sdB 0 0 [106, 111, 105, 110] ts = true then ((needF [[106, 111, 105, 110]] ts).bind fun r => bd (jdF R r) fun x r2 => (needF [[111, 110]] r2).bind fun r3 => bd (R.expr r3) fun e r4 => tbD R f (nd [105, 110, 110, 101, 114] [] [tA, x, e]) r4) else some (tA, ts)))) = o) ∧ sl stq ≤ sl (some ts0)) ∨ (opv = .string ⟨#[]⟩ ∧ x = .int .i64 3 ∧ ∃ stq, Hid (Cx E B w0 wx (.r stq) ((kW, [.string ⟨#[108, 101, 102, 116]⟩, .string ⟨#[114, 105, 103, 104, 116]⟩, .string ⟨#[102, 117, 108, 108]⟩], 9) :: (kN, ncs aA pA tA, 24) :: (kR, [.string ⟨#[]⟩, .string ⟨#[]⟩, .int .i64 0, .slice none 0 0], 24) :: H) L') ∧ Hid (stq.bind (fun ts => ow [105, 110, 110, 101, 114] ts (fun ts => (needF [[106, 111, 105, 110]] ts).bind fun r => bd (jdF R r) fun x r2 => (needF [[111, 110]] r2).bind fun r3 => bd (R.expr r3) fun e r4 => tbD R f (nd [105, 110, 110, 101, 114] [] [tA, x, e]) r4) (if sdB 0 0 [106, 111, 105, 110] ts = true then ((needF [[106, 111, 105, 110]] ts).bind fun r => bd (jdF R r) fun x r2 => (needF [[111, 110]] r2).bind fun r3 => bd (R.expr r3) fun e r4 => tbD R f (nd [105, 110, 110, 101, 114] [] [tA, x, e]) r4) else some (tA, ts))) = o) ∧ sl stq ≤ sl (some ts0)) ∨ (opv = .string ⟨#[108, 101, 102, 116]⟩ ∧ x = .int .i64 1 ∧ ∃ stq, Hid (Cx E B w0 wx (.r stq) ((kW, [.string ⟨#[108, 101, 102, 116]⟩, .string ⟨#[114, 105, 103, 104, 116]⟩, .string ⟨#[102, 117, 108, 108]⟩], 9) :: (kN, ncs aA pA tA, 24) :: (kR, [.string ⟨#[]⟩, .string ⟨#[]⟩, .int .i64 0, .slice none 0 0], 24) :: H) L') ∧ Hid (stq.bind (fun ts => (needF [[106, 111, 105, 110]] ts).bind fun r => bd (jdF R r) fun x r2 => (needF [[111, 110]] r2).bind fun r3 => bd (R.expr r3) fun e r4 => tbD R f (nd [108, 101, 102, 116] [] [tA, x, e]) r4) = o) ∧ sl stq + 1 ≤ sl (some ts0)) ∨ (opv = .string ⟨#[114, 105, 103, 104, 116]⟩ ∧ x = .int .i64 2 ∧ ∃ stq, Hid (Cx E B w0 wx (.r stq) ((kW, [.string ⟨#[108, 101, 102, 116]⟩, .string ⟨#[114, 105, 103, 104, 116]⟩, .string ⟨#[102, 117, 108, 108]⟩], 9) :: (kN, ncs aA pA tA, 24) :: (kR, [.string ⟨#[]⟩, .string ⟨#[]⟩, .int .i64 0, .slice none 0 0], 24) :: H) L') ∧ Hid (stq.bind (fun ts => (needF [[106, 111, 105, 110]] ts).bind fun r => bd (jdF R r) fun x r2 => (needF [[111, 110]] r2).bind fun r3 => bd (R.expr r3) fun e r4 => tbD R f (nd [114, 105, 103, 104, 116] [] [tA, x, e]) r4) = o) ∧ sl stq + 1 ≤ sl (some ts0)) ∨ (opv = .string ⟨#[102, 117, 108, 108]⟩ ∧ x = .int .i64 3 ∧ ∃ stq, Hid (Cx E B w0 wx (.r stq) ((kW, [.string ⟨#[108, 101, 102, 116]⟩, .string ⟨#[114, 105, 103, 104, 116]⟩, .string ⟨#[102, 117, 108, 108]⟩], 9) :: (kN, ncs aA pA tA, 24) :: (kR, [.string ⟨#[]⟩, .string ⟨#[]⟩, .int .i64 0, .slice none 0 0], 24) :: H) L') ∧ Hid (stq.bind (fun ts => (needF [[106, 111, 105, 110]] ts).bind fun r => bd (jdF R r) fun x r2 => (needF [[111, 110]] r2).bind fun r3 => bd (R.expr r3) fun e r4 => tbD R f (nd [102, 117, 108, 108] [] [tA, x, e]) r4) = o) ∧ sl stq + 1 ≤ sl (some ts0))) (fun _ x _ => 3 - (intOf x).toNat)
      case atStart => exact Or.inl ⟨rfl, rfl, _, hC, HO, by omega⟩
      case round =>
        rename World => wx
        clear hC HO
        rcases hrel with ⟨rfl, rfl, stq, hC', HO, hq⟩ | ⟨rfl, rfl, stq, hC', HO, hq⟩ | ⟨rfl, rfl, stq, hC', HO, hq⟩ | ⟨rfl, rfl, stq, hC', HO, hq⟩ | ⟨rfl, rfl, stq, hC', HO, hq⟩ | ⟨rfl, rfl, stq, hC', HO, hq⟩ | ⟨rfl, rfl, stq, hC', HO, hq⟩
        iterate 3
          · have hC := hC'.out
            clear hC'
            go_wp2_with (first
            | refine bL ?_
            | (refine bA ?_; clear hC; intro W k hC)
            | (refine bS ?_; clear hC; intro W hC)
            | (go_at_call 15; refine aGot ?_ ?_ <;> clear hC HO; (focus (intro ts r W hC e hl HO; first | (cases e; done) | cases e)); rotate_left; (focus (intro hC HO)); rotate_left))
            all_goals
              · go_roundw
                case rel => first | exact Or.inr (Or.inr (Or.inr (Or.inr (Or.inl ⟨rfl, rfl, _, hC, HO, by omega⟩)))) | exact Or.inr (Or.inr (Or.inr (Or.inr (Or.inr (Or.inl ⟨rfl, rfl, _, hC, HO, by omega⟩))))) | exact Or.inr (Or.inr (Or.inr (Or.inr (Or.inr (Or.inr (⟨rfl, rfl, _, hC, HO, by omega⟩)))))) | exact Or.inr (Or.inl ⟨rfl, rfl, _, hC, HO, by omega⟩) | exact Or.inr (Or.inr (Or.inl ⟨rfl, rfl, _, hC, HO, by omega⟩)) | exact Or.inr (Or.inr (Or.inr (Or.inl ⟨rfl, rfl, _, hC, HO, by omega⟩)))
                case measure => simp [intOf]
        · have hC := hC'.out
          clear hC'
          go_wp2_with (first
          | (guard_target = wpList _ _ _ (Oper.mk (some 10) (Op.alloc 24) _ _ _ _ :: _) _ _; refine hC.aN ?_; clear hC; intro W kB hC; (try simp only [pP]))
          | refine bL ?_
          | (refine bA ?_; clear hC; intro W k hC)
          | (refine bS ?_; clear hC; intro W hC)
          | (go_at_call 15; refine aGot ?_ ?_ <;> clear hC HO; (focus (intro ts r W hC e hl HO; first | (cases e; done) | cases e)); rotate_left; (focus (intro hC HO)); rotate_left)
          | (first | (go_at_call 29; refine aIs ?_ ?_ <;> clear hC HO; (focus (intro ts hC e hl HO; first | (cases e; done) | cases e)); rotate_left; (focus (intro hC HO)); rotate_left) | (go_at_call 29; have hD := hC; clear hC; refine (q_isA hg hD).mono ?_; clear hD; rintro e W ⟨b, rfl, hC⟩))
          | (go_at_call 35; refine aMust ?_; clear hC HO; intro st2 W hC hl HO)
          | (go_at_call 166; refine uN (q_rjoined RC hg hC (by omega)) HO ?_; clear hC HO; intro t st2 W ao cap he hC HO; have hl := sl_of (jdF_Len RC.len) he; clear he)
          | (guard_target = Code.wp _ (Code.region 24 _ true) _ _ _; refine wp_region_held_drew (S := HB [_]) (by kernel_rfl) (hC.drew.hbI1 0 (by rfl)) (fun hHeld => ?_); replace hC := hC.drew; refine qk 0 ?_; (try simp only [pQ]); refine qkN 2 ?_; (try simp only [pQ]); refine qk 3 ?_; (try simp only [pQ]); refine ry [1, 4] ?_; refine AllReadyH.cons rfl (fun K hK => ?_) (AllReadyH.cons rfl (fun K hK => ?_) AllReadyH.nil); (focus (refine st_of rfl ?_; refine wp_loadNM hC (by rfl) (by rfl) (by repeat (first | exact List.mem_cons_self | assumption | apply List.mem_cons_of_mem)) ?_; refine hK.out _ _ hC.hb1' fun hHeld => ?_; clear hK K; (try simp only [pQ]); refine ry [4] ?_; refine rd1 fun K hK => ?_; go_simp; (first | (go_at_call 70; refine uN (q_exprS RC hg hC (by omega)) HO ?_; clear hC HO; intro t st2 W ao cap he hC HO; have hl := sl_of RC.len.expr he; clear he)); refine hK.out _ _ hC.hb1' fun hHeld => ?_; clear hK K; (try simp only [pQ]); refine ry [5] ?_; refine rd1 fun K hK => ?_; refine st_of rfl ?_; refine wp_build3C hC (by rfl) (by rfl) (by rfl) (by rfl) ?_; clear hC; intro W k hC; refine hK.out _ _ hC.hb1' fun hHeld => ?_; clear hK K; (try simp only [pQ]); refine ry [6] ?_; refine rd1 fun K hK => ?_; go_simp; (first | (go_at_call 33; guard_target = Calls _ _ #[_, _, _, Value.slice (some _) 3 3] _ _; refine m14 ?_; clear hC; intro W ao cap hC)); refine hK.out _ _ hC.hb1' fun hHeld => ?_; clear hK K; (try simp only [pQ]); refine ry [7] ?_; refine rd1 fun K hK => ?_; refine st_of rfl ?_; refine wsN ?_; clear hC; intro W hC; refine hK.out _ _ hC.hb1' fun hHeld => ?_; clear hK K; (try simp only [pQ]); refine dn ?_ _)); rotate_left; (focus (go_simp; (first | (go_at_call 70; refine uN (q_exprS RC hg hC (by omega)) HO ?_; clear hC HO; intro t st2 W ao cap he hC HO; have hl := sl_of RC.len.expr he; clear he)); refine hK.out _ _ hC.hb1' fun hHeld => ?_; clear hK K; (try simp only [pQ]); refine ry [1] ?_; refine rd1 fun K hK => ?_; refine st_of rfl ?_; refine wp_loadNM hC (by rfl) (by rfl) (by repeat (first | exact List.mem_cons_self | assumption | apply List.mem_cons_of_mem)) ?_; refine hK.out _ _ hC.hb1' fun hHeld => ?_; clear hK K; (try simp only [pQ]); refine ry [5] ?_; refine rd1 fun K hK => ?_; refine st_of rfl ?_; refine wp_build3C hC (by rfl) (by rfl) (by rfl) (by rfl) ?_; clear hC; intro W k hC; refine hK.out _ _ hC.hb1' fun hHeld => ?_; clear hK K; (try simp only [pQ]); refine ry [6] ?_; refine rd1 fun K hK => ?_; go_simp; (first | (go_at_call 33; guard_target = Calls _ _ #[_, _, _, Value.slice (some _) 3 3] _ _; refine m14 ?_; clear hC; intro W ao cap hC)); refine hK.out _ _ hC.hb1' fun hHeld => ?_; clear hK K; (try simp only [pQ]); refine ry [7] ?_; refine rd1 fun K hK => ?_; refine st_of rfl ?_; refine wsN ?_; clear hC; intro W hC; refine hK.out _ _ hC.hb1' fun hHeld => ?_; clear hK K; (try simp only [pQ]); refine dn ?_ _)); rotate_left))
          all_goals first
          | (solve | (refine hC.rc ?_; refine endRN HO (hC.fin ?_ hM.out (mS hS.out)); (repeat (first | exact List.Sublist.refl _ | apply List.Sublist.cons)); done))
          | (solve | (go_roundg (sl st2); (case measure => omega); (case rel => exact ⟨nd [105, 110, 110, 101, 114] [] [tA, _, _], ao, cap, _, st2, f, Nat.le_refl _, by omega, hC.less (by (repeat (first | exact List.Sublist.refl _ | apply List.Sublist.cons_cons | apply List.Sublist.cons)); done) (fun y hy => hy), .head _, (mS hS.out), HO, by omega⟩)))
        iterate 3
          · have hC := hC'.out
            clear hC'
            go_wp2_with (first
            | (guard_target = wpList _ _ _ (Oper.mk (some 10) (Op.alloc 24) _ _ _ _ :: _) _ _; refine hC.aN ?_; clear hC; intro W kB hC; (try simp only [pP]))
            | refine bL ?_
            | (refine bA ?_; clear hC; intro W k hC)
            | (refine bS ?_; clear hC; intro W hC)
            | (go_at_call 29; have hD := hC; clear hC; refine (q_isA hg hD).mono ?_; clear hD; rintro e W ⟨b, rfl, hC⟩)
            | (go_at_call 35; refine aMust ?_; clear hC HO; intro st2 W hC hl HO)
            | (go_at_call 166; refine uN (q_rjoined RC hg hC (by omega)) HO ?_; clear hC HO; intro t st2 W ao cap he hC HO; have hl := sl_of (jdF_Len RC.len) he; clear he)
            | (guard_target = Code.wp _ (Code.region 24 _ true) _ _ _; refine wp_region_held_drew (S := HB [_]) (by kernel_rfl) (hC.drew.hbI1 0 (by rfl)) (fun hHeld => ?_); replace hC := hC.drew; refine qk 0 ?_; (try simp only [pQ]); refine qkN 2 ?_; (try simp only [pQ]); refine qk 3 ?_; (try simp only [pQ]); refine ry [1, 4] ?_; refine AllReadyH.cons rfl (fun K hK => ?_) (AllReadyH.cons rfl (fun K hK => ?_) AllReadyH.nil); (focus (refine st_of rfl ?_; refine wp_loadNM hC (by rfl) (by rfl) (by repeat (first | exact List.mem_cons_self | assumption | apply List.mem_cons_of_mem)) ?_; refine hK.out _ _ hC.hb1' fun hHeld => ?_; clear hK K; (try simp only [pQ]); refine ry [4] ?_; refine rd1 fun K hK => ?_; go_simp; (first | (go_at_call 70; refine uN (q_exprS RC hg hC (by omega)) HO ?_; clear hC HO; intro t st2 W ao cap he hC HO; have hl := sl_of RC.len.expr he; clear he)); refine hK.out _ _ hC.hb1' fun hHeld => ?_; clear hK K; (try simp only [pQ]); refine ry [5] ?_; refine rd1 fun K hK => ?_; refine st_of rfl ?_; refine wp_build3C hC (by rfl) (by rfl) (by rfl) (by rfl) ?_; clear hC; intro W k hC; refine hK.out _ _ hC.hb1' fun hHeld => ?_; clear hK K; (try simp only [pQ]); refine ry [6] ?_; refine rd1 fun K hK => ?_; go_simp; (first | (go_at_call 33; guard_target = Calls _ _ #[_, _, _, Value.slice (some _) 3 3] _ _; refine m14 ?_; clear hC; intro W ao cap hC)); refine hK.out _ _ hC.hb1' fun hHeld => ?_; clear hK K; (try simp only [pQ]); refine ry [7] ?_; refine rd1 fun K hK => ?_; refine st_of rfl ?_; refine wsN ?_; clear hC; intro W hC; refine hK.out _ _ hC.hb1' fun hHeld => ?_; clear hK K; (try simp only [pQ]); refine dn ?_ _)); rotate_left; (focus (go_simp; (first | (go_at_call 70; refine uN (q_exprS RC hg hC (by omega)) HO ?_; clear hC HO; intro t st2 W ao cap he hC HO; have hl := sl_of RC.len.expr he; clear he)); refine hK.out _ _ hC.hb1' fun hHeld => ?_; clear hK K; (try simp only [pQ]); refine ry [1] ?_; refine rd1 fun K hK => ?_; refine st_of rfl ?_; refine wp_loadNM hC (by rfl) (by rfl) (by repeat (first | exact List.mem_cons_self | assumption | apply List.mem_cons_of_mem)) ?_; refine hK.out _ _ hC.hb1' fun hHeld => ?_; clear hK K; (try simp only [pQ]); refine ry [5] ?_; refine rd1 fun K hK => ?_; refine st_of rfl ?_; refine wp_build3C hC (by rfl) (by rfl) (by rfl) (by rfl) ?_; clear hC; intro W k hC; refine hK.out _ _ hC.hb1' fun hHeld => ?_; clear hK K; (try simp only [pQ]); refine ry [6] ?_; refine rd1 fun K hK => ?_; go_simp; (first | (go_at_call 33; guard_target = Calls _ _ #[_, _, _, Value.slice (some _) 3 3] _ _; refine m14 ?_; clear hC; intro W ao cap hC)); refine hK.out _ _ hC.hb1' fun hHeld => ?_; clear hK K; (try simp only [pQ]); refine ry [7] ?_; refine rd1 fun K hK => ?_; refine st_of rfl ?_; refine wsN ?_; clear hC; intro W hC; refine hK.out _ _ hC.hb1' fun hHeld => ?_; clear hK K; (try simp only [pQ]); refine dn ?_ _)); rotate_left))
            all_goals first
            | (solve | (refine hC.rc ?_; refine endRN HO (hC.fin ?_ hM.out (mS hS.out)); (repeat (first | exact List.Sublist.refl _ | apply List.Sublist.cons)); done))
            | (solve | (go_roundg (sl st2); (case measure => omega); (case rel => exact ⟨nd [108, 101, 102, 116] [] [tA, _, _], ao, cap, _, st2, f, Nat.le_refl _, by omega, hC.less (by (repeat (first | exact List.Sublist.refl _ | apply List.Sublist.cons_cons | apply List.Sublist.cons)); done) (fun y hy => hy), .head _, (mS hS.out), HO, by omega⟩)))
            | (solve | (go_roundg (sl st2); (case measure => omega); (case rel => exact ⟨nd [114, 105, 103, 104, 116] [] [tA, _, _], ao, cap, _, st2, f, Nat.le_refl _, by omega, hC.less (by (repeat (first | exact List.Sublist.refl _ | apply List.Sublist.cons_cons | apply List.Sublist.cons)); done) (fun y hy => hy), .head _, (mS hS.out), HO, by omega⟩)))
            | (solve | (go_roundg (sl st2); (case measure => omega); (case rel => exact ⟨nd [102, 117, 108, 108] [] [tA, _, _], ao, cap, _, st2, f, Nat.le_refl _, by omega, hC.less (by (repeat (first | exact List.Sublist.refl _ | apply List.Sublist.cons_cons | apply List.Sublist.cons)); done) (fun y hy => hy), .head _, (mS hS.out), HO, by omega⟩)))
end Go.Proofs.YtaenpacfbheppaaGreatDoor
namespace Go.Proofs.YtaenpacfbheppaaGreatDoor
open Go.RowKit
theorem gotB {E : Env} {B : Nat} {w0 w : World} {st : Option (List Tok)} {H : List Bx} {L : List Tn} {β : Type} {o : Option β} {A : List Tok → Option β} {C : List Tok → Option β} (hg : GoodE E) (hC : Cx E B w0 w (.r st) H L) (s : List UInt8) (hs : wl s = true) (h : st.bind (fun ts => ow s ts A (C ts)) = o) :
    Calls Tryz.prog 15 #[.pointer (some ⟨E.b, 0, none⟩), .string ⟨s.toArray⟩] w fun e W => ∃ (b : Bool) (st2 : Option (List Tok)), e = .returned (.bool b) ∧ Cx E B w0 W (.r st2) H L ∧ sl st2 ≤ sl st ∧ ((b = true ∧ Hid (st2.bind A = o)) ∨ (b = false ∧ Hid (st2.bind C = o))) := by
  refine gotW hg hC s hs ?_ ?_
  · intro ts W e hb hD hl
    subst e
    exact ⟨true, _, rfl, hD, (by have := sl_some hl; omega), Or.inl ⟨rfl, bindT hb h⟩⟩
  · intro hb hD
    exact ⟨false, st, rfl, hD, Nat.le_refl _, Or.inr ⟨rfl, bindF hb h⟩⟩
theorem q_rsimple {E : Env} {B : Nat} {w0 w : World} {st : Option (List Tok)} {H : List Bx} {L : List Tn} {R : Rc} {n : Nat} (RC : Cw E R n) (hg : GoodE E) (hC : Cx E B w0 w (.r st) H L) (hn : sl st ≤ n) :
    Calls Tryz.prog 130 #[.pointer (some ⟨E.b, 0, none⟩)] w (RN E B w0 H L (st.bind (simD R))) := by
  obtain ⟨o, ho⟩ : ∃ o, st.bind (simD R) = o := ⟨_, rfl⟩
  rw [ho]
  rw [simX_eq] at ho
  unfold simX at ho
  have HO := hidk ho
  clear ho
  have h601 := hC.rsl
  go_enter Tryz.func130, Tryz.ntmps130
  go_upto_if 24 with (first
  | (guard_target = wpList _ _ _ (Oper.mk (some 2) (Op.alloc 24) _ _ _ _ :: _) _ _; refine hC.aN ?_; clear hC; intro W kR hC; (try simp only [pP]))
  | (guard_target = wpList _ _ _ (Oper.mk (some 3) (Op.alloc 24) _ _ _ _ :: _) _ _; refine hC.aN ?_; clear hC; intro W kB hC; (try simp only [pP]))
  | refine bL ?_
  | (refine bA ?_; clear hC; intro W k hC)
  | (refine bS ?_; clear hC; intro W hC)
  | (go_at_call 15; guard_target = Calls _ _ #[_, Value.string ⟨#[100, 105, 115, 116, 105, 110, 99, 116]⟩] _ _; have hD := hC; clear hC; refine (gotB hg hD _ (by decide) HO.out).mono ?_; clear hD HO; rintro e W ⟨b, st2, rfl, hC, hl, HB⟩)
  | (go_at_call 15; refine aGot ?_ ?_ <;> clear hC HO; (focus (intro ts r W hC e hl HO; first | (cases e; done) | cases e)); rotate_left; (focus (intro hC HO)); rotate_left)
  | (go_at_call 63; refine uN (RC.body hC (by omega)) HO ?_; clear hC HO; intro t st2 W ao cap he hC HO; have hl := sl_of RC.len.body he; clear he)
  | (go_at_call 35; refine aMust ?_; clear hC HO; intro st2 W hC hl HO))
  all_goals (try (solve | (refine hC.rc ?_; refine endRN HO (hC.fin ?_ ?_ ?_); (repeat (first | exact List.Sublist.refl _ | apply List.Sublist.cons)); (repeat (first | exact List.mem_cons_self | apply List.mem_cons_of_mem)); intro y hy; (repeat (first | exact hy | apply List.mem_cons_of_mem)); done)))
  go_cut [4] (fun dv wx => ∃ (d : Int) (stq : Option (List Tok)), dv = .int .i64 d ∧ Hid (Cx E B w0 wx (.r stq) ((kR, [.string ⟨#[]⟩, .string ⟨#[]⟩, .int .i64 0, .slice none 0 0], 24) :: H) L) ∧ Hid (stq.bind (slX R d) = o) ∧ (sl stq = 0 ∨ sl stq < n) ∧ sl stq ≤ sl st)
  case first =>
    rcases HB with ⟨rfl, HO⟩ | ⟨rfl, HO⟩
    all_goals
      go_wp2_with (first
      | refine bL ?_
      | (refine bA ?_; clear hC; intro W k hC)
      | (refine bS ?_; clear hC; intro W hC)
      | (go_at_call 15; refine aGot ?_ ?_ <;> clear hC HO; (focus (intro ts r W hC e hl HO; first | (cases e; done) | cases e)); rotate_left; (focus (intro hC HO)); rotate_left))
    all_goals (go_meet; exact ⟨_, _, rfl, hC, HO, by omega, by omega⟩)
  case rest =>
  clear hC HB
  obtain ⟨d, stq, rfl, hC', HO2, hq1, hq2⟩ := hcut
  have hC := hC'.out
  have HO : Hid (stq.bind (fun ts => bd (itmF R ts) fun x r2 => bd (lsN (itmF R) (r2.length + 1) [x] r2) fun items r3 => slI R d items r3) = o) := HO2.out
  clear hC' HO2
  go_upto_block 0 with (first
  | refine bL ?_
  | (refine bA ?_; clear hC; intro W k hC)
  | (refine bS ?_; clear hC; intro W hC)
  | (go_at_call 147; refine uN (q_ritem RC hg hC (by omega)) HO ?_; clear hC HO; intro t st2 W ao cap he hC HO; have hl := sl_of (itmF_Len RC.len) he; clear he))
  go_cut [5] (fun sv wx => ∃ (items : List Tr) (aI : Option Addr) (pI : Nat) (L' : List Tn) (st' : Option (List Tok)), sv = .slice aI items.length pI ∧ Hid (Cx E B w0 wx (.r st') ((kR, [.string ⟨#[]⟩, .string ⟨#[]⟩, .int .i64 0, .slice none 0 0], 24) :: H) L') ∧ Hid ((aI, pI, ls items) ∈ L') ∧ Hid (∀ y ∈ L, y ∈ L') ∧ Hid (st'.bind (slI R d items) = o) ∧ items.length ≤ 1000 ∧ sl st' ≤ sl stq)
  case first =>
    go_wp2_with fail
    go_loopg [5] (sl st2) (fun kx sv wr => ∃ (k : Nat) (l : List Tr) (cp : Nat) (cur : List Value) (ks : List Kid) (L' : List Tn) (st' : Option (List Tok)) (f : Nat), sv = .slice (some ⟨k, 0, none⟩) l.length cp ∧ sl st' ≤ kx ∧ Hid (Cx E B w0 wr (.r st') ((k, cur, 24) :: (kR, [.string ⟨#[]⟩, .string ⟨#[]⟩, .int .i64 0, .slice none 0 0], 24) :: H) L') ∧ Hid (Rw cp l ks cur) ∧ Hid (Rin ks l L') ∧ Hid (∀ y ∈ L, y ∈ L') ∧ Hid (st'.bind (fun ts => bd (lsN (itmF R) f l ts) (fun items r3 => slI R d items r3)) = o) ∧ sl st' ≤ f ∧ l.length + sl st' ≤ 602 ∧ sl st' ≤ sl stq ∧ 0 < l.length)
    case atStart => exact ⟨_, [t], 1, _, _, _, st2, sl st2, rfl, Nat.le_refl _, hC, Rw.one, Rin.one (.head _), (fun y hy => by first | ((repeat (first | exact hy | apply List.mem_cons_of_mem)); done) | (have hy := hS.out y hy; (repeat (first | exact hy | apply List.mem_cons_of_mem)); done)), startL HO.out, Nat.le_refl _, by simp; omega, by omega, by simp⟩
    case round =>
      rename World => wr
      clear hC HO
      obtain ⟨k, l, cp, cur, ks, L', st', f, rfl, hk, hC', hR, hN, hS, HO2, hf, h6, hst, h0⟩ := hrel
      have hC := hC'.out
      clear hC'
      cases st' with
      | none =>
        have HO : Hid ((none : Option (List Tok)).bind ((fun items r3 => slI R d items r3) l) = o) := HO2.out
        clear HO2
        go_wp2_with (first
        | refine bL ?_
        | (refine bA ?_; clear hC; intro W k hC)
        | (refine bS ?_; clear hC; intro W hC)
        | (refine bA ?_; clear hC; intro W k hC))
        all_goals (go_meet; exact ⟨l, _, cp, _, _, rfl, (hC.made hR.out hN.out h0 [] [] 0), .head _, (fun y hy => .tail _ (hS.out y hy)), HO, by omega, by omega⟩)
      | some ts0 =>
        have hp0 := sl_pos ts0
        obtain ⟨f, rfl⟩ : ∃ f', f = f' + 1 := ⟨f - 1, by omega⟩
        have HO3 := hidk (lsN_go (J := fun r k => bd ((itmF R) r) k) (fun r k => rfl) HO2.out)
        have HO : Hid ((some ts0).bind (fun ts => og (sgF [44] ts) (fun _ r => bd ((itmF R) r) (fun x r2 => bd (lsN (itmF R) f (l ++ [x]) r2) (fun items r3 => slI R d items r3))) ((fun items r3 => slI R d items r3) l ts)) = o) := HO3.out
        clear HO2 HO3
        go_wp2_with (first
        | refine bL ?_
        | (refine bA ?_; clear hC; intro W k hC)
        | (refine bS ?_; clear hC; intro W hC)
        | (go_at_call 15; refine aGot ?_ ?_ <;> clear hC HO; (focus (intro ts r W hC e hl HO; first | (cases e; done) | cases e)); rotate_left; (focus (intro hC HO)); rotate_left)
        | (go_at_call 147; refine uN (q_ritem RC hg hC (by omega)) HO ?_; clear hC HO; intro t st2 W ao cap he hC HO; have hl := sl_of (itmF_Len RC.len) he; clear he)
        | (at_builtin; have hD := hC; clear hC; refine wl_app1 rfl hD (.head _) 0 (by rfl) (by rfl) (by rfl) rfl hR.out (hN.out.mono mL) (by rfl) (by omega) ?_; clear hD; intro W k cap2 cur2 hC hR2 hN2; simp only [pS] at hC; (try simp only [pP])))
        · go_roundg (sl st2)
          case measure => omega
          case rel => exact ⟨k, l ++ [t], cap2, cur2, _, _, st2, f, (by simp), Nat.le_refl _, hC, hR2, hN2, (mS hS.out), HO, by omega, by simp; omega, by omega, by simp⟩
        all_goals (go_meet; exact ⟨l, _, cp, _, _, rfl, (hC.made hR.out hN.out h0 [] [] 0), .head _, (fun y hy => .tail _ (hS.out y hy)), HO, by omega, by omega⟩)
  case rest =>
  clear hC HO
  obtain ⟨items, aI, pI, L', st', rfl, hC', hMi, hS, HO2, hli, hq3⟩ := hcut
  have hC := hC'.out
  have HO : Hid (st'.bind (fun r => (needF [[102, 114, 111, 109]] r).bind fun r4 => bd (tabD R r4) fun x r5 => bd (lsN (tabD R) (r5.length + 1) [x] r5) fun fr r6 => slF R d items fr r6) = o) := HO2.out
  clear hC' HO2
  go_upto_block 2 with (first
  | refine bL ?_
  | (refine bA ?_; clear hC; intro W k hC)
  | (refine bS ?_; clear hC; intro W hC)
  | (go_at_call 35; refine aMust ?_; clear hC HO; intro st2 W hC hl HO)
  | (go_at_call 148; refine uN (q_rtable RC hg hC (by omega)) HO ?_; clear hC HO; intro t st2 W ao cap he hC HO; have hl := sl_of (tabD_Len RC.len) he; clear he))
  go_cut [7] (fun sv wx => ∃ (fr : List Tr) (aF : Option Addr) (pF : Nat) (L' : List Tn) (st' : Option (List Tok)), sv = .slice aF fr.length pF ∧ Hid (Cx E B w0 wx (.r st') ((kR, [.string ⟨#[]⟩, .string ⟨#[]⟩, .int .i64 0, .slice none 0 0], 24) :: H) L') ∧ Hid ((aI, pI, ls items) ∈ L') ∧ Hid ((aF, pF, ls fr) ∈ L') ∧ Hid (∀ y ∈ L, y ∈ L') ∧ Hid (st'.bind (slF R d items fr) = o) ∧ fr.length ≤ 1000 ∧ sl st' ≤ sl stq)
  case first =>
    go_wp2_with fail
    go_loopg [7] (sl st2) (fun kx sv wr => ∃ (k : Nat) (l : List Tr) (cp : Nat) (cur : List Value) (ks : List Kid) (L' : List Tn) (st' : Option (List Tok)) (f : Nat), sv = .slice (some ⟨k, 0, none⟩) l.length cp ∧ sl st' ≤ kx ∧ Hid (Cx E B w0 wr (.r st') ((k, cur, 24) :: (kR, [.string ⟨#[]⟩, .string ⟨#[]⟩, .int .i64 0, .slice none 0 0], 24) :: H) L') ∧ Hid (Rw cp l ks cur) ∧ Hid (Rin ks l L') ∧ Hid (∀ y ∈ L, y ∈ L') ∧ Hid (st'.bind (fun ts => bd (lsN (tabD R) f l ts) (fun fr r6 => slF R d items fr r6)) = o) ∧ sl st' ≤ f ∧ l.length + sl st' ≤ 602 ∧ sl st' ≤ sl stq ∧ 0 < l.length ∧ Hid ((aI, pI, ls items) ∈ L'))
    case atStart => exact ⟨_, [t], 1, _, _, _, st2, sl st2, rfl, Nat.le_refl _, hC, Rw.one, Rin.one (.head _), (fun y hy => by first | ((repeat (first | exact hy | apply List.mem_cons_of_mem)); done) | (have hy := hS.out y hy; (repeat (first | exact hy | apply List.mem_cons_of_mem)); done)), startL HO.out, Nat.le_refl _, by simp; omega, by omega, by simp, (by have hy := hMi.out; (repeat (first | exact hy | apply List.mem_cons_of_mem)); done)⟩
    case round =>
      rename World => wr
      clear hC HO
      obtain ⟨k, l, cp, cur, ks, L', st', f, rfl, hk, hC', hR, hN, hS, HO2, hf, h6, hst, h0, hMi⟩ := hrel
      have hC := hC'.out
      clear hC'
      cases st' with
      | none =>
        have HO : Hid ((none : Option (List Tok)).bind ((fun fr r6 => slF R d items fr r6) l) = o) := HO2.out
        clear HO2
        go_wp2_with (first
        | refine bL ?_
        | (refine bA ?_; clear hC; intro W k hC)
        | (refine bS ?_; clear hC; intro W hC)
        | (refine bA ?_; clear hC; intro W k hC))
        all_goals (go_meet; exact ⟨l, _, cp, _, _, rfl, (hC.made hR.out hN.out h0 [] [] 0), .tail _ hMi.out, .head _, (fun y hy => .tail _ (hS.out y hy)), HO, by omega, by omega⟩)
      | some ts0 =>
        have hp0 := sl_pos ts0
        obtain ⟨f, rfl⟩ : ∃ f', f = f' + 1 := ⟨f - 1, by omega⟩
        have HO3 := hidk (lsN_go (J := fun r k => bd ((tabD R) r) k) (fun r k => rfl) HO2.out)
        have HO : Hid ((some ts0).bind (fun ts => og (sgF [44] ts) (fun _ r => bd ((tabD R) r) (fun x r2 => bd (lsN (tabD R) f (l ++ [x]) r2) (fun fr r6 => slF R d items fr r6))) ((fun fr r6 => slF R d items fr r6) l ts)) = o) := HO3.out
        clear HO2 HO3
        go_wp2_with (first
        | refine bL ?_
        | (refine bA ?_; clear hC; intro W k hC)
        | (refine bS ?_; clear hC; intro W hC)
        | (go_at_call 15; refine aGot ?_ ?_ <;> clear hC HO; (focus (intro ts r W hC e hl HO; first | (cases e; done) | cases e)); rotate_left; (focus (intro hC HO)); rotate_left)
        | (go_at_call 148; refine uN (q_rtable RC hg hC (by omega)) HO ?_; clear hC HO; intro t st2 W ao cap he hC HO; have hl := sl_of (tabD_Len RC.len) he; clear he)
        | (at_builtin; have hD := hC; clear hC; refine wl_app1 rfl hD (.head _) 0 (by rfl) (by rfl) (by rfl) rfl hR.out (hN.out.mono mL) (by rfl) (by omega) ?_; clear hD; intro W k cap2 cur2 hC hR2 hN2; simp only [pS] at hC; (try simp only [pP])))
        · go_roundg (sl st2)
          case measure => omega
          case rel => exact ⟨k, l ++ [t], cap2, cur2, _, _, st2, f, (by simp), Nat.le_refl _, hC, hR2, hN2, (mS hS.out), HO, by omega, by simp; omega, by omega, by simp, (by have hy := hMi.out; (repeat (first | exact hy | apply List.mem_cons_of_mem)); done)⟩
        all_goals (go_meet; exact ⟨l, _, cp, _, _, rfl, (hC.made hR.out hN.out h0 [] [] 0), .tail _ hMi.out, .head _, (fun y hy => .tail _ (hS.out y hy)), HO, by omega, by omega⟩)
  case rest =>
  clear hC HO hMi hS
  obtain ⟨fr, aF, pF, L', st', rfl, hC', hMi, hMf, hS, HO2, hlf, hq4⟩ := hcut
  have hC := hC'.out
  have HO : Hid (st'.bind (fun r => ow [119, 104, 101, 114, 101] r (fun r1 => bd (R.expr r1) fun e r2 => slW R d items fr (nd [119, 104, 101, 114, 101] [] [e]) r2) (slW R d items fr (nd [119, 104, 101, 114, 101] [] []) r)) = o) := HO2.out
  clear hC' HO2
  go_upto_if 65 with (first
  | (guard_target = wpList _ _ _ (Oper.mk (some 9) (Op.alloc 24) _ _ _ _ :: _) _ _; refine hC.aN ?_; clear hC; intro W kW hC; (try simp only [pP]))
  | refine bL ?_
  | (refine bA ?_; clear hC; intro W k hC)
  | (refine bS ?_; clear hC; intro W hC)
  | (go_at_call 33; guard_target = Calls _ _ #[_, _, _, Value.slice none 0 0] _ _; (first | refine useRD (q_rnode0 hC _ _ _) ?_); clear hC; intro W aW0 pW0 hC)
  | (go_at_call 15; guard_target = Calls _ _ #[_, Value.string ⟨#[119, 104, 101, 114, 101]⟩] _ _; have hD := hC; clear hC; refine (gotB hg hD _ (by decide) HO.out).mono ?_; clear hD HO; rintro e W ⟨b, st2, rfl, hC, hl, HB⟩))
  go_cut [] (fun wx => ∃ (wh : Tr) (aW : Option Addr) (pW : Nat) (L' : List Tn) (st' : Option (List Tok)), Hid (Cx E B w0 wx (.r st') ((kW, ncs aW pW wh, 24) :: (kR, [.string ⟨#[]⟩, .string ⟨#[]⟩, .int .i64 0, .slice none 0 0], 24) :: H) L') ∧ Hid ((aW, pW, wh) ∈ L') ∧ Hid ((aI, pI, ls items) ∈ L') ∧ Hid ((aF, pF, ls fr) ∈ L') ∧ Hid (∀ y ∈ L, y ∈ L') ∧ Hid (st'.bind (slW R d items fr wh) = o) ∧ sl st' ≤ sl stq)
  case first =>
    rcases HB with ⟨rfl, HO⟩ | ⟨rfl, HO⟩
    all_goals
      go_wp2_with (first
      | refine bL ?_
      | (refine bA ?_; clear hC; intro W k hC)
      | (refine bS ?_; clear hC; intro W hC)
      | (go_at_call 15; refine aGot ?_ ?_ <;> clear hC HO; (focus (intro ts r W hC e hl HO; first | (cases e; done) | cases e)); rotate_left; (focus (intro hC HO)); rotate_left)
      | (go_at_call 70; refine uN (q_exprS RC hg hC (by omega)) HO ?_; clear hC HO; intro t st2 W ao cap he hC HO; have hl := sl_of RC.len.expr he; clear he)
      | (go_at_call 33; guard_target = Calls _ _ #[_, _, _, Value.slice (some _) 1 1] _ _; refine m5 ?_; clear hC; intro W ao cap hC))
    all_goals (go_meet; first | exact ⟨nd [119, 104, 101, 114, 101] [] [t], ao, cap, _, _, (hC.less (by (repeat (first | exact List.Sublist.refl _ | apply List.Sublist.cons_cons | apply List.Sublist.cons)); done) (fun y hy => hy)), mMem, (by have hy := hMi.out; (repeat (first | exact hy | apply List.mem_cons_of_mem)); done), (by have hy := hMf.out; (repeat (first | exact hy | apply List.mem_cons_of_mem)); done), (fun y hy => by first | ((repeat (first | exact hy | apply List.mem_cons_of_mem)); done) | (have hy := hS.out y hy; (repeat (first | exact hy | apply List.mem_cons_of_mem)); done)), HO, by omega⟩ | exact ⟨nd [119, 104, 101, 114, 101] [] [], aW0, pW0, _, _, (hC.less (by (repeat (first | exact List.Sublist.refl _ | apply List.Sublist.cons_cons | apply List.Sublist.cons)); done) (fun y hy => hy)), mMem, (by have hy := hMi.out; (repeat (first | exact hy | apply List.mem_cons_of_mem)); done), (by have hy := hMf.out; (repeat (first | exact hy | apply List.mem_cons_of_mem)); done), (fun y hy => by first | ((repeat (first | exact hy | apply List.mem_cons_of_mem)); done) | (have hy := hS.out y hy; (repeat (first | exact hy | apply List.mem_cons_of_mem)); done)), HO, by omega⟩)
  case rest =>
  clear hC HB hMi hMf hS
  obtain ⟨wh, aW, pW, L', st', hC', hMw, hMi, hMf, hS, HO2, hq5⟩ := hcut
  have hC := hC'.out
  unfold ncs at hC
  have HO : Hid (st'.bind (fun r => ow [103, 114, 111, 117, 112] r (fun r1 => (needF [[98, 121]] r1).bind fun r2 => bd (colF r2) fun x r3 => bd (lsN colF (r3.length + 1) [x] r3) fun l r4 => slH R d items fr wh (nd [103, 114, 111, 117, 112] [] l) r4) (slH R d items fr wh (nd [103, 114, 111, 117, 112] [] []) r)) = o) := HO2.out
  clear hC' HO2
  go_upto_if 72 with (first
  | (guard_target = wpList _ _ _ (Oper.mk (some 10) (Op.alloc 24) _ _ _ _ :: _) _ _; refine hC.aN ?_; clear hC; intro W kG hC; (try simp only [pP]))
  | refine bL ?_
  | (refine bA ?_; clear hC; intro W k hC)
  | (refine bS ?_; clear hC; intro W hC)
  | (go_at_call 33; guard_target = Calls _ _ #[_, _, _, Value.slice none 0 0] _ _; (first | refine useRD (q_rnode0 hC _ _ _) ?_); clear hC; intro W aG0 pG0 hC)
  | (go_at_call 15; guard_target = Calls _ _ #[_, Value.string ⟨#[103, 114, 111, 117, 112]⟩] _ _; have hD := hC; clear hC; refine (gotB hg hD _ (by decide) HO.out).mono ?_; clear hD HO; rintro e W ⟨b, st2, rfl, hC, hl, HB⟩))
  go_cut [] (fun wx => ∃ (g : Tr) (aG : Option Addr) (pG : Nat) (L' : List Tn) (st' : Option (List Tok)), Hid (Cx E B w0 wx (.r st') ((kG, ncs aG pG g, 24) :: (kW, ncs aW pW wh, 24) :: (kR, [.string ⟨#[]⟩, .string ⟨#[]⟩, .int .i64 0, .slice none 0 0], 24) :: H) L') ∧ Hid ((aG, pG, g) ∈ L') ∧ Hid ((aW, pW, wh) ∈ L') ∧ Hid ((aI, pI, ls items) ∈ L') ∧ Hid ((aF, pF, ls fr) ∈ L') ∧ Hid (∀ y ∈ L, y ∈ L') ∧ Hid (st'.bind (slH R d items fr wh g) = o) ∧ sl st' ≤ sl stq)
  case first =>
    rcases HB with ⟨rfl, HO⟩ | ⟨rfl, HO⟩
    all_goals
      go_wp2_with (first
      | refine bL ?_
      | (refine bA ?_; clear hC; intro W k hC)
      | (refine bS ?_; clear hC; intro W hC)
      | (go_at_call 15; refine aGot ?_ ?_ <;> clear hC HO; (focus (intro ts r W hC e hl HO; first | (cases e; done) | cases e)); rotate_left; (focus (intro hC HO)); rotate_left)
      | (go_at_call 35; refine aMust ?_; clear hC HO; intro st2 W hC hl HO)
      | (go_at_call 104; refine uN (q_rcol hg hC) HO ?_; clear hC HO; intro t st2 W ao cap he hC HO; have hl := sl_of (fun ts x r h => colF_len h) he; clear he))
    all_goals (try (solve | (go_meet; exact ⟨nd [103, 114, 111, 117, 112] [] [], aG0, pG0, _, _, (hC.less (by (repeat (first | exact List.Sublist.refl _ | apply List.Sublist.cons_cons | apply List.Sublist.cons)); done) (fun y hy => hy)), mMem, (by have hy := hMw.out; (repeat (first | exact hy | apply List.mem_cons_of_mem)); done), (by have hy := hMi.out; (repeat (first | exact hy | apply List.mem_cons_of_mem)); done), (by have hy := hMf.out; (repeat (first | exact hy | apply List.mem_cons_of_mem)); done), (fun y hy => by first | ((repeat (first | exact hy | apply List.mem_cons_of_mem)); done) | (have hy := hS.out y hy; (repeat (first | exact hy | apply List.mem_cons_of_mem)); done)), HO, by omega⟩)))
    go_loopg [11] (sl st2) (fun kx sv wr => ∃ (k : Nat) (l : List Tr) (cp : Nat) (cur : List Value) (ks : List Kid) (L' : List Tn) (st' : Option (List Tok)) (f : Nat), sv = .slice (some ⟨k, 0, none⟩) l.length cp ∧ sl st' ≤ kx ∧ Hid (Cx E B w0 wr (.r st') ((k, cur, 24) :: (kG, ncs aG0 pG0 (nd [103, 114, 111, 117, 112] [] []), 24) :: (kW, ncs aW pW wh, 24) :: (kR, [.string ⟨#[]⟩, .string ⟨#[]⟩, .int .i64 0, .slice none 0 0], 24) :: H) L') ∧ Hid (Rw cp l ks cur) ∧ Hid (Rin ks l L') ∧ Hid (∀ y ∈ L, y ∈ L') ∧ Hid (st'.bind (fun ts => bd (lsN (colF) f l ts) (fun l r4 => slH R d items fr wh (nd [103, 114, 111, 117, 112] [] l) r4)) = o) ∧ sl st' ≤ f ∧ l.length + sl st' ≤ 602 ∧ sl st' ≤ sl stq ∧ 0 < l.length ∧ Hid ((aI, pI, ls items) ∈ L') ∧ Hid ((aF, pF, ls fr) ∈ L') ∧ Hid ((aW, pW, wh) ∈ L'))
    case atStart => exact ⟨_, [t], 1, _, _, _, st2, sl st2, rfl, Nat.le_refl _, hC, Rw.one, Rin.one (.head _), (fun y hy => by first | ((repeat (first | exact hy | apply List.mem_cons_of_mem)); done) | (have hy := hS.out y hy; (repeat (first | exact hy | apply List.mem_cons_of_mem)); done)), startL HO.out, Nat.le_refl _, by simp; omega, by omega, by simp, (by have hy := hMi.out; (repeat (first | exact hy | apply List.mem_cons_of_mem)); done), (by have hy := hMf.out; (repeat (first | exact hy | apply List.mem_cons_of_mem)); done), (by have hy := hMw.out; (repeat (first | exact hy | apply List.mem_cons_of_mem)); done)⟩
    case round =>
      rename World => wr
      clear hC HO
      obtain ⟨k, l, cp, cur, ks, L', st', f, rfl, hk, hC', hR, hN, hS, HO2, hf, h6, hst, h0, hMi, hMf, hMw⟩ := hrel
      have hC := hC'.out
      clear hC'
      cases st' with
      | none =>
        have HO : Hid ((none : Option (List Tok)).bind ((fun l r4 => slH R d items fr wh (nd [103, 114, 111, 117, 112] [] l) r4) l) = o) := HO2.out
        clear HO2
        go_wp2_with (first
        | refine bL ?_
        | (refine bA ?_; clear hC; intro W k hC)
        | (refine bS ?_; clear hC; intro W hC)
        | (go_at_call 33; guard_target = Calls _ _ #[_, _, _, Value.slice (some _) (List.length _) _] _ _; have hD := hC; clear hC; have hE := hD.madeAt 0 (by rfl) hR.out hN.out h0 [] [] 0; simp only [List.eraseIdx_cons_zero, List.eraseIdx_cons_succ] at hE; refine useRD (q_rnodeL _ _ _ hE (.head _) rfl (by first | omega | (simp; omega))) ?_; intro W ao cap hC; clear hD hE))
        all_goals (go_meet; exact ⟨nd [103, 114, 111, 117, 112] [] l, ao, cap, _, _, (hC.less (by (repeat (first | exact List.Sublist.refl _ | apply List.Sublist.cons_cons | apply List.Sublist.cons)); done) (fun y hy => hy)), mMem, (by have hy := hMw.out; (repeat (first | exact hy | apply List.mem_cons_of_mem)); done), (by have hy := hMi.out; (repeat (first | exact hy | apply List.mem_cons_of_mem)); done), (by have hy := hMf.out; (repeat (first | exact hy | apply List.mem_cons_of_mem)); done), (fun y hy => by first | ((repeat (first | exact hy | apply List.mem_cons_of_mem)); done) | (have hy := hS.out y hy; (repeat (first | exact hy | apply List.mem_cons_of_mem)); done)), HO, by omega⟩)
      | some ts0 =>
        have hp0 := sl_pos ts0
        obtain ⟨f, rfl⟩ : ∃ f', f = f' + 1 := ⟨f - 1, by omega⟩
        have HO3 := hidk (lsN_go (J := fun r k => bd ((colF) r) k) (fun r k => rfl) HO2.out)
        have HO : Hid ((some ts0).bind (fun ts => og (sgF [44] ts) (fun _ r => bd ((colF) r) (fun x r2 => bd (lsN (colF) f (l ++ [x]) r2) (fun l r4 => slH R d items fr wh (nd [103, 114, 111, 117, 112] [] l) r4))) ((fun l r4 => slH R d items fr wh (nd [103, 114, 111, 117, 112] [] l) r4) l ts)) = o) := HO3.out
        clear HO2 HO3
        go_wp2_with (first
        | refine bL ?_
        | (refine bA ?_; clear hC; intro W k hC)
        | (refine bS ?_; clear hC; intro W hC)
        | (go_at_call 15; refine aGot ?_ ?_ <;> clear hC HO; (focus (intro ts r W hC e hl HO; first | (cases e; done) | cases e)); rotate_left; (focus (intro hC HO)); rotate_left)
        | (go_at_call 104; refine uN (q_rcol hg hC) HO ?_; clear hC HO; intro t st2 W ao cap he hC HO; have hl := sl_of (fun ts x r h => colF_len h) he; clear he)
        | (at_builtin; have hD := hC; clear hC; refine wl_app1 rfl hD (.head _) 0 (by rfl) (by rfl) (by rfl) rfl hR.out (hN.out.mono mL) (by rfl) (by omega) ?_; clear hD; intro W k cap2 cur2 hC hR2 hN2; simp only [pS] at hC; (try simp only [pP]))
        | (go_at_call 33; guard_target = Calls _ _ #[_, _, _, Value.slice (some _) (List.length _) _] _ _; have hD := hC; clear hC; have hE := hD.madeAt 0 (by rfl) hR.out hN.out h0 [] [] 0; simp only [List.eraseIdx_cons_zero, List.eraseIdx_cons_succ] at hE; refine useRD (q_rnodeL _ _ _ hE (.head _) rfl (by first | omega | (simp; omega))) ?_; intro W ao cap hC; clear hD hE))
        · go_roundg (sl st2)
          case measure => omega
          case rel => exact ⟨k, l ++ [t], cap2, cur2, _, _, st2, f, (by simp), Nat.le_refl _, hC, hR2, hN2, (mS hS.out), HO, by omega, by simp; omega, by omega, by simp, (by have hy := hMi.out; (repeat (first | exact hy | apply List.mem_cons_of_mem)); done), (by have hy := hMf.out; (repeat (first | exact hy | apply List.mem_cons_of_mem)); done), (by have hy := hMw.out; (repeat (first | exact hy | apply List.mem_cons_of_mem)); done)⟩
        all_goals (go_meet; exact ⟨nd [103, 114, 111, 117, 112] [] l, ao, cap, _, _, (hC.less (by (repeat (first | exact List.Sublist.refl _ | apply List.Sublist.cons_cons | apply List.Sublist.cons)); done) (fun y hy => hy)), mMem, (by have hy := hMw.out; (repeat (first | exact hy | apply List.mem_cons_of_mem)); done), (by have hy := hMi.out; (repeat (first | exact hy | apply List.mem_cons_of_mem)); done), (by have hy := hMf.out; (repeat (first | exact hy | apply List.mem_cons_of_mem)); done), (fun y hy => by first | ((repeat (first | exact hy | apply List.mem_cons_of_mem)); done) | (have hy := hS.out y hy; (repeat (first | exact hy | apply List.mem_cons_of_mem)); done)), HO, by omega⟩)
  case rest =>
  clear hC HB hMi hMf hS hMw
  obtain ⟨g, aG, pG, L', st', hC', hMg, hMw, hMi, hMf, hS, HO2, hq6⟩ := hcut
  have hC := hC'.out
  unfold ncs at hC
  have HO : Hid (st'.bind (fun r => ow [104, 97, 118, 105, 110, 103] r (fun r1 => bd (R.expr r1) fun e r2 => some (slT d items fr wh g (nd [104, 97, 118, 105, 110, 103] [] [e]), r2)) (some (slT d items fr wh g (nd [104, 97, 118, 105, 110, 103] [] []), r))) = o) := HO2.out
  clear hC' HO2
  go_upto_if 96 with (first
  | (guard_target = wpList _ _ _ (Oper.mk (some 13) (Op.alloc 24) _ _ _ _ :: _) _ _; refine hC.aN ?_; clear hC; intro W kH hC; (try simp only [pP]))
  | refine bL ?_
  | (refine bA ?_; clear hC; intro W k hC)
  | (refine bS ?_; clear hC; intro W hC)
  | (go_at_call 33; guard_target = Calls _ _ #[_, _, _, Value.slice none 0 0] _ _; (first | refine useRD (q_rnode0 hC _ _ _) ?_); clear hC; intro W aH0 pH0 hC)
  | (go_at_call 15; guard_target = Calls _ _ #[_, Value.string ⟨#[104, 97, 118, 105, 110, 103]⟩] _ _; have hD := hC; clear hC; refine (gotB hg hD _ (by decide) HO.out).mono ?_; clear hD HO; rintro e W ⟨b, st2, rfl, hC, hl, HB⟩))
  go_cut [] (fun wx => ∃ (hv : Tr) (aH : Option Addr) (pH : Nat) (L' : List Tn) (st' : Option (List Tok)), Hid (Cx E B w0 wx (.r st') ((kH, ncs aH pH hv, 24) :: (kG, ncs aG pG g, 24) :: (kW, ncs aW pW wh, 24) :: (kR, [.string ⟨#[]⟩, .string ⟨#[]⟩, .int .i64 0, .slice none 0 0], 24) :: H) L') ∧ Hid ((aH, pH, hv) ∈ L') ∧ Hid ((aG, pG, g) ∈ L') ∧ Hid ((aW, pW, wh) ∈ L') ∧ Hid ((aI, pI, ls items) ∈ L') ∧ Hid ((aF, pF, ls fr) ∈ L') ∧ Hid (∀ y ∈ L, y ∈ L') ∧ Hid (st'.bind (fun r => some (slT d items fr wh g hv, r)) = o) ∧ sl st' ≤ sl stq)
  case first =>
    rcases HB with ⟨rfl, HO⟩ | ⟨rfl, HO⟩
    all_goals
      go_wp2_with (first
      | refine bL ?_
      | (refine bA ?_; clear hC; intro W k hC)
      | (refine bS ?_; clear hC; intro W hC)
      | (go_at_call 15; refine aGot ?_ ?_ <;> clear hC HO; (focus (intro ts r W hC e hl HO; first | (cases e; done) | cases e)); rotate_left; (focus (intro hC HO)); rotate_left)
      | (go_at_call 70; refine uN (q_exprS RC hg hC (by omega)) HO ?_; clear hC HO; intro t st2 W ao cap he hC HO; have hl := sl_of RC.len.expr he; clear he)
      | (go_at_call 33; guard_target = Calls _ _ #[_, _, _, Value.slice (some _) 1 1] _ _; refine m5 ?_; clear hC; intro W ao cap hC))
    all_goals (go_meet; first | exact ⟨nd [104, 97, 118, 105, 110, 103] [] [t], ao, cap, _, _, (hC.less (by (repeat (first | exact List.Sublist.refl _ | apply List.Sublist.cons_cons | apply List.Sublist.cons)); done) (fun y hy => hy)), mMem, (by have hy := hMg.out; (repeat (first | exact hy | apply List.mem_cons_of_mem)); done), (by have hy := hMw.out; (repeat (first | exact hy | apply List.mem_cons_of_mem)); done), (by have hy := hMi.out; (repeat (first | exact hy | apply List.mem_cons_of_mem)); done), (by have hy := hMf.out; (repeat (first | exact hy | apply List.mem_cons_of_mem)); done), (fun y hy => by first | ((repeat (first | exact hy | apply List.mem_cons_of_mem)); done) | (have hy := hS.out y hy; (repeat (first | exact hy | apply List.mem_cons_of_mem)); done)), HO, by omega⟩ | exact ⟨nd [104, 97, 118, 105, 110, 103] [] [], aH0, pH0, _, _, (hC.less (by (repeat (first | exact List.Sublist.refl _ | apply List.Sublist.cons_cons | apply List.Sublist.cons)); done) (fun y hy => hy)), mMem, (by have hy := hMg.out; (repeat (first | exact hy | apply List.mem_cons_of_mem)); done), (by have hy := hMw.out; (repeat (first | exact hy | apply List.mem_cons_of_mem)); done), (by have hy := hMi.out; (repeat (first | exact hy | apply List.mem_cons_of_mem)); done), (by have hy := hMf.out; (repeat (first | exact hy | apply List.mem_cons_of_mem)); done), (fun y hy => by first | ((repeat (first | exact hy | apply List.mem_cons_of_mem)); done) | (have hy := hS.out y hy; (repeat (first | exact hy | apply List.mem_cons_of_mem)); done)), HO, by omega⟩)
  case rest =>
  clear hC HB hMi hMf hS hMw hMg
  obtain ⟨hv, aH, pH, L', st', hC', hMh, hMg, hMw, hMi, hMf, hS, HO, hq7⟩ := hcut
  have hC := hC'.out
  unfold ncs at hC
  clear hC'
  go_wp2_with (first
  | refine bL ?_
  | (refine bA ?_; clear hC; intro W k hC)
  | (refine bS ?_; clear hC; intro W hC)
  | (guard_target = Code.wp _ (Code.region 36 _ true) _ _ _; refine wp_region_held_drew (S := HB [_, _, _]) (by kernel_rfl) (hC.drew.hbI3 2 1 0 (by rfl) (by rfl) (by rfl)) (fun hHeld => ?_); replace hC := hC.drew; refine qk 0 ?_; (try simp only [pQ]); refine qk 1 ?_; (try simp only [pQ]); refine qk 3 ?_; (try simp only [pQ]); refine qkN 5 ?_; (try simp only [pQ]); refine qkN 6 ?_; (try simp only [pQ]); refine qkN 7 ?_; (try simp only [pQ]); refine ry [2] ?_; refine rd1 fun K hK => ?_; go_simp; (first | (go_at_call 33; guard_target = Calls _ _ #[_, _, _, Value.slice _ (List.length _) _] _ _; refine m11 ?_; clear hC; intro W ao cap hC) | (go_at_call 33; guard_target = Calls _ _ #[_, _, _, Value.slice (some _) 5 5] _ _; refine m12 ?_; clear hC; intro W ao cap hC)); refine hK.out _ _ hC.hb3' fun hHeld => ?_; clear hK K; (try simp only [pQ]); refine ry [4] ?_; refine rd1 fun K hK => ?_; go_simp; (first | (go_at_call 33; guard_target = Calls _ _ #[_, _, _, Value.slice _ (List.length _) _] _ _; refine m11 ?_; clear hC; intro W ao cap hC) | (go_at_call 33; guard_target = Calls _ _ #[_, _, _, Value.slice (some _) 5 5] _ _; refine m12 ?_; clear hC; intro W ao cap hC)); refine hK.out _ _ hC.hb3' fun hHeld => ?_; clear hK K; (try simp only [pQ]); refine ry [8] ?_; refine rd1 fun K hK => ?_; refine st_of rfl ?_; refine wp_build5C hC (by rfl) (by rfl) (by rfl) (by rfl) (by rfl) (by rfl) ?_; clear hC; intro W k hC; refine hK.out _ _ hC.hb3' fun hHeld => ?_; clear hK K; (try simp only [pQ]); refine ry [9] ?_; refine rd1 fun K hK => ?_; go_simp; (first | (go_at_call 33; guard_target = Calls _ _ #[_, _, _, Value.slice _ (List.length _) _] _ _; refine m11 ?_; clear hC; intro W ao cap hC) | (go_at_call 33; guard_target = Calls _ _ #[_, _, _, Value.slice (some _) 5 5] _ _; refine m12 ?_; clear hC; intro W ao cap hC)); refine hK.out _ _ hC.hb3' fun hHeld => ?_; clear hK K; (try simp only [pQ]); refine ry [10] ?_; refine rd1 fun K hK => ?_; refine st_of rfl ?_; refine wsN ?_; clear hC; intro W hC; refine hK.out _ _ hC.hb3' fun hHeld => ?_; clear hK K; (try simp only [pQ]); refine dn ?_ _))
  all_goals (refine hC.rc ?_; refine endRN HO (hC.fin ?_ ?_ ?_); (repeat (first | exact List.Sublist.refl _ | apply List.Sublist.cons)); (repeat (first | exact List.mem_cons_self | apply List.mem_cons_of_mem)); intro y hy; (have hy := hS.out y hy; (repeat (first | exact hy | apply List.mem_cons_of_mem)); done))
end Go.Proofs.YtaenpacfbheppaaGreatDoor

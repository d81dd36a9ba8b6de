/- The document's reader: what is changed (walks by genr.py). -/
import Derived.Test.YtaenpacfbheppaaGreatDoorCS0
import Derived.Deep.CutBlock
import Derived.Deep.DeepCutAuto
set_option maxHeartbeats 16000000
set_option maxRecDepth 100000
set_option linter.unusedVariables false
set_option linter.unusedSimpArgs false
namespace Go.Proofs.YtaenpacfbheppaaGreatDoor
open Go.RowKit
theorem lsN_fuel {I : Ps Tr} (hI : Len I) : ∀ (n m : Nat) (a : List Tr) (ts : List Tok), ts.length < n → ts.length < m → lsN I n a ts = lsN I m a ts
  | 0, _, _, _, h, _ => absurd h (by omega)
  | _, 0, _, _, _, h => absurd h (by omega)
  | n + 1, m + 1, a, ts, h1, h2 => by
    rw [lsN, lsN]
    cases hs : sgF [44] ts with
    | none => rfl
    | some p =>
      obtain ⟨x0, r⟩ := p
      have hl := sgF_len hs
      simp only
      cases hi : I r with
      | none => rfl
      | some q =>
        obtain ⟨x, r2⟩ := q
        have := hI _ _ _ hi
        exact lsN_fuel hI n m _ r2 (by omega) (by omega)
theorem startU {R : Rc} (hR : R.Len) {β : Type} {K : List Tr → List Tok → Option β} {st : Option (List Tok)} {o : Option β} (h : st.bind (fun r => bd (setF R r) fun x r3 => bd (lsN (setF R) (r3.length + 1) [x] r3) K) = o) : st.bind (fun ts => bd (setF R ts) fun x r2 => bd (lsN (setF R) (sl st) ([] ++ [x]) r2) K) = o := by
  rw [← h]
  cases st with
  | none => rfl
  | some ts =>
    show bd (setF R ts) _ = bd (setF R ts) _
    cases hs : setF R ts with
    | none => rfl
    | some p =>
      obtain ⟨x, r⟩ := p
      rw [bd_at, bd_at]
      have : lsN (setF R) (sl (some ts)) [x] r = lsN (setF R) (r.length + 1) [x] r := lsN_fuel (setF_Len hR) _ _ _ _ (by have := setF_Len hR _ _ _ hs; simp only [sl]; omega) (by omega)
      show bd (lsN (setF R) (sl (some ts)) [x] r) K = _
      rw [this]
theorem q_rupdate {E : Env} {B : Nat} {w0 w : World} {st : Option (List Tok)} {H : List Bx} {L : List Tn} {R : Rc} {n : Nat} (RC : Cw E R n) (hg : GoodE E) (hC : Cx E B w0 w (.r st) H L) (hn : sl st ≤ n) :
    Calls Tryz.prog 37 #[.pointer (some ⟨E.b, 0, none⟩)] w (RN E B w0 H L (st.bind (updX R))) := by
  obtain ⟨o, ho⟩ : ∃ o, st.bind (updX R) = o := ⟨_, rfl⟩
  rw [ho]
  unfold updX at ho
  have HO := hidk ho
  clear ho
  have h601 := hC.rsl
  go_enter Tryz.func37, Tryz.ntmps37
  go_wp2_with (first
  | (guard_target = wpList _ _ _ (Oper.mk (some 2) (Op.alloc 24) _ _ _ _ :: _) _ _; refine hC.aN ?_; clear hC; intro W kR hC; (try simp only [pP]))
  | refine bL ?_
  | (refine bA ?_; clear hC; intro W k hC)
  | (refine bS ?_; clear hC; intro W hC)
  | (go_at_call 34; refine aName ?_; clear hC HO; intro s st2 W hC hl HO)
  | (go_at_call 35; refine aMust ?_; clear hC HO; intro st2 W hC hl HO))
  go_loopg [4] (sl st2) (fun kx sv wr => ∃ (l : List Tr) (L' : List Tn) (st' : Option (List Tok)) (f : Nat), sl st' ≤ kx ∧ Hid (∀ y ∈ L, y ∈ L') ∧ Hid (st'.bind (fun ts => bd (setF R ts) fun x r2 => bd (lsN (setF R) f (l ++ [x]) r2) (fun l r4 => bd (whoX R r4) fun wh r5 => some (nd [117, 112, 100, 97, 116, 101] s (l ++ [wh]), r5))) = o) ∧ sl st' ≤ f ∧ l.length + sl st' ≤ 602 ∧ sl st' ≤ n ∧ ((sv = .slice none 0 0 ∧ l = [] ∧ Hid (Cx E B w0 wr (.r st') ((kR, [.string ⟨#[]⟩, .string ⟨#[]⟩, .int .i64 0, .slice none 0 0], 24) :: H) L')) ∨ ∃ (k cp : Nat) (cur : List Value) (ks : List Kid), sv = .slice (some ⟨k, 0, none⟩) l.length cp ∧ Hid (Cx E B w0 wr (.r st') ((k, cur, 24) :: (kR, [.string ⟨#[]⟩, .string ⟨#[]⟩, .int .i64 0, .slice none 0 0], 24) :: H) L') ∧ Hid (Rw cp l ks cur) ∧ Hid (Rin ks l L') ∧ 0 < l.length))
  case atStart => exact ⟨[], _, st2, sl st2, Nat.le_refl _, mL, startU RC.len HO.out, Nat.le_refl _, by simp; omega, by omega, Or.inl ⟨rfl, rfl, hC⟩⟩
  case round =>
    rename World => wr
    clear hC HO
    obtain ⟨l, L', st', f, hk, hS, HO2, hf, h6, hst, hw⟩ := hrel
    rcases hw with ⟨rfl, rfl, hC'⟩ | ⟨k, cp, cur, ks, rfl, hC', hR, hN, h0⟩
    · have hC := hC'.out
      clear hC'
      cases st' with
      | none =>
        have HO : Hid ((none : Option (List Tok)).bind ((fun l r4 => bd (whoX R r4) fun wh r5 => some (nd [117, 112, 100, 97, 116, 101] s (l ++ [wh]), r5)) []) = o) := HO2.out
        clear HO2
        go_wp2_with (first
        | refine bL ?_
        | (refine bA ?_; clear hC; intro W k hC)
        | (refine bS ?_; clear hC; intro W hC)
        | (go_at_call 33; guard_target = Calls _ _ #[_, _, _, Value.slice (some _) 1 1] _ _; refine m5 ?_; clear hC; intro W ao cap hC)
        | (at_builtin; refine wl_app0B rfl hC (.head _) (by rfl) (by rfl) (by rfl) ?_; clear hC; intro W k2 cap2 cur2 hC hR2 hN2; (try simp only [pP]))
        | (at_builtin; have hD := hC; clear hC; refine m13 ?_; clear hD; intro W k2 cap2 cur2 hC hR2 hN2; simp only [pS] at hC; (try simp only [pP]))
        | (go_at_call 38; refine useRN (q_rwhose RC hg hC (by omega)) ?_; clear hC; intro t st2 W ao cap he hC; replace HO := hidk (bindN he HO.out); clear he)
        | (go_at_call 33; guard_target = Calls _ _ #[_, _, _, Value.slice (some _) _ _] _ _; have hD := hC; clear hC; have hE := hD.madeAt 0 (by rfl) hR2 hN2 (by simp) [] [] 0; simp only [List.eraseIdx_cons_zero, List.eraseIdx_cons_succ] at hE; refine useRD (q_rnodeL _ _ _ hE (.head _) (by simp) (by first | omega | (simp; done) | (simp; omega))) ?_; intro W aO pO hC; clear hD hE))
        all_goals (first | (refine hC.rc ?_; refine endRN HO (hC.fin ?_ ?_ ?_); (repeat (first | exact List.Sublist.refl _ | apply List.Sublist.cons)); (repeat (first | exact List.mem_cons_self | apply List.mem_cons_of_mem)); intro y hy; have hy := hS.out y hy; (repeat (first | exact hy | apply List.mem_cons_of_mem)); done) | (have HO2 := HO.out; simp only [List.append_assoc, List.cons_append, List.nil_append] at HO2 hC; have HO3 := hidk HO2; refine hC.rc ?_; refine endRN HO3 (hC.fin ?_ ?_ ?_); (repeat (first | exact List.Sublist.refl _ | apply List.Sublist.cons)); (repeat (first | exact List.mem_cons_self | apply List.mem_cons_of_mem)); intro y hy; have hy := hS.out y hy; (repeat (first | exact hy | apply List.mem_cons_of_mem)); done))
      | some ts0 =>
        have hp0 := sl_pos ts0
        obtain ⟨f, rfl⟩ : ∃ f', f = f' + 1 := ⟨f - 1, by omega⟩
        have HO : Hid ((some ts0).bind (fun ts => bd (nameF ts) fun c r => bd (sgF [61] r) fun _ r2 => bd (R.expr r2) fun e r3 => og (sgF [44] r3) (fun _ r => bd (setF R r) fun x r2 => bd (lsN (setF R) f (([] ++ [nd [115, 101, 116] c [e]]) ++ [x]) r2) (fun l r4 => bd (whoX R r4) fun wh r5 => some (nd [117, 112, 100, 97, 116, 101] s (l ++ [wh]), r5))) (bd (whoX R r3) fun wh r5 => some (nd [117, 112, 100, 97, 116, 101] s (([] ++ [nd [115, 101, 116] c [e]]) ++ [wh]), r5))) = o) := by
          show _ = _
          rw [← HO2.out]
          refine congrArg ((some ts0).bind ·) (funext fun ts => ?_)
          rw [setF_x]
          congr 1
          funext c r
          congr 1
          funext _ r2
          congr 1
          funext e r3
          have := lsN_go (I := setF R) (K := fun l r4 => bd (whoX R r4) fun wh r5 => some (nd [117, 112, 100, 97, 116, 101] s (l ++ [wh]), r5)) (J := fun r k => bd (setF R r) k) (fun r k => rfl) (f := f) (l := [] ++ [nd [115, 101, 116] c [e]]) (ts := r3) rfl
          exact this
        clear HO2
        go_wp2_with (first
        | refine bL ?_
        | (refine bA ?_; clear hC; intro W k hC)
        | (refine bS ?_; clear hC; intro W hC)
        | (go_at_call 34; refine useRS (q_rname hg hC) ?_; clear hC; intro c st2 W he hC; have hl := sl_lt (fun _ _ _ h => by have := nameF_len h; omega) he; replace HO := hidk (bindN he HO.out); clear he)
        | (go_at_call 35; refine aMust ?_; clear hC HO; intro st2 W hC hl HO)
        | (go_at_call 70; refine uN (q_exprS RC hg hC (by omega)) HO ?_; clear hC HO; intro t st2 W ao cap he hC HO; have hl := sl_of RC.len.expr he; clear he)
        | (go_at_call 15; refine aGot ?_ ?_ <;> clear hC HO; (focus (intro ts r W hC e hl HO; first | (cases e; done) | cases e)); rotate_left; (focus (intro hC HO)); rotate_left)
        | (go_at_call 33; guard_target = Calls _ _ #[_, _, _, Value.slice (some _) 1 1] _ _; refine m5 ?_; clear hC; intro W ao cap hC)
        | (at_builtin; refine wl_app0B rfl hC (.head _) (by rfl) (by rfl) (by rfl) ?_; clear hC; intro W k2 cap2 cur2 hC hR2 hN2; (try simp only [pP]))
        | (at_builtin; have hD := hC; clear hC; refine m13 ?_; clear hD; intro W k2 cap2 cur2 hC hR2 hN2; simp only [pS] at hC; (try simp only [pP]))
        | (go_at_call 38; refine useRN (q_rwhose RC hg hC (by omega)) ?_; clear hC; intro t st2 W ao cap he hC; replace HO := hidk (bindN he HO.out); clear he)
        | (go_at_call 33; guard_target = Calls _ _ #[_, _, _, Value.slice (some _) _ _] _ _; have hD := hC; clear hC; have hE := hD.madeAt 0 (by rfl) hR2 hN2 (by simp) [] [] 0; simp only [List.eraseIdx_cons_zero, List.eraseIdx_cons_succ] at hE; refine useRD (q_rnodeL _ _ _ hE (.head _) (by simp) (by first | omega | (simp; done) | (simp; omega))) ?_; intro W aO pO hC; clear hD hE))
        · go_roundg (sl (some r))
          case measure => first | omega | (simp only [sl] at *; omega)
          case rel => exact ⟨[] ++ [nd [115, 101, 116] c [t]], _, some r, f, Nat.le_refl _, (mS hS.out), HO, by omega, by first | omega | (simp; omega), by omega, Or.inr ⟨k2, cap2, cur2, _, (by simp), hC, hR2, hN2, (by simp)⟩⟩
        all_goals (first | (refine hC.rc ?_; refine endRN HO (hC.fin ?_ ?_ ?_); (repeat (first | exact List.Sublist.refl _ | apply List.Sublist.cons)); (repeat (first | exact List.mem_cons_self | apply List.mem_cons_of_mem)); intro y hy; have hy := hS.out y hy; (repeat (first | exact hy | apply List.mem_cons_of_mem)); done) | (have HO2 := HO.out; simp only [List.append_assoc, List.cons_append, List.nil_append] at HO2 hC; have HO3 := hidk HO2; refine hC.rc ?_; refine endRN HO3 (hC.fin ?_ ?_ ?_); (repeat (first | exact List.Sublist.refl _ | apply List.Sublist.cons)); (repeat (first | exact List.mem_cons_self | apply List.mem_cons_of_mem)); intro y hy; have hy := hS.out y hy; (repeat (first | exact hy | apply List.mem_cons_of_mem)); done))
    · have hC := hC'.out
      clear hC'
      cases st' with
      | none =>
        have HO : Hid ((none : Option (List Tok)).bind ((fun l r4 => bd (whoX R r4) fun wh r5 => some (nd [117, 112, 100, 97, 116, 101] s (l ++ [wh]), r5)) l) = o) := HO2.out
        clear HO2
        go_wp2_with (first
        | refine bL ?_
        | (refine bA ?_; clear hC; intro W k hC)
        | (refine bS ?_; clear hC; intro W hC)
        | (go_at_call 33; guard_target = Calls _ _ #[_, _, _, Value.slice (some _) 1 1] _ _; refine m5 ?_; clear hC; intro W ao cap hC)
        | (at_builtin; have hD := hC; clear hC; refine m13 ?_; clear hD; intro W k2 cap2 cur2 hC hR2 hN2; simp only [pS] at hC; (try simp only [pP]))
        | (go_at_call 38; refine useRN (q_rwhose RC hg hC (by omega)) ?_; clear hC; intro t st2 W ao cap he hC; replace HO := hidk (bindN he HO.out); clear he)
        | (go_at_call 33; guard_target = Calls _ _ #[_, _, _, Value.slice (some _) _ _] _ _; have hD := hC; clear hC; have hE := hD.madeAt 0 (by rfl) hR2 hN2 (by simp) [] [] 0; simp only [List.eraseIdx_cons_zero, List.eraseIdx_cons_succ] at hE; refine useRD (q_rnodeL _ _ _ hE (.head _) (by simp) (by first | omega | (simp; done) | (simp; omega))) ?_; intro W aO pO hC; clear hD hE))
        all_goals (first | (refine hC.rc ?_; refine endRN HO (hC.fin ?_ ?_ ?_); (repeat (first | exact List.Sublist.refl _ | apply List.Sublist.cons)); (repeat (first | exact List.mem_cons_self | apply List.mem_cons_of_mem)); intro y hy; have hy := hS.out y hy; (repeat (first | exact hy | apply List.mem_cons_of_mem)); done) | (have HO2 := HO.out; simp only [List.append_assoc, List.cons_append, List.nil_append] at HO2 hC; have HO3 := hidk HO2; refine hC.rc ?_; refine endRN HO3 (hC.fin ?_ ?_ ?_); (repeat (first | exact List.Sublist.refl _ | apply List.Sublist.cons)); (repeat (first | exact List.mem_cons_self | apply List.mem_cons_of_mem)); intro y hy; have hy := hS.out y hy; (repeat (first | exact hy | apply List.mem_cons_of_mem)); done))
      | some ts0 =>
        have hp0 := sl_pos ts0
        obtain ⟨f, rfl⟩ : ∃ f', f = f' + 1 := ⟨f - 1, by omega⟩
        have HO : Hid ((some ts0).bind (fun ts => bd (nameF ts) fun c r => bd (sgF [61] r) fun _ r2 => bd (R.expr r2) fun e r3 => og (sgF [44] r3) (fun _ r => bd (setF R r) fun x r2 => bd (lsN (setF R) f ((l ++ [nd [115, 101, 116] c [e]]) ++ [x]) r2) (fun l r4 => bd (whoX R r4) fun wh r5 => some (nd [117, 112, 100, 97, 116, 101] s (l ++ [wh]), r5))) (bd (whoX R r3) fun wh r5 => some (nd [117, 112, 100, 97, 116, 101] s ((l ++ [nd [115, 101, 116] c [e]]) ++ [wh]), r5))) = o) := by
          show _ = _
          rw [← HO2.out]
          refine congrArg ((some ts0).bind ·) (funext fun ts => ?_)
          rw [setF_x]
          congr 1
          funext c r
          congr 1
          funext _ r2
          congr 1
          funext e r3
          have := lsN_go (I := setF R) (K := fun l r4 => bd (whoX R r4) fun wh r5 => some (nd [117, 112, 100, 97, 116, 101] s (l ++ [wh]), r5)) (J := fun r k => bd (setF R r) k) (fun r k => rfl) (f := f) (l := l ++ [nd [115, 101, 116] c [e]]) (ts := r3) rfl
          exact this
        clear HO2
        go_wp2_with (first
        | refine bL ?_
        | (refine bA ?_; clear hC; intro W k hC)
        | (refine bS ?_; clear hC; intro W hC)
        | (go_at_call 34; refine useRS (q_rname hg hC) ?_; clear hC; intro c st2 W he hC; have hl := sl_lt (fun _ _ _ h => by have := nameF_len h; omega) he; replace HO := hidk (bindN he HO.out); clear he)
        | (go_at_call 35; refine aMust ?_; clear hC HO; intro st2 W hC hl HO)
        | (go_at_call 70; refine uN (q_exprS RC hg hC (by omega)) HO ?_; clear hC HO; intro t st2 W ao cap he hC HO; have hl := sl_of RC.len.expr he; clear he)
        | (go_at_call 15; refine aGot ?_ ?_ <;> clear hC HO; (focus (intro ts r W hC e hl HO; first | (cases e; done) | cases e)); rotate_left; (focus (intro hC HO)); rotate_left)
        | (go_at_call 33; guard_target = Calls _ _ #[_, _, _, Value.slice (some _) 1 1] _ _; refine m5 ?_; clear hC; intro W ao cap hC)
        | (at_builtin; have hD := hC; clear hC; refine m13 ?_; clear hD; intro W k2 cap2 cur2 hC hR2 hN2; simp only [pS] at hC; (try simp only [pP]))
        | (go_at_call 38; refine useRN (q_rwhose RC hg hC (by omega)) ?_; clear hC; intro t st2 W ao cap he hC; replace HO := hidk (bindN he HO.out); clear he)
        | (go_at_call 33; guard_target = Calls _ _ #[_, _, _, Value.slice (some _) _ _] _ _; have hD := hC; clear hC; have hE := hD.madeAt 0 (by rfl) hR2 hN2 (by simp) [] [] 0; simp only [List.eraseIdx_cons_zero, List.eraseIdx_cons_succ] at hE; refine useRD (q_rnodeL _ _ _ hE (.head _) (by simp) (by first | omega | (simp; done) | (simp; omega))) ?_; intro W aO pO hC; clear hD hE))
        · go_roundg (sl (some r))
          case measure => first | omega | (simp only [sl] at *; omega)
          case rel => exact ⟨l ++ [nd [115, 101, 116] c [t]], _, some r, f, Nat.le_refl _, (mS hS.out), HO, by omega, by first | omega | (simp; omega), by omega, Or.inr ⟨k2, cap2, cur2, _, (by simp), hC, hR2, hN2, (by simp)⟩⟩
        all_goals (first | (refine hC.rc ?_; refine endRN HO (hC.fin ?_ ?_ ?_); (repeat (first | exact List.Sublist.refl _ | apply List.Sublist.cons)); (repeat (first | exact List.mem_cons_self | apply List.mem_cons_of_mem)); intro y hy; have hy := hS.out y hy; (repeat (first | exact hy | apply List.mem_cons_of_mem)); done) | (have HO2 := HO.out; simp only [List.append_assoc, List.cons_append, List.nil_append] at HO2 hC; have HO3 := hidk HO2; refine hC.rc ?_; refine endRN HO3 (hC.fin ?_ ?_ ?_); (repeat (first | exact List.Sublist.refl _ | apply List.Sublist.cons)); (repeat (first | exact List.mem_cons_self | apply List.mem_cons_of_mem)); intro y hy; have hy := hS.out y hy; (repeat (first | exact hy | apply List.mem_cons_of_mem)); done))
end Go.Proofs.YtaenpacfbheppaaGreatDoor
namespace Go.Proofs.YtaenpacfbheppaaGreatDoor
open Go.RowKit
section
variable {E : Env} {B : Nat} {w0 w : World} {s : Stt} {H : List Bx} {L : List Tn}
theorem Cx.sI {a : Act} {Q : Exit → Act → World → Prop} {o : Oper} {ops : Array Oper} {rest : List Oper} {x y : Operand} {k TT : Nat} {v : Int} {c0 c1 c2 c3 : Value} (hC : Cx E B w0 w s H L) (i : Nat) (h : ∀ W, Cx E B w0 W s (H.set i (k, [c0, c1, .int .i64 v, c3], TT)) L → wpList Tryz.prog ops Q rest (a.put o.dst undef) W) (hgd : o.guard = none := by rfl) (ho : o.op = .store 2 x y := by rfl) (hx : a.eval x = .pointer (some ⟨k, 2, none⟩) := by rfl) (hy : a.eval y = .int .i64 v := by rfl) (hi : H[i]? = some (k, [c0, c1, c2, c3], TT) := by rfl) : wpList Tryz.prog ops Q (o :: rest) a w :=
  wpList_plain hgd fun K hK => wp_store1C hC i _ x y ho hx hy hi (by simp) (by kernel_rfl) rfl rfl (fun W hD => hK _ _ (h W hD))
theorem Cx.leaf0 {ao : Option Addr} {cap : Nat} {op st : List UInt8} {n : Int} (hC : Cx E B w0 w s H L) (h : (ao, cap, .mk op st n []) ∈ L) : ao = none ∧ cap = 0 := by
  have := hC.tv _ h
  generalize ht : (Tr.mk op st n []) = t at this
  cases this with
  | leaf => exact ⟨rfl, rfl⟩
  | row g cap op s n L kids hP hlt h0 => cases ht; simp at h0
end
theorem num_tok {ts r : List Tok} {s : Int} (he : numF ts = some (s, r)) : ∃ t, t ∈ ts ∧ t.k = 1 ∧ t.n = s := by
  unfold numF takF at he
  cases ts with
  | nil => cases he
  | cons t r1 =>
    by_cases hk : t.k = 1
    · simp only [hk, beq_self_eq_true, if_true, Option.some.injEq, Prod.mk.injEq] at he
      exact ⟨t, .head _, hk, he.1⟩
    · have : (t.k == 1) = false := by simpa using hk
      simp [this] at he
theorem good_num {k : Int} {s : List UInt8} {v : Int} (h : Good k s v) (hk : k = 1) : 0 ≤ v ∧ v ≤ 9223372036854775807 := by
  rcases good_kinds h with ⟨h, _⟩ | ⟨_, h1, h2⟩ | ⟨h, _⟩
  · rcases h with h | h
    · rw [hk] at h; cases h
    · rw [hk] at h; cases h
  · exact ⟨h1, h2⟩
  · rw [hk] at h; cases h
theorem wrap_neg {x : Int} (h0 : 0 ≤ x) (h1 : x ≤ 9223372036854775807) : Go.RowKit.wrap64 (-x) = -x := by
  unfold Go.RowKit.wrap64
  omega
theorem neg_rg {E : Env} {B : Nat} {w0 w : World} {st st2 : Option (List Tok)} {H : List Bx} {L : List Tn} {β : Type} (hg : GoodE E) (hC : Cx E B w0 w (.r st) H L) {s : Int} (he : st.bind numF = st2.map (Prod.mk s)) (F : Int → List Tok → Option β) : st2.bind (F (-s)) = st2.bind (F (Go.RowKit.wrap64 (-s))) := by
  cases st2 with
  | none => exact (show (none : Option (List Tok)).bind (F (-s)) = none from rfl).trans (show (none : Option (List Tok)).bind (F (Go.RowKit.wrap64 (-s))) = none from rfl).symm
  | some r =>
    cases st with
    | none => cases he
    | some ts =>
      obtain ⟨i, ao, cap, hi, hts, _⟩ := hC.rdS
      obtain ⟨t, ht, hk, rfl⟩ := num_tok (show numF ts = some (s, r) from he)
      have hr := good_num (hg t (by rw [← hts] at ht; exact List.mem_of_mem_drop ht)) hk
      rw [wrap_neg hr.1 hr.2]
theorem q_rfetch {E : Env} {B : Nat} {w0 w : World} {st : Option (List Tok)} {H : List Bx} {L : List Tn} (hg : GoodE E) (hC : Cx E B w0 w (.r st) H L) :
    Calls Tryz.prog 73 #[.pointer (some ⟨E.b, 0, none⟩)] w (RN E B w0 H L (st.bind fetF)) := by
  obtain ⟨o, ho⟩ : ∃ o, st.bind fetF = o := ⟨_, rfl⟩
  rw [ho]
  rw [fetX_eq] at ho
  have HO : Hid (st.bind (fun ts => ow [110, 101, 120, 116] ts (fun ts => fe1X (nd [110, 101, 120, 116] [] []) ts) (ow [112, 114, 105, 111, 114] ts (fun ts => fe1X (nd [112, 114, 105, 111, 114] [] []) ts) (ow [102, 105, 114, 115, 116] ts (fun ts => fe1X (nd [102, 105, 114, 115, 116] [] []) ts) (ow [108, 97, 115, 116] ts (fun ts => fe1X (nd [108, 97, 115, 116] [] []) ts) (ow [97, 98, 115, 111, 108, 117, 116, 101] ts (fun ts => og (sgF [45] ts) (fun _ r => bd (numF r) fun n r2 => fe1X (.mk [97, 98, 115, 111, 108, 117, 116, 101] [] (-n) []) r2) (bd (numF ts) fun n r2 => fe1X (.mk [97, 98, 115, 111, 108, 117, 116, 101] [] n []) r2)) (ow [114, 101, 108, 97, 116, 105, 118, 101] ts (fun ts => og (sgF [45] ts) (fun _ r => bd (numF r) fun n r2 => fe1X (.mk [114, 101, 108, 97, 116, 105, 118, 101] [] (-n) []) r2) (bd (numF ts) fun n r2 => fe1X (.mk [114, 101, 108, 97, 116, 105, 118, 101] [] n []) r2)) (fe1X (nd [110, 101, 120, 116] [] []) ts))))))) = o) := ho
  clear ho
  have h601 := hC.rsl
  go_enter Tryz.func73, Tryz.ntmps73
  go_upto_block 0 with (first
  | (guard_target = wpList _ _ _ (Oper.mk (some 2) (Op.alloc 24) _ _ _ _ :: _) _ _; refine hC.aN ?_; clear hC; intro W kR hC; (try simp only [pP]))
  | (guard_target = wpList _ _ _ (Oper.mk (some 3) (Op.alloc 24) _ _ _ _ :: _) _ _; refine hC.aN ?_; clear hC; intro W kY hC; (try simp only [pP]))
  | (guard_target = wpList _ _ _ (Oper.mk (some 10) (Op.buildSlice 82 _ _) _ _ _ _ :: _) _ _; refine hC.S6 ?_; clear hC; intro W kS hC; (try simp only [pP]))
  | refine bL ?_
  | (refine bA ?_; clear hC; intro W k hC)
  | (refine bS ?_; clear hC; intro W hC)
  | (go_at_call 33; guard_target = Calls _ _ #[_, _, _, Value.slice none 0 0] _ _; (first | refine useRD (q_rnode0 hC _ _ _) ?_); clear hC; intro W aY0 pY0 hC))
  go_cut [] (fun wx => ∃ (way : Tr) (aY : Option Addr) (pY : Nat) (L' : List Tn) (st' : Option (List Tok)), Hid (Cx E B w0 wx (.r st') ((kY, ncs aY pY way, 24) :: (kR, [.string ⟨#[]⟩, .string ⟨#[]⟩, .int .i64 0, .slice none 0 0], 24) :: H) L') ∧ Hid ((aY, pY, way) ∈ L') ∧ Hid (∀ y ∈ L, y ∈ L') ∧ Hid (st'.bind (fe1X way) = o))
  case first =>
    have hS : Hid (∀ y ∈ L, y ∈ (aY0, pY0, nd [110, 101, 120, 116] [] []) :: L) := fun y hy => .tail _ hy
    have hM : Hid ((aY0, pY0, nd [110, 101, 120, 116] [] []) ∈ (aY0, pY0, nd [110, 101, 120, 116] [] []) :: L) := .head _
    generalize ((aY0, pY0, nd [110, 101, 120, 116] [] []) :: L) = Lq at *
    go_wp2_with fail
    go_loopw [5] (fun x wr => (x = .int .i64 0 ∧ ∃ stq, Hid (Cx E B w0 wr (.r stq) ((kS, [.string ⟨#[110, 101, 120, 116]⟩, .string ⟨#[112, 114, 105, 111, 114]⟩, .string ⟨#[102, 105, 114, 115, 116]⟩, .string ⟨#[108, 97, 115, 116]⟩, .string ⟨#[97, 98, 115, 111, 108, 117, 116, 101]⟩, .string ⟨#[114, 101, 108, 97, 116, 105, 118, 101]⟩], 9) :: (kY, ncs aY0 pY0 (nd [110, 101, 120, 116] [] []), 24) :: (kR, [.string ⟨#[]⟩, .string ⟨#[]⟩, .int .i64 0, .slice none 0 0], 24) :: H) Lq) ∧ Hid (stq.bind (fun ts => ow [110, 101, 120, 116] ts (fun ts => fe1X (nd [110, 101, 120, 116] [] []) ts) (ow [112, 114, 105, 111, 114] ts (fun ts => fe1X (nd [112, 114, 105, 111, 114] [] []) ts) (ow [102, 105, 114, 115, 116] ts (fun ts => fe1X (nd [102, 105, 114, 115, 116] [] []) ts) (ow [108, 97, 115, 116] ts (fun ts => fe1X (nd [108, 97, 115, 116] [] []) ts) (ow [97, 98, 115, 111, 108, 117, 116, 101] ts (fun ts => og (sgF [45] ts) (fun _ r => bd (numF r) fun n r2 => fe1X (.mk [97, 98, 115, 111, 108, 117, 116, 101] [] (-n) []) r2) (bd (numF ts) fun n r2 => fe1X (.mk [97, 98, 115, 111, 108, 117, 116, 101] [] n []) r2)) (ow [114, 101, 108, 97, 116, 105, 118, 101] ts (fun ts => og (sgF [45] ts) (fun _ r => bd (numF r) fun n r2 => fe1X (.mk [114, 101, 108, 97, 116, 105, 118, 101] [] (-n) []) r2) (bd (numF ts) fun n r2 => fe1X (.mk [114, 101, 108, 97, 116, 105, 118, 101] [] n []) r2)) (fe1X (nd [110, 101, 120, 116] [] []) ts))))))) = o)) ∨ (x = .int .i64 1 ∧ ∃ stq, Hid (Cx E B w0 wr (.r stq) ((kS, [.string ⟨#[110, 101, 120, 116]⟩, .string ⟨#[112, 114, 105, 111, 114]⟩, .string ⟨#[102, 105, 114, 115, 116]⟩, .string ⟨#[108, 97, 115, 116]⟩, .string ⟨#[97, 98, 115, 111, 108, 117, 116, 101]⟩, .string ⟨#[114, 101, 108, 97, 116, 105, 118, 101]⟩], 9) :: (kY, ncs aY0 pY0 (nd [110, 101, 120, 116] [] []), 24) :: (kR, [.string ⟨#[]⟩, .string ⟨#[]⟩, .int .i64 0, .slice none 0 0], 24) :: H) Lq) ∧ Hid (stq.bind (fun ts => ow [112, 114, 105, 111, 114] ts (fun ts => fe1X (nd [112, 114, 105, 111, 114] [] []) ts) (ow [102, 105, 114, 115, 116] ts (fun ts => fe1X (nd [102, 105, 114, 115, 116] [] []) ts) (ow [108, 97, 115, 116] ts (fun ts => fe1X (nd [108, 97, 115, 116] [] []) ts) (ow [97, 98, 115, 111, 108, 117, 116, 101] ts (fun ts => og (sgF [45] ts) (fun _ r => bd (numF r) fun n r2 => fe1X (.mk [97, 98, 115, 111, 108, 117, 116, 101] [] (-n) []) r2) (bd (numF ts) fun n r2 => fe1X (.mk [97, 98, 115, 111, 108, 117, 116, 101] [] n []) r2)) (ow [114, 101, 108, 97, 116, 105, 118, 101] ts (fun ts => og (sgF [45] ts) (fun _ r => bd (numF r) fun n r2 => fe1X (.mk [114, 101, 108, 97, 116, 105, 118, 101] [] (-n) []) r2) (bd (numF ts) fun n r2 => fe1X (.mk [114, 101, 108, 97, 116, 105, 118, 101] [] n []) r2)) (fe1X (nd [110, 101, 120, 116] [] []) ts)))))) = o)) ∨ (x = .int .i64 2 ∧ ∃ stq, Hid (Cx E B w0 wr (.r stq) ((kS, [.string ⟨#[110, 101, 120, 116]⟩, .string ⟨#[112, 114, 105, 111, 114]⟩, .string ⟨#[102, 105, 114, 115, 116]⟩, .string ⟨#[108, 97, 115, 116]⟩, .string ⟨#[97, 98, 115, 111, 108, 117, 116, 101]⟩, .string ⟨#[114, 101, 108, 97, 116, 105, 118, 101]⟩], 9) :: (kY, ncs aY0 pY0 (nd [110, 101, 120, 116] [] []), 24) :: (kR, [.string ⟨#[]⟩, .string ⟨#[]⟩, .int .i64 0, .slice none 0 0], 24) :: H) Lq) ∧ Hid (stq.bind (fun ts => ow [102, 105, 114, 115, 116] ts (fun ts => fe1X (nd [102, 105, 114, 115, 116] [] []) ts) (ow [108, 97, 115, 116] ts (fun ts => fe1X (nd [108, 97, 115, 116] [] []) ts) (ow [97, 98, 115, 111, 108, 117, 116, 101] ts (fun ts => og (sgF [45] ts) (fun _ r => bd (numF r) fun n r2 => fe1X (.mk [97, 98, 115, 111, 108, 117, 116, 101] [] (-n) []) r2) (bd (numF ts) fun n r2 => fe1X (.mk [97, 98, 115, 111, 108, 117, 116, 101] [] n []) r2)) (ow [114, 101, 108, 97, 116, 105, 118, 101] ts (fun ts => og (sgF [45] ts) (fun _ r => bd (numF r) fun n r2 => fe1X (.mk [114, 101, 108, 97, 116, 105, 118, 101] [] (-n) []) r2) (bd (numF ts) fun n r2 => fe1X (.mk [114, 101, 108, 97, 116, 105, 118, 101] [] n []) r2)) (fe1X (nd [110, 101, 120, 116] [] []) ts))))) = o)) ∨ (x = .int .i64 3 ∧ ∃ stq, Hid (Cx E B w0 wr (.r stq) ((kS, [.string ⟨#[110, 101, 120, 116]⟩, .string ⟨#[112, 114, 105, 111, 114]⟩, .string ⟨#[102, 105, 114, 115, 116]⟩, .string ⟨#[108, 97, 115, 116]⟩, .string ⟨#[97, 98, 115, 111, 108, 117, 116, 101]⟩, .string ⟨#[114, 101, 108, 97, 116, 105, 118, 101]⟩], 9) :: (kY, ncs aY0 pY0 (nd [110, 101, 120, 116] [] []), 24) :: (kR, [.string ⟨#[]⟩, .string ⟨#[]⟩, .int .i64 0, .slice none 0 0], 24) :: H) Lq) ∧ Hid (stq.bind (fun ts => ow [108, 97, 115, 116] ts (fun ts => fe1X (nd [108, 97, 115, 116] [] []) ts) (ow [97, 98, 115, 111, 108, 117, 116, 101] ts (fun ts => og (sgF [45] ts) (fun _ r => bd (numF r) fun n r2 => fe1X (.mk [97, 98, 115, 111, 108, 117, 116, 101] [] (-n) []) r2) (bd (numF ts) fun n r2 => fe1X (.mk [97, 98, 115, 111, 108, 117, 116, 101] [] n []) r2)) (ow [114, 101, 108, 97, 116, 105, 118, 101] ts (fun ts => og (sgF [45] ts) (fun _ r => bd (numF r) fun n r2 => fe1X (.mk [114, 101, 108, 97, 116, 105, 118, 101] [] (-n) []) r2) (bd (numF ts) fun n r2 => fe1X (.mk [114, 101, 108, 97, 116, 105, 118, 101] [] n []) r2)) (fe1X (nd [110, 101, 120, 116] [] []) ts)))) = o)) ∨ (x = .int .i64 4 ∧ ∃ stq, Hid (Cx E B w0 wr (.r stq) ((kS, [.string ⟨#[110, 101, 120, 116]⟩, .string ⟨#[112, 114, 105, 111, 114]⟩, .string ⟨#[102, 105, 114, 115, 116]⟩, .string ⟨#[108, 97, 115, 116]⟩, .string ⟨#[97, 98, 115, 111, 108, 117, 116, 101]⟩, .string ⟨#[114, 101, 108, 97, 116, 105, 118, 101]⟩], 9) :: (kY, ncs aY0 pY0 (nd [110, 101, 120, 116] [] []), 24) :: (kR, [.string ⟨#[]⟩, .string ⟨#[]⟩, .int .i64 0, .slice none 0 0], 24) :: H) Lq) ∧ Hid (stq.bind (fun ts => ow [97, 98, 115, 111, 108, 117, 116, 101] ts (fun ts => og (sgF [45] ts) (fun _ r => bd (numF r) fun n r2 => fe1X (.mk [97, 98, 115, 111, 108, 117, 116, 101] [] (-n) []) r2) (bd (numF ts) fun n r2 => fe1X (.mk [97, 98, 115, 111, 108, 117, 116, 101] [] n []) r2)) (ow [114, 101, 108, 97, 116, 105, 118, 101] ts (fun ts => og (sgF [45] ts) (fun _ r => bd (numF r) fun n r2 => fe1X (.mk [114, 101, 108, 97, 116, 105, 118, 101] [] (-n) []) r2) (bd (numF ts) fun n r2 => fe1X (.mk [114, 101, 108, 97, 116, 105, 118, 101] [] n []) r2)) (fe1X (nd [110, 101, 120, 116] [] []) ts))) = o)) ∨ (x = .int .i64 5 ∧ ∃ stq, Hid (Cx E B w0 wr (.r stq) ((kS, [.string ⟨#[110, 101, 120, 116]⟩, .string ⟨#[112, 114, 105, 111, 114]⟩, .string ⟨#[102, 105, 114, 115, 116]⟩, .string ⟨#[108, 97, 115, 116]⟩, .string ⟨#[97, 98, 115, 111, 108, 117, 116, 101]⟩, .string ⟨#[114, 101, 108, 97, 116, 105, 118, 101]⟩], 9) :: (kY, ncs aY0 pY0 (nd [110, 101, 120, 116] [] []), 24) :: (kR, [.string ⟨#[]⟩, .string ⟨#[]⟩, .int .i64 0, .slice none 0 0], 24) :: H) Lq) ∧ Hid (stq.bind (fun ts => ow [114, 101, 108, 97, 116, 105, 118, 101] ts (fun ts => og (sgF [45] ts) (fun _ r => bd (numF r) fun n r2 => fe1X (.mk [114, 101, 108, 97, 116, 105, 118, 101] [] (-n) []) r2) (bd (numF ts) fun n r2 => fe1X (.mk [114, 101, 108, 97, 116, 105, 118, 101] [] n []) r2)) (fe1X (nd [110, 101, 120, 116] [] []) ts)) = o)) ∨ (x = .int .i64 6 ∧ ∃ stq, Hid (Cx E B w0 wr (.r stq) ((kS, [.string ⟨#[110, 101, 120, 116]⟩, .string ⟨#[112, 114, 105, 111, 114]⟩, .string ⟨#[102, 105, 114, 115, 116]⟩, .string ⟨#[108, 97, 115, 116]⟩, .string ⟨#[97, 98, 115, 111, 108, 117, 116, 101]⟩, .string ⟨#[114, 101, 108, 97, 116, 105, 118, 101]⟩], 9) :: (kY, ncs aY0 pY0 (nd [110, 101, 120, 116] [] []), 24) :: (kR, [.string ⟨#[]⟩, .string ⟨#[]⟩, .int .i64 0, .slice none 0 0], 24) :: H) Lq) ∧ Hid (stq.bind (fun ts => fe1X (nd [110, 101, 120, 116] [] []) ts) = o))) (fun x _ => 6 - (intOf x).toNat)
    case atStart => exact Or.inl ⟨rfl, _, hC, HO⟩
    case round =>
      rename World => wr
      clear hC HO
      rcases hrel with ⟨rfl, stq, hC', HO⟩ | ⟨rfl, stq, hC', HO⟩ | ⟨rfl, stq, hC', HO⟩ | ⟨rfl, stq, hC', HO⟩ | ⟨rfl, stq, hC', HO⟩ | ⟨rfl, stq, hC', HO⟩ | ⟨rfl, stq, hC', HO⟩
      iterate 6
        · have hC := hC'.out
          clear hC'
          go_wp2_with (first
          | refine bL ?_
          | ((first | refine hC.sI 0 ?_ | refine hC.sI 1 ?_ | refine hC.sI 2 ?_ | refine hC.sI 3 ?_); clear hC; intro W hC; simp only [pS] at hC; (try simp only [pP]))
          | (refine bA ?_; clear hC; intro W k hC)
          | (refine bS ?_; clear hC; intro W hC)
          | (go_at_call 15; refine aGot ?_ ?_ <;> clear hC HO; (focus (intro ts r W hC e hl HO; first | (cases e; done) | cases e)); rotate_left; (focus (intro hC HO)); rotate_left)
          | (go_at_call 33; guard_target = Calls _ _ #[_, _, _, Value.slice none 0 0] _ _; have hD := hC; clear hC; (first | refine useRD (q_rnode0 hD _ _ _) ?_); intro W ao cap hC; obtain ⟨rfl, rfl⟩ := hC.leaf0 (.head _); clear hD)
          | (go_at_call 103; have hD := hC; clear hC; refine useRI (q_rnumber hD) ?_; intro s st2 W he hC; have hneg := fun op : List UInt8 => neg_rg hg hD he (fun n => fe1X (.mk op [] n [])); clear hD; have hl := sl_lt (fun _ _ _ h => by have := numF_len h; omega) he; replace HO := hidk (bindN he HO.out); clear he))
          rotate_right
          · go_roundw
            case rel => first | exact Or.inr (Or.inl ⟨rfl, _, hC, HO⟩) | exact Or.inr (Or.inr (Or.inl ⟨rfl, _, hC, HO⟩)) | exact Or.inr (Or.inr (Or.inr (Or.inl ⟨rfl, _, hC, HO⟩))) | exact Or.inr (Or.inr (Or.inr (Or.inr (Or.inl ⟨rfl, _, hC, HO⟩)))) | exact Or.inr (Or.inr (Or.inr (Or.inr (Or.inr (Or.inl ⟨rfl, _, hC, HO⟩))))) | exact Or.inr (Or.inr (Or.inr (Or.inr (Or.inr (Or.inr (⟨rfl, _, hC, HO⟩))))))
            case measure => simp [intOf]
          all_goals (go_meet; first | exact ⟨nd [110, 101, 120, 116] [] [], _, _, _, _, (hC.less (by (repeat (first | exact List.Sublist.refl _ | apply List.Sublist.cons_cons | apply List.Sublist.cons)); done) (fun y hy => hy)), .head _, (fun y hy => by first | ((repeat (first | exact hy | apply List.mem_cons_of_mem)); done) | (have hy := hS.out y hy; (repeat (first | exact hy | apply List.mem_cons_of_mem)); done)), HO⟩ | exact ⟨nd [112, 114, 105, 111, 114] [] [], _, _, _, _, (hC.less (by (repeat (first | exact List.Sublist.refl _ | apply List.Sublist.cons_cons | apply List.Sublist.cons)); done) (fun y hy => hy)), .head _, (fun y hy => by first | ((repeat (first | exact hy | apply List.mem_cons_of_mem)); done) | (have hy := hS.out y hy; (repeat (first | exact hy | apply List.mem_cons_of_mem)); done)), HO⟩ | exact ⟨nd [102, 105, 114, 115, 116] [] [], _, _, _, _, (hC.less (by (repeat (first | exact List.Sublist.refl _ | apply List.Sublist.cons_cons | apply List.Sublist.cons)); done) (fun y hy => hy)), .head _, (fun y hy => by first | ((repeat (first | exact hy | apply List.mem_cons_of_mem)); done) | (have hy := hS.out y hy; (repeat (first | exact hy | apply List.mem_cons_of_mem)); done)), HO⟩ | exact ⟨nd [108, 97, 115, 116] [] [], _, _, _, _, (hC.less (by (repeat (first | exact List.Sublist.refl _ | apply List.Sublist.cons_cons | apply List.Sublist.cons)); done) (fun y hy => hy)), .head _, (fun y hy => by first | ((repeat (first | exact hy | apply List.mem_cons_of_mem)); done) | (have hy := hS.out y hy; (repeat (first | exact hy | apply List.mem_cons_of_mem)); done)), HO⟩ | exact ⟨.mk [97, 98, 115, 111, 108, 117, 116, 101] [] s [], _, _, _, _, (hC.leaf [97, 98, 115, 111, 108, 117, 116, 101] [] _).less (by (repeat (first | exact List.Sublist.refl _ | apply List.Sublist.cons_cons | apply List.Sublist.cons)); done) (fun y hy => hy), .head _, (fun y hy => by first | ((repeat (first | exact hy | apply List.mem_cons_of_mem)); done) | (have hy := hS.out y hy; (repeat (first | exact hy | apply List.mem_cons_of_mem)); done)), HO⟩ | exact ⟨.mk [97, 98, 115, 111, 108, 117, 116, 101] [] s [], _, _, _, _, (hC.leaf [97, 98, 115, 111, 108, 117, 116, 101] [] _).less (by (repeat (first | exact List.Sublist.refl _ | apply List.Sublist.cons_cons | apply List.Sublist.cons)); done) (fun y hy => hy), .head _, (fun y hy => by first | ((repeat (first | exact hy | apply List.mem_cons_of_mem)); done) | (have hy := hS.out y hy; (repeat (first | exact hy | apply List.mem_cons_of_mem)); done)), (hneg _).symm.trans HO.out⟩ | exact ⟨.mk [97, 98, 115, 111, 108, 117, 116, 101] [] (Go.RowKit.wrap64 (-s)) [], _, _, _, _, (hC.leaf [97, 98, 115, 111, 108, 117, 116, 101] [] _).less (by (repeat (first | exact List.Sublist.refl _ | apply List.Sublist.cons_cons | apply List.Sublist.cons)); done) (fun y hy => hy), .head _, (fun y hy => by first | ((repeat (first | exact hy | apply List.mem_cons_of_mem)); done) | (have hy := hS.out y hy; (repeat (first | exact hy | apply List.mem_cons_of_mem)); done)), HO⟩ | exact ⟨.mk [97, 98, 115, 111, 108, 117, 116, 101] [] (Go.RowKit.wrap64 (-s)) [], _, _, _, _, (hC.leaf [97, 98, 115, 111, 108, 117, 116, 101] [] _).less (by (repeat (first | exact List.Sublist.refl _ | apply List.Sublist.cons_cons | apply List.Sublist.cons)); done) (fun y hy => hy), .head _, (fun y hy => by first | ((repeat (first | exact hy | apply List.mem_cons_of_mem)); done) | (have hy := hS.out y hy; (repeat (first | exact hy | apply List.mem_cons_of_mem)); done)), (hneg _).symm.trans HO.out⟩ | exact ⟨.mk [114, 101, 108, 97, 116, 105, 118, 101] [] s [], _, _, _, _, (hC.leaf [114, 101, 108, 97, 116, 105, 118, 101] [] _).less (by (repeat (first | exact List.Sublist.refl _ | apply List.Sublist.cons_cons | apply List.Sublist.cons)); done) (fun y hy => hy), .head _, (fun y hy => by first | ((repeat (first | exact hy | apply List.mem_cons_of_mem)); done) | (have hy := hS.out y hy; (repeat (first | exact hy | apply List.mem_cons_of_mem)); done)), HO⟩ | exact ⟨.mk [114, 101, 108, 97, 116, 105, 118, 101] [] s [], _, _, _, _, (hC.leaf [114, 101, 108, 97, 116, 105, 118, 101] [] _).less (by (repeat (first | exact List.Sublist.refl _ | apply List.Sublist.cons_cons | apply List.Sublist.cons)); done) (fun y hy => hy), .head _, (fun y hy => by first | ((repeat (first | exact hy | apply List.mem_cons_of_mem)); done) | (have hy := hS.out y hy; (repeat (first | exact hy | apply List.mem_cons_of_mem)); done)), (hneg _).symm.trans HO.out⟩ | exact ⟨.mk [114, 101, 108, 97, 116, 105, 118, 101] [] (Go.RowKit.wrap64 (-s)) [], _, _, _, _, (hC.leaf [114, 101, 108, 97, 116, 105, 118, 101] [] _).less (by (repeat (first | exact List.Sublist.refl _ | apply List.Sublist.cons_cons | apply List.Sublist.cons)); done) (fun y hy => hy), .head _, (fun y hy => by first | ((repeat (first | exact hy | apply List.mem_cons_of_mem)); done) | (have hy := hS.out y hy; (repeat (first | exact hy | apply List.mem_cons_of_mem)); done)), HO⟩ | exact ⟨.mk [114, 101, 108, 97, 116, 105, 118, 101] [] (Go.RowKit.wrap64 (-s)) [], _, _, _, _, (hC.leaf [114, 101, 108, 97, 116, 105, 118, 101] [] _).less (by (repeat (first | exact List.Sublist.refl _ | apply List.Sublist.cons_cons | apply List.Sublist.cons)); done) (fun y hy => hy), .head _, (fun y hy => by first | ((repeat (first | exact hy | apply List.mem_cons_of_mem)); done) | (have hy := hS.out y hy; (repeat (first | exact hy | apply List.mem_cons_of_mem)); done)), (hneg _).symm.trans HO.out⟩)
      · have hC := hC'.out
        clear hC'
        go_wp2_with (first
        | refine bL ?_
        | (refine bA ?_; clear hC; intro W k hC)
        | (refine bS ?_; clear hC; intro W hC)
        | (refine bA ?_; clear hC; intro W k hC))
        all_goals (go_meet; exact ⟨nd [110, 101, 120, 116] [] [], aY0, pY0, _, _, (hC.less (by (repeat (first | exact List.Sublist.refl _ | apply List.Sublist.cons_cons | apply List.Sublist.cons)); done) (fun y hy => hy)), hM, (fun y hy => by first | ((repeat (first | exact hy | apply List.mem_cons_of_mem)); done) | (have hy := hS.out y hy; (repeat (first | exact hy | apply List.mem_cons_of_mem)); done)), HO⟩)
  case rest =>
  clear hC HO
  obtain ⟨way, aY, pY, L', st', hC', hMy, hS, HO2⟩ := hcut
  have hC := hC'.out
  unfold ncs at hC
  have HO : Hid (st'.bind (fun ts => ow [102, 114, 111, 109] ts (fun r => bd (nameF r) fun s r => some (nd [102, 101, 116, 99, 104] s [way], r)) (bd (nameF ts) fun s r => some (nd [102, 101, 116, 99, 104] s [way], r))) = o) := HO2.out
  clear hC' HO2
  go_wp2_with (first
  | refine bL ?_
  | (refine bA ?_; clear hC; intro W k hC)
  | (refine bS ?_; clear hC; intro W hC)
  | (go_at_call 15; refine aGot ?_ ?_ <;> clear hC HO; (focus (intro ts r W hC e hl HO; first | (cases e; done) | cases e)); rotate_left; (focus (intro hC HO)); rotate_left)
  | (go_at_call 34; refine aName ?_; clear hC HO; intro s st2 W hC hl HO)
  | (go_at_call 33; guard_target = Calls _ _ #[_, _, _, Value.slice (some _) 1 1] _ _; (first | refine useRD (q_rnode1 _ _ _ hC hMy.out) ?_); clear hC; intro W ao cap hC))
  all_goals (refine hC.rc ?_; refine endRN HO (hC.fin ?_ ?_ ?_); (repeat (first | exact List.Sublist.refl _ | apply List.Sublist.cons)); (repeat (first | exact List.mem_cons_self | apply List.mem_cons_of_mem)); intro y hy; (have hy := hS.out y hy; (repeat (first | exact hy | apply List.mem_cons_of_mem)); done))
end Go.Proofs.YtaenpacfbheppaaGreatDoor
namespace Go.Proofs.YtaenpacfbheppaaGreatDoor
open Go.RowKit
def TkW (E : Env) (i : Nat) (ao : Option Addr) (cap g : Nat) (s : ByteArray) (w : World) : Prop := w.cell? ⟨E.b, 0, none⟩ = some (.slice ao E.l.length cap) ∧ w.cell? ⟨E.b, 1, none⟩ = some (.int .i64 (i : Int)) ∧ w.cell? ⟨g, i * 4 + 1, none⟩ = some (.string s)
def drpX (ts : List Tok) : Option (Tr × List Tok) := ow [116, 97, 98, 108, 101] ts (fun r => bd (nameF r) fun s r2 => some (nd [100, 114, 111, 112, 32, 116, 97, 98, 108, 101] s [], r2)) ((needF [[105, 110, 100, 101, 120]] ts).bind fun r => bd (nameF r) fun s r2 => some (nd [100, 114, 111, 112, 32, 105, 110, 100, 101, 120] s [], r2))
theorem drpX_eq : drpD = drpX := by
  funext ts
  unfold drpD drpX
  simp only [nmd_x]
  cases h : tkB [[116, 97, 98, 108, 101]] ts with
  | true => rw [ow_t h]; rfl
  | false =>
    rw [ow_f h]
    simp only [Bool.false_eq_true, if_false]
    cases needF [[105, 110, 100, 101, 120]] ts <;> rfl
def savX (op : List UInt8) (ts : List Tok) : Option (Tr × List Tok) := ow [115, 97, 118, 101, 112, 111, 105, 110, 116] ts (fun r => bd (nameF r) fun s r2 => some (nd op s [], r2)) (bd (nameF ts) fun s r2 => some (nd op s [], r2))
theorem savX_eq (op : List UInt8) : savF op = savX op := by
  funext ts
  unfold savF savX
  cases h : tkB [[115, 97, 118, 101, 112, 111, 105, 110, 116]] ts with
  | true =>
    rw [ow_t h]
    cases nameF (tkR [[115, 97, 118, 101, 112, 111, 105, 110, 116]] ts) <;> rfl
  | false =>
    rw [ow_f h, tkR_no1 h]
    cases nameF ts <;> rfl
def rolX (ts : List Tok) : Option (Tr × List Tok) := ow [116, 111] ts (fun r => savX [114, 111, 108, 108, 98, 97, 99, 107, 32, 116, 111] r) (some (nd [114, 111, 108, 108, 98, 97, 99, 107] [] [], ts))
theorem rolX_eq : rolD = rolX := by
  funext ts
  unfold rolD rolX
  rw [savX_eq]
  cases h : tkB [[116, 111]] ts with
  | true => rw [ow_t h]; rfl
  | false => rw [ow_f h]; rfl
def delX (R : Rc) (ts : List Tok) : Option (Tr × List Tok) := (needF [[102, 114, 111, 109]] ts).bind fun r => bd (nameF r) fun s r2 => bd (whoX R r2) fun wh r3 => some (nd [100, 101, 108, 101, 116, 101] s [wh], r3)
theorem delX_eq (R : Rc) (hw : whoF R = whoX R) : (fun r => match needF [[102, 114, 111, 109]] r with | none => none | some r2 => delF R r2) = delX R := by
  funext ts
  unfold delX
  cases needF [[102, 114, 111, 109]] ts with
  | none => rfl
  | some r =>
    simp only [Option.bind_some]
    unfold delF
    rw [hw]
    cases nameF r with
    | none => rfl
    | some p =>
      obtain ⟨s, r2⟩ := p
      rw [bd_at]
      simp only
      cases whoX R r2 <;> rfl
theorem decD_Len {R : Rc} (hR : R.Len) : Len (decD R) := fun ts x r h => by
  have h1 := @qryD_Len R hR
  have h2 : ∀ ts x r, purD ts = some (x, r) → r.length ≤ ts.length := fun ts x r h => by
    unfold purD at h
    simp only [need1] at h
    grind [tkR_len]
  unfold decD at h
  simp only [need1] at h
  grind [→ nameF_len, tkR_len, Len]
theorem fetF_Len : Len fetF := fun ts x r h => by
  have h2 : ∀ ts x r, wayF ts = some (x, r) → r.length ≤ ts.length := fun ts x r h => by
    unfold wayF sgnF at h
    grind [→ oneF_len, → sgF_len, → numF_len]
  unfold fetF at h
  grind [→ nameF_len, tkR_len]
theorem q_rsta_f {E : Env} {B : Nat} {w0 w : World} {st : Option (List Tok)} {H : List Bx} {L : List Tn} (hg : GoodE E) (hC : Cx E B w0 w (.r st) H L) (hop : ∀ ts, st = some ts → sdB 0 3 [40] ts = false) (hsl : ∀ ts, st = some ts → sdB 0 0 [115, 101, 108, 101, 99, 116] ts = false) (hf : ∀ t r, st = some (t :: r) → t.k ≠ 0) :
    Calls Tryz.prog 14 #[.pointer (some ⟨E.b, 0, none⟩)] w (RN E B w0 H L ((none : Option (Tr × List Tok)))) := by
  obtain ⟨o, ho⟩ : ∃ o, (none : Option (Tr × List Tok)) = o := ⟨_, rfl⟩
  rw [ho]
  have HO : Hid (st.bind (fun _ => none) = o) := by rw [← ho]; show _ = _; cases st <;> rfl
  clear ho
  have h601 := hC.rsl
  go_enter Tryz.func14, Tryz.ntmps14
  go_wp2_with (first
  | (guard_target = wpList _ _ _ (Oper.mk (some 2) (Op.alloc 24) _ _ _ _ :: _) _ _; refine hC.aN ?_; clear hC; intro W kR hC; (try simp only [pP]))
  | ((first | refine hC.sbT ?_ | refine hC.sbF ?_); clear hC; intro W hC; (try simp only [pP]))
  | refine bL ?_
  | (refine bA ?_; clear hC; intro W k hC)
  | (refine bS ?_; clear hC; intro W hC)
  | (go_at_call 29; have hD := hC; clear hC; (first | (refine q_isW hg hD _ (by decide) _ (by decide) ?_ ?_; (focus (intro ts e hb; first | (cases e; done) | (rw [hop _ e] at hb; cases hb; done) | (rw [hsl _ e] at hb; cases hb; done) | (clear hb; have hC := hD; clear hD))); rotate_left; (focus (intro hb; first | (have h9 := hb _ rfl; rw [hop _ rfl] at h9; cases h9; done) | (have h9 := hb _ rfl; rw [hsl _ rfl] at h9; cases h9; done) | (clear hb; have hC := hD; clear hD))); rotate_left) | (refine q_isS hg hD _ (by decide) _ (by decide) ?_ ?_; (focus (intro ts e hb; first | (cases e; done) | (rw [hop _ e] at hb; cases hb; done) | (rw [hsl _ e] at hb; cases hb; done) | (clear hb; have hC := hD; clear hD))); rotate_left; (focus (intro hb; first | (have h9 := hb _ rfl; rw [hop _ rfl] at h9; cases h9; done) | (have h9 := hb _ rfl; rw [hsl _ rfl] at h9; cases h9; done) | (clear hb; have hC := hD; clear hD))); rotate_left)))
  | (go_at_call 31; have hD := hC; clear hC; refine kindK hD _ ?_ ?_; (focus (intro t9 r9 W e hk9 hC; exact absurd hk9 (hf _ _ e))); rotate_left; (focus (intro W hb hC; clear hD hb)); rotate_left))
  all_goals (refine hC.rc ?_; refine endR0 (T := .mk [] [] 0 []) (ao := none) (cap := 0) HO ((hC.leaf [] [] 0).fin ?_ ?_ ?_); (repeat (first | exact List.Sublist.refl _ | apply List.Sublist.cons)); (repeat (first | exact List.mem_cons_self | apply List.mem_cons_of_mem)); intro y hy; (repeat (first | exact hy | apply List.mem_cons_of_mem)); done)
theorem q_rsta_p {E : Env} {B : Nat} {w0 w : World} {H : List Bx} {L : List Tn} {ts : List Tok} {R : Rc} {n : Nat} (RC : Cw E R n) (hg : GoodE E) (hC : Cx E B w0 w (.r (some ts)) H L) (hn : sl (some ts) < n) (hop : ∀ ts1, some ts = some ts1 → sdB 0 3 [40] ts1 = true) (hsl : ∀ ts1, some ts = some ts1 → sdB 0 0 [115, 101, 108, 101, 99, 116] ts1 = false) :
    Calls Tryz.prog 14 #[.pointer (some ⟨E.b, 0, none⟩)] w (RN E B w0 H L ((some ts).bind (qryD R))) := by
  obtain ⟨o, ho⟩ : ∃ o, (some ts).bind (qryD R) = o := ⟨_, rfl⟩
  rw [ho]
  have HO := hidk ho
  clear ho
  have h601 := hC.rsl
  go_enter Tryz.func14, Tryz.ntmps14
  go_wp2_with (first
  | (guard_target = wpList _ _ _ (Oper.mk (some 2) (Op.alloc 24) _ _ _ _ :: _) _ _; refine hC.aN ?_; clear hC; intro W kR hC; (try simp only [pP]))
  | refine bL ?_
  | (refine bA ?_; clear hC; intro W k hC)
  | (refine bS ?_; clear hC; intro W hC)
  | (go_at_call 29; have hD := hC; clear hC; (first | (refine q_isW hg hD _ (by decide) _ (by decide) ?_ ?_; (focus (intro ts e hb; first | (cases e; done) | (rw [hop _ e] at hb; cases hb; done) | (rw [hsl _ e] at hb; cases hb; done) | (clear hb; have hC := hD; clear hD))); rotate_left; (focus (intro hb; first | (have h9 := hb _ rfl; rw [hop _ rfl] at h9; cases h9; done) | (have h9 := hb _ rfl; rw [hsl _ rfl] at h9; cases h9; done) | (clear hb; have hC := hD; clear hD))); rotate_left) | (refine q_isS hg hD _ (by decide) _ (by decide) ?_ ?_; (focus (intro ts e hb; first | (cases e; done) | (rw [hop _ e] at hb; cases hb; done) | (rw [hsl _ e] at hb; cases hb; done) | (clear hb; have hC := hD; clear hD))); rotate_left; (focus (intro hb; first | (have h9 := hb _ rfl; rw [hop _ rfl] at h9; cases h9; done) | (have h9 := hb _ rfl; rw [hsl _ rfl] at h9; cases h9; done) | (clear hb; have hC := hD; clear hD))); rotate_left)))
  | (go_at_call 30; refine useRN (q_rquery RC hg hC (by omega)) ?_; clear hC; intro t st2 W ao cap he hC; replace HO := hidk ((bindAll HO.out he)); clear he))
  all_goals (refine hC.rc ?_; first | exact endRN HO (hC.fin mSub mMem mL) | exact endR0 HO (hC.fin mSub mMem mL))
theorem q_rsta_s {E : Env} {B : Nat} {w0 w : World} {H : List Bx} {L : List Tn} {ts : List Tok} {R : Rc} {n : Nat} (RC : Cw E R n) (hg : GoodE E) (hC : Cx E B w0 w (.r (some ts)) H L) (hn : sl (some ts) < n) (hop : ∀ ts1, some ts = some ts1 → sdB 0 3 [40] ts1 = false) (hsl : ∀ ts1, some ts = some ts1 → sdB 0 0 [115, 101, 108, 101, 99, 116] ts1 = true) :
    Calls Tryz.prog 14 #[.pointer (some ⟨E.b, 0, none⟩)] w (RN E B w0 H L ((some ts).bind (qryD R))) := by
  obtain ⟨o, ho⟩ : ∃ o, (some ts).bind (qryD R) = o := ⟨_, rfl⟩
  rw [ho]
  have HO := hidk ho
  clear ho
  have h601 := hC.rsl
  go_enter Tryz.func14, Tryz.ntmps14
  go_wp2_with (first
  | (guard_target = wpList _ _ _ (Oper.mk (some 2) (Op.alloc 24) _ _ _ _ :: _) _ _; refine hC.aN ?_; clear hC; intro W kR hC; (try simp only [pP]))
  | refine bL ?_
  | (refine bA ?_; clear hC; intro W k hC)
  | (refine bS ?_; clear hC; intro W hC)
  | (go_at_call 29; have hD := hC; clear hC; (first | (refine q_isW hg hD _ (by decide) _ (by decide) ?_ ?_; (focus (intro ts e hb; first | (cases e; done) | (rw [hop _ e] at hb; cases hb; done) | (rw [hsl _ e] at hb; cases hb; done) | (clear hb; have hC := hD; clear hD))); rotate_left; (focus (intro hb; first | (have h9 := hb _ rfl; rw [hop _ rfl] at h9; cases h9; done) | (have h9 := hb _ rfl; rw [hsl _ rfl] at h9; cases h9; done) | (clear hb; have hC := hD; clear hD))); rotate_left) | (refine q_isS hg hD _ (by decide) _ (by decide) ?_ ?_; (focus (intro ts e hb; first | (cases e; done) | (rw [hop _ e] at hb; cases hb; done) | (rw [hsl _ e] at hb; cases hb; done) | (clear hb; have hC := hD; clear hD))); rotate_left; (focus (intro hb; first | (have h9 := hb _ rfl; rw [hop _ rfl] at h9; cases h9; done) | (have h9 := hb _ rfl; rw [hsl _ rfl] at h9; cases h9; done) | (clear hb; have hC := hD; clear hD))); rotate_left)))
  | (go_at_call 30; refine useRN (q_rquery RC hg hC (by omega)) ?_; clear hC; intro t st2 W ao cap he hC; replace HO := hidk ((bindAll HO.out he)); clear he))
  all_goals (refine hC.rc ?_; first | exact endRN HO (hC.fin mSub mMem mL) | exact endR0 HO (hC.fin mSub mMem mL))
theorem words (w1 : List UInt8) : w1 = [99, 114, 101, 97, 116, 101] ∨ w1 = [100, 114, 111, 112] ∨ w1 = [105, 110, 115, 101, 114, 116] ∨ w1 = [117, 112, 100, 97, 116, 101] ∨ w1 = [100, 101, 108, 101, 116, 101] ∨ w1 = [99, 111, 109, 109, 105, 116] ∨ w1 = [114, 111, 108, 108, 98, 97, 99, 107] ∨ w1 = [115, 97, 118, 101, 112, 111, 105, 110, 116] ∨ w1 = [114, 101, 108, 101, 97, 115, 101] ∨ ((w1 == [99, 114, 101, 97, 116, 101]) = false ∧ (w1 == [100, 114, 111, 112]) = false ∧ (w1 == [105, 110, 115, 101, 114, 116]) = false ∧ (w1 == [117, 112, 100, 97, 116, 101]) = false ∧ (w1 == [100, 101, 108, 101, 116, 101]) = false ∧ (w1 == [99, 111, 109, 109, 105, 116]) = false ∧ (w1 == [114, 111, 108, 108, 98, 97, 99, 107]) = false ∧ (w1 == [115, 97, 118, 101, 112, 111, 105, 110, 116]) = false ∧ (w1 == [114, 101, 108, 101, 97, 115, 101]) = false) := by
  simp only [beq_eq_false_iff_ne]
  by_cases h1 : w1 = [99, 114, 101, 97, 116, 101] <;> by_cases h2 : w1 = [100, 114, 111, 112] <;> by_cases h3 : w1 = [105, 110, 115, 101, 114, 116] <;> by_cases h4 : w1 = [117, 112, 100, 97, 116, 101] <;> by_cases h5 : w1 = [100, 101, 108, 101, 116, 101] <;> by_cases h6 : w1 = [99, 111, 109, 109, 105, 116] <;> by_cases h7 : w1 = [114, 111, 108, 108, 98, 97, 99, 107] <;> by_cases h8 : w1 = [115, 97, 118, 101, 112, 111, 105, 110, 116] <;> by_cases h9 : w1 = [114, 101, 108, 101, 97, 115, 101] <;> simp [h1, h2, h3, h4, h5, h6, h7, h8, h9]
theorem q_rsta_w {E : Env} {B : Nat} {w0 w : World} {H : List Bx} {L : List Tn} {R : Rc} {n : Nat} (RC : Cw E R n) (hw : whoF R = whoX R) {tn : Int} {ta : Nat} {r : List Tok} {w1 : List UInt8} (hg : GoodE E) (hC : Cx E B w0 w (.r (some (⟨0, w1, tn, ta⟩ :: r))) H L) (hn : sl (some (⟨0, w1, tn, ta⟩ :: r)) < n) (h0 : w1 ≠ [115, 101, 108, 101, 99, 116]) :
    Calls Tryz.prog 14 #[.pointer (some ⟨E.b, 0, none⟩)] w (RN E B w0 H L (wrdD R w1 r)) := by
  obtain ⟨o, ho⟩ : ∃ o, wrdD R w1 r = o := ⟨_, rfl⟩
  rw [ho]
  have HW := hidk ho
  clear ho
  obtain ⟨i, ao, cap, hi, hts, hv, c0, c1, c2, f1, f2, hcap⟩ := hC.rdS
  obtain ⟨hlt, ht, hr⟩ := drop_cons hts
  obtain ⟨g, cap', hv', hcap', t0, t1, t2, t3⟩ := hC.tok (ts := ⟨0, w1, tn, ta⟩ :: r) hlt
  rw [hv] at hv'
  cases hv'
  have h6 := hC.ok.len
  have hop : ∀ ts, some (⟨0, w1, tn, ta⟩ :: r) = some ts → sdB 0 3 [40] ts = false := fun ts e => by cases e; rfl
  have hsl : ∀ ts, some (⟨0, w1, tn, ta⟩ :: r) = some ts → sdB 0 0 [115, 101, 108, 101, 99, 116] ts = false := fun ts e => by cases e; simpa [sdB] using h0
  have HTK : Hid (∀ {W : World} {H' : List Bx} {L' : List Tn}, Cx E B w0 W (.r (some (⟨0, w1, tn, ta⟩ :: r))) H' L' → TkW E i (some ⟨g, 0, none⟩) cap g ⟨w1.toArray⟩ W) := fun {W H' L'} h => by
    have h8 : Cx E B w0 W (.r (some (E.l.drop i))) H' L' := by rw [hts]; exact h
    obtain ⟨i2, ao2, cap2, hi2, hts2, hv2, d0, d1, _⟩ := h.rdS
    obtain ⟨g2, cap3, hv3, hcap3, u0, u1, u2, u3⟩ := h.tok (ts := ⟨0, w1, tn, ta⟩ :: r) hlt
    rw [hv] at hv2 hv3
    cases hv2
    cases hv3
    rw [ht] at u1
    exact ⟨d0, h8.rat (by omega), u1⟩
  have hwi : 0 ≤ (i : Int) ∧ (i : Int) < (E.l.length : Int) := ⟨by omega, by omega⟩
  have hn2 : sl (some r) + 1 < n := by simp only [sl] at hn ⊢; simp only [List.length_cons] at hn; omega
  clear c0 c1 c2 f1 f2 hv hts ht hr t0 t1 t2 t3
  have h601 := hC.rsl
  clear hn
  go_enter Tryz.func14, Tryz.ntmps14
  go_upto_region 10 with (first
  | (guard_target = wpList _ _ _ (Oper.mk (some 2) (Op.alloc 24) _ _ _ _ :: _) _ _; refine hC.aN ?_; clear hC; intro W kR hC; (try simp only [pP]))
  | refine bL ?_
  | (refine hC.lat ?_; intro i9 hi9 hts9 c19; (try simp only [pP]))
    | (have hD := hC; clear hC; refine hD.sat (j := 1) hi9 hts9 c19 (by simp) rfl rfl rfl (by first | (go_simp; done) | (go_simp; rfl) | skip; go_simp; have h600 := hD.ok.len; unfold Go.RowKit.wrap64; omega) ?_; clear hD c19; intro W hC; have hC2 : Cx E B w0 W (.r (some r)) _ _ := hC; clear hC; have hC := hC2; clear hC2; (try simp only [pP]))
  | (refine bA ?_; clear hC; intro W k hC)
  | (refine bS ?_; clear hC; intro W hC)
  | (go_at_call 29; have hD := hC; clear hC; (first | (refine q_isW hg hD _ (by decide) _ (by decide) ?_ ?_; (focus (intro ts e hb; first | (cases e; done) | (rw [hop _ e] at hb; cases hb; done) | (rw [hsl _ e] at hb; cases hb; done) | (clear hb; have hC := hD; clear hD))); rotate_left; (focus (intro hb; first | (have h9 := hb _ rfl; rw [hop _ rfl] at h9; cases h9; done) | (have h9 := hb _ rfl; rw [hsl _ rfl] at h9; cases h9; done) | (clear hb; have hC := hD; clear hD))); rotate_left) | (refine q_isS hg hD _ (by decide) _ (by decide) ?_ ?_; (focus (intro ts e hb; first | (cases e; done) | (rw [hop _ e] at hb; cases hb; done) | (rw [hsl _ e] at hb; cases hb; done) | (clear hb; have hC := hD; clear hD))); rotate_left; (focus (intro hb; first | (have h9 := hb _ rfl; rw [hop _ rfl] at h9; cases h9; done) | (have h9 := hb _ rfl; rw [hsl _ rfl] at h9; cases h9; done) | (clear hb; have hC := hD; clear hD))); rotate_left)))
  | (go_at_call 31; have hD := hC; clear hC; refine kindK hD _ ?_ ?_; (focus (intro t9 r9 W e hk9 hC; cases e; clear hk9 hD)); rotate_left; (focus (intro W hb hC; have h9 : ((0 : Int) == 0) = false := hb _ rfl; exact absurd h9 (by decide))); rotate_left)
  | (guard_target = Code.wp _ (Code.region 8 _ true) _ _ _; refine wp_region_held_drew (S := TkW E i (some ⟨g, 0, none⟩) cap g ⟨w1.toArray⟩) (by kernel_rfl) (HTK.out hC.drew) (fun hHeld => ?_); replace hC := hC.drew; refine wpAnyH_take (i := 0) (v := _) rfl (by kernel_rfl) (by kernel_rfl) (by kernel_rfl) (fun _ _ _ h => h) (Or.inl ⟨by rfl, by intro w hSw; go_simp; (try rw [if_pos hwi]); (try rfl)⟩) (by assumption) ?_; (try simp only [pQ]); refine wpAnyH_take (i := 1) (v := _) rfl (by kernel_rfl) (by kernel_rfl) (by kernel_rfl) (fun _ _ _ h => h) (Or.inl ⟨by rfl, by intro w hSw; go_simp; (try rw [if_pos hwi]); (try rfl)⟩) (by assumption) ?_; (try simp only [pQ]); refine wpAnyH_take (i := 2) (v := _) rfl (by kernel_rfl) (by kernel_rfl) (by kernel_rfl) (fun _ _ _ h => h) (Or.inl ⟨by rfl, by intro w hSw; go_simp; (try rw [if_pos hwi]); (try rfl)⟩) (by assumption) ?_; (try simp only [pQ]); refine wpAnyH_take (i := 3) (v := _) rfl (by kernel_rfl) (by kernel_rfl) (by kernel_rfl) (fun _ _ _ h => h) (yi_loadS (by rfl) (by rfl) (by kernel_rfl) (by rfl) (by first | exact fun w h => h.1 | exact fun w h => h.2.1 | exact fun w h => h.2.2)) (by assumption) ?_; (try simp only [pQ]); refine wpAnyH_take (i := 4) (v := _) rfl (by kernel_rfl) (by kernel_rfl) (by kernel_rfl) (fun _ _ _ h => h) (Or.inl ⟨by rfl, by intro w hSw; go_simp; (try rw [if_pos hwi]); (try rfl)⟩) (by assumption) ?_; (try simp only [pQ]); refine wpAnyH_take (i := 5) (v := _) rfl (by kernel_rfl) (by kernel_rfl) (by kernel_rfl) (fun _ _ _ h => h) (Or.inl ⟨by rfl, by intro w hSw; go_simp; (try rw [if_pos hwi]); (try rfl)⟩) (by assumption) ?_; (try simp only [pQ]); refine wpAnyH_take (i := 6) (v := _) rfl (by kernel_rfl) (by kernel_rfl) (by kernel_rfl) (fun _ _ _ h => h) (Or.inl ⟨by rfl, by intro w hSw; go_simp; (try rw [if_pos hwi]); (try rfl)⟩) (by assumption) ?_; (try simp only [pQ]); refine wpAnyH_take (i := 7) (v := _) rfl (by kernel_rfl) (by kernel_rfl) (by kernel_rfl) (fun _ _ _ h => h) (yi_loadS (by rfl) (by rfl) (by kernel_rfl) (by rfl) (by first | exact fun w h => h.1 | exact fun w h => h.2.1 | exact fun w h => h.2.2)) (by assumption) ?_; (try simp only [pQ]); refine wpAnyH_take (i := 8) (v := _) rfl (by kernel_rfl) (by kernel_rfl) (by kernel_rfl) (fun _ _ _ h => h) (Or.inl ⟨by rfl, by intro w hSw; go_simp; (try rw [if_pos hwi]); (try rfl)⟩) (by assumption) ?_; (try simp only [pQ]); refine wpAnyH_take (i := 9) (v := _) rfl (by kernel_rfl) (by kernel_rfl) (by kernel_rfl) (fun _ _ _ h => h) (Or.inl ⟨by rfl, by intro w hSw; go_simp; (try rw [if_pos hwi]); (try rfl)⟩) (by assumption) ?_; (try simp only [pQ]); refine wpAnyH_take (i := 10) (v := _) rfl (by kernel_rfl) (by kernel_rfl) (by kernel_rfl) (fun _ _ _ h => h) (yi_loadS (by rfl) (by rfl) (by kernel_rfl) (by rfl) (by first | exact fun w h => h.1 | exact fun w h => h.2.1 | exact fun w h => h.2.2)) (by assumption) ?_; (try simp only [pQ]); refine ry [11] ?_; refine rd1 fun K hK => ?_; go_simp; refine hK.out _ _ (HTK.out hC) fun hHeld => ?_; clear hK K; (try simp only [pQ]); refine dn ?_ _))
  clear hop hsl HTK h0 hwi
  rcases words w1 with rfl | rfl | rfl | rfl | rfl | rfl | rfl | rfl | rfl | ⟨h1, h2, h3, h4, h5, h6, h7, h8, h9⟩
  have HO : Hid ((some r).bind (creD R) = o) := (show (some r).bind (creD R) = wrdD R [99, 114, 101, 97, 116, 101] r from (rfl).symm).trans HW.out
  rotate_left
  have HO : Hid ((some r).bind (fun ts => ow [116, 97, 98, 108, 101] ts (fun r => bd (nameF r) fun s r2 => some (nd [100, 114, 111, 112, 32, 116, 97, 98, 108, 101] s [], r2)) ((needF [[105, 110, 100, 101, 120]] ts).bind fun r => bd (nameF r) fun s r2 => some (nd [100, 114, 111, 112, 32, 105, 110, 100, 101, 120] s [], r2))) = o) := (show (some r).bind (fun ts => ow [116, 97, 98, 108, 101] ts (fun r => bd (nameF r) fun s r2 => some (nd [100, 114, 111, 112, 32, 116, 97, 98, 108, 101] s [], r2)) ((needF [[105, 110, 100, 101, 120]] ts).bind fun r => bd (nameF r) fun s r2 => some (nd [100, 114, 111, 112, 32, 105, 110, 100, 101, 120] s [], r2))) = wrdD R [100, 114, 111, 112] r from (congrFun drpX_eq r).symm).trans HW.out
  rotate_left
  have HO : Hid ((some r).bind (insX R) = o) := (show (some r).bind (insX R) = wrdD R [105, 110, 115, 101, 114, 116] r from (congrFun (insX_eq R) r).symm).trans HW.out
  rotate_left
  have HO : Hid ((some r).bind (updX R) = o) := (show (some r).bind (updX R) = wrdD R [117, 112, 100, 97, 116, 101] r from (congrFun (updX_eq R hw) r).symm).trans HW.out
  rotate_left
  have HO : Hid ((some r).bind (fun ts => (needF [[102, 114, 111, 109]] ts).bind fun r => bd (nameF r) fun s r2 => bd (whoX R r2) fun wh r3 => some (nd [100, 101, 108, 101, 116, 101] s [wh], r3)) = o) := (show (some r).bind (fun ts => (needF [[102, 114, 111, 109]] ts).bind fun r => bd (nameF r) fun s r2 => bd (whoX R r2) fun wh r3 => some (nd [100, 101, 108, 101, 116, 101] s [wh], r3)) = wrdD R [100, 101, 108, 101, 116, 101] r from (congrFun (delX_eq R hw) r).symm).trans HW.out
  rotate_left
  have HO : Hid ((some r).bind (fun ts => some (nd [99, 111, 109, 109, 105, 116] [] [], ts)) = o) := (show (some r).bind (fun ts => some (nd [99, 111, 109, 109, 105, 116] [] [], ts)) = wrdD R [99, 111, 109, 109, 105, 116] r from (rfl).symm).trans HW.out
  rotate_left
  have HO : Hid ((some r).bind (fun ts => ow [116, 111] ts (fun ts => ow [115, 97, 118, 101, 112, 111, 105, 110, 116] ts (fun r => bd (nameF r) fun s r2 => some (nd [114, 111, 108, 108, 98, 97, 99, 107, 32, 116, 111] s [], r2)) (bd (nameF ts) fun s r2 => some (nd [114, 111, 108, 108, 98, 97, 99, 107, 32, 116, 111] s [], r2))) (some (nd [114, 111, 108, 108, 98, 97, 99, 107] [] [], ts))) = o) := (show (some r).bind (fun ts => ow [116, 111] ts (fun ts => ow [115, 97, 118, 101, 112, 111, 105, 110, 116] ts (fun r => bd (nameF r) fun s r2 => some (nd [114, 111, 108, 108, 98, 97, 99, 107, 32, 116, 111] s [], r2)) (bd (nameF ts) fun s r2 => some (nd [114, 111, 108, 108, 98, 97, 99, 107, 32, 116, 111] s [], r2))) (some (nd [114, 111, 108, 108, 98, 97, 99, 107] [] [], ts))) = wrdD R [114, 111, 108, 108, 98, 97, 99, 107] r from (congrFun rolX_eq r).symm).trans HW.out
  rotate_left
  have HO : Hid ((some r).bind (fun ts => bd (nameF ts) fun s r2 => some (nd [115, 97, 118, 101, 112, 111, 105, 110, 116] s [], r2)) = o) := (show (some r).bind (fun ts => bd (nameF ts) fun s r2 => some (nd [115, 97, 118, 101, 112, 111, 105, 110, 116] s [], r2)) = wrdD R [115, 97, 118, 101, 112, 111, 105, 110, 116] r from (congrFun (nmd_x [115, 97, 118, 101, 112, 111, 105, 110, 116]) r).symm).trans HW.out
  rotate_left
  have HO : Hid ((some r).bind (fun ts => ow [115, 97, 118, 101, 112, 111, 105, 110, 116] ts (fun r => bd (nameF r) fun s r2 => some (nd [114, 101, 108, 101, 97, 115, 101] s [], r2)) (bd (nameF ts) fun s r2 => some (nd [114, 101, 108, 101, 97, 115, 101] s [], r2))) = o) := (show (some r).bind (fun ts => ow [115, 97, 118, 101, 112, 111, 105, 110, 116] ts (fun r => bd (nameF r) fun s r2 => some (nd [114, 101, 108, 101, 97, 115, 101] s [], r2)) (bd (nameF ts) fun s r2 => some (nd [114, 101, 108, 101, 97, 115, 101] s [], r2))) = wrdD R [114, 101, 108, 101, 97, 115, 101] r from (congrFun (savX_eq [114, 101, 108, 101, 97, 115, 101]) r).symm).trans HW.out
  rotate_left
  have HO : Hid ((some r).bind (morD R w1) = o) := by
    rw [← HW.out]
    show _ = _
    unfold wrdD
    simp only [h1, h2, h3, h4, h5, h6, h7, h8, h9, Bool.false_eq_true, if_false]
    rfl
  rotate_left
  all_goals
    go_wp2_with (first
    | refine bL ?_
    | (refine bA ?_; clear hC; intro W k hC)
    | (refine bS ?_; clear hC; intro W hC)
    | (go_at_call 32; refine useRN (q_rcreate2 RC hg hC (by omega)) ?_; clear hC; intro t st2 W ao cap he hC; replace HO := hidk ((bindAll HO.out he)); clear he)
    | (go_at_call 36; refine useRN (q_rinsert RC hg hC (by omega) (by omega)) ?_; clear hC; intro t st2 W ao cap he hC; replace HO := hidk ((bindAll HO.out he)); clear he)
    | (go_at_call 37; refine useRN (q_rupdate RC hg hC (by omega)) ?_; clear hC; intro t st2 W ao cap he hC; replace HO := hidk ((bindAll HO.out he)); clear he)
    | (go_at_call 39; refine useRN (q_rmore (R := R) (n := n - 1) (fun hC hn => q_rdeclare2 RC hg hC (by omega)) (decD_Len RC.len) (fun hC hn => q_rfetch hg hC) fetF_Len w1 hg hC (by omega)) ?_; clear hC; intro t st2 W ao cap he hC; replace HO := hidk ((bindAll HO.out he)); clear he)
    | (go_at_call 15; refine aGot ?_ ?_ <;> clear hC HO; (focus (intro ts r W hC e hl HO; first | (cases e; done) | cases e)); rotate_left; (focus (intro hC HO)); rotate_left)
    | (go_at_call 35; refine aMust ?_; clear hC HO; intro st2 W hC hl HO)
    | (go_at_call 34; refine aName ?_; clear hC HO; intro s st2 W hC hl HO)
    | (go_at_call 38; refine useRN (q_rwhose RC hg hC (by omega)) ?_; clear hC; intro t st2 W ao cap he hC; replace HO := hidk (bindN he HO.out); clear he)
    | (go_at_call 33; guard_target = Calls _ _ #[_, _, _, Value.slice none 0 0] _ _; (first | refine useRD (q_rnode0 hC _ _ _) ?_); clear hC; intro W ao cap hC)
    | (go_at_call 33; guard_target = Calls _ _ #[_, _, _, Value.slice (some _) 1 1] _ _; refine m5 ?_; clear hC; intro W ao cap hC))
  all_goals (refine hC.rc ?_; first | exact endRN HO (hC.fin mSub mMem mL) | exact endR0 HO (hC.fin mSub mMem mL))
end Go.Proofs.YtaenpacfbheppaaGreatDoor

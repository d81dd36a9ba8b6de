/- The program's parser: operands (walks by genp.py). The program's parser: operands (walks by genp.py). The program's parser: sums (walks by genp.py). The program's parser: tests (walks by genp.py). The program's parser: tests (walks by genp.py). -/
import Derived.Test.YtaenpacfbheppaaGreatDoorM14C
set_option maxHeartbeats 16000000
set_option maxRecDepth 100000
set_option linter.unusedVariables false
set_option linter.unusedSimpArgs false
namespace Go.Proofs.YtaenpacfbheppaaGreatDoor
open Go.RowKit
theorem lsF_Len {I : Ps Tr} (hI : Len I) : Len (lsF I) := fun _ _ _ h => lsF_len hI h
theorem q_wop {E : Env} {B : Nat} {w0 w : World} {ts : List Tok} {H : List Bx} {L : List Tn} {R : Rc} {n : Nat} (RC : Ct R n) (hn : ts.length < n) (hC : Cx E B w0 w (.p ts) H L) :
    Calls Tryz.prog 208 #[.pointer (some ⟨E.b, 0, none⟩)] w ((oN (wopF R ts)).P E B w0 H L) := by
  obtain ⟨o, ho⟩ : ∃ o, wopF R ts = o := ⟨_, rfl⟩
  rw [ho]
  unfold wopF at ho
  have HO := hidk ho
  clear ho
  go_enter Tryz.func208, Tryz.ntmps208
  go_wp2_with (first
  | (refine bA ?_; clear hC; intro W k hC)
  | (refine m0 ?_; clear hC; intro W hC; simp only [pS] at hC; (try simp only [pP]))
  | ((first | refine hC.bP ?_ | refine hC.bN ?_ | refine hC.b1 ?_); clear hC; intro W k hC; (try simp only [pP]))
  | refine bL ?_
  | (refine bS ?_; clear hC; intro W hC)
  | (go_at_call 50; have hD := hC; clear hC; (first | guard_target = Calls _ _ #[_, Value.slice (some _) 1 1] _ _; refine useB (q_took1 _ hD) ?_ ?_ | guard_target = Calls _ _ #[_, Value.slice (some _) 4 4] _ _; refine useB (q_took4 _ _ _ _ hD) ?_ ?_); (focus (intro hb W hC; clear hD; (try simp only [hb, reduceIte, pB] at HO); (try have hl := tkR_ls hb (by simp)); clear hb)); rotate_left; (focus (intro hb W hC; clear hD; (try simp only [tkR_no hb] at HO hC); (try simp only [hb, reduceIte, pB] at HO); clear hb)))
  | (go_at_call 62; have hD := hC; clear hC; (first | guard_target = Calls _ _ #[_, _, Value.slice (some _) 1 1] _ _; refine useO (q_one1 _ _ hD) ?_ ?_ | guard_target = Calls _ _ #[_, _, Value.slice (some _) 4 4] _ _; refine useO (q_one4 _ _ _ _ _ hD) ?_ ?_); (focus (intro hF W hC; clear hD; (try simp only [hF, Option.isSome_none, Bool.false_eq_true, Bool.and_false, reduceIte] at HO); clear hF)); rotate_left; (focus (intro x r hF W hC; clear hD; (try simp only [hF, Option.isSome_some, Bool.and_true, reduceIte] at HO); have hl := oneF_le hF; clear hF)))
  | (go_at_call 119; (first | (guard_target = Calls _ _ #[_, Value.func (Go.Fn.func 91) _ _] _ _; have hD := hC; clear hC; refine useN (q_parN (I := R.body) (m := n - 1) ent_body (fun hs hE hl => RC.body hE (by omega)) (by omega) hD) ?_ ?_; (· intro hF W hM; clear hD; (try simp only [hF] at HO); exact ⟨rfl, stopN HO hM⟩); intro t r hF W ao cap hC; clear hD; (try simp only [hF] at HO); have hl := parF_len (RC.len.body) hF; clear hF) | (guard_target = Calls _ _ #[_, Value.func (Go.Fn.func 210) _ _] _ _; have hD := hC; clear hC; refine useN (q_parN (I := castF R) (m := n - 1) ent_cast (fun hs hE hl => q_cast RC (by omega) hE) (by omega) hD) ?_ ?_; (· intro hF W hM; clear hD; (try simp only [hF] at HO); exact ⟨rfl, stopN HO hM⟩); intro t r hF W ao cap hC; clear hD; (try simp only [hF] at HO); have hl := parF_len (castF_Len RC.len) hF; clear hF) | (guard_target = Calls _ _ #[_, Value.func (Go.Fn.func 211) _ _] _ _; have hD := hC; clear hC; refine useN (q_parN (I := nullifF R) (m := n - 1) ent_nullif (fun hs hE hl => q_nullif RC (by omega) hE) (by omega) hD) ?_ ?_; (· intro hF W hM; clear hD; (try simp only [hF] at HO); exact ⟨rfl, stopN HO hM⟩); intro t r hF W ao cap hC; clear hD; (try simp only [hF] at HO); have hl := parF_len (nullifF_Len RC.len) hF; clear hF) | (guard_target = Calls _ _ #[_, Value.func (Go.Fn.func 212) _ _] _ _; have hD := hC; clear hC; refine useN (q_parN (I := totF R x) (m := n - 1) ent_wordOperand1 (fun hs hE hl => q_wop1 RC x (hs.subset mMem) (hs.subset mMem) (by omega) hE) (by omega) hD) ?_ ?_; (· intro hF W hM; clear hD; (try simp only [hF] at HO); exact ⟨rfl, stopN HO hM⟩); intro t r hF W ao cap hC; clear hD; (try simp only [hF] at HO); have hl := parF_len (totF_Len RC.len x) hF; clear hF)))
  | (go_at_call 53; (first | (guard_target = Calls _ _ #[_, Value.func (Go.Fn.func 120) _ _] _ _; have hD := hC; clear hC; refine useL (q_lip (I := R.expr) (m := n - 1) ent_expr (fun hs hE hl => RC.expr hE (by omega)) (by omega) (RC.len.expr) hD) ?_ ?_; (· intro hF W hM; clear hD; (try simp only [hF] at HO); exact ⟨rfl, stopN HO hM⟩); intro l r hF W ao cap hC; clear hD; (try simp only [hF] at HO); have hl := parF_len (lsF_Len (RC.len.expr)) hF; clear hF)))
  | (go_at_call 209; have hD := hC; clear hC; (first | refine useN (q_caseOf RC (by omega) hD) ?_ ?_); (· intro hF W hM; clear hD; (try simp only [hF] at HO); exact ⟨rfl, stopN HO hM⟩); intro t r hF W ao cap hC; clear hD; (try simp only [hF] at HO); have hl := caseF_Len RC.len _ _ _ hF; clear hF)
  | (go_at_call 163; have hD := hC; clear hC; (first | refine useN (q_column hD) ?_ ?_); (· intro hF W hM; clear hD; (try simp only [hF] at HO); exact ⟨rfl, stopN HO hM⟩); intro t r hF W ao cap hC; clear hD; (try simp only [hF] at HO); have hl := colF_len hF; clear hF)
  | (go_at_call 51; guard_target = Calls _ _ #[_, _, Value.slice none 0 0] _ _; (first | refine useDx (q_node0 _ _ hC) ?_); clear hC; intro W hC)
  | (go_at_call 51; guard_target = Calls _ _ #[_, _, Value.slice (some _) 1 1] _ _; refine m1 ?_; clear hC; intro W hC)
  | (go_at_call 51; have hD := hC; clear hC; refine m4 ?_; intro W hC; clear hD))
  all_goals first | exact ⟨rfl, stopN HO hC.mv⟩ | exact eM1
end Go.Proofs.YtaenpacfbheppaaGreatDoor

namespace Go.Proofs.YtaenpacfbheppaaGreatDoor
open Go.RowKit
theorem q_opr {E : Env} {B : Nat} {w0 w : World} {ts : List Tok} {H : List Bx} {L : List Tn} {R : Rc} {n : Nat} (RC : Ct R n) (hn : ts.length < n) (hC : Cx E B w0 w (.p ts) H L) :
    Calls Tryz.prog 206 #[.pointer (some ⟨E.b, 0, none⟩)] w ((oN (oprF R ts)).P E B w0 H L) := by
  obtain ⟨o, ho⟩ : ∃ o, oprF R ts = o := ⟨_, rfl⟩
  rw [ho]
  have h6 := hC.ok.len
  cases ts with
  | nil =>
    unfold oprF at ho
    have HO := hidk ho
    clear ho
    go_enter Tryz.func206, Tryz.ntmps206
    go_wp2_with (first
    | (refine bA ?_; clear hC; intro W k hC)
    | (refine m0 ?_; clear hC; intro W hC; simp only [pS] at hC; (try simp only [pP]))
    | ((first | refine hC.bP ?_ | refine hC.bN ?_ | refine hC.b1 ?_); clear hC; intro W k hC; (try simp only [pP]))
    | refine bL ?_
    | (refine bS ?_; clear hC; intro W hC)
    | (refine bA ?_; clear hC; intro W k hC))
    obtain ⟨i0, ao, cap, hi0, hts, hpc⟩ := hC.pc
    obtain ⟨hv, c0, c1, fz, hcap⟩ := hpc
    obtain rfl := drop_nil hi0 hts
    go_quiet (fail)
    rename Nat => nq
    have hD := hC.keepB (w' := World.drewN _ nq) ⟨rfl, rfl, rfl, Nat.le_refl _, fun _ _ => rfl⟩
    go_wp2_with fail
    exact ⟨rfl, stopN HO hD.mv⟩
  | cons t r =>
    have hnum : t.k == 1 → numF (t :: r) = some (t.n, r) := fun h => by simp [numF, takF, h]
    have htak : t.k == 2 → takF 2 (t :: r) = some (t, r) := fun h => by simp [takF, h]
    have HNM := hidk hnum
    have HTK := hidk htak
    have hln : (t :: r).length = r.length + 1 := rfl
    unfold oprF at ho
    have HO := hidk ho
    clear ho hnum htak
    go_enter Tryz.func206, Tryz.ntmps206
    go_wp2_with (first
    | (refine bA ?_; clear hC; intro W k hC)
    | (refine m0 ?_; clear hC; intro W hC; simp only [pS] at hC; (try simp only [pP]))
    | ((first | refine hC.bP ?_ | refine hC.bN ?_ | refine hC.b1 ?_); clear hC; intro W k hC; (try simp only [pP]))
    | refine bL ?_
    | (refine bS ?_; clear hC; intro W hC)
    | (refine bA ?_; clear hC; intro W k hC))
    obtain ⟨i0, ao, cap, hi0, hts, hpc⟩ := hC.pc
    obtain ⟨hv, c0, c1, fz, hcap⟩ := hpc
    obtain ⟨hlt, ht, hr⟩ := drop_cons hts
    obtain ⟨g, cap', hv', hcap', t0, t1, t2, t3⟩ := hC.tok (ts := t :: r) hlt
    rw [ht] at t0 t1 t2 t3
    rw [hv] at hv'
    cases hv'
    have hgz := (hC.st.row.lo g (by rw [hv]; rfl)).2
    have hgb : g ≠ E.b := fun e => hC.ok.own (by rw [hv, ← e]; rfl)
    have hbz := hC.st.lt
    have hne : ((i0 : Int) == (E.l.length : Int)) = false := by rw [beq_eq_false_iff_ne]; omega
    have tlt : (i0 : Int) < (E.l.length : Int) := by omega
    have tge : (0 : Int) ≤ (i0 : Int) := by omega
    have HC := hidk hC
    clear hv hts ht hr hlt
    rename World => wz
    have HAF : Hid (∀ W, Below wz.heap.size wz W → W.cell? ⟨E.b, 0, none⟩ = some (.slice (some ⟨g, 0, none⟩) E.l.length cap) ∧ W.cell? ⟨E.b, 1, none⟩ = some (.int .i64 i0) ∧ W.cell? ⟨g, i0 * 4, none⟩ = some (.int .i64 t.k) ∧ W.cell? ⟨g, i0 * 4 + 1, none⟩ = some (.string ⟨t.s.toArray⟩) ∧ W.cell? ⟨g, i0 * 4 + 2, none⟩ = some (.int .i64 t.n) ∧ W.cell? ⟨g, i0 * 4 + 3, none⟩ = some (.int .i64 t.at_) ∧ W.heap.size ≠ E.b ∧ W.heap.size ≠ g ∧ E.b < W.heap.size ∧ g < W.heap.size) := fun W hb =>
      ⟨(hb.cell (p := ⟨E.b, 0, none⟩) hbz).trans c0, (hb.cell (p := ⟨E.b, 1, none⟩) hbz).trans c1, (hb.cell (p := ⟨g, i0 * 4, none⟩) hgz).trans t0, (hb.cell (p := ⟨g, i0 * 4 + 1, none⟩) hgz).trans t1, (hb.cell (p := ⟨g, i0 * 4 + 2, none⟩) hgz).trans t2, (hb.cell (p := ⟨g, i0 * 4 + 3, none⟩) hgz).trans t3, by have := hb.size; omega, by have := hb.size; omega, by have := hb.size; omega, by have := hb.size; omega⟩
    go_quiet (fail)
    rename Nat => nq
    have hD := hC.keepB (w' := wz.drewN nq) ⟨rfl, rfl, rfl, Nat.le_refl _, fun _ _ => rfl⟩
    have hb1 : Below wz.heap.size wz (wz.drewN nq) := ⟨rfl, rfl, rfl, Nat.le_refl _, fun _ _ => rfl⟩
    clear c0 c1 fz t0 t1 t2 t3 hC HC
    generalize wz.drewN nq = w1 at *
    obtain ⟨c0, c1, t0, t1, t2, t3, e1, e2, e3, e4⟩ := HAF.out _ hb1
    have HC := hidk (fun cs T => (hD.alloc cs T).drew)
    clear hD HAF hb1
    go_wp2_with fail
    go_region
    all_goals
      have hC := HC.out [.int .i64 t.k, .string ⟨t.s.toArray⟩, .int .i64 t.n, .int .i64 t.at_] 52
      clear c0 c1 t0 t1 t2 t3 HC e1 e2 e3 e4 hne tlt tge hgb hbz hgz hcap hcap' hi0
      generalize (w1.alloc _).drew = w2 at *
      generalize w1.heap.size = kt at *
      cases h1 : t.k == 1 with
      | true =>
        have hnum := HNM.out h1
        simp only [h1, reduceIte] at HO
        go_wp2_with (first
        | (refine bA ?_; clear hC; intro W k hC)
        | (refine m0 ?_; clear hC; intro W hC; simp only [pS] at hC; (try simp only [pP]))
        | ((first | refine hC.bP ?_ | refine hC.bN ?_ | refine hC.b1 ?_); clear hC; intro W k hC; (try simp only [pP]))
        | refine bL ?_
        | (refine bS ?_; clear hC; intro W hC)
        | (go_at_call 143; have hD := hC; clear hC; have hq := q_number hD; rw [hnum] at hq; refine useI hq (fun h => by cases h) ?_; intro n1 r1 hF W hC; obtain ⟨rfl, rfl⟩ := Prod.mk.inj (Option.some.inj hF); clear hq hF hD))
        first | exact ⟨rfl, stopN HO hC.mv⟩ | (refine hC.rc ?_; first | (refine endN HO (hC.fin ?_ ?_ ?_); (repeat (first | exact List.Sublist.refl _ | apply List.Sublist.cons)); (repeat (first | exact List.mem_cons_self | apply List.mem_cons_of_mem)); intro y hy; (repeat (first | exact hy | apply List.mem_cons_of_mem)); done) | (refine endN HO ((hC.leaf _ _ _).fin ?_ (.head _) ?_); (repeat (first | exact List.Sublist.refl _ | apply List.Sublist.cons)); intro y hy; (repeat (first | exact hy | apply List.mem_cons_of_mem)); done) | (refine endN HO ((hC.tree1 _ _ _ (.head _)).fin ?_ (.head _) ?_); (repeat (first | exact List.Sublist.refl _ | apply List.Sublist.cons)); intro y hy; (repeat (first | exact hy | apply List.mem_cons_of_mem)); done) | (refine endN HO ((hC.tree2 _ _ _ (.tail _ (.head _)) (.head _)).fin ?_ (.head _) ?_); (repeat (first | exact List.Sublist.refl _ | apply List.Sublist.cons)); intro y hy; (repeat (first | exact hy | apply List.mem_cons_of_mem)); done))
      | false =>
        cases h2 : t.k == 2 with
        | true =>
          have htak := HTK.out h2
          have hfd := field_s
          simp only [h1, h2, reduceIte, Bool.false_eq_true] at HO
          go_wp2_with (first
          | (refine bA ?_; clear hC; intro W k hC)
          | (refine m0 ?_; clear hC; intro W hC; simp only [pS] at hC; (try simp only [pP]))
          | ((first | refine hC.bP ?_ | refine hC.bN ?_ | refine hC.b1 ?_); clear hC; intro W k hC; (try simp only [pP]))
          | refine bL ?_
          | (refine bS ?_; clear hC; intro W hC)
          | (go_at_call 80; have hD := hC; clear hC; have hq := q_take hD 2; rw [htak] at hq; refine useT hq (fun h => by cases h) ?_; intro t1 r1 hF W hC; obtain ⟨rfl, rfl⟩ := Prod.mk.inj (Option.some.inj hF); clear hq hF hD)
          | (go_at_call 51; guard_target = Calls _ _ #[_, _, Value.slice none 0 0] _ _; (first | refine useDx (q_node0 _ _ hC) ?_); clear hC; intro W hC)
          | (go_at_call 51; guard_target = Calls _ _ #[_, _, Value.slice (some _) 1 1] _ _; refine m1 ?_; clear hC; intro W hC)
          | (go_at_call 51; guard_target = Calls _ _ #[_, _, Value.slice (some _) 2 2] _ _; refine m2 ?_; clear hC; intro W hC)
          | (go_at_call 51; guard_target = Calls _ _ #[_, _, Value.slice (some _) 3 3] _ _; refine m3 ?_; clear hC; intro W hC)
          | (go_at_call 51; have hD := hC; clear hC; refine m4 ?_; intro W hC; clear hD))
          first | exact ⟨rfl, stopN HO hC.mv⟩ | (refine hC.rc ?_; first | (refine endN HO (hC.fin ?_ ?_ ?_); (repeat (first | exact List.Sublist.refl _ | apply List.Sublist.cons)); (repeat (first | exact List.mem_cons_self | apply List.mem_cons_of_mem)); intro y hy; (repeat (first | exact hy | apply List.mem_cons_of_mem)); done) | (refine endN HO ((hC.leaf _ _ _).fin ?_ (.head _) ?_); (repeat (first | exact List.Sublist.refl _ | apply List.Sublist.cons)); intro y hy; (repeat (first | exact hy | apply List.mem_cons_of_mem)); done) | (refine endN HO ((hC.tree1 _ _ _ (.head _)).fin ?_ (.head _) ?_); (repeat (first | exact List.Sublist.refl _ | apply List.Sublist.cons)); intro y hy; (repeat (first | exact hy | apply List.mem_cons_of_mem)); done) | (refine endN HO ((hC.tree2 _ _ _ (.tail _ (.head _)) (.head _)).fin ?_ (.head _) ?_); (repeat (first | exact List.Sublist.refl _ | apply List.Sublist.cons)); intro y hy; (repeat (first | exact hy | apply List.mem_cons_of_mem)); done))
        | false =>
          cases h3 : t.k == 3 with
          | true =>
            simp only [h1, h2, h3, reduceIte, Bool.false_eq_true] at HO
            go_wp2_with (first
            | (refine bA ?_; clear hC; intro W k hC)
            | (refine m0 ?_; clear hC; intro W hC; simp only [pS] at hC; (try simp only [pP]))
            | ((first | refine hC.bP ?_ | refine hC.bN ?_ | refine hC.b1 ?_); clear hC; intro W k hC; (try simp only [pP]))
            | refine bL ?_
            | (refine bS ?_; clear hC; intro W hC)
            | (go_at_call 89; have hD := hC; clear hC; refine useB (q_opens hD) ?_ ?_; (focus (intro hb W hC; clear hD; (try simp only [hb, reduceIte, Bool.not_true, Bool.and_false, Bool.false_eq_true] at HO); clear hb)); rotate_left; (focus (intro hb W hC; clear hD; (try simp only [hb, reduceIte, Bool.not_false, Bool.and_true, Bool.false_eq_true] at HO); clear hb)))
            | (go_at_call 119; (first | (guard_target = Calls _ _ #[_, Value.func (Go.Fn.func 91) _ _] _ _; have hD := hC; clear hC; refine useN (q_parN (I := R.body) (m := n - 1) ent_body (fun hs hE hl => RC.body hE (by omega)) (by omega) hD) ?_ ?_; (· intro hF W hM; clear hD; (try simp only [hF] at HO); exact ⟨rfl, stopN HO hM⟩); intro t r hF W ao cap hC; clear hD; (try simp only [hF] at HO); have hl := parF_len (RC.len.body) hF; clear hF) | (guard_target = Calls _ _ #[_, Value.func (Go.Fn.func 120) _ _] _ _; have hD := hC; clear hC; refine useN (q_parN (I := R.expr) (m := n - 1) ent_expr (fun hs hE hl => RC.expr hE (by omega)) (by omega) hD) ?_ ?_; (· intro hF W hM; clear hD; (try simp only [hF] at HO); exact ⟨rfl, stopN HO hM⟩); intro t r hF W ao cap hC; clear hD; (try simp only [hF] at HO); have hl := parF_len (RC.len.expr) hF; clear hF)))
            | (go_at_call 51; guard_target = Calls _ _ #[_, _, Value.slice none 0 0] _ _; (first | refine useDx (q_node0 _ _ hC) ?_); clear hC; intro W hC)
            | (go_at_call 51; guard_target = Calls _ _ #[_, _, Value.slice (some _) 1 1] _ _; refine m1 ?_; clear hC; intro W hC)
            | (go_at_call 51; guard_target = Calls _ _ #[_, _, Value.slice (some _) 2 2] _ _; refine m2 ?_; clear hC; intro W hC)
            | (go_at_call 51; guard_target = Calls _ _ #[_, _, Value.slice (some _) 3 3] _ _; refine m3 ?_; clear hC; intro W hC)
            | (go_at_call 51; have hD := hC; clear hC; refine m4 ?_; intro W hC; clear hD))
            all_goals first | exact ⟨rfl, stopN HO hC.mv⟩ | exact eM1
          | false =>
            simp only [h1, h2, h3, reduceIte, Bool.false_eq_true] at HO
            go_wp2_with (first
            | (refine bA ?_; clear hC; intro W k hC)
            | (refine m0 ?_; clear hC; intro W hC; simp only [pS] at hC; (try simp only [pP]))
            | ((first | refine hC.bP ?_ | refine hC.bN ?_ | refine hC.b1 ?_); clear hC; intro W k hC; (try simp only [pP]))
            | refine bL ?_
            | (refine bS ?_; clear hC; intro W hC)
            | (go_at_call 208; have hD := hC; clear hC; (first | refine useN (q_wop RC hn hD) ?_ ?_); (· intro hF W hM; clear hD; (try simp only [hF] at HO); exact ⟨rfl, stopN HO hM⟩); intro t r hF W ao cap hC; clear hD; (try simp only [hF] at HO); clear hF))
            first | exact ⟨rfl, stopN HO hC.mv⟩ | (refine hC.rc ?_; first | (refine endN HO (hC.fin ?_ ?_ ?_); (repeat (first | exact List.Sublist.refl _ | apply List.Sublist.cons)); (repeat (first | exact List.mem_cons_self | apply List.mem_cons_of_mem)); intro y hy; (repeat (first | exact hy | apply List.mem_cons_of_mem)); done) | (refine endN HO ((hC.leaf _ _ _).fin ?_ (.head _) ?_); (repeat (first | exact List.Sublist.refl _ | apply List.Sublist.cons)); intro y hy; (repeat (first | exact hy | apply List.mem_cons_of_mem)); done) | (refine endN HO ((hC.tree1 _ _ _ (.head _)).fin ?_ (.head _) ?_); (repeat (first | exact List.Sublist.refl _ | apply List.Sublist.cons)); intro y hy; (repeat (first | exact hy | apply List.mem_cons_of_mem)); done) | (refine endN HO ((hC.tree2 _ _ _ (.tail _ (.head _)) (.head _)).fin ?_ (.head _) ?_); (repeat (first | exact List.Sublist.refl _ | apply List.Sublist.cons)); intro y hy; (repeat (first | exact hy | apply List.mem_cons_of_mem)); done))
end Go.Proofs.YtaenpacfbheppaaGreatDoor

namespace Go.Proofs.YtaenpacfbheppaaGreatDoor
open Go.RowKit
theorem q_sgl2 {E : Env} {B : Nat} {w0 w : World} {ts : List Tok} {H : List Bx} {L : List Tn} {kb : Nat} (u1 u2 : List UInt8) (hC : Cx E B w0 w (.p ts) ((kb, [.string ⟨u1.toArray⟩, .string ⟨u2.toArray⟩], 9) :: H) L) :
    Calls Tryz.prog 193 #[.pointer (some ⟨E.b, 0, none⟩), .slice (some ⟨kb, 0, none⟩) 2 2] w (LkP E B w0 H L ts (sgLk [u1, u2] ts)) := by
  obtain ⟨o, ho⟩ : ∃ o, sgLk [u1, u2] ts = o := ⟨_, rfl⟩
  rw [ho]
  unfold sgLk at ho
  have HO := hidk ho
  clear ho
  go_enter Tryz.func193, Tryz.ntmps193
  go_wp2_with (first
  | (refine bA ?_; clear hC; intro W k hC)
  | (refine bS ?_; clear hC; intro W hC)
  | (go_at_call 62; have hD := hC; clear hC; (first | guard_target = Calls _ _ #[_, _, Value.slice (some _) 2 2] _ _; refine useO (q_one2 _ _ _ (hD.perm (.swap _ _ _))) ?_ ?_); (focus (intro hF W hC; clear hD; (try simp only [hF, Option.isSome_none, Bool.false_eq_true, Bool.and_false, reduceIte] at HO); clear hF)); rotate_left; (focus (intro x r hF W hC; clear hD; (try simp only [hF, Option.isSome_some, Bool.and_true, reduceIte] at HO); have hl := oneF_le hF; clear hF)))
  | (go_at_call 51; guard_target = Calls _ _ #[_, _, Value.slice none 0 0] _ _; (first | refine useDx (q_node0 _ _ hC) ?_); clear hC; intro W hC)
  | (go_at_call 51; have hD := hC; clear hC; refine m4 ?_; intro W hC; clear hD))
  all_goals (refine hC.rcB ?_; first | exact endK0 HO (hC.fin0 mSub mL) | exact endK1 HO (hC.fin0 mSub mL))
theorem q_sgl3 {E : Env} {B : Nat} {w0 w : World} {ts : List Tok} {H : List Bx} {L : List Tn} {kb : Nat} (u1 u2 u3 : List UInt8) (hC : Cx E B w0 w (.p ts) ((kb, [.string ⟨u1.toArray⟩, .string ⟨u2.toArray⟩, .string ⟨u3.toArray⟩], 9) :: H) L) :
    Calls Tryz.prog 193 #[.pointer (some ⟨E.b, 0, none⟩), .slice (some ⟨kb, 0, none⟩) 3 3] w (LkP E B w0 H L ts (sgLk [u1, u2, u3] ts)) := by
  obtain ⟨o, ho⟩ : ∃ o, sgLk [u1, u2, u3] ts = o := ⟨_, rfl⟩
  rw [ho]
  unfold sgLk at ho
  have HO := hidk ho
  clear ho
  go_enter Tryz.func193, Tryz.ntmps193
  go_wp2_with (first
  | (refine bA ?_; clear hC; intro W k hC)
  | (refine bS ?_; clear hC; intro W hC)
  | (go_at_call 62; have hD := hC; clear hC; (first | guard_target = Calls _ _ #[_, _, Value.slice (some _) 3 3] _ _; refine useO (q_one3 _ _ _ _ (hD.perm (.swap _ _ _))) ?_ ?_); (focus (intro hF W hC; clear hD; (try simp only [hF, Option.isSome_none, Bool.false_eq_true, Bool.and_false, reduceIte] at HO); clear hF)); rotate_left; (focus (intro x r hF W hC; clear hD; (try simp only [hF, Option.isSome_some, Bool.and_true, reduceIte] at HO); have hl := oneF_le hF; clear hF)))
  | (go_at_call 51; guard_target = Calls _ _ #[_, _, Value.slice none 0 0] _ _; (first | refine useDx (q_node0 _ _ hC) ?_); clear hC; intro W hC)
  | (go_at_call 51; have hD := hC; clear hC; refine m4 ?_; intro W hC; clear hD))
  all_goals (refine hC.rcB ?_; first | exact endK0 HO (hC.fin0 mSub mL) | exact endK1 HO (hC.fin0 mSub mL))
theorem q_product1 {E : Env} {B : Nat} {w0 w : World} {ts : List Tok} {H : List Bx} {L : List Tn} {kp : Nat} (hp : (kp, [.pointer (some ⟨E.b, 0, none⟩)], 38) ∈ H) (hC : Cx E B w0 w (.p ts) H L) :
    Calls Tryz.prog 201 #[.pointer (some ⟨kp, 0, none⟩)] w (LkP E B w0 H L ts (sgLk [[42], [47]] ts)) := by
  obtain ⟨o, ho⟩ : ∃ o, sgLk [[42], [47]] ts = o := ⟨_, rfl⟩
  rw [ho]
  have HO := hidk ho
  clear ho
  go_enter Tryz.func201, Tryz.ntmps201
  go_wp2_with (first
  | (refine bA ?_; clear hC; intro W k hC)
  | refine bL ?_
  | (refine bS ?_; clear hC; intro W hC)
  | (go_at_call 193; have hD := hC; clear hC; (first | refine useK (q_sgl2 _ _ hD) ?_ ?_); (focus (intro hF op1 s1 n1 W hC; clear hD; (try simp only [hF] at HO); clear hF)); rotate_left; (focus (intro op1 n1 r hF W hC; clear hD; (try simp only [hF] at HO); clear hF))))
  all_goals (refine hC.rcB ?_; first | exact endK0 HO (hC.fin0 mSub mL) | exact endK1 HO (hC.fin0 mSub mL))
theorem q_sum1 {E : Env} {B : Nat} {w0 w : World} {ts : List Tok} {H : List Bx} {L : List Tn} {kp : Nat} (hp : (kp, [.pointer (some ⟨E.b, 0, none⟩)], 38) ∈ H) (hC : Cx E B w0 w (.p ts) H L) :
    Calls Tryz.prog 192 #[.pointer (some ⟨kp, 0, none⟩)] w (LkP E B w0 H L ts (sgLk [[43], [45], [124, 124]] ts)) := by
  obtain ⟨o, ho⟩ : ∃ o, sgLk [[43], [45], [124, 124]] ts = o := ⟨_, rfl⟩
  rw [ho]
  have HO := hidk ho
  clear ho
  go_enter Tryz.func192, Tryz.ntmps192
  go_wp2_with (first
  | (refine bA ?_; clear hC; intro W k hC)
  | refine bL ?_
  | (refine bS ?_; clear hC; intro W hC)
  | (go_at_call 193; have hD := hC; clear hC; (first | refine useK (q_sgl3 _ _ _ hD) ?_ ?_); (focus (intro hF op1 s1 n1 W hC; clear hD; (try simp only [hF] at HO); clear hF)); rotate_left; (focus (intro op1 n1 r hF W hC; clear hD; (try simp only [hF] at HO); clear hF))))
  all_goals (refine hC.rcB ?_; first | exact endK0 HO (hC.fin0 mSub mL) | exact endK1 HO (hC.fin0 mSub mL))
theorem q_fac {E : Env} {B : Nat} {w0 w : World} {ts : List Tok} {H : List Bx} {L : List Tn} {R : Rc} {n : Nat} (RC : Ct R n) (hn : ts.length < n) (hC : Cx E B w0 w (.p ts) H L) :
    Calls Tryz.prog 200 #[.pointer (some ⟨E.b, 0, none⟩)] w ((oN (facF R ts)).P E B w0 H L) := by
  obtain ⟨o, ho⟩ : ∃ o, facF R ts = o := ⟨_, rfl⟩
  rw [ho]
  unfold facF at ho
  have HO := hidk ho
  clear ho
  go_enter Tryz.func200, Tryz.ntmps200
  go_wp2_with (first
  | (refine bA ?_; clear hC; intro W k hC)
  | (refine bS ?_; clear hC; intro W hC)
  | (go_at_call 21; have hD := hC; clear hC; refine useG (q_tookSign _ hD) ?_ ?_; (focus (intro hF W hC; clear hD; (try simp only [hF, Option.isSome_none, Bool.false_eq_true, Bool.and_false, reduceIte] at HO); clear hF)); rotate_left; (focus (intro x r hF W hC; clear hD; (try simp only [hF, Option.isSome_some, Bool.and_true, reduceIte] at HO); have hl := oneF_le hF; clear hF)))
  | (go_at_call 200; have hD := hC; clear hC; (first | refine useN (RC.fac hD (by omega)) ?_ ?_); (· intro hF W hM; clear hD; (try simp only [hF] at HO); exact ⟨rfl, stopN HO hM⟩); intro t r hF W ao cap hC; clear hD; (try simp only [hF] at HO); clear hF)
  | (go_at_call 206; have hD := hC; clear hC; (first | refine useN (q_opr RC (by omega) hD) ?_ ?_); (· intro hF W hM; clear hD; (try simp only [hF] at HO); exact ⟨rfl, stopN HO hM⟩); intro t r hF W ao cap hC; clear hD; (try simp only [hF] at HO); clear hF)
  | (go_at_call 51; guard_target = Calls _ _ #[_, _, Value.slice none 0 0] _ _; (first | refine useDx (q_node0 _ _ hC) ?_); clear hC; intro W hC)
  | (go_at_call 51; guard_target = Calls _ _ #[_, _, Value.slice (some _) 1 1] _ _; refine m1 ?_; clear hC; intro W hC)
  | (go_at_call 51; have hD := hC; clear hC; refine m4 ?_; intro W hC; clear hD))
  all_goals first | exact ⟨rfl, stopN HO hC.mv⟩ | exact eM1
theorem q_pro {E : Env} {B : Nat} {w0 w : World} {ts : List Tok} {H : List Bx} {L : List Tn} {R : Rc} {n : Nat} (RC : Ct R n) (hn : ts.length < n) (hC : Cx E B w0 w (.p ts) H L) :
    Calls Tryz.prog 191 #[.pointer (some ⟨E.b, 0, none⟩)] w ((oN (proF R ts)).P E B w0 H L) := by
  obtain ⟨o, ho⟩ : ∃ o, proF R ts = o := ⟨_, rfl⟩
  rw [ho]
  unfold proF at ho
  have HO := hidk ho
  clear ho
  go_enter Tryz.func191, Tryz.ntmps191
  go_wp2_with (first
  | (refine bA ?_; clear hC; intro W k hC)
  | ((first | refine hC.bP ?_ | refine hC.bN ?_ | refine hC.b1 ?_); clear hC; intro W k hC; (try simp only [pP]))
  | refine bL ?_
  | (refine bS ?_; clear hC; intro W hC)
  | (go_at_call 123; have hD := hC; clear hC; (first | refine useN (q_chain (I := facF R) (Kl := sgLk [[42], [47]]) (m := n) ent_factor ent_product1 (fun hs hE hl => q_fac RC (by omega) hE) (fun hs hE => q_product1 (hs.subset mMem) hE) (by omega) (facF_Len RC.len) (sgLk_len _) hD) ?_ ?_); (· intro hF W hM; clear hD; (try simp only [hF] at HO); exact ⟨rfl, stopN HO hM⟩); intro t r hF W ao cap hC; clear hD; (try simp only [hF] at HO); clear hF))
  all_goals first | exact ⟨rfl, stopN HO hC.mv⟩ | exact eM1
theorem q_sum {E : Env} {B : Nat} {w0 w : World} {ts : List Tok} {H : List Bx} {L : List Tn} {R : Rc} {n : Nat} (RC : Ct R n) (hn : ts.length < n) (hC : Cx E B w0 w (.p ts) H L) :
    Calls Tryz.prog 181 #[.pointer (some ⟨E.b, 0, none⟩)] w ((oN (sumF R ts)).P E B w0 H L) := by
  obtain ⟨o, ho⟩ : ∃ o, sumF R ts = o := ⟨_, rfl⟩
  rw [ho]
  unfold sumF at ho
  have HO := hidk ho
  clear ho
  go_enter Tryz.func181, Tryz.ntmps181
  go_wp2_with (first
  | (refine bA ?_; clear hC; intro W k hC)
  | ((first | refine hC.bP ?_ | refine hC.bN ?_ | refine hC.b1 ?_); clear hC; intro W k hC; (try simp only [pP]))
  | refine bL ?_
  | (refine bS ?_; clear hC; intro W hC)
  | (go_at_call 123; have hD := hC; clear hC; (first | refine useN (q_chain (I := proF R) (Kl := sgLk [[43], [45], [124, 124]]) (m := n) ent_product ent_sum1 (fun hs hE hl => q_pro RC (by omega) hE) (fun hs hE => q_sum1 (hs.subset mMem) hE) (by omega) (proF_Len RC.len) (sgLk_len _) hD) ?_ ?_); (· intro hF W hM; clear hD; (try simp only [hF] at HO); exact ⟨rfl, stopN HO hM⟩); intro t r hF W ao cap hC; clear hD; (try simp only [hF] at HO); clear hF))
  all_goals first | exact ⟨rfl, stopN HO hC.mv⟩ | exact eM1
end Go.Proofs.YtaenpacfbheppaaGreatDoor

namespace Go.Proofs.YtaenpacfbheppaaGreatDoor
open Go.RowKit
section
variable {E : Env} {B : Nat} {w0 w W : World} {H : List Bx} {L : List Tn} {f : Nat} {args : Array Value} {R : Ending → World → Prop}
def oP : Option (Option Tr × List Tok) → Out
  | none => .stop
  | some (some t, r) => .nb t true (.p r)
  | some (none, r) => .nb (nd [] [] []) false (.p r)
theorem useP {o : Option (Option Tr × List Tok)} (h : Calls Tryz.prog f args w ((oP o).P E B w0 H L)) (h0 : o = none → ∀ W, Fr w0 W (fun i => i = E.b) → R (.panicked stopP) W)
    (h2 : ∀ r, o = some (none, r) → ∀ W ao cap, Cx E B w0 W (.p r) H L → R (.returned (.tuple #[nv [] [] 0 ao 0 cap, .bool false])) W)
    (h1 : ∀ t r, o = some (some t, r) → ∀ W ao cap, Cx E B w0 W (.p r) H ((ao, cap, t) :: L) → R (.returned (.tuple #[nv t.op t.s t.n ao t.L.length cap, .bool true])) W) : Calls Tryz.prog f args w R := by
  refine h.mono fun e W hp => ?_
  rcases o with _ | ⟨_ | t, r⟩
  · obtain ⟨rfl, hf⟩ := hp; exact h0 rfl W hf
  · obtain ⟨ao, cap, rfl, hc⟩ := hp; exact h2 r rfl W ao cap (hc.less (List.Sublist.refl _) (fun y hy => .tail _ hy))
  · obtain ⟨ao, cap, rfl, hc⟩ := hp; exact h1 t r rfl W ao cap hc
theorem endP1 {o : Option (Option Tr × List Tok)} {t : Tr} {r : List Tok} (h : Hid (some (some t, r) = o)) {ao : Option Addr} {cap : Nat} (hc : Cx E B w0 W (.p r) H ((ao, cap, t) :: L)) : (oP o).P E B w0 H L (.returned (.tuple #[nv t.op t.s t.n ao t.L.length cap, .bool true])) W := by
  rw [← h.out]; exact ⟨ao, cap, rfl, hc⟩
theorem endP0 {o : Option (Option Tr × List Tok)} {r : List Tok} (h : Hid (some (none, r) = o)) (hc : Cx E B w0 W (.p r) H L) : (oP o).P E B w0 H L (.returned (.tuple #[nv [] [] 0 none 0 0, .bool false])) W := by
  rw [← h.out]; exact ⟨none, 0, rfl, hc.leaf [] [] 0⟩
theorem stopPP {o : Option (Option Tr × List Tok)} (h : Hid (none = o)) (hf : Fr w0 W (fun i => i = E.b)) : (oP o).P E B w0 H L (.panicked stopP) W := by
  rw [← h.out]; exact ⟨rfl, hf⟩
theorem endKW {s : List UInt8} {ts : List Tok} (hc : Cx E B w0 W (.p (tkR [s] ts)) H L) : LkP E B w0 H L ts (wdLk s ts) (.returned (.tuple #[nv s [] 0 none 0 0, .bool (tkB [s] ts)])) W := by
  unfold wdLk
  cases hb : tkB [s] ts with
  | true => simp only [reduceIte]; exact ⟨rfl, hc⟩
  | false => rw [tkR_no hb] at hc; simp only [Bool.false_eq_true, reduceIte]; exact ⟨_, _, _, rfl, hc⟩
end
theorem q_turned {E : Env} {B : Nat} {w0 w : World} {ts : List Tok} {H : List Bx} {L : List Tn} {ao : Option Addr} {cap : Nat} {t : Tr} (b : Bool) (ht : (ao, cap, t) ∈ L) (hC : Cx E B w0 w (.p ts) H L) :
    Calls Tryz.prog 183 #[.bool b, nv t.op t.s t.n ao t.L.length cap] w ((oN (some (turnT b t, ts))).P E B w0 H L) := by
  obtain ⟨o, ho⟩ : ∃ o, some (turnT b t, ts) = o := ⟨_, rfl⟩
  rw [ho]
  have HO := hidk ho
  clear ho
  cases b
  all_goals simp only [turnT, Bool.false_eq_true, reduceIte] at HO
  all_goals
    go_enter Tryz.func183, Tryz.ntmps183
    go_wp2_with (first
    | (refine bA ?_; clear hC; intro W k hC)
    | ((first | refine hC.bP ?_ | refine hC.bN ?_ | refine hC.b1 ?_); clear hC; intro W k hC; (try simp only [pP]))
    | refine bL ?_
    | (refine bS ?_; clear hC; intro W hC)
    | (go_at_call 51; guard_target = Calls _ _ #[_, _, Value.slice (some _) 1 1] _ _; (first | refine useDx (q_node1 _ _ hC ht) ?_); clear hC; intro W hC))
    all_goals (refine hC.rc ?_; first | exact endN HO (hC.fin mSub (.head _) mL) | exact endN HO (hC.fin mSub ht mL))
theorem q_cmp {E : Env} {B : Nat} {w0 w : World} {ts : List Tok} {H : List Bx} {L : List Tn} {ao : Option Addr} {cap : Nat} {R : Rc} {n : Nat} (RC : Ct R n) (s : Tr) (sg : List UInt8) (ht : (ao, cap, s) ∈ L) (hn : ts.length < n) (hC : Cx E B w0 w (.p ts) H L) :
    Calls Tryz.prog 182 #[.pointer (some ⟨E.b, 0, none⟩), nv s.op s.s s.n ao s.L.length cap, .string ⟨sg.toArray⟩] w ((oN (cmpF R s sg ts)).P E B w0 H L) := by
  obtain ⟨o, ho⟩ : ∃ o, cmpF R s sg ts = o := ⟨_, rfl⟩
  rw [ho]
  unfold cmpF cmpF.anyF at ho
  have HO := hidk ho
  clear ho
  go_enter Tryz.func182, Tryz.ntmps182
  go_wp2_with (first
  | (refine bA ?_; clear hC; intro W k hC)
  | ((first | refine hC.bP ?_ | refine hC.bN ?_ | refine hC.b1 ?_); clear hC; intro W k hC; (try simp only [pP]))
  | refine bL ?_
  | (refine bS ?_; clear hC; intro W hC)
  | (go_at_call 50; have hD := hC; clear hC; (first | guard_target = Calls _ _ #[_, Value.slice (some _) 1 1] _ _; refine useB (q_took1 _ hD) ?_ ?_); (focus (intro hb W hC; clear hD; (try simp only [hb, reduceIte, pB] at HO); (try have hl := tkR_ls hb (by simp)); clear hb)); rotate_left; (focus (intro hb W hC; clear hD; (try simp only [tkR_no hb] at HO hC); (try simp only [hb, reduceIte, pB] at HO); clear hb)))
  | (guard_target = Code.wp _ (Code.region 3 _ true) _ _ _; refine wp_region_held_drew (S := HB [_]) (by kernel_rfl) (hC.drew.hbI1 1 (by rfl)) (fun hHeld => ?_); replace hC := hC.drew; refine qk 0 ?_; (try simp only [pQ]); refine qkN 1 ?_; (try simp only [pQ]); refine qk 2 ?_; (try simp only [pQ]); refine qk 3 ?_; (try simp only [pQ]); refine qk 4 ?_; (try simp only [pQ]); refine ry [5] ?_; refine rd1 fun K hK => ?_; go_simp; (first | (go_at_call 119; (first | (guard_target = Calls _ _ #[_, Value.func (Go.Fn.func 91) _ _] _ _; have hD := hC; clear hC; refine useN (q_parN (I := R.body) (m := n - 1) ent_body (fun hs hE hl => RC.body hE (by omega)) (by omega) hD) ?_ ?_; (· intro hF W hM; clear hD; (try simp only [hF] at HO); exact ⟨rfl, stopN HO hM⟩); intro t r hF W ao cap hC; clear hD; (try simp only [hF] at HO); have hl := parF_len (RC.len.body) hF; clear hF)))); refine hK.out _ _ hC.hb1' fun hHeld => ?_; clear hK K; (try simp only [pQ]); refine ry [6] ?_; refine rd1 fun K hK => ?_; refine st_of rfl ?_; refine wp_build2C hC (by rfl) (by rfl) (by rfl) ?_; clear hC; intro W k hC; refine hK.out _ _ hC.hb1' fun hHeld => ?_; clear hK K; (try simp only [pQ]); refine ry [7] ?_; refine rd1 fun K hK => ?_; go_simp; (first | (go_at_call 51; guard_target = Calls _ _ #[_, _, Value.slice (some _) 2 2] _ _; (first | refine useDx (q_node2 _ _ hC (.tail _ ht) (.head _)) ?_); clear hC; intro W hC)); refine hK.out _ _ hC.hb1' fun hHeld => ?_; clear hK K; (try simp only [pQ]); refine ry [8] ?_; refine rd1 fun K hK => ?_; refine st_of rfl ?_; refine wsN ?_; clear hC; intro W hC; refine hK.out _ _ hC.hb1' fun hHeld => ?_; clear hK K; (try simp only [pQ]); refine dn ?_ _)
  | (guard_target = Code.wp _ (Code.region 5 _ true) _ _ _; refine wp_region_held_drew (S := HB [_]) (by kernel_rfl) (hC.drew.hbI1 1 (by rfl)) (fun hHeld => ?_); replace hC := hC.drew; refine qk 0 ?_; (try simp only [pQ]); refine qkN 1 ?_; (try simp only [pQ]); refine qk 2 ?_; (try simp only [pQ]); refine qk 3 ?_; (try simp only [pQ]); refine qk 4 ?_; (try simp only [pQ]); refine ry [5] ?_; refine rd1 fun K hK => ?_; go_simp; (first | (go_at_call 119; (first | (guard_target = Calls _ _ #[_, Value.func (Go.Fn.func 91) _ _] _ _; have hD := hC; clear hC; refine useN (q_parN (I := R.body) (m := n - 1) ent_body (fun hs hE hl => RC.body hE (by omega)) (by omega) hD) ?_ ?_; (· intro hF W hM; clear hD; (try simp only [hF] at HO); exact ⟨rfl, stopN HO hM⟩); intro t r hF W ao cap hC; clear hD; (try simp only [hF] at HO); have hl := parF_len (RC.len.body) hF; clear hF)))); refine hK.out _ _ hC.hb1' fun hHeld => ?_; clear hK K; (try simp only [pQ]); refine ry [6] ?_; refine rd1 fun K hK => ?_; refine st_of rfl ?_; refine wp_build2C hC (by rfl) (by rfl) (by rfl) ?_; clear hC; intro W k hC; refine hK.out _ _ hC.hb1' fun hHeld => ?_; clear hK K; (try simp only [pQ]); refine ry [7] ?_; refine rd1 fun K hK => ?_; go_simp; (first | (go_at_call 51; guard_target = Calls _ _ #[_, _, Value.slice (some _) 2 2] _ _; (first | refine useDx (q_node2 _ _ hC (.tail _ ht) (.head _)) ?_); clear hC; intro W hC)); refine hK.out _ _ hC.hb1' fun hHeld => ?_; clear hK K; (try simp only [pQ]); refine ry [8] ?_; refine rd1 fun K hK => ?_; refine st_of rfl ?_; refine wsN ?_; clear hC; intro W hC; refine hK.out _ _ hC.hb1' fun hHeld => ?_; clear hK K; (try simp only [pQ]); refine dn ?_ _)
  | (guard_target = Code.wp _ (Code.region 6 _ true) _ _ _; refine wp_region_held_drew (S := HB [_]) (by kernel_rfl) (hC.drew.hbI1 1 (by rfl)) (fun hHeld => ?_); replace hC := hC.drew; refine qk 0 ?_; (try simp only [pQ]); refine qkN 1 ?_; (try simp only [pQ]); refine qk 2 ?_; (try simp only [pQ]); refine ry [3] ?_; refine rd1 fun K hK => ?_; go_simp; (first | (go_at_call 181; have hD := hC; clear hC; (first | refine useN (q_sum RC (by omega) hD) ?_ ?_); (· intro hF W hM; clear hD; (try simp only [hF] at HO); exact ⟨rfl, stopN HO hM⟩); intro t r hF W ao cap hC; clear hD; (try simp only [hF] at HO); have hl := sumF_Len RC.len _ _ _ hF; clear hF)); refine hK.out _ _ hC.hb1' fun hHeld => ?_; clear hK K; (try simp only [pQ]); refine ry [4] ?_; refine rd1 fun K hK => ?_; refine st_of rfl ?_; refine wp_build2C hC (by rfl) (by rfl) (by rfl) ?_; clear hC; intro W k hC; refine hK.out _ _ hC.hb1' fun hHeld => ?_; clear hK K; (try simp only [pQ]); refine ry [5] ?_; refine rd1 fun K hK => ?_; go_simp; (first | (go_at_call 51; guard_target = Calls _ _ #[_, _, Value.slice (some _) 2 2] _ _; (first | refine useDx (q_node2 _ _ hC (.tail _ ht) (.head _)) ?_); clear hC; intro W hC)); refine hK.out _ _ hC.hb1' fun hHeld => ?_; clear hK K; (try simp only [pQ]); refine ry [6] ?_; refine rd1 fun K hK => ?_; refine st_of rfl ?_; refine wsN ?_; clear hC; intro W hC; refine hK.out _ _ hC.hb1' fun hHeld => ?_; clear hK K; (try simp only [pQ]); refine dn ?_ _))
  all_goals first | exact ⟨rfl, stopN HO hC.mv⟩ | exact eM1
theorem q_ist {E : Env} {B : Nat} {w0 w : World} {ts : List Tok} {H : List Bx} {L : List Tn} {ao : Option Addr} {cap : Nat} (s : Tr) (ht : (ao, cap, s) ∈ L) (hC : Cx E B w0 w (.p ts) H L) :
    Calls Tryz.prog 184 #[.pointer (some ⟨E.b, 0, none⟩), nv s.op s.s s.n ao s.L.length cap] w ((oN (istF s ts)).P E B w0 H L) := by
  obtain ⟨o, ho⟩ : ∃ o, istF s ts = o := ⟨_, rfl⟩
  rw [ho]
  unfold istF at ho
  have HO := hidk ho
  clear ho
  go_enter Tryz.func184, Tryz.ntmps184
  go_wp2_with (first
  | (refine bA ?_; clear hC; intro W k hC)
  | ((first | refine hC.bP ?_ | refine hC.bN ?_ | refine hC.b1 ?_); clear hC; intro W k hC; (try simp only [pP]))
  | refine bL ?_
  | (refine bS ?_; clear hC; intro W hC)
  | (go_at_call 62; have hD := hC; clear hC; (first | guard_target = Calls _ _ #[_, _, Value.slice (some _) 4 4] _ _; refine useO (q_one4 _ _ _ _ _ hD) ?_ ?_); (focus (intro hF W hC; clear hD; (try simp only [hF, Option.isSome_none, Bool.false_eq_true, Bool.and_false, reduceIte] at HO); clear hF)); rotate_left; (focus (intro x r hF W hC; clear hD; (try simp only [hF, Option.isSome_some, Bool.and_true, reduceIte] at HO); have hl := oneF_le hF; clear hF)))
  | (go_at_call 51; guard_target = Calls _ _ #[_, _, Value.slice (some _) 1 1] _ _; (first | refine useDx (q_node1 _ _ hC ht) ?_); clear hC; intro W hC))
  all_goals first | exact ⟨rfl, stopN HO hC.mv⟩ | exact eM1
end Go.Proofs.YtaenpacfbheppaaGreatDoor

namespace Go.Proofs.YtaenpacfbheppaaGreatDoor
open Go.RowKit
theorem lsN_sz {I : Ps Tr} (hI : Len I) : ∀ (n : Nat) (a : List Tr) {ts r : List Tok} {l : List Tr}, lsN I n a ts = some (l, r) → a.length ≤ l.length ∧ l.length + r.length ≤ a.length + ts.length
  | 0, _, _, _, _, h => by simp [lsN] at h
  | n + 1, a, ts, r, l, h => by
    unfold lsN at h
    cases h1 : sgF [44] ts with
    | none => simp only [h1, Option.some.injEq, Prod.mk.injEq] at h; obtain ⟨rfl, rfl⟩ := h; omega
    | some p =>
      obtain ⟨_, r1⟩ := p
      have e1 := sgF_len h1
      cases h2 : I r1 with
      | none => simp [h1, h2] at h
      | some q =>
        obtain ⟨x, r2⟩ := q
        simp only [h1, h2] at h
        have := lsN_sz hI n _ h
        have := hI _ _ _ h2
        simp at *
        omega
theorem lsF_sz {I : Ps Tr} (hI : Len I) {ts r : List Tok} {l : List Tr} (h : lsF I ts = some (l, r)) : 0 < l.length ∧ l.length + r.length ≤ 1 + ts.length := by
  unfold lsF at h
  cases h2 : I ts with
  | none => simp [h2] at h
  | some q =>
    obtain ⟨x, r2⟩ := q
    simp only [h2] at h
    have := lsN_sz hI _ _ h
    have := hI _ _ _ h2
    simp at *
    omega
theorem parL_sz {I : Ps Tr} (hI : Len I) {ts r : List Tok} {l : List Tr} (h : parF (lsF I) ts = some (l, r)) : r.length + 2 ≤ ts.length ∧ 0 < l.length ∧ l.length + r.length + 1 ≤ ts.length := by
  refine ⟨parF_len (lsF_Len hI) h, ?_⟩
  unfold parF at h
  cases h1 : sgF [40] ts with
  | none => simp [h1] at h
  | some p =>
    obtain ⟨_, r1⟩ := p
    have e1 := sgF_len h1
    cases h2 : lsF I r1 with
    | none => simp [h1, h2] at h
    | some q =>
      obtain ⟨x, r2⟩ := q
      have := lsF_sz hI h2
      cases h3 : sgF [41] r2 with
      | none => simp [h1, h2, h3] at h
      | some q3 =>
        obtain ⟨_, r3⟩ := q3
        have e3 := sgF_len h3
        simp only [h1, h2, h3, Option.some.injEq, Prod.mk.injEq] at h
        obtain ⟨rfl, rfl⟩ := h
        omega
section
variable {E : Env} {B : Nat} {w0 w : World} {s : Stt} {H : List Bx} {L : List Tn} {a : Act} {K : Act → World → Prop} {Q : Exit → Act → World → Prop} {o : Oper}
theorem wp_appL {k : Nat} {a1 : Option Addr} {p1 : Nat} {t1 : Tr} (hC : Cx E B w0 w s ((k, ncs a1 p1 t1, 24) :: H) L) (h1 : (a1, p1, t1) ∈ L) {x y : Operand} (ho : o.op = .call { callee := .builtin .append, args := #[x, y], argTypes := #[22, 22] }) (hx : a.eval x = .slice (some ⟨k, 0, none⟩) 1 1)
    {ao : Option Addr} {m c : Nat} {l : List Tr} (h2 : (ao, c, ls l) ∈ L) (hy : a.eval y = .slice ao m c) (hm : m = l.length) (h0 : 0 < l.length) (hbig : l.length ≤ 10000)
    (h : ∀ W g cap', Cx E B w0 W s H ((some ⟨g, 0, none⟩, cap', ls (t1 :: l)) :: L) → K (a.put o.dst (.slice (some ⟨g, 0, none⟩) (m + 1) cap')) W) : o.wp Tryz.prog a w K Q := by
  obtain ⟨g2, ks2, rfl, hks, hcap2, hcells, L2, hC2, hL2, hR2⟩ := hC.open_ h2 h0
  refine wp_appN (ty := 0) hC2 0 (l := [t1]) (l2 := l) (ks := [(a1, p1)]) (k2 := ks2) ho rfl hx rfl Rw.one hy hm (by omega) hks (fun j u hu => ?_) (by omega) ?_
  · rw [Addr.add_mid, Nat.zero_add]
    exact hcells j u hu
  · intro W g cap' cur' hD hR
    rw [List.set_cons_zero] at hD
    rw [Nat.add_comm 1 m]
    refine h W g cap' ?_
    have hE := hD.made hR (Rin.app rfl (Rin.one (hL2 _ h1)) hR2) (by simp) [] [] 0
    refine hE.less (List.Sublist.refl _) (fun z hz => ?_)
    rcases List.mem_cons.1 hz with rfl | hz
    · exact .head _
    · exact .tail _ (hL2 _ hz)
theorem wl_appL {ops : Array Oper} {rest : List Oper} (hgd : o.guard = none) {k : Nat} {a1 : Option Addr} {p1 : Nat} {t1 : Tr} (hC : Cx E B w0 w s ((k, ncs a1 p1 t1, 24) :: H) L) (h1 : (a1, p1, t1) ∈ L) {x y : Operand} (ho : o.op = .call { callee := .builtin .append, args := #[x, y], argTypes := #[22, 22] }) (hx : a.eval x = .slice (some ⟨k, 0, none⟩) 1 1)
    {ao : Option Addr} {m c : Nat} {l : List Tr} (h2 : (ao, c, ls l) ∈ L) (hy : a.eval y = .slice ao m c) (hm : m = l.length) (h0 : 0 < l.length) (hbig : l.length ≤ 10000)
    (h : ∀ W g cap', Cx E B w0 W s H ((some ⟨g, 0, none⟩, cap', ls (t1 :: l)) :: L) → wpList Tryz.prog ops Q rest (a.put o.dst (.slice (some ⟨g, 0, none⟩) (m + 1) cap')) W) : wpList Tryz.prog ops Q (o :: rest) a w :=
  wpList_plain hgd fun K hK => wp_appL hC h1 ho hx h2 hy hm h0 hbig (fun W g cap' h1 => hK _ _ (h W g cap' h1))
end
theorem q_wt {E : Env} {B : Nat} {w0 w : World} {ts : List Tok} {H : List Bx} {L : List Tn} {ao : Option Addr} {cap : Nat} {R : Rc} {n : Nat} (RC : Ct R n) (s : Tr) (ht : (ao, cap, s) ∈ L) (hn : ts.length < n) (hC : Cx E B w0 w (.p ts) H L) :
    Calls Tryz.prog 185 #[.pointer (some ⟨E.b, 0, none⟩), nv s.op s.s s.n ao s.L.length cap] w ((oP (wtF R s ts)).P E B w0 H L) := by
  obtain ⟨o, ho⟩ : ∃ o, wtF R s ts = o := ⟨_, rfl⟩
  rw [ho]
  unfold wtF at ho
  have HO := hidk ho
  clear ho
  have h600 := hC.le600
  go_enter Tryz.func185, Tryz.ntmps185
  go_wp2_with (first
  | (refine bA ?_; clear hC; intro W k hC)
  | ((first | refine hC.bP ?_ | refine hC.bN ?_ | refine hC.b1 ?_); clear hC; intro W k hC; (try simp only [pP]))
  | refine bL ?_
  | (refine bS ?_; clear hC; intro W hC)
  | (go_at_call 50; have hD := hC; clear hC; (first | guard_target = Calls _ _ #[_, Value.slice (some _) 1 1] _ _; refine useB (q_took1 _ hD) ?_ ?_); (focus (intro hb W hC; clear hD; (try simp only [hb, reduceIte, pB] at HO); (try have hl := tkR_ls hb (by simp)); clear hb)); rotate_left; (focus (intro hb W hC; clear hD; (try simp only [tkR_no hb] at HO hC); (try simp only [hb, reduceIte, pB] at HO); clear hb)))
  | (go_at_call 181; have hD := hC; clear hC; (first | refine useN (q_sum RC (by omega) hD) ?_ ?_); (· intro hF W hM; clear hD; (try simp only [hF] at HO); exact ⟨rfl, stopPP HO hM⟩); intro t r hF W ao cap hC; clear hD; (try simp only [hF] at HO); have hl := sumF_Len RC.len _ _ _ hF; clear hF)
  | (go_at_call 87; have hD := hC; clear hC; (first | guard_target = Calls _ _ #[_, Value.slice (some _) 1 1] _ _; refine useU (q_need1 _ hD) ?_ ?_); (· intro hF W hM; clear hD; (try simp only [hF] at HO); exact ⟨rfl, stopPP HO hM⟩); intro r hF W hC; clear hD; (try simp only [hF] at HO); have hl := needF_lt hF (Nat.succ_pos _); clear hF)
  | (go_at_call 89; have hD := hC; clear hC; refine useB (q_opens hD) ?_ ?_; (focus (intro hb W hC; clear hD; (try simp only [hb, reduceIte, Bool.not_true, Bool.and_false, Bool.false_eq_true] at HO); clear hb)); rotate_left; (focus (intro hb W hC; clear hD; (try simp only [hb, reduceIte, Bool.not_false, Bool.and_true, Bool.false_eq_true] at HO); clear hb)))
  | (guard_target = Code.wp _ (Code.region 4 _ true) _ _ _; refine wp_region_held_drew (S := HB [_, _]) (by kernel_rfl) (hC.drew.hbI2 2 0 (by rfl) (by rfl)) (fun hHeld => ?_); replace hC := hC.drew; refine qkN 0 ?_; (try simp only [pQ]); refine qkN 1 ?_; (try simp only [pQ]); refine qk 2 ?_; (try simp only [pQ]); refine ry [3] ?_; refine rd1 fun K hK => ?_; go_simp; (first | (go_at_call 181; have hD := hC; clear hC; (first | refine useN (q_sum RC (by omega) hD) ?_ ?_); (· intro hF W hM; clear hD; (try simp only [hF] at HO); exact ⟨rfl, stopPP HO hM⟩); intro t r hF W ao cap hC; clear hD; (try simp only [hF] at HO); have hl := sumF_Len RC.len _ _ _ hF; clear hF)); refine hK.out _ _ hC.hb2' fun hHeld => ?_; clear hK K; (try simp only [pQ]); refine ry [4] ?_; refine rd1 fun K hK => ?_; refine st_of rfl ?_; refine wp_build3C hC (by rfl) (by rfl) (by rfl) (by rfl) ?_; clear hC; intro W k hC; refine hK.out _ _ hC.hb2' fun hHeld => ?_; clear hK K; (try simp only [pQ]); refine ry [5] ?_; refine rd1 fun K hK => ?_; go_simp; (first | (go_at_call 51; guard_target = Calls _ _ #[_, _, Value.slice (some _) 3 3] _ _; (first | refine useDx (q_node3 _ _ hC (.tail _ (.tail _ ht)) (.tail _ (.head _)) (.head _)) ?_); clear hC; intro W hC)); refine hK.out _ _ hC.hb2' fun hHeld => ?_; clear hK K; (try simp only [pQ]); refine ry [6] ?_; refine rd1 fun K hK => ?_; refine st_of rfl ?_; refine wsN ?_; clear hC; intro W hC; refine hK.out _ _ hC.hb2' fun hHeld => ?_; clear hK K; (try simp only [pQ]); refine ry [7] ?_; refine rd1 fun K hK => ?_; go_simp; refine hK.out _ _ hC.hb2' fun hHeld => ?_; clear hK K; (try simp only [pQ]); refine dn ?_ _)
  | (guard_target = Code.wp _ (Code.region 6 _ true) _ _ _; refine wp_region_held_drew (S := HB [_]) (by kernel_rfl) (hC.drew.hbI1 1 (by rfl)) (fun hHeld => ?_); replace hC := hC.drew; refine qkN 0 ?_; (try simp only [pQ]); refine qk 1 ?_; (try simp only [pQ]); refine ry [2] ?_; refine rd1 fun K hK => ?_; go_simp; (first | (go_at_call 181; have hD := hC; clear hC; (first | refine useN (q_sum RC (by omega) hD) ?_ ?_); (· intro hF W hM; clear hD; (try simp only [hF] at HO); exact ⟨rfl, stopPP HO hM⟩); intro t r hF W ao cap hC; clear hD; (try simp only [hF] at HO); have hl := sumF_Len RC.len _ _ _ hF; clear hF)); refine hK.out _ _ hC.hb1' fun hHeld => ?_; clear hK K; (try simp only [pQ]); refine ry [3] ?_; refine rd1 fun K hK => ?_; refine st_of rfl ?_; refine wp_build2C hC (by rfl) (by rfl) (by rfl) ?_; clear hC; intro W k hC; refine hK.out _ _ hC.hb1' fun hHeld => ?_; clear hK K; (try simp only [pQ]); refine ry [4] ?_; refine rd1 fun K hK => ?_; go_simp; (first | (go_at_call 51; guard_target = Calls _ _ #[_, _, Value.slice (some _) 2 2] _ _; (first | refine useDx (q_node2 _ _ hC (.tail _ ht) (.head _)) ?_); clear hC; intro W hC)); refine hK.out _ _ hC.hb1' fun hHeld => ?_; clear hK K; (try simp only [pQ]); refine ry [5] ?_; refine rd1 fun K hK => ?_; refine st_of rfl ?_; refine wsN ?_; clear hC; intro W hC; refine hK.out _ _ hC.hb1' fun hHeld => ?_; clear hK K; (try simp only [pQ]); refine ry [6] ?_; refine rd1 fun K hK => ?_; go_simp; refine hK.out _ _ hC.hb1' fun hHeld => ?_; clear hK K; (try simp only [pQ]); refine dn ?_ _)
  | (guard_target = Code.wp _ (Code.region 9 _ true) _ _ _; refine wp_region_held_drew (S := HB [_]) (by kernel_rfl) (hC.drew.hbI1 1 (by rfl)) (fun hHeld => ?_); replace hC := hC.drew; refine qkN 0 ?_; (try simp only [pQ]); refine qk 1 ?_; (try simp only [pQ]); refine qk 2 ?_; (try simp only [pQ]); refine qk 3 ?_; (try simp only [pQ]); refine ry [4] ?_; refine rd1 fun K hK => ?_; go_simp; (first | (go_at_call 119; (first | (guard_target = Calls _ _ #[_, Value.func (Go.Fn.func 91) _ _] _ _; have hD := hC; clear hC; refine useN (q_parN (I := R.body) (m := n - 1) ent_body (fun hs hE hl => RC.body hE (by omega)) (by omega) hD) ?_ ?_; (· intro hF W hM; clear hD; (try simp only [hF] at HO); exact ⟨rfl, stopPP HO hM⟩); intro t r hF W ao cap hC; clear hD; (try simp only [hF] at HO); have hl := parF_len (RC.len.body) hF; clear hF)))); refine hK.out _ _ hC.hb1' fun hHeld => ?_; clear hK K; (try simp only [pQ]); refine ry [5] ?_; refine rd1 fun K hK => ?_; refine st_of rfl ?_; refine wp_build2C hC (by rfl) (by rfl) (by rfl) ?_; clear hC; intro W k hC; refine hK.out _ _ hC.hb1' fun hHeld => ?_; clear hK K; (try simp only [pQ]); refine ry [6] ?_; refine rd1 fun K hK => ?_; go_simp; (first | (go_at_call 51; guard_target = Calls _ _ #[_, _, Value.slice (some _) 2 2] _ _; (first | refine useDx (q_node2 _ _ hC (.tail _ ht) (.head _)) ?_); clear hC; intro W hC)); refine hK.out _ _ hC.hb1' fun hHeld => ?_; clear hK K; (try simp only [pQ]); refine ry [7] ?_; refine rd1 fun K hK => ?_; refine st_of rfl ?_; refine wsN ?_; clear hC; intro W hC; refine hK.out _ _ hC.hb1' fun hHeld => ?_; clear hK K; (try simp only [pQ]); refine ry [8] ?_; refine rd1 fun K hK => ?_; go_simp; refine hK.out _ _ hC.hb1' fun hHeld => ?_; clear hK K; (try simp only [pQ]); refine dn ?_ _)
  | (guard_target = Code.wp _ (Code.region 10 _ true) _ _ _; refine wp_region_held_drew (S := HB [_]) (by kernel_rfl) (hC.drew.hbI1 1 (by rfl)) (fun hHeld => ?_); replace hC := hC.drew; refine qkN 0 ?_; (try simp only [pQ]); refine qk 2 ?_; (try simp only [pQ]); refine qk 3 ?_; (try simp only [pQ]); refine qk 4 ?_; (try simp only [pQ]); refine ry [1, 5] ?_; refine AllReadyH.cons rfl (fun K hK => ?_) (AllReadyH.cons rfl (fun K hK => ?_) AllReadyH.nil); (focus (refine st_of rfl ?_; refine wp_build1C hC (by rfl) (by rfl) ?_; clear hC; intro W k hC; refine hK.out _ _ hC.hb1' fun hHeld => ?_; clear hK K; (try simp only [pQ]); refine ry [5] ?_; refine rd1 fun K hK => ?_; go_simp; (first | (go_at_call 53; (first | (guard_target = Calls _ _ #[_, Value.func (Go.Fn.func 120) _ _] _ _; have hD := hC; clear hC; refine useL (q_lip (I := R.expr) (m := n - 1) ent_expr (fun hs hE hl => RC.expr hE (by omega)) (by omega) (RC.len.expr) hD) ?_ ?_; (· intro hF W hM; clear hD; (try simp only [hF] at HO); exact ⟨rfl, stopPP HO hM⟩); intro l r hF W ao cap hC; clear hD; (try simp only [hF] at HO); have hl := parL_sz (RC.len.expr) hF; clear hF)))); refine hK.out _ _ hC.hb1' fun hHeld => ?_; clear hK K; (try simp only [pQ]); refine ry [6] ?_; refine rd1 fun K hK => ?_; (first | (refine st_of rfl ?_; refine wp_appL hC (.tail _ ht) (by rfl) (by rfl) (.head _) (by rfl) rfl (by omega) (by omega) ?_; clear hC; intro W g2 cap2 hC)); refine hK.out _ _ hC.hb1' fun hHeld => ?_; clear hK K; (try simp only [pQ]); refine ry [7] ?_; refine rd1 fun K hK => ?_; go_simp; (first | (go_at_call 51; have hD := hC; clear hC; refine m4 ?_; intro W hC; clear hD)); refine hK.out _ _ hC.hb1' fun hHeld => ?_; clear hK K; (try simp only [pQ]); refine ry [8] ?_; refine rd1 fun K hK => ?_; refine st_of rfl ?_; refine wsN ?_; clear hC; intro W hC; refine hK.out _ _ hC.hb1' fun hHeld => ?_; clear hK K; (try simp only [pQ]); refine ry [9] ?_; refine rd1 fun K hK => ?_; go_simp; refine hK.out _ _ hC.hb1' fun hHeld => ?_; clear hK K; (try simp only [pQ]); refine dn ?_ _)); rotate_left; (focus (go_simp; (first | (go_at_call 53; (first | (guard_target = Calls _ _ #[_, Value.func (Go.Fn.func 120) _ _] _ _; have hD := hC; clear hC; refine useL (q_lip (I := R.expr) (m := n - 1) ent_expr (fun hs hE hl => RC.expr hE (by omega)) (by omega) (RC.len.expr) hD) ?_ ?_; (· intro hF W hM; clear hD; (try simp only [hF] at HO); exact ⟨rfl, stopPP HO hM⟩); intro l r hF W ao cap hC; clear hD; (try simp only [hF] at HO); have hl := parL_sz (RC.len.expr) hF; clear hF)))); refine hK.out _ _ hC.hb1' fun hHeld => ?_; clear hK K; (try simp only [pQ]); refine ry [1] ?_; refine rd1 fun K hK => ?_; refine st_of rfl ?_; refine wp_build1C hC (by rfl) (by rfl) ?_; clear hC; intro W k hC; refine hK.out _ _ hC.hb1' fun hHeld => ?_; clear hK K; (try simp only [pQ]); refine ry [6] ?_; refine rd1 fun K hK => ?_; (first | (refine st_of rfl ?_; refine wp_appL hC (.tail _ ht) (by rfl) (by rfl) (.head _) (by rfl) rfl (by omega) (by omega) ?_; clear hC; intro W g2 cap2 hC)); refine hK.out _ _ hC.hb1' fun hHeld => ?_; clear hK K; (try simp only [pQ]); refine ry [7] ?_; refine rd1 fun K hK => ?_; go_simp; (first | (go_at_call 51; have hD := hC; clear hC; refine m4 ?_; intro W hC; clear hD)); refine hK.out _ _ hC.hb1' fun hHeld => ?_; clear hK K; (try simp only [pQ]); refine ry [8] ?_; refine rd1 fun K hK => ?_; refine st_of rfl ?_; refine wsN ?_; clear hC; intro W hC; refine hK.out _ _ hC.hb1' fun hHeld => ?_; clear hK K; (try simp only [pQ]); refine ry [9] ?_; refine rd1 fun K hK => ?_; go_simp; refine hK.out _ _ hC.hb1' fun hHeld => ?_; clear hK K; (try simp only [pQ]); refine dn ?_ _)); rotate_left))
  all_goals first | exact ⟨rfl, stopPP HO hC.mv⟩ | (refine hC.rcB ?_; first | exact endP0 HO (hC.fin0 mSub mL) | (refine endP1 HO (hC.fin ?_ ?_ ?_); (repeat (first | exact List.Sublist.refl _ | apply List.Sublist.cons)); (repeat (first | exact List.mem_cons_self | apply List.mem_cons_of_mem)); intro y hy; (repeat (first | exact hy | apply List.mem_cons_of_mem)); done))
end Go.Proofs.YtaenpacfbheppaaGreatDoor

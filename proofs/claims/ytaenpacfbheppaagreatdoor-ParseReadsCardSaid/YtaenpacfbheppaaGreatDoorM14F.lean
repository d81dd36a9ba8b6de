/- The program's parser: bodies, what calls itself, whole queries (walks by genp.py). The program's parser: columns of a table that is created (walks by genp.py). The program's parser: parts of statements (walks by genp.py). The program's parser: statements, whole (walks by genp.py). -/
import Derived.Test.YtaenpacfbheppaaGreatDoorM14E
set_option maxHeartbeats 16000000
set_option maxRecDepth 100000
set_option linter.unusedVariables false
set_option linter.unusedSimpArgs false
namespace Go.Proofs.YtaenpacfbheppaaGreatDoor
open Go.RowKit
theorem q_trm {E : Env} {B : Nat} {w0 w : World} {ts : List Tok} {H : List Bx} {L : List Tn} {R : Rc} {n : Nat} (RC : Ct R n) (hn : ts.length < n) (hC : Cx E B w0 w (.p ts) H L) :
    Calls Tryz.prog 124 #[.pointer (some ⟨E.b, 0, none⟩)] w ((oN (trmF R ts)).P E B w0 H L) := by
  obtain ⟨o, ho⟩ : ∃ o, trmF R ts = o := ⟨_, rfl⟩
  rw [ho]
  unfold trmF at ho
  have HO := hidk ho
  clear ho
  go_enter Tryz.func124, Tryz.ntmps124
  go_wp2_with (first
  | (refine bA ?_; clear hC; intro W k hC)
  | ((first | refine hC.bP ?_ | refine hC.bN ?_ | refine hC.b1 ?_); clear hC; intro W k hC; (try simp only [pP]))
  | refine bL ?_
  | (refine bS ?_; clear hC; intro W hC)
  | (go_at_call 123; have hD := hC; clear hC; (first | refine useN (q_chain (I := simF R) (Kl := setLk [[105, 110, 116, 101, 114, 115, 101, 99, 116]]) (m := n) ent_simple ent_term1 (fun hs hE hl => q_sim RC (by omega) hE) (fun hs hE => q_term1 (hs.subset mMem) hE) (by omega) (simF_Len RC.len) (setLk_len _) hD) ?_ ?_); (· intro hF W hM; clear hD; (try simp only [hF] at HO); exact ⟨rfl, stopN HO hM⟩); intro t r hF W ao cap hC; clear hD; (try simp only [hF] at HO); clear hF))
  all_goals first | exact ⟨rfl, stopN HO hC.mv⟩ | exact eM1
theorem q_bod {E : Env} {B : Nat} {w0 w : World} {ts : List Tok} {H : List Bx} {L : List Tn} {R : Rc} {n : Nat} (RC : Ct R n) (hn : ts.length < n) (hC : Cx E B w0 w (.p ts) H L) :
    Calls Tryz.prog 91 #[.pointer (some ⟨E.b, 0, none⟩)] w ((oN (bodF R ts)).P E B w0 H L) := by
  obtain ⟨o, ho⟩ : ∃ o, bodF R ts = o := ⟨_, rfl⟩
  rw [ho]
  unfold bodF at ho
  have HO := hidk ho
  clear ho
  go_enter Tryz.func91, Tryz.ntmps91
  go_wp2_with (first
  | (refine bA ?_; clear hC; intro W k hC)
  | ((first | refine hC.bP ?_ | refine hC.bN ?_ | refine hC.b1 ?_); clear hC; intro W k hC; (try simp only [pP]))
  | refine bL ?_
  | (refine bS ?_; clear hC; intro W hC)
  | (go_at_call 123; have hD := hC; clear hC; (first | refine useN (q_chain (I := trmF R) (Kl := setLk [[117, 110, 105, 111, 110], [101, 120, 99, 101, 112, 116]]) (m := n) ent_term ent_body1 (fun hs hE hl => q_trm RC (by omega) hE) (fun hs hE => q_body1 (hs.subset mMem) hE) (by omega) (trmF_Len RC.len) (setLk_len _) hD) ?_ ?_); (· intro hF W hM; clear hD; (try simp only [hF] at HO); exact ⟨rfl, stopN HO hM⟩); intro t r hF W ao cap hC; clear hD; (try simp only [hF] at HO); clear hF))
  all_goals first | exact ⟨rfl, stopN HO hC.mv⟩ | exact eM1
theorem ct_all : ∀ n, Ct (recs n) n
  | 0 => ⟨recs_Len 0, fun _ h => absurd h (by omega), fun _ h => absurd h (by omega), fun _ h => absurd h (by omega), fun _ h => absurd h (by omega), fun _ h => absurd h (by omega)⟩
  | n + 1 => by
    have RC := ct_all n
    exact ⟨recs_Len (n + 1), fun hC h => q_expr RC (by omega) hC, fun hC h => q_bod RC (by omega) hC, fun hC h => q_neg RC (by omega) hC, fun hC h => q_fac RC (by omega) hC, fun hC h => q_tab RC (by omega) hC⟩
theorem numF_bd {E : Env} {B : Nat} {w0 w : World} {ts r : List Tok} {H : List Bx} {L : List Tn} {n : Int} (hC : Cx E B w0 w (.p ts) H L) (h : numF ts = some (n, r)) : 0 ≤ n ∧ n ≤ 9223372036854775807 := by
  obtain ⟨i, _, hts, _, _⟩ := hC.st
  have hok := hC.ok.num
  unfold numF takF at h
  cases ts with
  | nil => simp at h
  | cons t q =>
    simp only at h
    cases hk : t.k == 1 with
    | false => simp [hk] at h
    | true =>
      simp only [hk, reduceIte, Option.some.injEq, Prod.mk.injEq] at h
      have hm : t ∈ E.l := by
        have : t ∈ E.l.drop i := by rw [hts]; exact List.mem_cons_self
        exact List.mem_of_mem_drop this
      have := hok t hm
      rw [h.1] at this
      exact this
theorem numF_le {ts r : List Tok} {n : Int} (h : numF ts = some (n, r)) : r.length < ts.length := by have := numF_len h; omega
theorem q_kby {E : Env} {B : Nat} {w0 w : World} {ts : List Tok} {H : List Bx} {L : List Tn} (hC : Cx E B w0 w (.p ts) H L) :
    Calls Tryz.prog 146 #[.pointer (some ⟨E.b, 0, none⟩)] w ((oN (kbyF ts)).P E B w0 H L) := by
  obtain ⟨o, ho⟩ : ∃ o, kbyF ts = o := ⟨_, rfl⟩
  rw [ho]
  unfold kbyF at ho
  have HO := hidk ho
  clear ho
  go_enter Tryz.func146, Tryz.ntmps146
  go_wp2_with (first
  | (refine bA ?_; clear hC; intro W k hC)
  | (refine bS ?_; clear hC; intro W hC)
  | (go_at_call 164; have hD := hC; clear hC; refine useB (q_atName hD) ?_ ?_; (focus (intro hb W hC; clear hD; (try simp only [hb, reduceIte, Bool.true_and] at HO); clear hb)); rotate_left; (focus (intro hb W hC; clear hD; (try simp only [hb, reduceIte, Bool.false_and, Bool.false_eq_true] at HO); clear hb)))
  | (go_at_call 163; have hD := hC; clear hC; (first | refine useN (q_column hD) ?_ ?_); (· intro hF W hM; clear hD; (try simp only [hF] at HO); exact ⟨rfl, stopN HO hM⟩); intro t r hF W ao cap hC; clear hD; (try simp only [hF] at HO); have hl := colF_len hF; clear hF)
  | (go_at_call 143; have hD := hC; clear hC; (first | refine useI (q_number hD) ?_ ?_); (· intro hF W hM; clear hD; (try simp only [hF] at HO); exact ⟨rfl, stopN HO hM⟩); intro n r hF W hC; clear hD; (try simp only [hF] at HO); have hl := numF_le hF; clear hF))
  all_goals first | exact ⟨rfl, stopN HO hC.mv⟩ | exact eM1
theorem q_key {E : Env} {B : Nat} {w0 w : World} {ts : List Tok} {H : List Bx} {L : List Tn} (hC : Cx E B w0 w (.p ts) H L) :
    Calls Tryz.prog 127 #[.pointer (some ⟨E.b, 0, none⟩)] w ((oN (keyF ts)).P E B w0 H L) := by
  obtain ⟨o, ho⟩ : ∃ o, keyF ts = o := ⟨_, rfl⟩
  rw [ho]
  unfold keyF at ho
  have HO := hidk ho
  clear ho
  go_enter Tryz.func127, Tryz.ntmps127
  go_wp2_with (first
  | (refine bA ?_; clear hC; intro W k hC)
  | refine bL ?_
  | (refine bS ?_; clear hC; intro W hC)
  | (go_at_call 146; have hD := hC; clear hC; (first | refine useN (q_kby hD) ?_ ?_); (· intro hF W hM; clear hD; (try simp only [hF] at HO); exact ⟨rfl, stopN HO hM⟩); intro t r hF W ao cap hC; clear hD; (try simp only [hF] at HO); have hl := kbyF_len hF; clear hF)
  | (go_at_call 50; have hD := hC; clear hC; (first | guard_target = Calls _ _ #[_, Value.slice (some _) 1 1] _ _; refine useB (q_took1 [100, 101, 115, 99] hD) ?_ ?_); (focus (intro hb W hC; clear hD; (try simp only [hb, reduceIte, pB] at HO); (try have hl := tkR_ls hb (by simp)); clear hb)); rotate_left; (focus (intro hb W hC; clear hD; (try simp only [tkR_no hb] at HO hC); (try simp only [hb, reduceIte, pB] at HO); clear hb)))
  | (go_at_call 50; have hD := hC; clear hC; (first | guard_target = Calls _ _ #[_, Value.slice (some _) 1 1] _ _; refine useV (q_took1 [97, 115, 99] hD) ?_); intro W hC; clear hD; (try have hl := hC.tkl))
  | (go_at_call 51; guard_target = Calls _ _ #[_, _, Value.slice none 0 0] _ _; (first | refine useDx (q_node0 _ _ hC) ?_); clear hC; intro W hC)
  | (go_at_call 51; guard_target = Calls _ _ #[_, _, Value.slice (some _) 1 1] _ _; refine m1 ?_; clear hC; intro W hC)
  | (go_at_call 51; have hD := hC; clear hC; refine m4 ?_; intro W hC; clear hD))
  all_goals first | exact ⟨rfl, stopN HO hC.mv⟩ | exact eM1
theorem q_qry {E : Env} {B : Nat} {w0 w : World} {ts : List Tok} {H : List Bx} {L : List Tn} {R : Rc} {n : Nat} (RC : Ct R n) (hn : ts.length + 1 < n) (hC : Cx E B w0 w (.p ts) H L) :
    Calls Tryz.prog 95 #[.pointer (some ⟨E.b, 0, none⟩)] w ((oN (qryF R ts)).P E B w0 H L) := by
  obtain ⟨o, ho⟩ : ∃ o, qryF R ts = o := ⟨_, rfl⟩
  rw [ho]
  unfold qryF at ho
  have HO := hidk ho
  clear ho
  go_enter Tryz.func95, Tryz.ntmps95
  go_wp2_with (first
  | (refine bA ?_; clear hC; intro W k hC)
  | refine bL ?_
  | (refine bS ?_; clear hC; intro W hC)
  | (go_at_call 91; have hD := hC; clear hC; (first | refine useN (RC.body hD (by omega)) ?_ ?_); (· intro hF W hM; clear hD; (try simp only [hF] at HO); exact ⟨rfl, stopN HO hM⟩); intro t r hF W ao cap hC; clear hD; (try simp only [hF] at HO); have hl := RC.len.body _ _ _ hF; clear hF)
  | (go_at_call 50; have hD := hC; clear hC; (first | guard_target = Calls _ _ #[_, Value.slice (some _) 2 2] _ _; refine useB (q_took2 _ _ hD) ?_ ?_); (focus (intro hb W hC; clear hD; (try simp only [hb, reduceIte, pB] at HO); (try have hl := tkR_ls hb (by simp)); clear hb)); rotate_left; (focus (intro hb W hC; clear hD; (try simp only [tkR_no hb] at HO hC); (try simp only [hb, reduceIte, pB] at HO); clear hb)))
  | (go_at_call 84; (first | (guard_target = Calls _ _ #[_, Value.func (Go.Fn.func 127) _ _] _ _; have hD := hC; clear hC; refine useL (q_list (I := keyF) (m := n) ent_key (fun hs hE hl => q_key hE) (by omega) (fun _ _ _ h => keyF_len h) hD) ?_ ?_; (· intro hF W hM; clear hD; (try simp only [hF] at HO); exact ⟨rfl, stopN HO hM⟩); intro l r hF W ao cap hC; clear hD; (try simp only [hF] at HO); have hl := lsF_Len (fun _ _ _ h => keyF_len h) _ _ _ hF; clear hF)))
  | (go_at_call 51; guard_target = Calls _ _ #[_, _, Value.slice (some _) 2 2] _ _; have hD := hC.root (t := ls l) (by first | exact .head _ | exact .tail _ (.head _) | exact .tail _ (.tail _ (.head _)) | exact .tail _ (.tail _ (.tail _ (.head _)))) [111, 114, 100, 101, 114] [] 0; clear hC; refine useDx (q_node2 (t2 := Tr.mk [111, 114, 100, 101, 114] [] 0 l) _ _ hD (.tail _ (.tail _ (.tail _ (.head _)))) (.head _)) ?_; intro W hC; clear hD)
  | (go_at_call 51; guard_target = Calls _ _ #[_, _, Value.slice none 0 0] _ _; (first | refine useDx (q_node0 _ _ hC) ?_); clear hC; intro W hC)
  | (go_at_call 51; guard_target = Calls _ _ #[_, _, Value.slice (some _) 2 2] _ _; refine m2 ?_; clear hC; intro W hC)
  | (go_at_call 51; have hD := hC; clear hC; refine m4 ?_; intro W hC; clear hD))
  all_goals first | exact ⟨rfl, stopN HO hC.mv⟩ | exact eM1
end Go.Proofs.YtaenpacfbheppaaGreatDoor

namespace Go.Proofs.YtaenpacfbheppaaGreatDoor
open Go.RowKit
def LOut (E : Env) (B : Nat) (w0 : World) (H : List Bx) (L : List Tn) (o : Option (List Tr × List Tok)) (e : Ending) (W : World) : Prop := match o with
  | none => e = .panicked stopP ∧ Fr w0 W (fun i => i = E.b)
  | some (l, r) => ∃ k cap cur ks L', e = .returned (.slice (some ⟨k, 0, none⟩) l.length cap) ∧ Cx E B w0 W (.p r) ((k, cur, 24) :: H) L' ∧ Rw cap l ks cur ∧ Rin ks l L' ∧ (∀ y ∈ L, y ∈ L') ∧ 0 < l.length
section
variable {E : Env} {B : Nat} {w0 w W : World} {H : List Bx} {L : List Tn} {f : Nat} {args : Array Value} {R : Ending → World → Prop}
theorem stopO {o : Option (List Tr × List Tok)} (h : Hid (none = o)) (hf : Fr w0 W (fun i => i = E.b)) : LOut E B w0 H L o (.panicked stopP) W := by
  rw [← h.out]; exact ⟨rfl, hf⟩
theorem endO {o : Option (List Tr × List Tok)} {l : List Tr} {r : List Tok} {e : Ending} (h : Hid (some (l, r) = o)) (hx : ∃ k cap cur ks L', e = .returned (.slice (some ⟨k, 0, none⟩) l.length cap) ∧ Cx E B w0 W (.p r) ((k, cur, 24) :: H) L' ∧ Rw cap l ks cur ∧ Rin ks l L' ∧ (∀ y ∈ L, y ∈ L') ∧ 0 < l.length) : LOut E B w0 H L o e W := by
  rw [← h.out]; exact hx
theorem useLO {o : Option (List Tr × List Tok)} (h : Calls Tryz.prog f args w (LOut E B w0 H L o)) (h0 : o = none → ∀ W, Fr w0 W (fun i => i = E.b) → R (.panicked stopP) W)
    (h1 : ∀ l r, o = some (l, r) → ∀ W k cap cur ks L', Cx E B w0 W (.p r) ((k, cur, 24) :: H) L' → Rw cap l ks cur → Rin ks l L' → (∀ y ∈ L, y ∈ L') → 0 < l.length → R (.returned (.slice (some ⟨k, 0, none⟩) l.length cap)) W) : Calls Tryz.prog f args w R := by
  refine h.mono fun e W hp => ?_
  rcases o with _ | ⟨l, r⟩
  · obtain ⟨rfl, hf⟩ := hp; exact h0 rfl W hf
  · obtain ⟨k, cap, cur, ks, L', rfl, hC, hR, hN, hS, h0⟩ := hp; exact h1 l r rfl W k cap cur ks L' hC hR hN hS h0
end
theorem q_listO {E : Env} {B : Nat} {w0 w : World} {ts : List Tok} {H : List Bx} {L : List Tn} {I : Ps Tr} {g m : Nat} {fa la : Array Value} (eg : Enters Tryz.prog g) (hI : DoesN E B w0 H g fa la I m) (hm : ts.length < m) (hlen : Len I) (hC : Cx E B w0 w (.p ts) H L) :
    Calls Tryz.prog 84 #[.pointer (some ⟨E.b, 0, none⟩), .func (.func g) fa la] w (LOut E B w0 H L (lsF I ts)) := by
  obtain ⟨o, ho⟩ : ∃ o, lsF I ts = o := ⟨_, rfl⟩
  rw [ho]
  unfold lsF at ho
  have HO := hidk ho
  clear ho
  unfold Enters at eg
  have h600 := hC.le600
  go_enter Tryz.func84, Tryz.ntmps84
  go_wp2_with (first
  | (refine bA ?_; clear hC; intro W k hC)
  | (refine m0 ?_; clear hC; intro W hC; simp only [pS] at hC; (try simp only [pP]))
  | ((first | refine hC.bP ?_ | refine hC.bN ?_ | refine hC.b1 ?_); clear hC; intro W k hC; (try simp only [pP]))
  | refine bL ?_
  | (refine bS ?_; clear hC; intro W hC)
    | (have hD := hC; clear hC; refine useN (hI mSub hD (by omega)) ?_ ?_; (· intro hF W hM; clear hD; (try simp only [hF] at HO); exact ⟨rfl, stopO HO hM⟩); intro t r hF W ao cap hC; clear hD; (try simp only [hF] at HO); have hl := hlen _ _ _ hF; clear hF))
  go_loopg [5] (r.length) (fun kx sv wr => ∃ (k : Nat) (l : List Tr) (cap : Nat) (cur : List Value) (ks : List Kid) (L' : List Tn) (ts' : List Tok) (f : Nat), sv = .slice (some ⟨k, 0, none⟩) l.length cap ∧ ts'.length ≤ kx ∧ Hid (Cx E B w0 wr (.p ts') ((k, cur, 24) :: H) L') ∧ Hid (Rw cap l ks cur) ∧ Hid (Rin ks l L') ∧ Hid (∀ y ∈ L, y ∈ L') ∧ Hid (lsN I f l ts' = o) ∧ ts'.length < f ∧ l.length + ts'.length ≤ 601 ∧ ts'.length < m ∧ 0 < l.length)
  case atStart => exact ⟨_, [t], 1, _, _, _, r, r.length + 1, rfl, Nat.le_refl _, hC, Rw.one, Rin.one List.mem_cons_self, fun y hy => List.mem_cons_of_mem _ hy, HO, by omega, by simp; omega, by omega, by simp⟩
  case round =>
    rename World => wr
    clear hC HO hl
    obtain ⟨k, l, cap, cur, ks, L', ts', f, rfl, hk, hC', hR, hN, hS, HO, hf, h6, hmm, h0⟩ := hrel
    have hC := hC'.out
    clear hC'
    obtain ⟨f, rfl⟩ : ∃ f', f = f' + 1 := ⟨f - 1, by omega⟩
    have HO2 := hidk HO.out
    clear HO
    obtain ho := HO2.out
    clear HO2
    unfold lsN at ho
    have HO := hidk ho
    clear ho
    go_wp2_with (first
    | (refine bA ?_; clear hC; intro W k hC)
    | (refine m0 ?_; clear hC; intro W hC; simp only [pS] at hC; (try simp only [pP]))
    | ((first | refine hC.bP ?_ | refine hC.bN ?_ | refine hC.b1 ?_); clear hC; intro W k hC; (try simp only [pP]))
    | refine bL ?_
    | (refine bS ?_; clear hC; intro W hC)
    | (go_at_call 21; have hD := hC; clear hC; refine useG (q_tookSign _ hD) ?_ ?_; (focus (intro hF W hC; clear hD; (try simp only [hF, Option.isSome_none, Bool.false_eq_true, Bool.and_false, reduceIte] at HO); clear hF)); rotate_left; (focus (intro x r hF W hC; clear hD; (try simp only [hF, Option.isSome_some, Bool.and_true, reduceIte] at HO); have hl := oneF_le hF; clear hF)))
      | (have hD := hC; clear hC; refine useN (hI (List.sublist_cons_self _ _) hD (by omega)) ?_ ?_; (· intro hF W hM; clear hD; (try simp only [hF] at HO); exact ⟨rfl, stopO HO hM⟩); intro t r hF W ao cap hC; clear hD; (try simp only [hF] at HO); have hl2 := hlen _ _ _ hF; clear hF)
    | (at_builtin; refine wl_app1 rfl hC (.head _) 0 (by rfl) (by rfl) (by rfl) rfl hR.out (hN.out.mono (fun y hy => List.mem_cons_of_mem _ hy)) (by rfl) (by omega) ?_; clear hC; intro W k cap2 cur2 hC hR2 hN2))
    · go_roundg (r.length)
      case measure => omega
      case rel => exact ⟨k, l ++ [t], cap2, cur2, _, _, r, f, (by simp), Nat.le_refl _, hC, hR2, hN2, (fun y hy => List.mem_cons_of_mem _ (hS.out y hy)), HO, by omega, by simp; omega, by omega, by simp⟩
    · go_ret
      exact endO HO ⟨k, cap, cur, ks, L', rfl, hC, hR.out, hN.out, hS.out, h0⟩
theorem q_chk {E : Env} {B : Nat} {w0 w : World} {ts : List Tok} {H : List Bx} {L : List Tn} {R : Rc} {n : Nat} (RC : Ct R n) (hn : ts.length < n) (hC : Cx E B w0 w (.p ts) H L) :
    Calls Tryz.prog 86 #[.pointer (some ⟨E.b, 0, none⟩)] w ((oN (chkF R ts)).P E B w0 H L) := by
  obtain ⟨o, ho⟩ : ∃ o, chkF R ts = o := ⟨_, rfl⟩
  rw [ho]
  unfold chkF at ho
  have HO := hidk ho
  clear ho
  go_enter Tryz.func86, Tryz.ntmps86
  go_wp2_with (first
  | (refine bA ?_; clear hC; intro W k hC)
  | (refine bS ?_; clear hC; intro W hC)
  | (go_at_call 119; (first | (guard_target = Calls _ _ #[_, Value.func (Go.Fn.func 120) _ _] _ _; have hD := hC; clear hC; refine useN (q_parN (I := R.expr) (m := n - 1) ent_expr (fun hs hE hl => RC.expr hE (by omega)) (by omega) hD) ?_ ?_; (· intro hF W hM; clear hD; (try simp only [hF] at HO); exact ⟨rfl, stopN HO hM⟩); intro t r hF W ao cap hC; clear hD; (try simp only [hF] at HO); have hl := parF_len (RC.len.expr) hF; clear hF)))
  | (go_at_call 51; guard_target = Calls _ _ #[_, _, Value.slice none 0 0] _ _; (first | refine useDx (q_node0 _ _ hC) ?_); clear hC; intro W hC)
  | (go_at_call 51; guard_target = Calls _ _ #[_, _, Value.slice (some _) 1 1] _ _; refine m1 ?_; clear hC; intro W hC)
  | (go_at_call 51; have hD := hC; clear hC; refine m4 ?_; intro W hC; clear hD))
  all_goals first | exact ⟨rfl, stopN HO hC.mv⟩ | exact eM2
theorem q_opt {E : Env} {B : Nat} {w0 w : World} {ts : List Tok} {H : List Bx} {L : List Tn} {R : Rc} {n : Nat} (RC : Ct R n) (hn : ts.length < n) (hC : Cx E B w0 w (.p ts) H L) :
    Calls Tryz.prog 122 #[.pointer (some ⟨E.b, 0, none⟩)] w ((oP (optF R ts)).P E B w0 H L) := by
  obtain ⟨o, ho⟩ : ∃ o, optF R ts = o := ⟨_, rfl⟩
  rw [ho]
  unfold optF at ho
  have HO := hidk ho
  clear ho
  go_enter Tryz.func122, Tryz.ntmps122
  go_wp2_with (first
  | (refine bA ?_; clear hC; intro W k hC)
  | (refine bS ?_; clear hC; intro W hC)
  | (go_at_call 50; have hD := hC; clear hC; (first | guard_target = Calls _ _ #[_, Value.slice (some _) 1 1] _ _; refine useB (q_took1 _ hD) ?_ ?_ | guard_target = Calls _ _ #[_, Value.slice (some _) 2 2] _ _; refine useB (q_took2 _ _ hD) ?_ ?_); (focus (intro hb W hC; clear hD; (try simp only [hb, reduceIte, pB] at HO); (try have hl := tkR_ls hb (by simp)); clear hb)); rotate_left; (focus (intro hb W hC; clear hD; (try simp only [tkR_no hb] at HO hC); (try simp only [hb, reduceIte, pB] at HO); clear hb)))
  | (go_at_call 86; have hD := hC; clear hC; (first | refine useN (q_chk RC (by omega) hD) ?_ ?_); (· intro hF W hM; clear hD; (try simp only [hF] at HO); exact ⟨rfl, stopPP HO hM⟩); intro t r hF W ao cap hC; clear hD; (try simp only [hF] at HO); have hl := chkF_Len RC.len _ _ _ hF; clear hF)
  | (go_at_call 52; have hD := hC; clear hC; (first | refine useS (q_name hD) ?_ ?_); (· intro hF W hM; clear hD; (try simp only [hF] at HO); exact ⟨rfl, stopPP HO hM⟩); intro s r hF W hC; clear hD; (try simp only [hF] at HO); have hl := nameF_le hF; clear hF)
  | (go_at_call 51; guard_target = Calls _ _ #[_, _, Value.slice none 0 0] _ _; (first | refine useDx (q_node0 _ _ hC) ?_); clear hC; intro W hC)
  | (go_at_call 51; have hD := hC; clear hC; refine m4 ?_; intro W hC; clear hD))
  all_goals first | exact ⟨rfl, stopPP HO hC.mv⟩ | (refine hC.rcB ?_; first | exact endP0 HO (hC.fin0 mSub mL) | (refine endP1 HO (hC.fin ?_ ?_ ?_); (repeat (first | exact List.Sublist.refl _ | apply List.Sublist.cons)); (repeat (first | exact List.mem_cons_self | apply List.mem_cons_of_mem)); intro y hy; (repeat (first | exact hy | apply List.mem_cons_of_mem)); done))
def colTl (s : List UInt8) (x : Option (List Tr × List Tok)) : Option (Tr × List Tok) := match x with
  | none => none
  | some (l, r) => some (nd [99, 111, 108, 117, 109, 110] s l, r)
theorem cofF_eq (R : Rc) (ts : List Tok) : cofF R ts = match nameF ts with
  | none => none
  | some (s, r) => match typF r with
    | none => none
    | some (t, r2) => colTl s (opN R (r2.length + 1) [t] r2) := rfl
theorem q_cof {E : Env} {B : Nat} {w0 w : World} {ts : List Tok} {H : List Bx} {L : List Tn} {R : Rc} {n : Nat} (RC : Ct R n) (hn : ts.length < n) (hC : Cx E B w0 w (.p ts) H L) :
    Calls Tryz.prog 88 #[.pointer (some ⟨E.b, 0, none⟩)] w ((oN (cofF R ts)).P E B w0 H L) := by
  obtain ⟨o, ho⟩ : ∃ o, cofF R ts = o := ⟨_, rfl⟩
  rw [ho]
  rw [cofF_eq] at ho
  have HO := hidk ho
  clear ho
  have h600 := hC.le600
  go_enter Tryz.func88, Tryz.ntmps88
  go_wp2_with (first
  | (refine bA ?_; clear hC; intro W k hC)
  | refine bL ?_
  | (refine bS ?_; clear hC; intro W hC)
  | (go_at_call 52; have hD := hC; clear hC; (first | refine useS (q_name hD) ?_ ?_); (· intro hF W hM; clear hD; (try simp only [hF] at HO); exact ⟨rfl, stopN HO hM⟩); intro sN r hF W hC; clear hD; (try simp only [hF] at HO); have hl := nameF_le hF; clear hF)
  | (go_at_call 121; have hD := hC; clear hC; (first | refine useN (q_typeOf hD) ?_ ?_); (· intro hF W hM; clear hD; (try simp only [hF] at HO); exact ⟨rfl, stopN HO hM⟩); intro t r hF W ao cap hC; clear hD; (try simp only [hF] at HO); have hl := typF_len hF; clear hF))
  rename_i Wa k2 rA Wc hlA Wd
  go_loopg [4] (r.length) (fun kx sv wr => ∃ (k : Nat) (l : List Tr) (cap : Nat) (cur : List Value) (ks : List Kid) (L' : List Tn) (ts' : List Tok) (f : Nat), sv = .slice (some ⟨k, 0, none⟩) l.length cap ∧ ts'.length ≤ kx ∧ Hid (Cx E B w0 wr (.p ts') ((k, cur, 24) :: (k2, [.string ⟨#[]⟩, .string ⟨#[]⟩, .int .i64 0, .slice none 0 0], 24) :: H) L') ∧ Hid (Rw cap l ks cur) ∧ Hid (Rin ks l L') ∧ Hid (∀ y ∈ L, y ∈ L') ∧ Hid (colTl sN (opN R f l ts') = o) ∧ ts'.length < f ∧ l.length + ts'.length ≤ 601 ∧ ts'.length < n ∧ 0 < l.length)
  case atStart => exact ⟨_, [t], 1, _, _, _, r, r.length + 1, rfl, Nat.le_refl _, hC, Rw.one, Rin.one List.mem_cons_self, fun y hy => List.mem_cons_of_mem _ hy, HO, by omega, by simp; omega, by omega, by simp⟩
  case round =>
    rename World => wr
    clear hC HO hl
    obtain ⟨k, l, cap, cur, ks, L', ts', f, rfl, hk, hC', hR, hN, hS, HO2, hf, h6, hmm, h0⟩ := hrel
    have hC := hC'.out
    clear hC'
    obtain ⟨f, rfl⟩ : ∃ f', f = f' + 1 := ⟨f - 1, by omega⟩
    obtain ho := HO2.out
    clear HO2
    unfold opN at ho
    have HO := hidk ho
    clear ho
    go_wp2_with (first
    | (refine bA ?_; clear hC; intro W k hC)
    | refine bL ?_
    | (refine bS ?_; clear hC; intro W hC)
    | (go_at_call 122; have hD := hC; clear hC; refine useP (q_opt RC (by omega) hD) ?_ ?_ ?_; (· intro hF W hM; clear hD; (try simp only [hF, colTl] at HO); exact ⟨rfl, stopN HO hM⟩); (focus (intro r hF W ao cap hC; clear hD; (try simp only [hF, colTl] at HO); clear hF)); rotate_left; (focus (intro t r hF W ao cap hC; clear hD; (try simp only [hF] at HO); have hl := (optF_len RC.len hF).2 (by simp); clear hF)))
    | (go_at_call 51; have hD := hC.madeAt 1 (by rfl) hR.out (hN.out.mono mL) h0 [] [] 0; clear hC; simp only [List.eraseIdx_cons_succ, List.eraseIdx_cons_zero] at hD; refine useDx (q_nodeL _ _ hD (.head _) (by rfl)) ?_; intro W hC; clear hD)
    | (at_builtin; have hD := hC; clear hC; refine wl_app1 rfl hD (.head _) 1 (by rfl) (by rfl) (by rfl) rfl hR.out (hN.out.mono mL) (by rfl) (by omega) ?_; clear hD; intro W k cap2 cur2 hC hR2 hN2; simp only [pS] at hC; (try simp only [pP])))
    all_goals first
      | (go_roundg (r.length)
         case measure => omega
         case rel => exact ⟨k, l ++ [t], cap2, cur2, _, _, r, f, (by simp), Nat.le_refl _, hC.less (List.sublist_cons_self _ _) (fun x hx => hx), hR2, hN2, (fun y hy => List.mem_cons_of_mem _ (hS.out y hy)), HO, by omega, by simp; omega, by omega, by simp⟩)
      | (refine hC.rc ?_
         refine endN HO (hC.fin ?_ (.head _) ?_)
         · (repeat (first | exact List.Sublist.refl _ | apply List.Sublist.cons)); done
         · intro y hy
           have hy := hS.out y hy
           (repeat (first | exact hy | apply List.mem_cons_of_mem)); done)
theorem q_ele {E : Env} {B : Nat} {w0 w : World} {ts : List Tok} {H : List Bx} {L : List Tn} {R : Rc} {n : Nat} (RC : Ct R n) (hn : ts.length < n) (hC : Cx E B w0 w (.p ts) H L) :
    Calls Tryz.prog 54 #[.pointer (some ⟨E.b, 0, none⟩)] w ((oN (eleF R ts)).P E B w0 H L) := by
  obtain ⟨o, ho⟩ : ∃ o, eleF R ts = o := ⟨_, rfl⟩
  rw [ho]
  unfold eleF at ho
  have HO := hidk ho
  clear ho
  go_enter Tryz.func54, Tryz.ntmps54
  go_wp2_with (first
  | (refine bA ?_; clear hC; intro W k hC)
  | (refine bS ?_; clear hC; intro W hC)
  | (go_at_call 50; have hD := hC; clear hC; (first | guard_target = Calls _ _ #[_, Value.slice (some _) 1 1] _ _; refine useB (q_took1 _ hD) ?_ ?_ | guard_target = Calls _ _ #[_, Value.slice (some _) 2 2] _ _; refine useB (q_took2 _ _ hD) ?_ ?_); (focus (intro hb W hC; clear hD; (try simp only [hb, reduceIte, pB] at HO); (try have hl := tkR_ls hb (by simp)); clear hb)); rotate_left; (focus (intro hb W hC; clear hD; (try simp only [tkR_no hb] at HO hC); (try simp only [hb, reduceIte, pB] at HO); clear hb)))
  | (go_at_call 85; have hD := hC; clear hC; (first | refine useL (q_names hD) ?_ ?_); (· intro hF W hM; clear hD; (try simp only [hF] at HO); exact ⟨rfl, stopN HO hM⟩); intro l r hF W ao cap hC; clear hD; (try simp only [hF] at HO); have hl := parL_sz (fun _ _ _ h => namF_len h) hF; clear hF)
  | (go_at_call 86; have hD := hC; clear hC; (first | refine useN (q_chk RC (by omega) hD) ?_ ?_); (· intro hF W hM; clear hD; (try simp only [hF] at HO); exact ⟨rfl, stopN HO hM⟩); intro t r hF W ao cap hC; clear hD; (try simp only [hF] at HO); have hl := chkF_Len RC.len _ _ _ hF; clear hF)
  | (go_at_call 87; have hD := hC; clear hC; (first | guard_target = Calls _ _ #[_, Value.slice (some _) 1 1] _ _; refine useU (q_need1 _ hD) ?_ ?_ | guard_target = Calls _ _ #[_, Value.slice (some _) 2 2] _ _; refine useU (q_need2 _ _ hD) ?_ ?_); (· intro hF W hM; clear hD; (try simp only [hF] at HO); exact ⟨rfl, stopN HO hM⟩); intro r hF W hC; clear hD; (try simp only [hF] at HO); have hl := needF_lt hF (Nat.succ_pos _); clear hF)
  | (go_at_call 52; have hD := hC; clear hC; (first | refine useS (q_name hD) ?_ ?_); (· intro hF W hM; clear hD; (try simp only [hF] at HO); exact ⟨rfl, stopN HO hM⟩); intro s r hF W hC; clear hD; (try simp only [hF] at HO); have hl := nameF_le hF; clear hF)
  | (go_at_call 88; have hD := hC; clear hC; (first | refine useN (q_cof RC (by omega) hD) ?_ ?_); (· intro hF W hM; clear hD; (try simp only [hF] at HO); exact ⟨rfl, stopN HO hM⟩); intro t r hF W ao cap hC; clear hD; (try simp only [hF] at HO); have hl := cofF_Len RC.len _ _ _ hF; clear hF)
  | (go_at_call 51; guard_target = Calls _ _ #[_, _, Value.slice none 0 0] _ _; (first | refine useDx (q_node0 _ _ hC) ?_); clear hC; intro W hC)
  | (go_at_call 51; have hD := hC; clear hC; refine m4 ?_; intro W hC; clear hD))
  all_goals first | exact ⟨rfl, stopN HO hC.mv⟩ | exact eM2
end Go.Proofs.YtaenpacfbheppaaGreatDoor

namespace Go.Proofs.YtaenpacfbheppaaGreatDoor
open Go.RowKit
theorem q_cix {E : Env} {B : Nat} {w0 w : World} {ts : List Tok} {H : List Bx} {L : List Tn} (u : Int) (hC : Cx E B w0 w (.p ts) H L) :
    Calls Tryz.prog 55 #[.pointer (some ⟨E.b, 0, none⟩), .int .i64 u] w ((oN (cixF u ts)).P E B w0 H L) := by
  obtain ⟨o, ho⟩ : ∃ o, cixF u ts = o := ⟨_, rfl⟩
  rw [ho]
  unfold cixF at ho
  have HO := hidk ho
  clear ho
  have h600 := hC.le600
  go_enter Tryz.func55, Tryz.ntmps55
  go_wp2_with (first
  | (refine bA ?_; clear hC; intro W k hC)
  | (refine bS ?_; clear hC; intro W hC)
  | (go_at_call 52; have hD := hC; clear hC; (first | refine useS (q_name hD) ?_ ?_); (· intro hF W hM; clear hD; (try simp only [hF] at HO); exact ⟨rfl, stopN HO hM⟩); intro s r hF W hC; clear hD; (try simp only [hF] at HO); have hl := nameF_le hF; clear hF)
  | (go_at_call 87; have hD := hC; clear hC; (first | guard_target = Calls _ _ #[_, Value.slice (some _) 1 1] _ _; refine useU (q_need1 _ hD) ?_ ?_); (· intro hF W hM; clear hD; (try simp only [hF] at HO); exact ⟨rfl, stopN HO hM⟩); intro r hF W hC; clear hD; (try simp only [hF] at HO); have hl := needF_lt hF (Nat.succ_pos _); clear hF)
  | (go_at_call 85; have hD := hC; clear hC; (first | refine useL (q_names hD) ?_ ?_); (· intro hF W hM; clear hD; (try simp only [hF] at HO); exact ⟨rfl, stopN HO hM⟩); intro l r hF W ao cap hC; clear hD; (try simp only [hF] at HO); have hl := parL_sz (fun _ _ _ h => namF_len h) hF; clear hF)
  | (at_builtin; refine wl_appL rfl hC (.tail _ (.head _)) (by rfl) (by rfl) (.head _) (by rfl) rfl (by omega) (by omega) ?_; clear hC; intro W g2 cap2 hC; (try simp only [pP]))
  | (go_at_call 51; guard_target = Calls _ _ #[_, _, Value.slice none 0 0] _ _; (first | refine useDx (q_node0 _ _ hC) ?_); clear hC; intro W hC)
  | (go_at_call 51; guard_target = Calls _ _ #[_, _, Value.slice (some _) 1 1] _ _; refine m1 ?_; clear hC; intro W hC)
  | (go_at_call 51; have hD := hC; clear hC; refine m4 ?_; intro W hC; clear hD))
  all_goals first | exact ⟨rfl, stopN HO hC.mv⟩ | exact eM2
theorem q_row {E : Env} {B : Nat} {w0 w : World} {ts : List Tok} {H : List Bx} {L : List Tn} {R : Rc} {n : Nat} (RC : Ct R n) (hn : ts.length < n) (hC : Cx E B w0 w (.p ts) H L) :
    Calls Tryz.prog 90 #[.pointer (some ⟨E.b, 0, none⟩)] w ((oN (rowF R ts)).P E B w0 H L) := by
  obtain ⟨o, ho⟩ : ∃ o, rowF R ts = o := ⟨_, rfl⟩
  rw [ho]
  unfold rowF at ho
  have HO := hidk ho
  clear ho
  go_enter Tryz.func90, Tryz.ntmps90
  go_wp2_with (first
  | (refine bA ?_; clear hC; intro W k hC)
  | (refine bS ?_; clear hC; intro W hC)
  | (go_at_call 53; (first | (guard_target = Calls _ _ #[_, Value.func (Go.Fn.func 120) _ _] _ _; have hD := hC; clear hC; refine useL (q_lip (I := R.expr) (m := n - 1) ent_expr (fun hs hE hl => RC.expr hE (by omega)) (by omega) (RC.len.expr) hD) ?_ ?_; (· intro hF W hM; clear hD; (try simp only [hF] at HO); exact ⟨rfl, stopN HO hM⟩); intro l r hF W ao cap hC; clear hD; (try simp only [hF] at HO); have hl := parL_sz (RC.len.expr) hF; clear hF)))
  | (go_at_call 51; guard_target = Calls _ _ #[_, _, Value.slice none 0 0] _ _; (first | refine useDx (q_node0 _ _ hC) ?_); clear hC; intro W hC)
  | (go_at_call 51; have hD := hC; clear hC; refine m4 ?_; intro W hC; clear hD))
  all_goals first | exact ⟨rfl, stopN HO hC.mv⟩ | exact eM2
theorem q_set {E : Env} {B : Nat} {w0 w : World} {ts : List Tok} {H : List Bx} {L : List Tn} {R : Rc} {n : Nat} (RC : Ct R n) (hn : ts.length < n) (hC : Cx E B w0 w (.p ts) H L) :
    Calls Tryz.prog 92 #[.pointer (some ⟨E.b, 0, none⟩)] w ((oN (setF R ts)).P E B w0 H L) := by
  obtain ⟨o, ho⟩ : ∃ o, setF R ts = o := ⟨_, rfl⟩
  rw [ho]
  unfold setF at ho
  have HO := hidk ho
  clear ho
  go_enter Tryz.func92, Tryz.ntmps92
  go_wp2_with (first
  | (refine bA ?_; clear hC; intro W k hC)
  | (refine bS ?_; clear hC; intro W hC)
  | (go_at_call 52; have hD := hC; clear hC; (first | refine useS (q_name hD) ?_ ?_); (· intro hF W hM; clear hD; (try simp only [hF] at HO); exact ⟨rfl, stopN HO hM⟩); intro s r hF W hC; clear hD; (try simp only [hF] at HO); have hl := nameF_le hF; clear hF)
  | (go_at_call 117; have hD := hC; clear hC; refine useW (q_needSign _ hD) ?_ ?_; (· intro hF W hM; clear hD; (try simp only [hF] at HO); exact ⟨rfl, stopN HO hM⟩); intro x r hF W hC; clear hD; (try simp only [hF] at HO); have hl := oneF_le hF; clear hF)
  | (go_at_call 120; have hD := hC; clear hC; (first | refine useN (RC.expr hD (by omega)) ?_ ?_); (· intro hF W hM; clear hD; (try simp only [hF] at HO); exact ⟨rfl, stopN HO hM⟩); intro t r hF W ao cap hC; clear hD; (try simp only [hF] at HO); have hl := RC.len.expr _ _ _ hF; clear hF)
  | (go_at_call 51; guard_target = Calls _ _ #[_, _, Value.slice none 0 0] _ _; (first | refine useDx (q_node0 _ _ hC) ?_); clear hC; intro W hC)
  | (go_at_call 51; guard_target = Calls _ _ #[_, _, Value.slice (some _) 1 1] _ _; refine m1 ?_; clear hC; intro W hC)
  | (go_at_call 51; have hD := hC; clear hC; refine m4 ?_; intro W hC; clear hD))
  all_goals first | exact ⟨rfl, stopN HO hC.mv⟩ | exact eM2
theorem q_who {E : Env} {B : Nat} {w0 w : World} {ts : List Tok} {H : List Bx} {L : List Tn} {R : Rc} {n : Nat} (RC : Ct R n) (hn : ts.length < n) (hC : Cx E B w0 w (.p ts) H L) :
    Calls Tryz.prog 58 #[.pointer (some ⟨E.b, 0, none⟩)] w ((oN (whoF R ts)).P E B w0 H L) := by
  obtain ⟨o, ho⟩ : ∃ o, whoF R ts = o := ⟨_, rfl⟩
  rw [ho]
  unfold whoF at ho
  have HO := hidk ho
  clear ho
  go_enter Tryz.func58, Tryz.ntmps58
  go_wp2_with (first
  | (refine bA ?_; clear hC; intro W k hC)
  | (refine bS ?_; clear hC; intro W hC)
  | (go_at_call 50; have hD := hC; clear hC; (first | guard_target = Calls _ _ #[_, Value.slice (some _) 3 3] _ _; refine useB (q_took3 _ _ _ hD) ?_ ?_); (focus (intro hb W hC; clear hD; (try simp only [hb, reduceIte, pB] at HO); (try have hl := tkR_ls hb (by simp)); clear hb)); rotate_left; (focus (intro hb W hC; clear hD; (try simp only [tkR_no hb] at HO hC); (try simp only [hb, reduceIte, pB] at HO); clear hb)))
  | (go_at_call 52; have hD := hC; clear hC; (first | refine useS (q_name hD) ?_ ?_); (· intro hF W hM; clear hD; (try simp only [hF] at HO); exact ⟨rfl, stopN HO hM⟩); intro s r hF W hC; clear hD; (try simp only [hF] at HO); have hl := nameF_le hF; clear hF)
  | (go_at_call 93; have hD := hC; clear hC; (first | refine useN (q_cls RC _ (by omega) hD) ?_ ?_); (· intro hF W hM; clear hD; (try simp only [hF] at HO); exact ⟨rfl, stopN HO hM⟩); intro t r hF W ao cap hC; clear hD; (try simp only [hF] at HO); have hl := clsF_Len RC.len _ _ _ _ hF; clear hF)
  | (go_at_call 51; guard_target = Calls _ _ #[_, _, Value.slice none 0 0] _ _; (first | refine useDx (q_node0 _ _ hC) ?_); clear hC; intro W hC)
  | (go_at_call 51; have hD := hC; clear hC; refine m4 ?_; intro W hC; clear hD))
  all_goals first | exact ⟨rfl, stopN HO hC.mv⟩ | exact eM2
theorem q_upd {E : Env} {B : Nat} {w0 w : World} {ts : List Tok} {H : List Bx} {L : List Tn} {R : Rc} {n : Nat} (RC : Ct R n) (hn : ts.length < n) (hC : Cx E B w0 w (.p ts) H L) :
    Calls Tryz.prog 57 #[.pointer (some ⟨E.b, 0, none⟩)] w ((oN (updF R ts)).P E B w0 H L) := by
  obtain ⟨o, ho⟩ : ∃ o, updF R ts = o := ⟨_, rfl⟩
  rw [ho]
  unfold updF at ho
  have HO := hidk ho
  clear ho
  have h600 := hC.le600
  go_enter Tryz.func57, Tryz.ntmps57
  go_wp2_with (first
  | (refine bA ?_; clear hC; intro W k hC)
  | (refine bS ?_; clear hC; intro W hC)
  | (go_at_call 52; have hD := hC; clear hC; (first | refine useS (q_name hD) ?_ ?_); (· intro hF W hM; clear hD; (try simp only [hF] at HO); exact ⟨rfl, stopN HO hM⟩); intro s r hF W hC; clear hD; (try simp only [hF] at HO); have hl := nameF_le hF; clear hF)
  | (go_at_call 87; have hD := hC; clear hC; (first | guard_target = Calls _ _ #[_, Value.slice (some _) 1 1] _ _; refine useU (q_need1 _ hD) ?_ ?_); (· intro hF W hM; clear hD; (try simp only [hF] at HO); exact ⟨rfl, stopN HO hM⟩); intro r hF W hC; clear hD; (try simp only [hF] at HO); have hl := needF_lt hF (Nat.succ_pos _); clear hF)
  | (go_at_call 84; have hD := hC; clear hC; refine useLO (q_listO (I := setF R) (m := n) ent_set (fun hs hE hl => q_set RC (by omega) hE) (by omega) (setF_Len RC.len) hD) ?_ ?_; (· intro hF W hM; clear hD; (try simp only [hF] at HO); exact ⟨rfl, stopN HO hM⟩); intro l r hF W k cap cur ks LL hC hR0 hN0 hS0 h0; clear hD; (try simp only [hF] at HO); have hl := lsF_sz (setF_Len RC.len) hF; have hR := hidk hR0; have hN := hidk hN0; have hS := hidk hS0; clear hF hR0 hN0 hS0)
  | (go_at_call 58; have hD := hC; clear hC; (first | refine useN (q_who RC (by omega) hD) ?_ ?_); (· intro hF W hM; clear hD; (try simp only [hF] at HO); exact ⟨rfl, stopN HO hM⟩); intro t r hF W ao cap hC; clear hD; (try simp only [hF] at HO); have hl := whoF_Len RC.len _ _ _ hF; clear hF)
  | (at_builtin; have hD := hC; clear hC; refine wl_app1 rfl hD (.head _) 0 (by rfl) (by rfl) (by rfl) rfl hR.out (hN.out.mono mL) (by rfl) (by omega) ?_; clear hD; intro W k9 cap2 cur2 hD hR2 hN2; simp only [List.set_cons_zero, List.set_cons_succ] at hD; have hC := hD.madeAt 0 (by rfl) hR2 hN2 (by simp) [] [] 0; simp only [List.eraseIdx_cons_zero, List.eraseIdx_cons_succ] at hC; clear hD; (try simp only [pP]))
  | (go_at_call 51; refine useDx (q_nodeL _ _ hC (.head _) (by simp)) ?_; clear hC; intro W hC))
  all_goals first
    | exact ⟨rfl, stopN HO hC.mv⟩
    | (refine hC.rc ?_
       refine endN HO (hC.fin ?_ (.head _) ?_)
       · (repeat (first | exact List.Sublist.refl _ | apply List.Sublist.cons)); done
       · intro y hy
         have hy := hS.out y hy
         (repeat (first | exact hy | apply List.mem_cons_of_mem)); done)
theorem q_pur {E : Env} {B : Nat} {w0 w : World} {ts : List Tok} {H : List Bx} {L : List Tn} (hC : Cx E B w0 w (.p ts) H L) :
    Calls Tryz.prog 96 #[.pointer (some ⟨E.b, 0, none⟩)] w ((oN (some (purF ts))).P E B w0 H L) := by
  obtain ⟨o, ho⟩ : ∃ o, some (purF ts) = o := ⟨_, rfl⟩
  rw [ho]
  unfold purF at ho
  have HO := hidk ho
  clear ho
  go_enter Tryz.func96, Tryz.ntmps96
  go_wp2_with (first
  | (refine bA ?_; clear hC; intro W k hC)
  | (refine bS ?_; clear hC; intro W hC)
  | (go_at_call 50; have hD := hC; clear hC; (first | guard_target = Calls _ _ #[_, Value.slice (some _) 2 2] _ _; refine useB (q_took2 _ _ hD) ?_ ?_ | guard_target = Calls _ _ #[_, Value.slice (some _) 3 3] _ _; refine useB (q_took3 _ _ _ hD) ?_ ?_); (focus (intro hb W hC; clear hD; (try simp only [hb, reduceIte, pB] at HO); (try have hl := tkR_ls hb (by simp)); clear hb)); rotate_left; (focus (intro hb W hC; clear hD; (try simp only [tkR_no hb] at HO hC); (try simp only [hb, reduceIte, pB] at HO); clear hb)))
  | (go_at_call 51; guard_target = Calls _ _ #[_, _, Value.slice none 0 0] _ _; (first | refine useDx (q_node0 _ _ hC) ?_); clear hC; intro W hC)
  | (go_at_call 51; have hD := hC; clear hC; refine m4 ?_; intro W hC; clear hD))
  all_goals first | exact ⟨rfl, stopN HO hC.mv⟩ | exact eM2
theorem q_dec {E : Env} {B : Nat} {w0 w : World} {ts : List Tok} {H : List Bx} {L : List Tn} {R : Rc} {n : Nat} (RC : Ct R n) (hn : ts.length < n) (hC : Cx E B w0 w (.p ts) H L) :
    Calls Tryz.prog 59 #[.pointer (some ⟨E.b, 0, none⟩)] w ((oN (decF R ts)).P E B w0 H L) := by
  obtain ⟨o, ho⟩ : ∃ o, decF R ts = o := ⟨_, rfl⟩
  rw [ho]
  unfold decF at ho
  have HO := hidk ho
  clear ho
  go_enter Tryz.func59, Tryz.ntmps59
  go_wp2_with (first
  | (refine bA ?_; clear hC; intro W k hC)
  | refine bL ?_
  | (refine bS ?_; clear hC; intro W hC)
  | (go_at_call 52; have hD := hC; clear hC; (first | refine useS (q_name hD) ?_ ?_); (· intro hF W hM; clear hD; (try simp only [hF] at HO); exact ⟨rfl, stopN HO hM⟩); intro s r hF W hC; clear hD; (try simp only [hF] at HO); have hl := nameF_le hF; clear hF)
  | (go_at_call 50; have hD := hC; clear hC; (first | guard_target = Calls _ _ #[_, Value.slice (some _) 1 1] _ _; refine useV (q_took1 [115, 99, 114, 111, 108, 108] hD) ?_); intro W hC; clear hD; (try have hl := hC.tkl))
  | (go_at_call 94; refine (q_mark _ _).mono ?_; rintro e w1 ⟨rfl, hw1⟩; obtain rfl := hw1.symm)
  | (go_at_call 87; have hD := hC; clear hC; (first | guard_target = Calls _ _ #[_, Value.slice (some _) 1 1] _ _; refine useU (q_need1 _ hD) ?_ ?_ | guard_target = Calls _ _ #[_, Value.slice (some _) 2 2] _ _; refine useU (q_need2 _ _ hD) ?_ ?_); (· intro hF W hM; clear hD; (try simp only [hF] at HO); exact ⟨rfl, stopN HO hM⟩); intro r hF W hC; clear hD; (try simp only [hF] at HO); have hl := needF_lt hF (Nat.succ_pos _); clear hF)
  | (go_at_call 95; have hD := hC; clear hC; (first | refine useN (q_qry RC (by omega) hD) ?_ ?_); (· intro hF W hM; clear hD; (try simp only [hF] at HO); exact ⟨rfl, stopN HO hM⟩); intro t r hF W ao cap hC; clear hD; (try simp only [hF] at HO); have hl := qryF_Len RC.len _ _ _ hF; clear hF)
  | (guard_target = Code.wp _ (Code.region 5 _ true) _ _ _; refine wp_region_held_drew (S := HB [_]) (by kernel_rfl) (hC.drew.hbI1 0 (by rfl)) (fun hHeld => ?_); replace hC := hC.drew; refine qk 0 ?_; (try simp only [pQ]); refine qk 1 ?_; (try simp only [pQ]); refine qkN 2 ?_; (try simp only [pQ]); refine qk 3 ?_; (try simp only [pQ]); refine ry [4] ?_; refine rd1 fun K hK => ?_; go_simp; (first | (go_at_call 96; refine useN (o := some ((purF _).1, (purF _).2)) (q_pur hC) (fun h => by cases h) ?_; clear hC; intro t1 r1 hF W ao1 cap1 hC; obtain ⟨rfl, rfl⟩ := Prod.mk.inj (Option.some.inj hF); clear hF)); refine hK.out _ _ hC.hb1' fun hHeld => ?_; clear hK K; (try simp only [pQ]); refine ry [5] ?_; refine rd1 fun K hK => ?_; refine st_of rfl ?_; refine wp_build2C hC (by rfl) (by rfl) (by rfl) ?_; clear hC; intro W k hC; refine hK.out _ _ hC.hb1' fun hHeld => ?_; clear hK K; (try simp only [pQ]); refine qk 6 ?_; (try simp only [pQ]); refine ry [7] ?_; refine rd1 fun K hK => ?_; refine st_of rfl ?_; refine wsN ?_; clear hC; intro W hC; refine hK.out _ _ hC.hb1' fun hHeld => ?_; clear hK K; (try simp only [pQ]); refine dn ?_ _))
  all_goals first | exact ⟨rfl, stopN HO hC.mv⟩ | exact eM2
theorem q_sgn {E : Env} {B : Nat} {w0 w : World} {ts : List Tok} {H : List Bx} {L : List Tn} (hC : Cx E B w0 w (.p ts) H L) :
    Calls Tryz.prog 128 #[.pointer (some ⟨E.b, 0, none⟩)] w ((oI (sgnF ts)).P E B w0 H L) := by
  obtain ⟨o, ho⟩ : ∃ o, sgnF ts = o := ⟨_, rfl⟩
  rw [ho]
  unfold sgnF at ho
  have HO := hidk ho
  clear ho
  go_enter Tryz.func128, Tryz.ntmps128
  go_wp2_with (first
  | (go_at_call 21; have hD := hC; clear hC; refine useG (q_tookSign _ hD) ?_ ?_; (focus (intro hF W hC; clear hD; (try simp only [hF, Option.isSome_none, Bool.false_eq_true, Bool.and_false, reduceIte] at HO); clear hF)); rotate_left; (focus (intro x r hF W hC; clear hD; (try simp only [hF, Option.isSome_some, Bool.and_true, reduceIte] at HO); have hl := oneF_le hF; clear hF)))
  | (go_at_call 143; have hD := hC; clear hC; refine useI (q_number hD) ?_ ?_; (· intro hF W hM; clear hD; (try simp only [hF] at HO); exact ⟨rfl, stopI HO hM⟩); intro n1 r hF W hC; have hb := numF_bd hD hF; have hw : IntKind.i64.wrap (-n1) = -n1 := (by rw [IntKind.wrap_i64]; omega); clear hD; (try simp only [hF] at HO); clear hF))
  all_goals first | exact ⟨rfl, stopI HO hC.mv⟩ | (go_ret; exact endI HO (hC.fin0 mSub mL))
theorem q_way {E : Env} {B : Nat} {w0 w : World} {ts : List Tok} {H : List Bx} {L : List Tn} (hC : Cx E B w0 w (.p ts) H L) :
    Calls Tryz.prog 97 #[.pointer (some ⟨E.b, 0, none⟩)] w ((oN (wayF ts)).P E B w0 H L) := by
  obtain ⟨o, ho⟩ : ∃ o, wayF ts = o := ⟨_, rfl⟩
  rw [ho]
  unfold wayF at ho
  have HO := hidk ho
  clear ho
  go_enter Tryz.func97, Tryz.ntmps97
  go_wp2_with (first
  | (refine bA ?_; clear hC; intro W k hC)
  | (refine bS ?_; clear hC; intro W hC)
  | (go_at_call 62; have hD := hC; clear hC; (first | guard_target = Calls _ _ #[_, _, Value.slice (some _) 2 2] _ _; refine useO (q_one2 _ _ _ hD) ?_ ?_ | guard_target = Calls _ _ #[_, _, Value.slice (some _) 4 4] _ _; refine useO (q_one4 _ _ _ _ _ hD) ?_ ?_); (focus (intro hF W hC; clear hD; (try simp only [hF, Option.isSome_none, Bool.false_eq_true, Bool.and_false, reduceIte] at HO); clear hF)); rotate_left; (focus (intro x r hF W hC; clear hD; (try simp only [hF, Option.isSome_some, Bool.and_true, reduceIte] at HO); have hl := oneF_le hF; clear hF)))
  | (go_at_call 128; have hD := hC; clear hC; (first | refine useI (q_sgn hD) ?_ ?_); (· intro hF W hM; clear hD; (try simp only [hF] at HO); exact ⟨rfl, stopN HO hM⟩); intro n r hF W hC; clear hD; (try simp only [hF] at HO); have hl := sgnF_len hF; clear hF)
  | (go_at_call 51; guard_target = Calls _ _ #[_, _, Value.slice none 0 0] _ _; (first | refine useDx (q_node0 _ _ hC) ?_); clear hC; intro W hC)
  | (go_at_call 51; have hD := hC; clear hC; refine m4 ?_; intro W hC; clear hD))
  all_goals first | exact ⟨rfl, stopN HO hC.mv⟩ | exact eM2
theorem q_fet {E : Env} {B : Nat} {w0 w : World} {ts : List Tok} {H : List Bx} {L : List Tn} (hC : Cx E B w0 w (.p ts) H L) :
    Calls Tryz.prog 60 #[.pointer (some ⟨E.b, 0, none⟩)] w ((oN (fetF ts)).P E B w0 H L) := by
  obtain ⟨o, ho⟩ : ∃ o, fetF ts = o := ⟨_, rfl⟩
  rw [ho]
  unfold fetF at ho
  have HO := hidk ho
  clear ho
  go_enter Tryz.func60, Tryz.ntmps60
  go_wp2_with (first
  | (refine bA ?_; clear hC; intro W k hC)
  | refine bL ?_
  | (refine bS ?_; clear hC; intro W hC)
  | (go_at_call 97; have hD := hC; clear hC; (first | refine useN (q_way hD) ?_ ?_); (· intro hF W hM; clear hD; (try simp only [hF] at HO); exact ⟨rfl, stopN HO hM⟩); intro t r hF W ao cap hC; clear hD; (try simp only [hF] at HO); have hl := wayF_len hF; clear hF)
  | (go_at_call 50; have hD := hC; clear hC; (first | guard_target = Calls _ _ #[_, Value.slice (some _) 1 1] _ _; refine useV (q_took1 [102, 114, 111, 109] hD) ?_); intro W hC; clear hD; (try have hl := hC.tkl))
  | (guard_target = Code.wp _ (Code.region 3 _ true) _ _ _; refine wp_region_held_drew (S := HB [_]) (by kernel_rfl) (hC.drew.hbI1 0 (by rfl)) (fun hHeld => ?_); replace hC := hC.drew; refine qk 0 ?_; (try simp only [pQ]); refine qkN 2 ?_; (try simp only [pQ]); refine ry [1, 3] ?_; refine AllReadyH.cons rfl (fun K hK => ?_) (AllReadyH.cons rfl (fun K hK => ?_) AllReadyH.nil); (focus (go_simp; (first | (go_at_call 52; have hD := hC; clear hC; (first | refine useS (q_name hD) ?_ ?_); (· intro hF W hM; clear hD; (try simp only [hF] at HO); exact ⟨rfl, stopN HO hM⟩); intro s r hF W hC; clear hD; (try simp only [hF] at HO); have hl := nameF_le hF; clear hF)); refine hK.out _ _ hC.hb1' fun hHeld => ?_; clear hK K; (try simp only [pQ]); refine ry [3] ?_; refine rd1 fun K hK => ?_; refine st_of rfl ?_; refine wp_build1C hC (by rfl) (by rfl) ?_; clear hC; intro W k hC; refine hK.out _ _ hC.hb1' fun hHeld => ?_; clear hK K; (try simp only [pQ]); refine ry [4] ?_; refine rd1 fun K hK => ?_; go_simp; (first | (go_at_call 51; guard_target = Calls _ _ #[_, _, Value.slice (some _) 1 1] _ _; refine m1 ?_; clear hC; intro W hC)); refine hK.out _ _ hC.hb1' fun hHeld => ?_; clear hK K; (try simp only [pQ]); refine ry [5] ?_; refine rd1 fun K hK => ?_; refine st_of rfl ?_; refine wsN ?_; clear hC; intro W hC; refine hK.out _ _ hC.hb1' fun hHeld => ?_; clear hK K; (try simp only [pQ]); refine dn ?_ _)); rotate_left; (focus (refine st_of rfl ?_; refine wp_build1C hC (by rfl) (by rfl) ?_; clear hC; intro W k hC; refine hK.out _ _ hC.hb1' fun hHeld => ?_; clear hK K; (try simp only [pQ]); refine ry [1] ?_; refine rd1 fun K hK => ?_; go_simp; (first | (go_at_call 52; have hD := hC; clear hC; (first | refine useS (q_name hD) ?_ ?_); (· intro hF W hM; clear hD; (try simp only [hF] at HO); exact ⟨rfl, stopN HO hM⟩); intro s r hF W hC; clear hD; (try simp only [hF] at HO); have hl := nameF_le hF; clear hF)); refine hK.out _ _ hC.hb1' fun hHeld => ?_; clear hK K; (try simp only [pQ]); refine ry [4] ?_; refine rd1 fun K hK => ?_; go_simp; (first | (go_at_call 51; guard_target = Calls _ _ #[_, _, Value.slice (some _) 1 1] _ _; refine m1 ?_; clear hC; intro W hC)); refine hK.out _ _ hC.hb1' fun hHeld => ?_; clear hK K; (try simp only [pQ]); refine ry [5] ?_; refine rd1 fun K hK => ?_; refine st_of rfl ?_; refine wsN ?_; clear hC; intro W hC; refine hK.out _ _ hC.hb1' fun hHeld => ?_; clear hK K; (try simp only [pQ]); refine dn ?_ _)); rotate_left))
  all_goals first | exact ⟨rfl, stopN HO hC.mv⟩ | exact eM2
theorem q_sav {E : Env} {B : Nat} {w0 w : World} {ts : List Tok} {H : List Bx} {L : List Tn} (op : List UInt8) (hC : Cx E B w0 w (.p ts) H L) :
    Calls Tryz.prog 98 #[.pointer (some ⟨E.b, 0, none⟩), .string ⟨op.toArray⟩] w ((oN (savF op ts)).P E B w0 H L) := by
  obtain ⟨o, ho⟩ : ∃ o, savF op ts = o := ⟨_, rfl⟩
  rw [ho]
  unfold savF at ho
  have HO := hidk ho
  clear ho
  go_enter Tryz.func98, Tryz.ntmps98
  go_wp2_with (first
  | (refine bA ?_; clear hC; intro W k hC)
  | (refine bS ?_; clear hC; intro W hC)
  | (go_at_call 50; have hD := hC; clear hC; (first | guard_target = Calls _ _ #[_, Value.slice (some _) 1 1] _ _; refine useV (q_took1 [115, 97, 118, 101, 112, 111, 105, 110, 116] hD) ?_); intro W hC; clear hD; (try have hl := hC.tkl))
  | (go_at_call 52; have hD := hC; clear hC; (first | refine useS (q_name hD) ?_ ?_); (· intro hF W hM; clear hD; (try simp only [hF] at HO); exact ⟨rfl, stopN HO hM⟩); intro s r hF W hC; clear hD; (try simp only [hF] at HO); have hl := nameF_le hF; clear hF)
  | (go_at_call 51; guard_target = Calls _ _ #[_, _, Value.slice none 0 0] _ _; (first | refine useDx (q_node0 _ _ hC) ?_); clear hC; intro W hC)
  | (go_at_call 51; have hD := hC; clear hC; refine m4 ?_; intro W hC; clear hD))
  all_goals first | exact ⟨rfl, stopN HO hC.mv⟩ | exact eM2
theorem q_lvl {E : Env} {B : Nat} {w0 w : World} {ts : List Tok} {H : List Bx} {L : List Tn} (hC : Cx E B w0 w (.p ts) H L) :
    Calls Tryz.prog 99 #[.pointer (some ⟨E.b, 0, none⟩)] w ((oI (lvlF ts)).P E B w0 H L) := by
  obtain ⟨o, ho⟩ : ∃ o, lvlF ts = o := ⟨_, rfl⟩
  rw [ho]
  unfold lvlF at ho
  have HO := hidk ho
  clear ho
  go_enter Tryz.func99, Tryz.ntmps99
  go_wp2_with (first
  | (refine bA ?_; clear hC; intro W k hC)
  | (go_at_call 50; have hD := hC; clear hC; (first | guard_target = Calls _ _ #[_, Value.slice (some _) 1 1] _ _; refine useB (q_took1 _ hD) ?_ ?_ | guard_target = Calls _ _ #[_, Value.slice (some _) 2 2] _ _; refine useB (q_took2 _ _ hD) ?_ ?_); (focus (intro hb W hC; clear hD; (try simp only [hb, reduceIte, pB] at HO); (try have hl := tkR_ls hb (by simp)); clear hb)); rotate_left; (focus (intro hb W hC; clear hD; (try simp only [tkR_no hb] at HO hC); (try simp only [hb, reduceIte, pB] at HO); clear hb)))
  | (go_at_call 87; have hD := hC; clear hC; (first | guard_target = Calls _ _ #[_, Value.slice (some _) 1 1] _ _; refine useU (q_need1 _ hD) ?_ ?_ | guard_target = Calls _ _ #[_, Value.slice (some _) 2 2] _ _; refine useU (q_need2 _ _ hD) ?_ ?_); (· intro hF W hM; clear hD; (try simp only [hF] at HO); exact ⟨rfl, stopI HO hM⟩); intro r hF W hC; clear hD; (try simp only [hF] at HO); have hl := needF_lt hF (Nat.succ_pos _); clear hF))
  all_goals first | exact ⟨rfl, stopI HO hC.mv⟩ | (go_ret; exact endI HO (hC.fin0 mSub mL))
end Go.Proofs.YtaenpacfbheppaaGreatDoor

namespace Go.Proofs.YtaenpacfbheppaaGreatDoor
open Go.RowKit
theorem q_ins {E : Env} {B : Nat} {w0 w : World} {ts : List Tok} {H : List Bx} {L : List Tn} {R : Rc} {n : Nat} (RC : Ct R n) (hn : ts.length < n) (hC : Cx E B w0 w (.p ts) H L) :
    Calls Tryz.prog 56 #[.pointer (some ⟨E.b, 0, none⟩)] w ((oN (insF R ts)).P E B w0 H L) := by
  obtain ⟨o, ho⟩ : ∃ o, insF R ts = o := ⟨_, rfl⟩
  rw [ho]
  unfold insF insEndF at ho
  have HO := hidk ho
  clear ho
  go_enter Tryz.func56, Tryz.ntmps56
  go_wp2_with (first
  | (refine bA ?_; clear hC; intro W k hC)
  | refine bL ?_
  | (refine bS ?_; clear hC; intro W hC)
  | (go_at_call 52; have hD := hC; clear hC; (first | refine useS (q_name hD) ?_ ?_); (· intro hF W hM; clear hD; (try simp only [hF] at HO); exact ⟨rfl, stopN HO hM⟩); intro s r hF W hC; clear hD; (try simp only [hF] at HO); have hl := nameF_le hF; clear hF)
  | (go_at_call 79; have hD := hC; clear hC; (first | (guard_target = Calls _ _ #[_, Value.int _ 0, _, _] _ _; refine useB (q_stands hD 0 (by decide) _ _) ?_ ?_) | (guard_target = Calls _ _ #[_, Value.int _ 1, _, _] _ _; refine useB (q_stands hD 1 (by decide) _ _) ?_ ?_) | (guard_target = Calls _ _ #[_, Value.int _ 2, _, _] _ _; refine useB (q_stands hD 2 (by decide) _ _) ?_ ?_)); (focus (intro hb W hC; clear hD; (try simp only [hb, reduceIte, Bool.true_and, Bool.and_true] at HO); clear hb)); rotate_left; (focus (intro hb W hC; clear hD; (try simp only [hb, reduceIte, Bool.false_and, Bool.and_false, Bool.false_eq_true] at HO); clear hb)))
  | (go_at_call 89; have hD := hC; clear hC; refine useB (q_opens hD) ?_ ?_; (focus (intro hb W hC; clear hD; (try simp only [hb, reduceIte, Bool.not_true, Bool.and_false, Bool.false_eq_true] at HO); clear hb)); rotate_left; (focus (intro hb W hC; clear hD; (try simp only [hb, reduceIte, Bool.not_false, Bool.and_true, Bool.false_eq_true] at HO); clear hb)))
  | (go_at_call 85; have hD := hC; clear hC; (first | refine useL (q_names hD) ?_ ?_); (· intro hF W hM; clear hD; (try simp only [hF] at HO); exact ⟨rfl, stopN HO hM⟩); intro lC r hF W ao cap hC; clear hD; (try simp only [hF] at HO); have hl := parL_sz (fun _ _ _ h => namF_len h) hF; clear hF)
  | (go_at_call 50; have hD := hC; clear hC; (first | guard_target = Calls _ _ #[_, Value.slice (some _) 1 1] _ _; refine useB (q_took1 _ hD) ?_ ?_); (focus (intro hb W hC; clear hD; (try simp only [hb, reduceIte, pB] at HO); (try have hl := tkR_ls hb (by simp)); clear hb)); rotate_left; (focus (intro hb W hC; clear hD; (try simp only [tkR_no hb] at HO hC); (try simp only [hb, reduceIte, pB] at HO); clear hb)))
  | (guard_target = Code.wp _ (Code.region 6 _ true) _ _ _; refine wp_region_held_drew (S := HB [_]) (by kernel_rfl) (hC.drew.hbI1 0 (by rfl)) (fun hHeld => ?_); replace hC := hC.drew; refine qk 0 ?_; (try simp only [pQ]); refine qkN 1 ?_; (try simp only [pQ]); refine qk 2 ?_; (try simp only [pQ]); refine qk 3 ?_; (try simp only [pQ]); refine qk 4 ?_; (try simp only [pQ]); refine ry [5] ?_; refine rd1 fun K hK => ?_; go_simp; (first | (go_at_call 84; (first | (guard_target = Calls _ _ #[_, Value.func (Go.Fn.func 90) _ _] _ _; have hD := hC; clear hC; refine useL (q_list (I := rowF R) (m := n) ent_row (fun hs hE hl => q_row RC (by omega) hE) (by omega) (rowF_Len RC.len) hD) ?_ ?_; (· intro hF W hM; clear hD; (try simp only [hF] at HO); exact ⟨rfl, stopN HO hM⟩); intro l r hF W ao cap hC; clear hD; (try simp only [hF] at HO); have hl := lsF_Len (rowF_Len RC.len) _ _ _ hF; clear hF)))); refine hK.out _ _ hC.hb1' fun hHeld => ?_; clear hK K; (try simp only [pQ]); refine ry [6] ?_; refine rd1 fun K hK => ?_; go_simp; (first | (go_at_call 51; guard_target = Calls _ _ #[_, _, Value.slice none 0 0] _ _; (first | refine useDx (q_node0 _ _ hC) ?_); clear hC; intro W hC) | (go_at_call 51; guard_target = Calls _ _ #[_, _, Value.slice (some _) 1 1] _ _; refine m1 ?_; clear hC; intro W hC) | (go_at_call 51; guard_target = Calls _ _ #[_, _, Value.slice (some _) 2 2] _ _; refine m2 ?_; clear hC; intro W hC) | (go_at_call 51; guard_target = Calls _ _ #[_, _, Value.slice (some _) 3 3] _ _; refine m3 ?_; clear hC; intro W hC) | (go_at_call 51; have hD := hC; clear hC; refine m4 ?_; intro W hC; clear hD) | (go_at_call 51; guard_target = Calls _ _ #[_, _, Value.slice (some _) 2 2] _ _; have hD := hC.root (t := ls lC) (.tail _ (.tail _ (.head _))) [99, 111, 108, 117, 109, 110, 115] [] 0; clear hC; refine useDx (q_node2 (t1 := Tr.mk [99, 111, 108, 117, 109, 110, 115] [] 0 lC) _ _ hD (.head _) (.tail _ (.head _))) ?_; intro W hC; clear hD) | (go_at_call 51; guard_target = Calls _ _ #[_, _, Value.slice (some _) 2 2] _ _; have hD := hC.root (t := ls lC) (.tail _ (.head _)) [99, 111, 108, 117, 109, 110, 115] [] 0; clear hC; refine useDx (q_node2 (t1 := Tr.mk [99, 111, 108, 117, 109, 110, 115] [] 0 lC) _ _ hD (.head _) (.tail _ (.head _))) ?_; intro W hC; clear hD) | (go_at_call 51; guard_target = Calls _ _ #[_, _, Value.slice (some _) 2 2] _ _; have hD := hC.root (t := ls lC) (.head _) [99, 111, 108, 117, 109, 110, 115] [] 0; clear hC; refine useDx (q_node2 (t1 := Tr.mk [99, 111, 108, 117, 109, 110, 115] [] 0 lC) _ _ hD (.head _) (.tail _ (.head _))) ?_; intro W hC; clear hD) | (go_at_call 51; guard_target = Calls _ _ #[_, _, Value.slice (some _) 2 2] _ _; have hD := hC.root (t := ls lC) (.tail _ (.tail _ (.tail _ (.head _)))) [99, 111, 108, 117, 109, 110, 115] [] 0; clear hC; refine useDx (q_node2 (t1 := Tr.mk [99, 111, 108, 117, 109, 110, 115] [] 0 lC) _ _ hD (.head _) (.tail _ (.head _))) ?_; intro W hC; clear hD)); refine hK.out _ _ hC.hb1' fun hHeld => ?_; clear hK K; (try simp only [pQ]); refine ry [7] ?_; refine rd1 fun K hK => ?_; refine st_of rfl ?_; refine wp_build2C hC (by rfl) (by rfl) (by rfl) ?_; clear hC; intro W k hC; refine hK.out _ _ hC.hb1' fun hHeld => ?_; clear hK K; (try simp only [pQ]); refine ry [8] ?_; refine rd1 fun K hK => ?_; go_simp; (first | (go_at_call 51; guard_target = Calls _ _ #[_, _, Value.slice none 0 0] _ _; (first | refine useDx (q_node0 _ _ hC) ?_); clear hC; intro W hC) | (go_at_call 51; guard_target = Calls _ _ #[_, _, Value.slice (some _) 1 1] _ _; refine m1 ?_; clear hC; intro W hC) | (go_at_call 51; guard_target = Calls _ _ #[_, _, Value.slice (some _) 2 2] _ _; refine m2 ?_; clear hC; intro W hC) | (go_at_call 51; guard_target = Calls _ _ #[_, _, Value.slice (some _) 3 3] _ _; refine m3 ?_; clear hC; intro W hC) | (go_at_call 51; have hD := hC; clear hC; refine m4 ?_; intro W hC; clear hD) | (go_at_call 51; guard_target = Calls _ _ #[_, _, Value.slice (some _) 2 2] _ _; have hD := hC.root (t := ls lC) (.tail _ (.tail _ (.head _))) [99, 111, 108, 117, 109, 110, 115] [] 0; clear hC; refine useDx (q_node2 (t1 := Tr.mk [99, 111, 108, 117, 109, 110, 115] [] 0 lC) _ _ hD (.head _) (.tail _ (.head _))) ?_; intro W hC; clear hD) | (go_at_call 51; guard_target = Calls _ _ #[_, _, Value.slice (some _) 2 2] _ _; have hD := hC.root (t := ls lC) (.tail _ (.head _)) [99, 111, 108, 117, 109, 110, 115] [] 0; clear hC; refine useDx (q_node2 (t1 := Tr.mk [99, 111, 108, 117, 109, 110, 115] [] 0 lC) _ _ hD (.head _) (.tail _ (.head _))) ?_; intro W hC; clear hD) | (go_at_call 51; guard_target = Calls _ _ #[_, _, Value.slice (some _) 2 2] _ _; have hD := hC.root (t := ls lC) (.head _) [99, 111, 108, 117, 109, 110, 115] [] 0; clear hC; refine useDx (q_node2 (t1 := Tr.mk [99, 111, 108, 117, 109, 110, 115] [] 0 lC) _ _ hD (.head _) (.tail _ (.head _))) ?_; intro W hC; clear hD) | (go_at_call 51; guard_target = Calls _ _ #[_, _, Value.slice (some _) 2 2] _ _; have hD := hC.root (t := ls lC) (.tail _ (.tail _ (.tail _ (.head _)))) [99, 111, 108, 117, 109, 110, 115] [] 0; clear hC; refine useDx (q_node2 (t1 := Tr.mk [99, 111, 108, 117, 109, 110, 115] [] 0 lC) _ _ hD (.head _) (.tail _ (.head _))) ?_; intro W hC; clear hD)); refine hK.out _ _ hC.hb1' fun hHeld => ?_; clear hK K; (try simp only [pQ]); refine ry [9] ?_; refine rd1 fun K hK => ?_; refine st_of rfl ?_; refine wsN ?_; clear hC; intro W hC; refine hK.out _ _ hC.hb1' fun hHeld => ?_; clear hK K; (try simp only [pQ]); refine dn ?_ _)
  | (guard_target = Code.wp _ (Code.region 7 _ true) _ _ _; refine wp_region_held_drew (S := HB [_]) (by kernel_rfl) (hC.drew.hbI1 0 (by rfl)) (fun hHeld => ?_); replace hC := hC.drew; refine qk 0 ?_; (try simp only [pQ]); refine qkN 1 ?_; (try simp only [pQ]); refine qk 2 ?_; (try simp only [pQ]); refine ry [3] ?_; refine rd1 fun K hK => ?_; go_simp; (first | (go_at_call 91; have hD := hC; clear hC; (first | refine useN (RC.body hD (by omega)) ?_ ?_); (· intro hF W hM; clear hD; (try simp only [hF] at HO); exact ⟨rfl, stopN HO hM⟩); intro t r hF W ao cap hC; clear hD; (try simp only [hF] at HO); have hl := RC.len.body _ _ _ hF; clear hF)); refine hK.out _ _ hC.hb1' fun hHeld => ?_; clear hK K; (try simp only [pQ]); refine ry [4] ?_; refine rd1 fun K hK => ?_; refine st_of rfl ?_; refine wp_build2C hC (by rfl) (by rfl) (by rfl) ?_; clear hC; intro W k hC; refine hK.out _ _ hC.hb1' fun hHeld => ?_; clear hK K; (try simp only [pQ]); refine ry [5] ?_; refine rd1 fun K hK => ?_; go_simp; (first | (go_at_call 51; guard_target = Calls _ _ #[_, _, Value.slice none 0 0] _ _; (first | refine useDx (q_node0 _ _ hC) ?_); clear hC; intro W hC) | (go_at_call 51; guard_target = Calls _ _ #[_, _, Value.slice (some _) 1 1] _ _; refine m1 ?_; clear hC; intro W hC) | (go_at_call 51; guard_target = Calls _ _ #[_, _, Value.slice (some _) 2 2] _ _; refine m2 ?_; clear hC; intro W hC) | (go_at_call 51; guard_target = Calls _ _ #[_, _, Value.slice (some _) 3 3] _ _; refine m3 ?_; clear hC; intro W hC) | (go_at_call 51; have hD := hC; clear hC; refine m4 ?_; intro W hC; clear hD) | (go_at_call 51; guard_target = Calls _ _ #[_, _, Value.slice (some _) 2 2] _ _; have hD := hC.root (t := ls lC) (.tail _ (.tail _ (.head _))) [99, 111, 108, 117, 109, 110, 115] [] 0; clear hC; refine useDx (q_node2 (t1 := Tr.mk [99, 111, 108, 117, 109, 110, 115] [] 0 lC) _ _ hD (.head _) (.tail _ (.head _))) ?_; intro W hC; clear hD) | (go_at_call 51; guard_target = Calls _ _ #[_, _, Value.slice (some _) 2 2] _ _; have hD := hC.root (t := ls lC) (.tail _ (.head _)) [99, 111, 108, 117, 109, 110, 115] [] 0; clear hC; refine useDx (q_node2 (t1 := Tr.mk [99, 111, 108, 117, 109, 110, 115] [] 0 lC) _ _ hD (.head _) (.tail _ (.head _))) ?_; intro W hC; clear hD) | (go_at_call 51; guard_target = Calls _ _ #[_, _, Value.slice (some _) 2 2] _ _; have hD := hC.root (t := ls lC) (.head _) [99, 111, 108, 117, 109, 110, 115] [] 0; clear hC; refine useDx (q_node2 (t1 := Tr.mk [99, 111, 108, 117, 109, 110, 115] [] 0 lC) _ _ hD (.head _) (.tail _ (.head _))) ?_; intro W hC; clear hD) | (go_at_call 51; guard_target = Calls _ _ #[_, _, Value.slice (some _) 2 2] _ _; have hD := hC.root (t := ls lC) (.tail _ (.tail _ (.tail _ (.head _)))) [99, 111, 108, 117, 109, 110, 115] [] 0; clear hC; refine useDx (q_node2 (t1 := Tr.mk [99, 111, 108, 117, 109, 110, 115] [] 0 lC) _ _ hD (.head _) (.tail _ (.head _))) ?_; intro W hC; clear hD)); refine hK.out _ _ hC.hb1' fun hHeld => ?_; clear hK K; (try simp only [pQ]); refine ry [6] ?_; refine rd1 fun K hK => ?_; refine st_of rfl ?_; refine wsN ?_; clear hC; intro W hC; refine hK.out _ _ hC.hb1' fun hHeld => ?_; clear hK K; (try simp only [pQ]); refine dn ?_ _)
  | (go_at_call 51; guard_target = Calls _ _ #[_, _, Value.slice none 0 0] _ _; (first | refine useDx (q_node0 _ _ hC) ?_); clear hC; intro W hC))
  all_goals first | exact ⟨rfl, stopN HO hC.mv⟩ | exact eM2
theorem q_eoq {E : Env} {B : Nat} {w0 w : World} {ts : List Tok} {H : List Bx} {L : List Tn} {R : Rc} {n : Nat} (RC : Ct R n) (hn : ts.length + 1 < n) (hC : Cx E B w0 w (.p ts) H L) :
    Calls Tryz.prog 61 #[.pointer (some ⟨E.b, 0, none⟩)] w ((oN (eoqF R ts)).P E B w0 H L) := by
  obtain ⟨o, ho⟩ : ∃ o, eoqF R ts = o := ⟨_, rfl⟩
  rw [ho]
  unfold eoqF nmdF at ho
  have HO := hidk ho
  clear ho
  go_enter Tryz.func61, Tryz.ntmps61
  go_wp2_with (first
  | (refine bA ?_; clear hC; intro W k hC)
  | (refine bS ?_; clear hC; intro W hC)
  | (go_at_call 50; have hD := hC; clear hC; (first | guard_target = Calls _ _ #[_, Value.slice (some _) 1 1] _ _; refine useB (q_took1 _ hD) ?_ ?_ | guard_target = Calls _ _ #[_, Value.slice (some _) 2 2] _ _; refine useB (q_took2 _ _ hD) ?_ ?_ | guard_target = Calls _ _ #[_, Value.slice (some _) 4 4] _ _; refine useB (q_took4 _ _ _ _ hD) ?_ ?_); (focus (intro hb W hC; clear hD; (try simp only [hb, reduceIte, pB] at HO); (try have hl := tkR_ls hb (by simp)); clear hb)); rotate_left; (focus (intro hb W hC; clear hD; (try simp only [tkR_no hb] at HO hC); (try simp only [hb, reduceIte, pB] at HO); clear hb)))
  | (go_at_call 98; have hD := hC; clear hC; (first | refine useN (q_sav _ hD) ?_ ?_); (· intro hF W hM; clear hD; (try simp only [hF] at HO); exact ⟨rfl, stopN HO hM⟩); intro t r hF W ao cap hC; clear hD; (try simp only [hF] at HO); clear hF)
  | (go_at_call 52; have hD := hC; clear hC; (first | refine useS (q_name hD) ?_ ?_); (· intro hF W hM; clear hD; (try simp only [hF] at HO); exact ⟨rfl, stopN HO hM⟩); intro s r hF W hC; clear hD; (try simp only [hF] at HO); have hl := nameF_le hF; clear hF)
  | (go_at_call 99; have hD := hC; clear hC; (first | refine useI (q_lvl hD) ?_ ?_); (· intro hF W hM; clear hD; (try simp only [hF] at HO); exact ⟨rfl, stopN HO hM⟩); intro n r hF W hC; clear hD; (try simp only [hF] at HO); clear hF)
  | (go_at_call 95; have hD := hC; clear hC; (first | refine useN (q_qry RC (by omega) hD) ?_ ?_); (· intro hF W hM; clear hD; (try simp only [hF] at HO); exact ⟨rfl, stopN HO hM⟩); intro t r hF W ao cap hC; clear hD; (try simp only [hF] at HO); clear hF)
  | (go_at_call 51; guard_target = Calls _ _ #[_, _, Value.slice none 0 0] _ _; (first | refine useDx (q_node0 _ _ hC) ?_); clear hC; intro W hC))
  all_goals first | exact ⟨rfl, stopN HO hC.mv⟩ | exact eM2
theorem q_stt {E : Env} {B : Nat} {w0 w : World} {ts : List Tok} {H : List Bx} {L : List Tn} {R : Rc} {n : Nat} (RC : Ct R n) (hn : ts.length + 1 < n) (hC : Cx E B w0 w (.p ts) H L) :
    Calls Tryz.prog 20 #[.pointer (some ⟨E.b, 0, none⟩)] w ((oN (sttF R ts)).P E B w0 H L) := by
  obtain ⟨o, ho⟩ : ∃ o, sttF R ts = o := ⟨_, rfl⟩
  rw [ho]
  unfold sttF crtF nmdF delF at ho
  have HO := hidk ho
  clear ho
  go_enter Tryz.func20, Tryz.ntmps20
  go_wp2_with (first
  | (refine bA ?_; clear hC; intro W k hC)
  | (refine bS ?_; clear hC; intro W hC)
  | (go_at_call 50; have hD := hC; clear hC; (first | guard_target = Calls _ _ #[_, Value.slice (some _) 1 1] _ _; refine useB (q_took1 _ hD) ?_ ?_ | guard_target = Calls _ _ #[_, Value.slice (some _) 2 2] _ _; refine useB (q_took2 _ _ hD) ?_ ?_ | guard_target = Calls _ _ #[_, Value.slice (some _) 3 3] _ _; refine useB (q_took3 _ _ _ hD) ?_ ?_); (focus (intro hb W hC; clear hD; (try simp only [hb, reduceIte, pB] at HO); (try have hl := tkR_ls hb (by simp)); clear hb)); rotate_left; (focus (intro hb W hC; clear hD; (try simp only [tkR_no hb] at HO hC); (try simp only [hb, reduceIte, pB] at HO); clear hb)))
  | (go_at_call 52; have hD := hC; clear hC; (first | refine useS (q_name hD) ?_ ?_); (· intro hF W hM; clear hD; (try simp only [hF] at HO); exact ⟨rfl, stopN HO hM⟩); intro s r hF W hC; clear hD; (try simp only [hF] at HO); have hl := nameF_le hF; clear hF)
  | (go_at_call 53; (first | (guard_target = Calls _ _ #[_, Value.func (Go.Fn.func 54) _ _] _ _; have hD := hC; clear hC; refine useL (q_lip (I := eleF R) (m := n - 1) ent_element (fun hs hE hl => q_ele RC (by omega) hE) (by omega) (eleF_Len RC.len) hD) ?_ ?_; (· intro hF W hM; clear hD; (try simp only [hF] at HO); exact ⟨rfl, stopN HO hM⟩); intro l r hF W ao cap hC; clear hD; (try simp only [hF] at HO); have hl := parF_len (lsF_Len (eleF_Len RC.len)) hF; clear hF)))
  | (go_at_call 55; (first | (guard_target = Calls _ _ #[_, Value.int _ 1] _ _; have hD := hC; clear hC; refine useN (q_cix 1 hD) ?_ ?_; (· intro hF W hM; clear hD; (try simp only [hF] at HO); exact ⟨rfl, stopN HO hM⟩); intro t r hF W ao cap hC; clear hD; (try simp only [hF] at HO); clear hF) | (guard_target = Calls _ _ #[_, Value.int _ 0] _ _; have hD := hC; clear hC; refine useN (q_cix 0 hD) ?_ ?_; (· intro hF W hM; clear hD; (try simp only [hF] at HO); exact ⟨rfl, stopN HO hM⟩); intro t r hF W ao cap hC; clear hD; (try simp only [hF] at HO); clear hF)))
  | (go_at_call 56; have hD := hC; clear hC; (first | refine useN (q_ins RC (by omega) hD) ?_ ?_); (· intro hF W hM; clear hD; (try simp only [hF] at HO); exact ⟨rfl, stopN HO hM⟩); intro t r hF W ao cap hC; clear hD; (try simp only [hF] at HO); clear hF)
  | (go_at_call 57; have hD := hC; clear hC; (first | refine useN (q_upd RC (by omega) hD) ?_ ?_); (· intro hF W hM; clear hD; (try simp only [hF] at HO); exact ⟨rfl, stopN HO hM⟩); intro t r hF W ao cap hC; clear hD; (try simp only [hF] at HO); clear hF)
  | (go_at_call 58; have hD := hC; clear hC; (first | refine useN (q_who RC (by omega) hD) ?_ ?_); (· intro hF W hM; clear hD; (try simp only [hF] at HO); exact ⟨rfl, stopN HO hM⟩); intro t r hF W ao cap hC; clear hD; (try simp only [hF] at HO); have hl := whoF_Len RC.len _ _ _ hF; clear hF)
  | (go_at_call 59; have hD := hC; clear hC; (first | refine useN (q_dec RC (by omega) hD) ?_ ?_); (· intro hF W hM; clear hD; (try simp only [hF] at HO); exact ⟨rfl, stopN HO hM⟩); intro t r hF W ao cap hC; clear hD; (try simp only [hF] at HO); clear hF)
  | (go_at_call 60; have hD := hC; clear hC; (first | refine useN (q_fet hD) ?_ ?_); (· intro hF W hM; clear hD; (try simp only [hF] at HO); exact ⟨rfl, stopN HO hM⟩); intro t r hF W ao cap hC; clear hD; (try simp only [hF] at HO); clear hF)
  | (go_at_call 61; have hD := hC; clear hC; (first | refine useN (q_eoq RC (by omega) hD) ?_ ?_); (· intro hF W hM; clear hD; (try simp only [hF] at HO); exact ⟨rfl, stopN HO hM⟩); intro t r hF W ao cap hC; clear hD; (try simp only [hF] at HO); clear hF)
  | (go_at_call 51; guard_target = Calls _ _ #[_, _, Value.slice none 0 0] _ _; (first | refine useDx (q_node0 _ _ hC) ?_); clear hC; intro W hC)
  | (go_at_call 51; guard_target = Calls _ _ #[_, _, Value.slice (some _) 1 1] _ _; refine m1 ?_; clear hC; intro W hC)
  | (go_at_call 51; have hD := hC; clear hC; refine m4 ?_; intro W hC; clear hD))
  all_goals first | exact ⟨rfl, stopN HO hC.mv⟩ | exact eM2
theorem q_whole {E : Env} {B : Nat} {w0 w : World} {ts : List Tok} {H : List Bx} {L : List Tn} {R : Rc} {n : Nat} (RC : Ct R n) (hn : ts.length + 1 < n) (hC : Cx E B w0 w (.p ts) H L) :
    Calls Tryz.prog 12 #[.pointer (some ⟨E.b, 0, none⟩)] w ((oN ((whlF R ts).map fun t => (t, []))).P E B w0 H L) := by
  obtain ⟨o, ho⟩ : ∃ o, (whlF R ts).map (fun t => (t, ([] : List Tok))) = o := ⟨_, rfl⟩
  rw [ho]
  unfold whlF at ho
  have h6 := hC.ok.len
  have HO := hidk ho
  clear ho
  go_enter Tryz.func12, Tryz.ntmps12
  go_wp2_with (first
  | (refine bA ?_; clear hC; intro W k hC)
  | refine bL ?_
  | (refine bS ?_; clear hC; intro W hC)
  | (go_at_call 20; have hD := hC; clear hC; (first | refine useN (q_stt RC hn hD) ?_ ?_); (· intro hF W hM; clear hD; (try simp only [hF, Option.map_none] at HO); exact ⟨rfl, stopN HO hM⟩); intro t r hF W ao cap hC; clear hD; (try simp only [hF, Option.map_none] at HO); clear hF)
  | (go_at_call 21; have hD := hC; clear hC; refine useG (q_tookSign _ hD) ?_ ?_; (focus (intro hF W hC; clear hD; (try simp only [hF, Option.isSome_none, Bool.false_eq_true, Bool.and_false, reduceIte] at HO); clear hF)); rotate_left; (focus (intro x r hF W hC; clear hD; (try simp only [hF, Option.isSome_some, Bool.and_true, reduceIte] at HO); have hl := oneF_le hF; clear hF))))
  all_goals
    obtain ⟨i0, ao, cap, hi0, hts, hpc⟩ := hC.pc
    obtain ⟨hv, c0, c1, fz, hcap⟩ := hpc
    rcases r with _ | ⟨t0, r0⟩
    · obtain rfl := drop_nil hi0 hts
      simp only [reduceIte, Option.map_some] at HO
      have HC := hidk hC
      clear hC hts
      go_quiet (fail)
      rename Nat => nq
      have hC := HC.out.keepB (w' := World.drewN _ nq) ⟨rfl, rfl, rfl, Nat.le_refl _, fun _ _ => rfl⟩
      clear HC c0 c1 fz
      go_wp2_with (first
      | (refine bA ?_; clear hC; intro W k hC)
      | refine bL ?_
      | (refine bS ?_; clear hC; intro W hC))
      all_goals first | exact ⟨rfl, stopN HO hC.mv⟩ | exact eM1
    · obtain ⟨hlt, _, _⟩ := drop_cons hts
      simp only [reduceCtorEq, reduceIte, Option.map_none] at HO
      have tlt : (i0 : Int) < (E.l.length : Int) := by omega
      have HC := hidk hC
      clear hC hts
      go_quiet (fail)
      rename Nat => nq
      have hC := HC.out.keepB (w' := World.drewN _ nq) ⟨rfl, rfl, rfl, Nat.le_refl _, fun _ _ => rfl⟩
      clear HC c0 c1 fz
      go_wp2_with (first
      | (refine bA ?_; clear hC; intro W k hC)
      | refine bL ?_
      | (refine bS ?_; clear hC; intro W hC))
      exact ⟨rfl, stopN HO hC.mv⟩
end Go.Proofs.YtaenpacfbheppaaGreatDoor

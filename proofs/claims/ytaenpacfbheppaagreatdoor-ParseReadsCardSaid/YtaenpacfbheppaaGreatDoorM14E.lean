/- The program's parser: expressions (walks by genp.py). The program's parser: parts of queries (walks by genp.py). The program's parser: what is joined (walks by genp.py). The program's parser: tables that are joined (walks by genp.py). The program's parser: queries (walks by genp.py). -/
import Derived.Test.YtaenpacfbheppaaGreatDoorM14D
set_option maxHeartbeats 16000000
set_option maxRecDepth 100000
set_option linter.unusedVariables false
set_option linter.unusedSimpArgs false
namespace Go.Proofs.YtaenpacfbheppaaGreatDoor
open Go.RowKit
theorem q_tst {E : Env} {B : Nat} {w0 w : World} {ts : List Tok} {H : List Bx} {L : List Tn} {R : Rc} {n : Nat} (RC : Ct R n) (hn : ts.length < n) (hC : Cx E B w0 w (.p ts) H L) :
    Calls Tryz.prog 174 #[.pointer (some ⟨E.b, 0, none⟩)] w ((oN (tstF R ts)).P E B w0 H L) := by
  obtain ⟨o, ho⟩ : ∃ o, tstF R ts = o := ⟨_, rfl⟩
  rw [ho]
  unfold tstF at ho
  have HO := hidk ho
  clear ho
  go_enter Tryz.func174, Tryz.ntmps174
  go_wp2_with (first
  | (refine bA ?_; clear hC; intro W k hC)
  | refine bL ?_
  | (refine bS ?_; clear hC; intro W hC)
  | (go_at_call 181; have hD := hC; clear hC; (first | refine useN (q_sum RC (by omega) hD) ?_ ?_); (· intro hF W hM; clear hD; (try simp only [hF] at HO); exact ⟨rfl, stopN HO hM⟩); intro tS r hF W aS pZ hC; have HMT : Hid ((aS, pZ, tS) ∈ (aS, pZ, tS) :: L) := List.mem_cons_self; clear hD; (try simp only [hF] at HO); have hl := sumF_Len RC.len _ _ _ hF; clear hF)
  | (go_at_call 62; have hD := hC; clear hC; (first | guard_target = Calls _ _ #[_, _, Value.slice (some _) 1 1] _ _; refine useO (q_one1 _ _ hD) ?_ ?_ | guard_target = Calls _ _ #[_, _, Value.slice (some _) 6 6] _ _; refine useO (q_one6 _ _ _ _ _ _ _ hD) ?_ ?_); (focus (intro hF W hC; clear hD; (try simp only [hF, Option.isSome_none, Bool.false_eq_true, Bool.and_false, reduceIte] at HO); clear hF)); rotate_left; (focus (intro x r hF W hC; clear hD; (try simp only [hF, Option.isSome_some, Bool.and_true, reduceIte] at HO); have hl := oneF_le hF; clear hF)))
  | (go_at_call 182; have hD := hC; clear hC; (first | refine useN (q_cmp RC _ _ HMT.out (by omega) hD) ?_ ?_); (· intro hF W hM; clear hD; (try simp only [hF] at HO); exact ⟨rfl, stopN HO hM⟩); intro t r hF W ao cap hC; clear hD; (try simp only [hF] at HO); clear hF)
  | (go_at_call 50; have hD := hC; clear hC; (first | guard_target = Calls _ _ #[_, Value.slice (some _) 1 1] _ _; refine useB (q_took1 _ hD) ?_ ?_); (focus (intro hb W hC; clear hD; (try simp only [hb, reduceIte, pB] at HO); (try have hl := tkR_ls hb (by simp)); clear hb)); rotate_left; (focus (intro hb W hC; clear hD; (try simp only [tkR_no hb] at HO hC); (try simp only [hb, reduceIte, pB] at HO); clear hb)))
  | (go_at_call 184; have hD := hC; clear hC; (first | refine useN (q_ist _ HMT.out hD) ?_ ?_); (· intro hF W hM; clear hD; (try simp only [hF] at HO); exact ⟨rfl, stopN HO hM⟩); intro t r hF W ao cap hC; clear hD; (try simp only [hF] at HO); clear hF)
  | (go_at_call 183; refine useN (q_turned _ (.head _) hC) (fun h => by cases h) ?_; clear hC; intro t1 r1 hF W ao1 cap1 hC; obtain ⟨rfl, rfl⟩ := Prod.mk.inj (Option.some.inj hF); clear hF)
  | (go_at_call 185; have hD := hC; clear hC; (first | refine useP (q_wt RC _ HMT.out (by omega) hD) ?_ ?_ ?_); (· intro hF W hM; clear hD; (try simp only [hF] at HO); exact ⟨rfl, stopN HO hM⟩); (focus (intro r hF W ao cap hC; clear hD; (try simp only [hF] at HO); clear hF)); rotate_left; (focus (intro t r hF W ao cap hC; clear hD; (try simp only [hF] at HO); clear hF))))
  all_goals first | exact ⟨rfl, stopN HO hC.mv⟩ | exact eM1
theorem q_neg {E : Env} {B : Nat} {w0 w : World} {ts : List Tok} {H : List Bx} {L : List Tn} {R : Rc} {n : Nat} (RC : Ct R n) (hn : ts.length < n) (hC : Cx E B w0 w (.p ts) H L) :
    Calls Tryz.prog 158 #[.pointer (some ⟨E.b, 0, none⟩)] w ((oN (negF R ts)).P E B w0 H L) := by
  obtain ⟨o, ho⟩ : ∃ o, negF R ts = o := ⟨_, rfl⟩
  rw [ho]
  unfold negF at ho
  have HO := hidk ho
  clear ho
  go_enter Tryz.func158, Tryz.ntmps158
  go_wp2_with (first
  | (refine bA ?_; clear hC; intro W k hC)
  | (refine bS ?_; clear hC; intro W hC)
  | (go_at_call 50; have hD := hC; clear hC; (first | guard_target = Calls _ _ #[_, Value.slice (some _) 1 1] _ _; refine useB (q_took1 _ hD) ?_ ?_); (focus (intro hb W hC; clear hD; (try simp only [hb, reduceIte, pB] at HO); (try have hl := tkR_ls hb (by simp)); clear hb)); rotate_left; (focus (intro hb W hC; clear hD; (try simp only [tkR_no hb] at HO hC); (try simp only [hb, reduceIte, pB] at HO); clear hb)))
  | (go_at_call 158; have hD := hC; clear hC; (first | refine useN (RC.neg hD (by omega)) ?_ ?_); (· intro hF W hM; clear hD; (try simp only [hF] at HO); exact ⟨rfl, stopN HO hM⟩); intro t r hF W ao cap hC; clear hD; (try simp only [hF] at HO); clear hF)
  | (go_at_call 174; have hD := hC; clear hC; (first | refine useN (q_tst RC (by omega) hD) ?_ ?_); (· intro hF W hM; clear hD; (try simp only [hF] at HO); exact ⟨rfl, stopN HO hM⟩); intro t r hF W ao cap hC; clear hD; (try simp only [hF] at HO); clear hF)
  | (go_at_call 51; guard_target = Calls _ _ #[_, _, Value.slice none 0 0] _ _; (first | refine useDx (q_node0 _ _ hC) ?_); clear hC; intro W hC)
  | (go_at_call 51; guard_target = Calls _ _ #[_, _, Value.slice (some _) 1 1] _ _; refine m1 ?_; clear hC; intro W hC)
  | (go_at_call 51; have hD := hC; clear hC; refine m4 ?_; intro W hC; clear hD))
  all_goals first | exact ⟨rfl, stopN HO hC.mv⟩ | exact eM1
theorem q_conjunction1 {E : Env} {B : Nat} {w0 w : World} {ts : List Tok} {H : List Bx} {L : List Tn} {kp : Nat} (hp : (kp, [.pointer (some ⟨E.b, 0, none⟩)], 38) ∈ H) (hC : Cx E B w0 w (.p ts) H L) :
    Calls Tryz.prog 159 #[.pointer (some ⟨kp, 0, none⟩)] w (LkP E B w0 H L ts (wdLk [97, 110, 100] ts)) := by
  obtain ⟨o, ho⟩ : ∃ o, wdLk [97, 110, 100] ts = o := ⟨_, rfl⟩
  rw [ho]
  have HO := hidk ho
  clear ho
  go_enter Tryz.func159, Tryz.ntmps159
  go_wp2_with (first
  | (refine bA ?_; clear hC; intro W k hC)
  | refine bL ?_
  | (refine bS ?_; clear hC; intro W hC)
  | (guard_target = Code.wp _ (Code.region 1 _ true) _ _ _; refine wp_region_held_drew (S := HB [_]) (by kernel_rfl) (hC.drew.hbS1 (.tail _ hp)) (fun hHeld => ?_); replace hC := hC.drew; refine qkL 1 ?_; (try simp only [pQ]); refine ry [0, 2] ?_; refine AllReadyH.cons rfl (fun K hK => ?_) (AllReadyH.cons rfl (fun K hK => ?_) AllReadyH.nil); (focus (go_simp; (first | (go_at_call 51; guard_target = Calls _ _ #[_, _, Value.slice none 0 0] _ _; (first | refine useDx (q_node0 _ _ hC) ?_); clear hC; intro W hC) | (go_at_call 50; have hD := hC; clear hC; (first | guard_target = Calls _ _ #[_, Value.slice (some _) 1 1] _ _; refine useV (q_took1 _ hD) ?_); intro W hC; clear hD; (try have hl := hC.tkl))); refine hK.out _ _ hC.hb1' fun hHeld => ?_; clear hK K; (try simp only [pQ]); refine ry [2] ?_; refine rd1 fun K hK => ?_; refine st_of rfl ?_; refine wp_buildS1C hC (by rfl) (by rfl) ?_; clear hC; intro W k hC; refine hK.out _ _ hC.hb1' fun hHeld => ?_; clear hK K; (try simp only [pQ]); refine ry [3] ?_; refine rd1 fun K hK => ?_; go_simp; (first | (go_at_call 51; guard_target = Calls _ _ #[_, _, Value.slice none 0 0] _ _; (first | refine useDx (q_node0 _ _ hC) ?_); clear hC; intro W hC) | (go_at_call 50; have hD := hC; clear hC; (first | guard_target = Calls _ _ #[_, Value.slice (some _) 1 1] _ _; refine useV (q_took1 _ hD) ?_); intro W hC; clear hD; (try have hl := hC.tkl))); refine hK.out _ _ hC.hb1' fun hHeld => ?_; clear hK K; (try simp only [pQ]); refine ry [4] ?_; refine rd1 fun K hK => ?_; refine st_of rfl ?_; refine wsN ?_; clear hC; intro W hC; refine hK.out _ _ hC.hb1' fun hHeld => ?_; clear hK K; (try simp only [pQ]); refine ry [5] ?_; refine rd1 fun K hK => ?_; go_simp; refine hK.out _ _ hC.hb1' fun hHeld => ?_; clear hK K; (try simp only [pQ]); refine dn ?_ _)); rotate_left; (focus (refine st_of rfl ?_; refine wp_buildS1C hC (by rfl) (by rfl) ?_; clear hC; intro W k hC; refine hK.out _ _ hC.hb1' fun hHeld => ?_; clear hK K; (try simp only [pQ]); refine ry [0] ?_; refine rd1 fun K hK => ?_; go_simp; (first | (go_at_call 51; guard_target = Calls _ _ #[_, _, Value.slice none 0 0] _ _; (first | refine useDx (q_node0 _ _ hC) ?_); clear hC; intro W hC) | (go_at_call 50; have hD := hC; clear hC; (first | guard_target = Calls _ _ #[_, Value.slice (some _) 1 1] _ _; refine useV (q_took1 _ hD) ?_); intro W hC; clear hD; (try have hl := hC.tkl))); refine hK.out _ _ hC.hb1' fun hHeld => ?_; clear hK K; (try simp only [pQ]); refine ry [3] ?_; refine rd1 fun K hK => ?_; go_simp; (first | (go_at_call 51; guard_target = Calls _ _ #[_, _, Value.slice none 0 0] _ _; (first | refine useDx (q_node0 _ _ hC) ?_); clear hC; intro W hC) | (go_at_call 50; have hD := hC; clear hC; (first | guard_target = Calls _ _ #[_, Value.slice (some _) 1 1] _ _; refine useV (q_took1 _ hD) ?_); intro W hC; clear hD; (try have hl := hC.tkl))); refine hK.out _ _ hC.hb1' fun hHeld => ?_; clear hK K; (try simp only [pQ]); refine ry [4] ?_; refine rd1 fun K hK => ?_; refine st_of rfl ?_; refine wsN ?_; clear hC; intro W hC; refine hK.out _ _ hC.hb1' fun hHeld => ?_; clear hK K; (try simp only [pQ]); refine ry [5] ?_; refine rd1 fun K hK => ?_; go_simp; refine hK.out _ _ hC.hb1' fun hHeld => ?_; clear hK K; (try simp only [pQ]); refine dn ?_ _)); rotate_left))
  all_goals (refine hC.rcB ?_; rw [← HO.out]; exact endKW (hC.fin0 mSub mL))
theorem q_expr1 {E : Env} {B : Nat} {w0 w : World} {ts : List Tok} {H : List Bx} {L : List Tn} {kp : Nat} (hp : (kp, [.pointer (some ⟨E.b, 0, none⟩)], 38) ∈ H) (hC : Cx E B w0 w (.p ts) H L) :
    Calls Tryz.prog 141 #[.pointer (some ⟨kp, 0, none⟩)] w (LkP E B w0 H L ts (wdLk [111, 114] ts)) := by
  obtain ⟨o, ho⟩ : ∃ o, wdLk [111, 114] ts = o := ⟨_, rfl⟩
  rw [ho]
  have HO := hidk ho
  clear ho
  go_enter Tryz.func141, Tryz.ntmps141
  go_wp2_with (first
  | (refine bA ?_; clear hC; intro W k hC)
  | refine bL ?_
  | (refine bS ?_; clear hC; intro W hC)
  | (guard_target = Code.wp _ (Code.region 1 _ true) _ _ _; refine wp_region_held_drew (S := HB [_]) (by kernel_rfl) (hC.drew.hbS1 (.tail _ hp)) (fun hHeld => ?_); replace hC := hC.drew; refine qkL 1 ?_; (try simp only [pQ]); refine ry [0, 2] ?_; refine AllReadyH.cons rfl (fun K hK => ?_) (AllReadyH.cons rfl (fun K hK => ?_) AllReadyH.nil); (focus (go_simp; (first | (go_at_call 51; guard_target = Calls _ _ #[_, _, Value.slice none 0 0] _ _; (first | refine useDx (q_node0 _ _ hC) ?_); clear hC; intro W hC)); refine hK.out _ _ hC.hb1' fun hHeld => ?_; clear hK K; (try simp only [pQ]); refine ry [2] ?_; refine rd1 fun K hK => ?_; refine st_of rfl ?_; refine wp_buildS1C hC (by rfl) (by rfl) ?_; clear hC; intro W k hC; refine hK.out _ _ hC.hb1' fun hHeld => ?_; clear hK K; (try simp only [pQ]); refine ry [3] ?_; refine rd1 fun K hK => ?_; go_simp; (first | (go_at_call 50; have hD := hC; clear hC; (first | guard_target = Calls _ _ #[_, Value.slice (some _) 1 1] _ _; refine useV (q_took1 _ hD) ?_); intro W hC; clear hD; (try have hl := hC.tkl))); refine hK.out _ _ hC.hb1' fun hHeld => ?_; clear hK K; (try simp only [pQ]); refine ry [4] ?_; refine rd1 fun K hK => ?_; refine st_of rfl ?_; refine wsN ?_; clear hC; intro W hC; refine hK.out _ _ hC.hb1' fun hHeld => ?_; clear hK K; (try simp only [pQ]); refine ry [5] ?_; refine rd1 fun K hK => ?_; go_simp; refine hK.out _ _ hC.hb1' fun hHeld => ?_; clear hK K; (try simp only [pQ]); refine dn ?_ _)); rotate_left; (focus (refine st_of rfl ?_; refine wp_buildS1C hC (by rfl) (by rfl) ?_; clear hC; intro W k hC; refine hK.out _ _ hC.hb1' fun hHeld => ?_; clear hK K; (try simp only [pQ]); refine ry [0] ?_; refine rd1 fun K hK => ?_; go_simp; (first | (go_at_call 51; guard_target = Calls _ _ #[_, _, Value.slice none 0 0] _ _; (first | refine useDx (q_node0 _ _ hC) ?_); clear hC; intro W hC)); refine hK.out _ _ hC.hb1' fun hHeld => ?_; clear hK K; (try simp only [pQ]); refine ry [3] ?_; refine rd1 fun K hK => ?_; go_simp; (first | (go_at_call 50; have hD := hC; clear hC; (first | guard_target = Calls _ _ #[_, Value.slice (some _) 1 1] _ _; refine useV (q_took1 _ hD) ?_); intro W hC; clear hD; (try have hl := hC.tkl))); refine hK.out _ _ hC.hb1' fun hHeld => ?_; clear hK K; (try simp only [pQ]); refine ry [4] ?_; refine rd1 fun K hK => ?_; refine st_of rfl ?_; refine wsN ?_; clear hC; intro W hC; refine hK.out _ _ hC.hb1' fun hHeld => ?_; clear hK K; (try simp only [pQ]); refine ry [5] ?_; refine rd1 fun K hK => ?_; go_simp; refine hK.out _ _ hC.hb1' fun hHeld => ?_; clear hK K; (try simp only [pQ]); refine dn ?_ _)); rotate_left))
  all_goals (refine hC.rcB ?_; rw [← HO.out]; exact endKW (hC.fin0 mSub mL))
theorem q_con {E : Env} {B : Nat} {w0 w : World} {ts : List Tok} {H : List Bx} {L : List Tn} {R : Rc} {n : Nat} (RC : Ct R n) (hn : ts.length < n) (hC : Cx E B w0 w (.p ts) H L) :
    Calls Tryz.prog 140 #[.pointer (some ⟨E.b, 0, none⟩)] w ((oN (conF R ts)).P E B w0 H L) := by
  obtain ⟨o, ho⟩ : ∃ o, conF R ts = o := ⟨_, rfl⟩
  rw [ho]
  unfold conF at ho
  have HO := hidk ho
  clear ho
  go_enter Tryz.func140, Tryz.ntmps140
  go_wp2_with (first
  | (refine bA ?_; clear hC; intro W k hC)
  | ((first | refine hC.bP ?_ | refine hC.bN ?_ | refine hC.b1 ?_); clear hC; intro W k hC; (try simp only [pP]))
  | refine bL ?_
  | (refine bS ?_; clear hC; intro W hC)
  | (go_at_call 123; have hD := hC; clear hC; (first | refine useN (q_chain (I := negF R) (Kl := wdLk [97, 110, 100]) (m := n) ent_negation ent_conjunction1 (fun hs hE hl => q_neg RC (by omega) hE) (fun hs hE => q_conjunction1 (hs.subset mMem) hE) (by omega) (negF_Len RC.len) (wdLk_len _) hD) ?_ ?_); (· intro hF W hM; clear hD; (try simp only [hF] at HO); exact ⟨rfl, stopN HO hM⟩); intro t r hF W ao cap hC; clear hD; (try simp only [hF] at HO); clear hF))
  all_goals first | exact ⟨rfl, stopN HO hC.mv⟩ | exact eM1
theorem q_expr {E : Env} {B : Nat} {w0 w : World} {ts : List Tok} {H : List Bx} {L : List Tn} {R : Rc} {n : Nat} (RC : Ct R n) (hn : ts.length < n) (hC : Cx E B w0 w (.p ts) H L) :
    Calls Tryz.prog 120 #[.pointer (some ⟨E.b, 0, none⟩)] w ((oN (exprF R ts)).P E B w0 H L) := by
  obtain ⟨o, ho⟩ : ∃ o, exprF R ts = o := ⟨_, rfl⟩
  rw [ho]
  unfold exprF at ho
  have HO := hidk ho
  clear ho
  go_enter Tryz.func120, Tryz.ntmps120
  go_wp2_with (first
  | (refine bA ?_; clear hC; intro W k hC)
  | ((first | refine hC.bP ?_ | refine hC.bN ?_ | refine hC.b1 ?_); clear hC; intro W k hC; (try simp only [pP]))
  | refine bL ?_
  | (refine bS ?_; clear hC; intro W hC)
  | (go_at_call 123; have hD := hC; clear hC; (first | refine useN (q_chain (I := conF R) (Kl := wdLk [111, 114]) (m := n) ent_conjunction ent_expr1 (fun hs hE hl => q_con RC (by omega) hE) (fun hs hE => q_expr1 (hs.subset mMem) hE) (by omega) (conF_Len RC.len) (wdLk_len _) hD) ?_ ?_); (· intro hF W hM; clear hD; (try simp only [hF] at HO); exact ⟨rfl, stopN HO hM⟩); intro t r hF W ao cap hC; clear hD; (try simp only [hF] at HO); clear hF))
  all_goals first | exact ⟨rfl, stopN HO hC.mv⟩ | exact eM1
end Go.Proofs.YtaenpacfbheppaaGreatDoor

namespace Go.Proofs.YtaenpacfbheppaaGreatDoor
open Go.RowKit
section
variable {E : Env} {B : Nat} {w0 w W : World} {H : List Bx} {L : List Tn} {f : Nat} {args : Array Value} {R : Ending → World → Prop}
def oJ : Option (Option (List UInt8) × List Tok) → Out
  | none => .stop
  | some (none, r) => .v (.tuple #[.string ⟨#[]⟩, .bool false]) (.p r)
  | some (some s, r) => .v (.tuple #[.string ⟨s.toArray⟩, .bool true]) (.p r)
theorem useJ {o : Option (Option (List UInt8) × List Tok)} (h : Calls Tryz.prog f args w ((oJ o).P E B w0 H L)) (h0 : o = none → ∀ W, Fr w0 W (fun i => i = E.b) → R (.panicked stopP) W)
    (h2 : ∀ r, o = some (none, r) → ∀ W, Cx E B w0 W (.p r) H L → R (.returned (.tuple #[.string ⟨#[]⟩, .bool false])) W)
    (h1 : ∀ s r, o = some (some s, r) → ∀ W, Cx E B w0 W (.p r) H L → R (.returned (.tuple #[.string ⟨s.toArray⟩, .bool true])) W) : Calls Tryz.prog f args w R := by
  refine h.mono fun e W hp => ?_
  rcases o with _ | ⟨_ | t, r⟩
  · obtain ⟨rfl, hf⟩ := hp; exact h0 rfl W hf
  · obtain ⟨rfl, hc⟩ := hp; exact h2 r rfl W hc
  · obtain ⟨rfl, hc⟩ := hp; exact h1 t r rfl W hc
theorem endJ1 {o : Option (Option (List UInt8) × List Tok)} {t : List UInt8} {r : List Tok} (h : Hid (some (some t, r) = o)) (hc : Cx E B w0 W (.p r) H L) : (oJ o).P E B w0 H L (.returned (.tuple #[.string ⟨t.toArray⟩, .bool true])) W := by
  rw [← h.out]; exact ⟨rfl, hc⟩
theorem endJ0 {o : Option (Option (List UInt8) × List Tok)} {r : List Tok} (h : Hid (some (none, r) = o)) (hc : Cx E B w0 W (.p r) H L) : (oJ o).P E B w0 H L (.returned (.tuple #[.string ⟨#[]⟩, .bool false])) W := by
  rw [← h.out]; exact ⟨rfl, hc⟩
theorem stopJ {o : Option (Option (List UInt8) × List Tok)} (h : Hid (none = o)) (hf : Fr w0 W (fun i => i = E.b)) : (oJ o).P E B w0 H L (.panicked stopP) W := by
  rw [← h.out]; exact ⟨rfl, hf⟩
end
theorem q_cls {E : Env} {B : Nat} {w0 w : World} {ts : List Tok} {H : List Bx} {L : List Tn} {R : Rc} {n : Nat} (RC : Ct R n) (wd : List UInt8) (hn : ts.length < n) (hC : Cx E B w0 w (.p ts) H L) :
    Calls Tryz.prog 93 #[.pointer (some ⟨E.b, 0, none⟩), .string ⟨wd.toArray⟩] w ((oN (clsF R wd ts)).P E B w0 H L) := by
  obtain ⟨o, ho⟩ : ∃ o, clsF R wd ts = o := ⟨_, rfl⟩
  rw [ho]
  unfold clsF at ho
  have HO := hidk ho
  clear ho
  go_enter Tryz.func93, Tryz.ntmps93
  go_wp2_with (first
  | (refine bA ?_; clear hC; intro W k hC)
  | (refine bS ?_; clear hC; intro W hC)
  | (go_at_call 50; have hD := hC; clear hC; (first | guard_target = Calls _ _ #[_, Value.slice (some _) 1 1] _ _; refine useB (q_took1 _ hD) ?_ ?_); (focus (intro hb W hC; clear hD; (try simp only [hb, reduceIte, pB] at HO); (try have hl := tkR_ls hb (by simp)); clear hb)); rotate_left; (focus (intro hb W hC; clear hD; (try simp only [tkR_no hb] at HO hC); (try simp only [hb, reduceIte, pB] at HO); clear hb)))
  | (go_at_call 120; have hD := hC; clear hC; (first | refine useN (RC.expr hD (by omega)) ?_ ?_); (· intro hF W hM; clear hD; (try simp only [hF] at HO); exact ⟨rfl, stopN HO hM⟩); intro t r hF W ao cap hC; clear hD; (try simp only [hF] at HO); have hl := RC.len.expr _ _ _ hF; clear hF)
  | (go_at_call 51; guard_target = Calls _ _ #[_, _, Value.slice none 0 0] _ _; (first | refine useDx (q_node0 _ _ hC) ?_); clear hC; intro W hC)
  | (go_at_call 51; guard_target = Calls _ _ #[_, _, Value.slice (some _) 1 1] _ _; refine m1 ?_; clear hC; intro W hC)
  | (go_at_call 51; have hD := hC; clear hC; refine m4 ?_; intro W hC; clear hD))
  all_goals first | exact ⟨rfl, stopN HO hC.mv⟩ | exact eM1
theorem q_itm {E : Env} {B : Nat} {w0 w : World} {ts : List Tok} {H : List Bx} {L : List Tn} {R : Rc} {n : Nat} (RC : Ct R n) (hn : ts.length + 1 < n) (hC : Cx E B w0 w (.p ts) H L) :
    Calls Tryz.prog 161 #[.pointer (some ⟨E.b, 0, none⟩)] w ((oN (itmF R ts)).P E B w0 H L) := by
  obtain ⟨o, ho⟩ : ∃ o, itmF R ts = o := ⟨_, rfl⟩
  rw [ho]
  unfold itmF at ho
  have HO := hidk ho
  clear ho
  go_enter Tryz.func161, Tryz.ntmps161
  go_wp2_with (first
  | (refine bA ?_; clear hC; intro W k hC)
  | refine bL ?_
  | (refine bS ?_; clear hC; intro W hC)
  | (go_at_call 21; have hD := hC; clear hC; refine useG (q_tookSign _ hD) ?_ ?_; (focus (intro hF W hC; clear hD; (try simp only [hF, Option.isSome_none, Bool.false_eq_true, Bool.and_false, reduceIte] at HO); clear hF)); rotate_left; (focus (intro x r hF W hC; clear hD; (try simp only [hF, Option.isSome_some, Bool.and_true, reduceIte] at HO); have hl := oneF_le hF; clear hF)))
  | (go_at_call 164; have hD := hC; clear hC; refine useB (q_atName hD) ?_ ?_; (focus (intro hb W hC; clear hD; (try simp only [hb, reduceIte, Bool.true_and] at HO); clear hb)); rotate_left; (focus (intro hb W hC; clear hD; (try simp only [hb, reduceIte, Bool.false_and, Bool.false_eq_true] at HO); clear hb)))
  | (go_at_call 79; have hD := hC; clear hC; (first | (guard_target = Calls _ _ #[_, Value.int _ 0, _, _] _ _; refine useB (q_stands hD 0 (by decide) _ _) ?_ ?_) | (guard_target = Calls _ _ #[_, Value.int _ 1, _, _] _ _; refine useB (q_stands hD 1 (by decide) _ _) ?_ ?_) | (guard_target = Calls _ _ #[_, Value.int _ 2, _, _] _ _; refine useB (q_stands hD 2 (by decide) _ _) ?_ ?_)); (focus (intro hb W hC; clear hD; (try simp only [hb, reduceIte, Bool.true_and, Bool.and_true] at HO); clear hb)); rotate_left; (focus (intro hb W hC; clear hD; (try simp only [hb, reduceIte, Bool.false_and, Bool.and_false, Bool.false_eq_true] at HO); clear hb)))
  | (go_at_call 52; have hD := hC; clear hC; (first | refine useS (q_name hD) ?_ ?_); (· intro hF W hM; clear hD; (try simp only [hF] at HO); exact ⟨rfl, stopN HO hM⟩); intro s r hF W hC; clear hD; (try simp only [hF] at HO); have hl := nameF_le hF; clear hF)
  | (go_at_call 117; have hD := hC; clear hC; refine useW (q_needSign _ hD) ?_ ?_; (· intro hF W hM; clear hD; (try simp only [hF] at HO); exact ⟨rfl, stopN HO hM⟩); intro x r hF W hC; clear hD; (try simp only [hF] at HO); have hl := oneF_le hF; clear hF)
  | (go_at_call 120; have hD := hC; clear hC; (first | refine useN (RC.expr hD (by omega)) ?_ ?_); (· intro hF W hM; clear hD; (try simp only [hF] at HO); exact ⟨rfl, stopN HO hM⟩); intro t r hF W ao cap hC; clear hD; (try simp only [hF] at HO); have hl := RC.len.expr _ _ _ hF; clear hF)
  | (guard_target = Code.wp _ (Code.region 9 _ true) _ _ _; refine wp_region_held_drew (S := HB [_]) (by kernel_rfl) (hC.drew.hbI1 0 (by rfl)) (fun hHeld => ?_); replace hC := hC.drew; refine qk 0 ?_; (try simp only [pQ]); refine qkN 2 ?_; (try simp only [pQ]); refine ry [1, 3] ?_; refine AllReadyH.cons rfl (fun K hK => ?_) (AllReadyH.cons rfl (fun K hK => ?_) AllReadyH.nil); (focus (go_simp; (first | (go_at_call 175; have hD := hC; clear hC; (first | refine useS (q_alias hD) ?_ ?_); (· intro hF W hM; clear hD; (try simp only [hF] at HO); exact ⟨rfl, stopN HO hM⟩); intro s r hF W hC; clear hD; (try simp only [hF] at HO); have hl := aliasF_len hF; clear hF)); refine hK.out _ _ hC.hb1' fun hHeld => ?_; clear hK K; (try simp only [pQ]); refine ry [3] ?_; refine rd1 fun K hK => ?_; refine st_of rfl ?_; refine wp_build1C hC (by rfl) (by rfl) ?_; clear hC; intro W k hC; refine hK.out _ _ hC.hb1' fun hHeld => ?_; clear hK K; (try simp only [pQ]); refine ry [4] ?_; refine rd1 fun K hK => ?_; go_simp; (first | (go_at_call 51; guard_target = Calls _ _ #[_, _, Value.slice (some _) 1 1] _ _; refine m1 ?_; clear hC; intro W hC)); refine hK.out _ _ hC.hb1' fun hHeld => ?_; clear hK K; (try simp only [pQ]); refine ry [5] ?_; refine rd1 fun K hK => ?_; refine st_of rfl ?_; refine wsN ?_; clear hC; intro W hC; refine hK.out _ _ hC.hb1' fun hHeld => ?_; clear hK K; (try simp only [pQ]); refine dn ?_ _)); rotate_left; (focus (refine st_of rfl ?_; refine wp_build1C hC (by rfl) (by rfl) ?_; clear hC; intro W k hC; refine hK.out _ _ hC.hb1' fun hHeld => ?_; clear hK K; (try simp only [pQ]); refine ry [1] ?_; refine rd1 fun K hK => ?_; go_simp; (first | (go_at_call 175; have hD := hC; clear hC; (first | refine useS (q_alias hD) ?_ ?_); (· intro hF W hM; clear hD; (try simp only [hF] at HO); exact ⟨rfl, stopN HO hM⟩); intro s r hF W hC; clear hD; (try simp only [hF] at HO); have hl := aliasF_len hF; clear hF)); refine hK.out _ _ hC.hb1' fun hHeld => ?_; clear hK K; (try simp only [pQ]); refine ry [4] ?_; refine rd1 fun K hK => ?_; go_simp; (first | (go_at_call 51; guard_target = Calls _ _ #[_, _, Value.slice (some _) 1 1] _ _; refine m1 ?_; clear hC; intro W hC)); refine hK.out _ _ hC.hb1' fun hHeld => ?_; clear hK K; (try simp only [pQ]); refine ry [5] ?_; refine rd1 fun K hK => ?_; refine st_of rfl ?_; refine wsN ?_; clear hC; intro W hC; refine hK.out _ _ hC.hb1' fun hHeld => ?_; clear hK K; (try simp only [pQ]); refine dn ?_ _)); rotate_left)
  | (go_at_call 51; guard_target = Calls _ _ #[_, _, Value.slice none 0 0] _ _; (first | refine useDx (q_node0 _ _ hC) ?_); clear hC; intro W hC)
  | (go_at_call 51; guard_target = Calls _ _ #[_, _, Value.slice (some _) 1 1] _ _; refine m1 ?_; clear hC; intro W hC)
  | (go_at_call 51; have hD := hC; clear hC; refine m4 ?_; intro W hC; clear hD))
  all_goals first | exact ⟨rfl, stopN HO hC.mv⟩ | exact eM1
theorem q_setl1 {E : Env} {B : Nat} {w0 w : World} {ts : List Tok} {H : List Bx} {L : List Tn} {kb : Nat} (u1 : List UInt8) (hC : Cx E B w0 w (.p ts) ((kb, [.string ⟨u1.toArray⟩], 9) :: H) L) :
    Calls Tryz.prog 126 #[.pointer (some ⟨E.b, 0, none⟩), .slice (some ⟨kb, 0, none⟩) 1 1] w (LkP E B w0 H L ts (setLk [u1] ts)) := by
  obtain ⟨o, ho⟩ : ∃ o, setLk [u1] ts = o := ⟨_, rfl⟩
  rw [ho]
  unfold setLk at ho
  have HO := hidk ho
  clear ho
  go_enter Tryz.func126, Tryz.ntmps126
  go_wp2_with (first
  | (refine bA ?_; clear hC; intro W k hC)
  | (refine bS ?_; clear hC; intro W hC)
  | (go_at_call 62; have hD := hC; clear hC; (first | guard_target = Calls _ _ #[_, _, Value.slice (some _) 1 1] _ _; refine useO (q_one1 _ _ (hD.perm (.swap _ _ _))) ?_ ?_); (focus (intro hF W hC; clear hD; (try simp only [hF, Option.isSome_none, Bool.false_eq_true, Bool.and_false, reduceIte] at HO); clear hF)); rotate_left; (focus (intro x r hF W hC; clear hD; (try simp only [hF, Option.isSome_some, Bool.and_true, reduceIte] at HO); have hl := oneF_le hF; clear hF)))
  | (go_at_call 50; have hD := hC; clear hC; (first | guard_target = Calls _ _ #[_, Value.slice (some _) 1 1] _ _; refine useV (q_took1 [97, 108, 108] hD) ?_); intro W hC; clear hD; (try have hl := hC.tkl))
  | (go_at_call 94; refine (q_mark _ _).mono ?_; rintro e w1 ⟨rfl, hw1⟩; obtain rfl := hw1.symm))
  all_goals (refine hC.rcB ?_; first | exact endK0 HO (hC.fin0 mSub mL) | exact endK1 HO (hC.fin0 mSub mL))
theorem q_setl2 {E : Env} {B : Nat} {w0 w : World} {ts : List Tok} {H : List Bx} {L : List Tn} {kb : Nat} (u1 u2 : List UInt8) (hC : Cx E B w0 w (.p ts) ((kb, [.string ⟨u1.toArray⟩, .string ⟨u2.toArray⟩], 9) :: H) L) :
    Calls Tryz.prog 126 #[.pointer (some ⟨E.b, 0, none⟩), .slice (some ⟨kb, 0, none⟩) 2 2] w (LkP E B w0 H L ts (setLk [u1, u2] ts)) := by
  obtain ⟨o, ho⟩ : ∃ o, setLk [u1, u2] ts = o := ⟨_, rfl⟩
  rw [ho]
  unfold setLk at ho
  have HO := hidk ho
  clear ho
  go_enter Tryz.func126, Tryz.ntmps126
  go_wp2_with (first
  | (refine bA ?_; clear hC; intro W k hC)
  | (refine bS ?_; clear hC; intro W hC)
  | (go_at_call 62; have hD := hC; clear hC; (first | guard_target = Calls _ _ #[_, _, Value.slice (some _) 2 2] _ _; refine useO (q_one2 _ _ _ (hD.perm (.swap _ _ _))) ?_ ?_); (focus (intro hF W hC; clear hD; (try simp only [hF, Option.isSome_none, Bool.false_eq_true, Bool.and_false, reduceIte] at HO); clear hF)); rotate_left; (focus (intro x r hF W hC; clear hD; (try simp only [hF, Option.isSome_some, Bool.and_true, reduceIte] at HO); have hl := oneF_le hF; clear hF)))
  | (go_at_call 50; have hD := hC; clear hC; (first | guard_target = Calls _ _ #[_, Value.slice (some _) 1 1] _ _; refine useV (q_took1 [97, 108, 108] hD) ?_); intro W hC; clear hD; (try have hl := hC.tkl))
  | (go_at_call 94; refine (q_mark _ _).mono ?_; rintro e w1 ⟨rfl, hw1⟩; obtain rfl := hw1.symm))
  all_goals (refine hC.rcB ?_; first | exact endK0 HO (hC.fin0 mSub mL) | exact endK1 HO (hC.fin0 mSub mL))
theorem q_body1 {E : Env} {B : Nat} {w0 w : World} {ts : List Tok} {H : List Bx} {L : List Tn} {kp : Nat} (hp : (kp, [.pointer (some ⟨E.b, 0, none⟩)], 38) ∈ H) (hC : Cx E B w0 w (.p ts) H L) :
    Calls Tryz.prog 125 #[.pointer (some ⟨kp, 0, none⟩)] w (LkP E B w0 H L ts (setLk [[117, 110, 105, 111, 110], [101, 120, 99, 101, 112, 116]] ts)) := by
  obtain ⟨o, ho⟩ : ∃ o, setLk [[117, 110, 105, 111, 110], [101, 120, 99, 101, 112, 116]] ts = o := ⟨_, rfl⟩
  rw [ho]
  have HO := hidk ho
  clear ho
  go_enter Tryz.func125, Tryz.ntmps125
  go_wp2_with (first
  | (refine bA ?_; clear hC; intro W k hC)
  | refine bL ?_
  | (refine bS ?_; clear hC; intro W hC)
  | (go_at_call 126; have hD := hC; clear hC; (first | refine useK (q_setl2 _ _ hD) ?_ ?_); (focus (intro hF op1 s1 n1 W hC; clear hD; (try simp only [hF] at HO); clear hF)); rotate_left; (focus (intro op1 n1 r hF W hC; clear hD; (try simp only [hF] at HO); clear hF))))
  all_goals (refine hC.rcB ?_; first | exact endK0 HO (hC.fin0 mSub mL) | exact endK1 HO (hC.fin0 mSub mL))
theorem q_term1 {E : Env} {B : Nat} {w0 w : World} {ts : List Tok} {H : List Bx} {L : List Tn} {kp : Nat} (hp : (kp, [.pointer (some ⟨E.b, 0, none⟩)], 38) ∈ H) (hC : Cx E B w0 w (.p ts) H L) :
    Calls Tryz.prog 145 #[.pointer (some ⟨kp, 0, none⟩)] w (LkP E B w0 H L ts (setLk [[105, 110, 116, 101, 114, 115, 101, 99, 116]] ts)) := by
  obtain ⟨o, ho⟩ : ∃ o, setLk [[105, 110, 116, 101, 114, 115, 101, 99, 116]] ts = o := ⟨_, rfl⟩
  rw [ho]
  have HO := hidk ho
  clear ho
  go_enter Tryz.func145, Tryz.ntmps145
  go_wp2_with (first
  | (refine bA ?_; clear hC; intro W k hC)
  | refine bL ?_
  | (refine bS ?_; clear hC; intro W hC)
  | (go_at_call 126; have hD := hC; clear hC; (first | refine useK (q_setl1 _ hD) ?_ ?_); (focus (intro hF op1 s1 n1 W hC; clear hD; (try simp only [hF] at HO); clear hF)); rotate_left; (focus (intro op1 n1 r hF W hC; clear hD; (try simp only [hF] at HO); clear hF))))
  all_goals (refine hC.rcB ?_; first | exact endK0 HO (hC.fin0 mSub mL) | exact endK1 HO (hC.fin0 mSub mL))
end Go.Proofs.YtaenpacfbheppaaGreatDoor

namespace Go.Proofs.YtaenpacfbheppaaGreatDoor
open Go.RowKit
theorem q_jd {E : Env} {B : Nat} {w0 w : World} {ts : List Tok} {H : List Bx} {L : List Tn} {R : Rc} {n : Nat} (RC : Ct R n) (hn : ts.length < n) (hC : Cx E B w0 w (.p ts) H L) :
    Calls Tryz.prog 176 #[.pointer (some ⟨E.b, 0, none⟩)] w ((oN (jdF R ts)).P E B w0 H L) := by
  obtain ⟨o, ho⟩ : ∃ o, jdF R ts = o := ⟨_, rfl⟩
  rw [ho]
  unfold jdF at ho
  have HO := hidk ho
  clear ho
  go_enter Tryz.func176, Tryz.ntmps176
  go_wp2_with (first
  | (refine bA ?_; clear hC; intro W k hC)
  | refine bL ?_
  | (refine bS ?_; clear hC; intro W hC)
  | (go_at_call 89; have hD := hC; clear hC; refine useB (q_opens hD) ?_ ?_; (focus (intro hb W hC; clear hD; (try simp only [hb, reduceIte, Bool.not_true, Bool.and_false, Bool.false_eq_true] at HO); clear hb)); rotate_left; (focus (intro hb W hC; clear hD; (try simp only [hb, reduceIte, Bool.not_false, Bool.and_true, Bool.false_eq_true] at HO); clear hb)))
  | (go_at_call 119; (first | (guard_target = Calls _ _ #[_, Value.func (Go.Fn.func 91) _ _] _ _; have hD := hC; clear hC; refine useN (q_parN (I := R.body) (m := n - 1) ent_body (fun hs hE hl => RC.body hE (by omega)) (by omega) hD) ?_ ?_; (· intro hF W hM; clear hD; (try simp only [hF] at HO); exact ⟨rfl, stopN HO hM⟩); intro t r hF W ao cap hC; clear hD; (try simp only [hF] at HO); have hl := parF_len (RC.len.body) hF; clear hF) | (guard_target = Calls _ _ #[_, Value.func (Go.Fn.func 162) _ _] _ _; have hD := hC; clear hC; refine useN (q_parN (I := R.tab) (m := n - 1) ent_table (fun hs hE hl => RC.tab hE (by omega)) (by omega) hD) ?_ ?_; (· intro hF W hM; clear hD; (try simp only [hF] at HO); exact ⟨rfl, stopN HO hM⟩); intro t r hF W ao cap hC; clear hD; (try simp only [hF] at HO); have hl := parF_len (RC.len.tab) hF; clear hF)))
  | (go_at_call 50; have hD := hC; clear hC; (first | guard_target = Calls _ _ #[_, Value.slice (some _) 1 1] _ _; refine useV (q_took1 [97, 115] hD) ?_); intro W hC; clear hD; (try have hl := hC.tkl))
  | (guard_target = Code.wp _ (Code.region 4 _ true) _ _ _; refine wp_region_held_drew (S := HB [_]) (by kernel_rfl) (hC.drew.hbI1 0 (by rfl)) (fun hHeld => ?_); replace hC := hC.drew; refine qk 0 ?_; (try simp only [pQ]); refine qkN 2 ?_; (try simp only [pQ]); refine ry [1, 3] ?_; refine AllReadyH.cons rfl (fun K hK => ?_) (AllReadyH.cons rfl (fun K hK => ?_) AllReadyH.nil); (focus (go_simp; (first | (go_at_call 52; have hD := hC; clear hC; (first | refine useS (q_name hD) ?_ ?_); (· intro hF W hM; clear hD; (try simp only [hF] at HO); exact ⟨rfl, stopN HO hM⟩); intro s r hF W hC; clear hD; (try simp only [hF] at HO); have hl := nameF_le hF; clear hF) | (go_at_call 51; guard_target = Calls _ _ #[_, _, Value.slice (some _) 1 1] _ _; refine m1 ?_; clear hC; intro W hC)); refine hK.out _ _ hC.hb1' fun hHeld => ?_; clear hK K; (try simp only [pQ]); refine ry [3] ?_; refine rd1 fun K hK => ?_; refine st_of rfl ?_; refine wp_build1C hC (by rfl) (by rfl) ?_; clear hC; intro W k hC; refine hK.out _ _ hC.hb1' fun hHeld => ?_; clear hK K; (try simp only [pQ]); refine ry [4] ?_; refine rd1 fun K hK => ?_; go_simp; (first | (go_at_call 52; have hD := hC; clear hC; (first | refine useS (q_name hD) ?_ ?_); (· intro hF W hM; clear hD; (try simp only [hF] at HO); exact ⟨rfl, stopN HO hM⟩); intro s r hF W hC; clear hD; (try simp only [hF] at HO); have hl := nameF_le hF; clear hF) | (go_at_call 51; guard_target = Calls _ _ #[_, _, Value.slice (some _) 1 1] _ _; refine m1 ?_; clear hC; intro W hC)); refine hK.out _ _ hC.hb1' fun hHeld => ?_; clear hK K; (try simp only [pQ]); refine ry [5] ?_; refine rd1 fun K hK => ?_; refine st_of rfl ?_; refine wsN ?_; clear hC; intro W hC; refine hK.out _ _ hC.hb1' fun hHeld => ?_; clear hK K; (try simp only [pQ]); refine dn ?_ _)); rotate_left; (focus (refine st_of rfl ?_; refine wp_build1C hC (by rfl) (by rfl) ?_; clear hC; intro W k hC; refine hK.out _ _ hC.hb1' fun hHeld => ?_; clear hK K; (try simp only [pQ]); refine ry [1] ?_; refine rd1 fun K hK => ?_; go_simp; (first | (go_at_call 52; have hD := hC; clear hC; (first | refine useS (q_name hD) ?_ ?_); (· intro hF W hM; clear hD; (try simp only [hF] at HO); exact ⟨rfl, stopN HO hM⟩); intro s r hF W hC; clear hD; (try simp only [hF] at HO); have hl := nameF_le hF; clear hF) | (go_at_call 51; guard_target = Calls _ _ #[_, _, Value.slice (some _) 1 1] _ _; refine m1 ?_; clear hC; intro W hC)); refine hK.out _ _ hC.hb1' fun hHeld => ?_; clear hK K; (try simp only [pQ]); refine ry [4] ?_; refine rd1 fun K hK => ?_; go_simp; (first | (go_at_call 52; have hD := hC; clear hC; (first | refine useS (q_name hD) ?_ ?_); (· intro hF W hM; clear hD; (try simp only [hF] at HO); exact ⟨rfl, stopN HO hM⟩); intro s r hF W hC; clear hD; (try simp only [hF] at HO); have hl := nameF_le hF; clear hF) | (go_at_call 51; guard_target = Calls _ _ #[_, _, Value.slice (some _) 1 1] _ _; refine m1 ?_; clear hC; intro W hC)); refine hK.out _ _ hC.hb1' fun hHeld => ?_; clear hK K; (try simp only [pQ]); refine ry [5] ?_; refine rd1 fun K hK => ?_; refine st_of rfl ?_; refine wsN ?_; clear hC; intro W hC; refine hK.out _ _ hC.hb1' fun hHeld => ?_; clear hK K; (try simp only [pQ]); refine dn ?_ _)); rotate_left)
  | (go_at_call 79; have hD := hC; clear hC; (first | (guard_target = Calls _ _ #[_, Value.int _ 0, _, _] _ _; refine useB (q_stands hD 0 (by decide) _ _) ?_ ?_) | (guard_target = Calls _ _ #[_, Value.int _ 1, _, _] _ _; refine useB (q_stands hD 1 (by decide) _ _) ?_ ?_) | (guard_target = Calls _ _ #[_, Value.int _ 2, _, _] _ _; refine useB (q_stands hD 2 (by decide) _ _) ?_ ?_)); (focus (intro hb W hC; clear hD; (try simp only [hb, reduceIte, Bool.true_and, Bool.and_true] at HO); clear hb)); rotate_left; (focus (intro hb W hC; clear hD; (try simp only [hb, reduceIte, Bool.false_and, Bool.and_false, Bool.false_eq_true] at HO); clear hb)))
  | (go_at_call 52; have hD := hC; clear hC; (first | refine useS (q_name hD) ?_ ?_); (· intro hF W hM; clear hD; (try simp only [hF] at HO); exact ⟨rfl, stopN HO hM⟩); intro s r hF W hC; clear hD; (try simp only [hF] at HO); have hl := nameF_le hF; clear hF)
  | (go_at_call 175; have hD := hC; clear hC; (first | refine useS (q_alias hD) ?_ ?_); (· intro hF W hM; clear hD; (try simp only [hF] at HO); exact ⟨rfl, stopN HO hM⟩); intro sA r hF W hC; clear hD; (try simp only [hF] at HO); have hl := aliasF_len hF; clear hF; (cases hq : (sA == ([] : List UInt8))))
  | (go_at_call 51; guard_target = Calls _ _ #[_, _, Value.slice none 0 0] _ _; (first | refine useDx (q_node0 _ _ hC) ?_); clear hC; intro W hC)
  | (go_at_call 51; guard_target = Calls _ _ #[_, _, Value.slice (some _) 1 1] _ _; refine m1 ?_; clear hC; intro W hC)
  | (go_at_call 51; have hD := hC; clear hC; refine m4 ?_; intro W hC; clear hD))
  all_goals (try simp only [hq, reduceIte, Bool.false_eq_true] at HO)
  all_goals first | exact ⟨rfl, stopN HO hC.mv⟩ | exact eM1
theorem q_jn {E : Env} {B : Nat} {w0 w : World} {ts : List Tok} {H : List Bx} {L : List Tn} (hC : Cx E B w0 w (.p ts) H L) :
    Calls Tryz.prog 177 #[.pointer (some ⟨E.b, 0, none⟩)] w ((oJ (jnF ts)).P E B w0 H L) := by
  obtain ⟨o, ho⟩ : ∃ o, jnF ts = o := ⟨_, rfl⟩
  rw [ho]
  unfold jnF at ho
  have HO := hidk ho
  clear ho
  go_enter Tryz.func177, Tryz.ntmps177
  go_wp2_with (first
  | (refine bA ?_; clear hC; intro W k hC)
  | (go_at_call 50; have hD := hC; clear hC; (first | guard_target = Calls _ _ #[_, Value.slice (some _) 1 1] _ _; refine useV (q_took1 [111, 117, 116, 101, 114] hD) ?_); intro W hC; clear hD; (try have hl := hC.tkl))
  | (go_at_call 50; have hD := hC; clear hC; (first | guard_target = Calls _ _ #[_, Value.slice (some _) 1 1] _ _; refine useB (q_took1 _ hD) ?_ ?_ | guard_target = Calls _ _ #[_, Value.slice (some _) 2 2] _ _; refine useB (q_took2 _ _ hD) ?_ ?_ | guard_target = Calls _ _ #[_, Value.slice (some _) 3 3] _ _; refine useB (q_took3 _ _ _ hD) ?_ ?_); (focus (intro hb W hC; clear hD; (try simp only [hb, reduceIte, pB] at HO); (try have hl := tkR_ls hb (by simp)); clear hb)); rotate_left; (focus (intro hb W hC; clear hD; (try simp only [tkR_no hb] at HO hC); (try simp only [hb, reduceIte, pB] at HO); clear hb)))
  | (go_at_call 62; have hD := hC; clear hC; (first | guard_target = Calls _ _ #[_, _, Value.slice (some _) 1 1] _ _; refine useO (q_one1 _ _ hD) ?_ ?_ | guard_target = Calls _ _ #[_, _, Value.slice (some _) 2 2] _ _; refine useO (q_one2 _ _ _ hD) ?_ ?_ | guard_target = Calls _ _ #[_, _, Value.slice (some _) 3 3] _ _; refine useO (q_one3 _ _ _ _ hD) ?_ ?_); (focus (intro hF W hC; clear hD; (try simp only [hF, Option.isSome_none, Bool.false_eq_true, Bool.and_false, reduceIte] at HO); clear hF)); rotate_left; (focus (intro x r hF W hC; clear hD; (try simp only [hF, Option.isSome_some, Bool.and_true, reduceIte] at HO); have hl := oneF_le hF; clear hF)))
  | (go_at_call 87; have hD := hC; clear hC; (first | guard_target = Calls _ _ #[_, Value.slice (some _) 1 1] _ _; refine useU (q_need1 _ hD) ?_ ?_ | guard_target = Calls _ _ #[_, Value.slice (some _) 2 2] _ _; refine useU (q_need2 _ _ hD) ?_ ?_); (· intro hF W hM; clear hD; (try simp only [hF] at HO); exact ⟨rfl, stopJ HO hM⟩); intro r hF W hC; clear hD; (try simp only [hF] at HO); have hl := needF_lt hF (Nat.succ_pos _); clear hF))
  all_goals first | exact ⟨rfl, stopJ HO hC.mv⟩ | (go_ret2; first | exact endJ0 HO (hC.fin0 mSub mL) | exact endJ1 HO (hC.fin0 mSub mL))
end Go.Proofs.YtaenpacfbheppaaGreatDoor

namespace Go.Proofs.YtaenpacfbheppaaGreatDoor
open Go.RowKit
theorem Rw.two {a1 a2 : Option Addr} {p1 p2 : Nat} {t1 t2 : Tr} : Rw 2 [t1, t2] [(a1, p1), (a2, p2)] (ncs a1 p1 t1 ++ ncs a2 p2 t2) := ⟨rfl, by simp, by unfold maxLen; omega, rfl, by simp [flatK, ncs]⟩
theorem Rin.two {a1 a2 : Option Addr} {p1 p2 : Nat} {t1 t2 : Tr} {L : List Tn} (h : (a1, p1, t1) ∈ L) (h2 : (a2, p2, t2) ∈ L) : Rin [(a1, p1), (a2, p2)] [t1, t2] L := Rin.app (l := [t1]) rfl (Rin.one h) (Rin.one h2)
theorem q_tab {E : Env} {B : Nat} {w0 w : World} {ts : List Tok} {H : List Bx} {L : List Tn} {R : Rc} {n : Nat} (RC : Ct R n) (hn : ts.length < n) (hC : Cx E B w0 w (.p ts) H L) :
    Calls Tryz.prog 162 #[.pointer (some ⟨E.b, 0, none⟩)] w ((oN (tabF R ts)).P E B w0 H L) := by
  obtain ⟨o, ho⟩ : ∃ o, tabF R ts = o := ⟨_, rfl⟩
  rw [ho]
  unfold tabF at ho
  have HO := hidk ho
  clear ho
  go_enter Tryz.func162, Tryz.ntmps162
  go_wp2_with (first
  | (refine bA ?_; clear hC; intro W k hC)
  | (refine m0 ?_; clear hC; intro W hC; simp only [pS] at hC; (try simp only [pP]))
  | ((first | refine hC.bP ?_ | refine hC.bN ?_ | refine hC.b1 ?_); clear hC; intro W k hC; (try simp only [pP]))
  | refine bL ?_
  | (refine bS ?_; clear hC; intro W hC)
  | (go_at_call 176; have hD := hC; clear hC; (first | refine useN (q_jd RC (by omega) hD) ?_ ?_); (· intro hF W hM; clear hD; (try simp only [hF] at HO); exact ⟨rfl, stopN HO hM⟩); intro t r hF W ao cap hC; clear hD; (try simp only [hF] at HO); have hl := jdF_Len RC.len _ _ _ hF; clear hF))
  rename_i Wa k2 Wb Wc
  go_loopg [] (r.length) (fun kx wr => ∃ (t : Tr) (ao : Option Addr) (cap : Nat) (L' : List Tn) (ts' : List Tok) (f : Nat), ts'.length ≤ kx ∧ Hid (Cx E B w0 wr (.p ts') ((k, ncs ao cap t, 24) :: (k2, [.string ⟨#[]⟩, .string ⟨#[]⟩, .int .i64 0, .slice none 0 0], 24) :: H) L') ∧ Hid ((ao, cap, t) ∈ L') ∧ Hid (∀ y ∈ L, y ∈ L') ∧ Hid (tbN R f t ts' = o) ∧ ts'.length < f ∧ ts'.length < n)
  case atStart => exact ⟨t, ao, cap, _, r, r.length + 1, Nat.le_refl _, hC, List.mem_cons_self, fun y hy => List.mem_cons_of_mem _ hy, HO, by omega, by omega⟩
  case round =>
    rename World => wr
    clear hC HO hl
    obtain ⟨t, ao, cap, L', ts', f, hk, hC', hM, hS, HO2, hf, hmm⟩ := hrel
    have hC := hC'.out
    clear hC'
    obtain ⟨f, rfl⟩ : ∃ f', f = f' + 1 := ⟨f - 1, by omega⟩
    obtain ho := HO2.out
    clear HO2
    unfold tbN at ho
    have HO := hidk ho
    clear ho
    unfold ncs at hC
    go_wp2_with (first
    | (refine bA ?_; clear hC; intro W k hC)
    | (refine m0 ?_; clear hC; intro W hC; simp only [pS] at hC; (try simp only [pP]))
    | ((first | refine hC.bP ?_ | refine hC.bN ?_ | refine hC.b1 ?_); clear hC; intro W k hC; (try simp only [pP]))
    | refine bL ?_
    | (refine bS ?_; clear hC; intro W hC)
    | (go_at_call 177; have hD := hC; clear hC; refine useJ (q_jn hD) ?_ ?_ ?_; (· intro hF W hM; clear hD; (try simp only [hF] at HO); exact ⟨rfl, stopN HO hM⟩); (focus (intro r hF W hC; clear hD; (try simp only [hF] at HO); clear hF)); rotate_left; (focus (intro sJ r hF W hC; clear hD; (try simp only [hF] at HO); have hl := (jnF_len hF).2 (by simp); clear hF; cases hq : (sJ == [99, 114, 111, 115, 115]) <;> simp only [hq, reduceIte, Bool.false_eq_true] at HO)))
    | (guard_target = Code.wp _ (Code.region 5 _ true) _ _ _; refine wp_region_held_drew (S := HB [_]) (by kernel_rfl) (hC.drew.hbI1 0 (by rfl)) (fun hHeld => ?_); replace hC := hC.drew; refine qkN 0 ?_; (try simp only [pQ]); refine qk 1 ?_; (try simp only [pQ]); refine ry [2] ?_; refine rd1 fun K hK => ?_; go_simp; (first | (go_at_call 176; have hD := hC; clear hC; (first | refine useN (q_jd RC (by omega) hD) ?_ ?_); (· intro hF W hM; clear hD; (try simp only [hF] at HO); exact ⟨rfl, stopN HO hM⟩); intro t r hF W ao cap hC; clear hD; (try simp only [hF] at HO); have hl := jdF_Len RC.len _ _ _ hF; clear hF)); refine hK.out _ _ hC.hb1' fun hHeld => ?_; clear hK K; (try simp only [pQ]); refine ry [3] ?_; refine rd1 fun K hK => ?_; refine st_of rfl ?_; refine wp_build2C hC (by rfl) (by rfl) (by rfl) ?_; clear hC; intro W k hC; refine hK.out _ _ hC.hb1' fun hHeld => ?_; clear hK K; (try simp only [pQ]); refine ry [4] ?_; refine rd1 fun K hK => ?_; go_simp; refine hK.out _ _ hC.hb1' fun hHeld => ?_; clear hK K; (try simp only [pQ]); refine dn ?_ _; generalize hV : Value.slice (some ⟨k, 0, none⟩) 2 2 = V; have hVV := hidk hV; clear hV)
    | (go_at_call 87; have hD := hC; clear hC; (first | guard_target = Calls _ _ #[_, Value.slice (some _) 1 1] _ _; refine useU (q_need1 _ hD) ?_ ?_ | guard_target = Calls _ _ #[_, Value.slice (some _) 2 2] _ _; refine useU (q_need2 _ _ hD) ?_ ?_); (· intro hF W hM; clear hD; (try simp only [hF] at HO); exact ⟨rfl, stopN HO hM⟩); intro r hF W hC; clear hD; (try simp only [hF] at HO); have hl := needF_lt hF (Nat.succ_pos _); clear hF)
    | (go_at_call 120; have hD := hC; clear hC; (first | refine useN (RC.expr hD (by omega)) ?_ ?_); (· intro hF W hM; clear hD; (try simp only [hF] at HO); exact ⟨rfl, stopN HO hM⟩); intro t r hF W ao cap hC; clear hD; (try simp only [hF] at HO); have hl := RC.len.expr _ _ _ hF; clear hF)
    | (at_builtin; have hV := hVV.out; clear hVV; subst hV; have hD := hC; clear hC; refine wl_app1 rfl hD (.head _) 0 (by rfl) (by rfl) (by rfl) (by rfl) Rw.two (Rin.two (.tail _ (.tail _ hM.out)) (.tail _ (.head _))) (by rfl) (by omega) ?_; clear hD; intro W k9 cap2 cur2 hD hR2 hN2; simp only [List.set_cons_zero, List.set_cons_succ] at hD; have hC := hD.madeAt 0 (by rfl) hR2 hN2 (by simp) [] [] 0; simp only [List.eraseIdx_cons_zero, List.eraseIdx_cons_succ] at hC; clear hD; (try simp only [pP]))
    | (go_at_call 51; have hV := hVV.out; clear hVV; subst hV; guard_target = Calls _ _ #[_, _, Value.slice (some _) 2 2] _ _; (first | refine useDx (q_node2 _ _ hC (.tail _ hM.out) (.head _)) ?_); clear hC; intro W hC)
    | (go_at_call 51; guard_target = Calls _ _ #[_, _, Value.slice (some _) 3 _] _ _; (first | refine useDx (q_nodeL _ _ hC (.head _) (by rfl)) ?_); clear hC; intro W hC))
    all_goals first
      | (refine hC.rc ?_; exact endN HO (hC.fin mSub hM.out hS.out))
      | (go_roundg (r.length)
         case measure => omega
         case rel => exact ⟨_, _, _, _, r, f, Nat.le_refl _, hC, List.mem_cons_self, (by intro y hy; have hy2 := hS.out y hy; (repeat (first | exact hy2 | apply List.mem_cons_of_mem)); done), HO, by omega, by omega⟩)
end Go.Proofs.YtaenpacfbheppaaGreatDoor

namespace Go.Proofs.YtaenpacfbheppaaGreatDoor
open Go.RowKit
section
variable {E : Env} {B : Nat} {w0 w : World} {s : Stt} {H : List Bx} {L : List Tn}
theorem Cx.tree5 {k TT : Nat} {a1 a2 a3 a4 a5 : Option Addr} {p1 p2 p3 p4 p5 : Nat} {t1 t2 t3 t4 t5 : Tr} (op st : List UInt8) (n : Int) (hC : Cx E B w0 w s ((k, ncs a1 p1 t1 ++ ncs a2 p2 t2 ++ ncs a3 p3 t3 ++ ncs a4 p4 t4 ++ ncs a5 p5 t5, TT) :: H) L) (h1 : (a1, p1, t1) ∈ L) (h2 : (a2, p2, t2) ∈ L) (h3 : (a3, p3, t3) ∈ L) (h4 : (a4, p4, t4) ∈ L) (h5 : (a5, p5, t5) ∈ L) : Cx E B w0 w s H ((some ⟨k, 0, none⟩, 5, .mk op st n [t1, t2, t3, t4, t5]) :: L) :=
  hC.tree [(a1, p1), (a2, p2), (a3, p3), (a4, p4), (a5, p5)] [t1, t2, t3, t4, t5] rfl (by simp) (by simp [flatK, ncs]) 5 (by unfold maxLen; simp) (fun i hi => by
    simp at hi
    match i, hi with
    | 0, _ => exact h1
    | 1, _ => exact h2
    | 2, _ => exact h3
    | 3, _ => exact h4
    | 4, _ => exact h5) op st n
theorem mem_i {α : Type} {l : List α} (i : Nat) {x : α} (h : l[i]? = some x) : x ∈ l := List.mem_of_getElem? h
end
theorem q_sim {E : Env} {B : Nat} {w0 w : World} {ts : List Tok} {H : List Bx} {L : List Tn} {R : Rc} {n : Nat} (RC : Ct R n) (hn : ts.length < n) (hC : Cx E B w0 w (.p ts) H L) :
    Calls Tryz.prog 144 #[.pointer (some ⟨E.b, 0, none⟩)] w ((oN (simF R ts)).P E B w0 H L) := by
  obtain ⟨o, ho⟩ : ∃ o, simF R ts = o := ⟨_, rfl⟩
  rw [ho]
  unfold simF selF groupF at ho
  have HO := hidk ho
  clear ho
  go_enter Tryz.func144, Tryz.ntmps144
  go_wp2_with (first
  | (refine bA ?_; clear hC; intro W k hC)
  | refine bL ?_
  | (refine bS ?_; clear hC; intro W hC)
  | (go_at_call 79; have hD := hC; clear hC; (first | (guard_target = Calls _ _ #[_, Value.int _ 0, _, _] _ _; refine useB (q_stands hD 0 (by decide) _ _) ?_ ?_) | (guard_target = Calls _ _ #[_, Value.int _ 1, _, _] _ _; refine useB (q_stands hD 1 (by decide) _ _) ?_ ?_) | (guard_target = Calls _ _ #[_, Value.int _ 2, _, _] _ _; refine useB (q_stands hD 2 (by decide) _ _) ?_ ?_)); (focus (intro hb W hC; clear hD; (try simp only [hb, reduceIte, Bool.true_and, Bool.and_true] at HO); clear hb)); rotate_left; (focus (intro hb W hC; clear hD; (try simp only [hb, reduceIte, Bool.false_and, Bool.and_false, Bool.false_eq_true] at HO); clear hb)))
  | (go_at_call 119; (first | (guard_target = Calls _ _ #[_, Value.func (Go.Fn.func 91) _ _] _ _; have hD := hC; clear hC; refine useN (q_parN (I := R.body) (m := n - 1) ent_body (fun hs hE hl => RC.body hE (by omega)) (by omega) hD) ?_ ?_; (· intro hF W hM; clear hD; (try simp only [hF] at HO); exact ⟨rfl, stopN HO hM⟩); intro t r hF W ao cap hC; clear hD; (try simp only [hF] at HO); have hl := parF_len (RC.len.body) hF; clear hF)))
  | (go_at_call 87; have hD := hC; clear hC; (first | guard_target = Calls _ _ #[_, Value.slice (some _) 1 1] _ _; refine useU (q_need1 _ hD) ?_ ?_ | guard_target = Calls _ _ #[_, Value.slice (some _) 2 2] _ _; refine useU (q_need2 _ _ hD) ?_ ?_); (· intro hF W hM; clear hD; (try simp only [hF] at HO); exact ⟨rfl, stopN HO hM⟩); intro r hF W hC; clear hD; (try simp only [hF] at HO); have hl := needF_lt hF (Nat.succ_pos _); clear hF)
  | (go_at_call 160; refine useV (q_distinct hC) ?_; clear hC; intro W hC; have hl := hC.dfl)
  | (go_at_call 84; (first | (guard_target = Calls _ _ #[_, Value.func (Go.Fn.func 161) _ _] _ _; have hD := hC; clear hC; refine useL (q_list (I := itmF R) (m := n - 1) ent_item (fun hs hE hl => q_itm RC (by omega) hE) (by omega) (itmF_Len RC.len) hD) ?_ ?_; (· intro hF W hM; clear hD; (try simp only [hF] at HO); exact ⟨rfl, stopN HO hM⟩); intro l r hF W ao cap hC; clear hD; (try simp only [hF] at HO); have hl := lsF_Len (itmF_Len RC.len) _ _ _ hF; clear hF) | (guard_target = Calls _ _ #[_, Value.func (Go.Fn.func 162) _ _] _ _; have hD := hC; clear hC; refine useL (q_list (I := tabF R) (m := n) ent_table (fun hs hE hl => q_tab RC (by omega) hE) (by omega) (tabF_Len RC.len) hD) ?_ ?_; (· intro hF W hM; clear hD; (try simp only [hF] at HO); exact ⟨rfl, stopN HO hM⟩); intro l r hF W ao cap hC; clear hD; (try simp only [hF] at HO); have hl := lsF_Len (tabF_Len RC.len) _ _ _ hF; clear hF) | (guard_target = Calls _ _ #[_, Value.func (Go.Fn.func 163) _ _] _ _; have hD := hC; clear hC; refine useL (q_list (I := colF) (m := n) ent_column (fun hs hE hl => q_column hE) (by omega) (fun _ _ _ h => colF_len h) hD) ?_ ?_; (· intro hF W hM; clear hD; (try simp only [hF] at HO); exact ⟨rfl, stopN HO hM⟩); intro l r hF W ao cap hC; clear hD; (try simp only [hF] at HO); have hl := lsF_Len (fun _ _ _ h => colF_len h) _ _ _ hF; clear hF)))
  | (go_at_call 93; have hD := hC; clear hC; (first | refine useN (q_cls RC _ (by omega) hD) ?_ ?_); (· intro hF W hM; clear hD; (try simp only [hF] at HO); exact ⟨rfl, stopN HO hM⟩); intro t r hF W ao cap hC; clear hD; (try simp only [hF] at HO); have hl := clsF_Len RC.len _ _ _ _ hF; clear hF)
  | (go_at_call 50; have hD := hC; clear hC; (first | guard_target = Calls _ _ #[_, Value.slice (some _) 1 1] _ _; refine useB (q_took1 _ hD) ?_ ?_ | guard_target = Calls _ _ #[_, Value.slice (some _) 2 2] _ _; refine useB (q_took2 _ _ hD) ?_ ?_); (focus (intro hb W hC; clear hD; (try simp only [hb, reduceIte, pB] at HO); (try have hl := tkR_ls hb (by simp)); clear hb)); rotate_left; (focus (intro hb W hC; clear hD; (try simp only [tkR_no hb] at HO hC); (try simp only [hb, reduceIte, pB] at HO); clear hb)))
  | (go_at_call 51; guard_target = Calls _ _ #[_, _, Value.slice none 0 0] _ _; (first | refine useDx (q_node0 _ _ hC) ?_); clear hC; intro W hC)
  | (go_at_call 51; have hD := hC; clear hC; refine m4 ?_; intro W hC; clear hD))
  all_goals first
    | exact ⟨rfl, stopN HO hC.mv⟩
    | (refine hC.rc ?_; refine endN HO (hC.fin ?_ ?_ ?_); (repeat (first | exact List.Sublist.refl _ | apply List.Sublist.cons)); (repeat (first | exact List.mem_cons_self | apply List.mem_cons_of_mem)); intro y hy; (repeat (first | exact hy | apply List.mem_cons_of_mem)); done)
    | (refine hC.rc ?_
       refine endN HO ((hC.tree5 [115, 101, 108, 101, 99, 116] [] _ (mem_i 5 rfl) (mem_i 3 rfl) (mem_i 2 rfl) (mem_i 1 rfl) (mem_i 0 rfl)).fin ?_ (.head _) ?_); (repeat (first | exact List.Sublist.refl _ | apply List.Sublist.cons)); intro y hy; (repeat (first | exact hy | apply List.mem_cons_of_mem)); done)
    | (refine hC.rc ?_
       refine endN HO (((hC.root (t := ls _) (mem_i 1 rfl) [103, 114, 111, 117, 112] [] 0).tree5 [115, 101, 108, 101, 99, 116] [] _ (mem_i 7 rfl) (mem_i 5 rfl) (mem_i 4 rfl) (mem_i 0 rfl) (mem_i 1 rfl)).fin ?_ (.head _) ?_); (repeat (first | exact List.Sublist.refl _ | apply List.Sublist.cons)); intro y hy; (repeat (first | exact hy | apply List.mem_cons_of_mem)); done)
end Go.Proofs.YtaenpacfbheppaaGreatDoor

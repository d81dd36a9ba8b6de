/- No table: End, EndShort, List, Edges. -/
import Derived.Test.YtimcihfngnggaaaDoorL11AV
namespace Go.Proofs.YtimcihfngnggaaaDoor
open Go.RowKit Go.Joins Go.Maps Go.Shelf
set_option linter.unusedVariables false
set_option linter.unusedSimpArgs false
attribute [local go_sem] Oper.semAt_some

set_option maxHeartbeats 1000000 in
theorem endThose_nil (gp : Nat) (lbp : Array Value) (w : World) : Calls Tryd.prog 39 #[.pointer none, .func (.func gp) #[] lbp] w fun e w' => e = .returned (.slice none 0 0) ∧ Below w.heap.size w w' := by
  have hb0 : Below w.heap.size w (w.alloc (.cells #[.pointer none] 23)) := (Below.refl _ _).alloc (Nat.le_refl _) _
  go_enter Tryd.func39, Tryd.ntmps39
  go_wp2_with fail
  go_ret
  exact ⟨rfl, hb0⟩
theorem pend_nil (tx : Int) (w : World) : Calls Tryd.prog 14 #[.pointer none, .int .i64 tx] w fun e w' => e = .returned (.slice none 0 0) ∧ Below w.heap.size w w' := by
  have hmf : ∀ (fn : Fn) (first cap : Array Value) (w : World), (Instr.makeFunc fn first cap).run Tryd.prog w = .ok (.func fn first cap) w := fun _ _ _ _ => rfl
  have hb0 : Below w.heap.size w (w.alloc (.cells #[.int .i64 tx] 3)) := (Below.refl _ _).alloc (Nat.le_refl _) _
  go_enter Tryd.func14, Tryd.ntmps14
  go_wp2_with fail
  refine (endThose_nil _ _ _).mono ?_
  rintro e w1 ⟨rfl, hb⟩
  have hb2 := keepA hb0 hb
  go_wp2_with fail
  go_ret
  exact ⟨rfl, hb2⟩
theorem pends_nil (tx : Int) (w : World) : Calls Tryd.prog 16 #[.pointer none, .int .i64 tx] w fun e w' => e = .returned (.slice none 0 0) ∧ Below w.heap.size w w' := by
  have hmf : ∀ (fn : Fn) (first cap : Array Value) (w : World), (Instr.makeFunc fn first cap).run Tryd.prog w = .ok (.func fn first cap) w := fun _ _ _ _ => rfl
  have hb0 : Below w.heap.size w (w.alloc (.cells #[.int .i64 tx] 3)) := (Below.refl _ _).alloc (Nat.le_refl _) _
  go_enter Tryd.func16, Tryd.ntmps16
  go_wp2_with fail
  refine (endThose_nil _ _ _).mono ?_
  rintro e w1 ⟨rfl, hb⟩
  have hb2 := keepA hb0 hb
  go_wp2_with fail
  go_ret
  exact ⟨rfl, hb2⟩
theorem plist_nil (w : World) : Calls Tryd.prog 19 #[.pointer none] w fun e w' => e = .returned (.slice none 0 0) ∧ w' = w := by
  go_enter Tryd.func19, Tryd.ntmps19
  go_wp2_with fail
  go_ret
  exact ⟨rfl, rfl⟩
set_option maxRecDepth 100000 in
set_option maxHeartbeats 2000000 in
theorem those_none (n : Nat) (hn : 2 ≤ n) (Bt Bw : Nat) (w : World) :
    SeqR Fence.wide n Tryd.prog 60 #[.pointer (some ⟨Bt, 0, none⟩), .pointer (some ⟨Bw, 0, none⟩)] (encR []) (fun _ _ => False) (fun pre W => W.cell? ⟨Bt, 0, none⟩ = some (.pointer none)) (fun ys => ys = []) (fun _ => False) 100000 w := by
  intro l J Jx W hW hJ hRd hY h0
  refine callsIn_of_wp Tryd.func60 rfl trivial ?_ rfl
  simp only [Tryd.ntmps60, List.size_toArray, List.length_cons, List.length_nil, Nat.reduceAdd, Nat.reduceSub, Array.replicate_succ, Array.replicate_zero, List.push_toArray, List.append_toArray, List.nil_append, List.cons_append]
  have hT := hRd _ _ h0
  clear hY
  gi_wp2
  refine bodyPost_ret (results_none rfl _ _ _) rfl ?_
  exact ⟨⟨_, rfl⟩, h0⟩
set_option maxRecDepth 100000 in
set_option maxHeartbeats 4000000 in
theorem pedges_nil (w : World) : Calls Tryd.prog 21 #[.pointer none] w fun e w' => e = .returned (.slice none 0 0) ∧ Below w.heap.size w w' := by
  refine (callsIn_wide (n := 9)).1 ?_
  refine callsIn_of_wp_marks Tryd.func21 rfl trivial ?_ rfl
  simp only [Tryd.ntmps21, List.size_toArray, List.length_cons, List.length_nil, Nat.reduceAdd, Nat.reduceSub, Array.replicate_succ, Array.replicate_zero, List.push_toArray, List.append_toArray, List.nil_append, List.cons_append]
  have hbe : Below w.heap.size w ((w.alloc (.cells #[.pointer none] 23)).alloc (.cells #[.slice none 0 0] 45)) := ((Below.refl _ _).alloc (Nat.le_refl _) _).alloc (by simp) _
  have bx := Boxed.new (w.alloc (.cells #[.pointer none] 23)) 45 (.slice none 0 0)
  have hse : ((w.alloc (.cells #[.pointer none] 23)).alloc (.cells #[.slice none 0 0] 45)).heap.size = w.heap.size + 2 := by simp
  simp only [World.size_alloc] at bx
  gi_wp2_with fail
  refine ⟨trivial, (callsIn_wide.2 (those_any _ _ _ _)).mono ?_⟩
  rintro e w3 ⟨rfl, hw3⟩
  obtain ⟨d1, d2, hb3⟩ := box_two ((w.alloc (.cells #[.pointer none] 23)).alloc (.cells #[.slice none 0 0] 45)) (.pointer none) (.func (.func 45) #[] #[]) 23 69
  rw [← hw3] at d1 d2 hb3
  rw [hse] at d1 d2
  have bx3 : Boxed w3 (w.heap.size + 1) 45 (.slice none 0 0) := (hb3.block _ (by omega)).trans bx
  have hbw := keepA hbe hb3
  have hs3 : w3.heap.size = w.heap.size + 4 := by rw [hw3]; simp
  clear hw3
  gi_wp2_with fail
  refine wpIn_rangeX (F := Fence.wide) (n := 9) rfl (by omega) (gf := 60) (lb := #[.pointer (some ⟨w.heap.size + 2, 0, none⟩), .pointer (some ⟨w.heap.size + 2 + 1, 0, none⟩)]) rfl trivial enters_those1
    (those_none 8 (by omega) (w.heap.size + 2) (w.heap.size + 2 + 1) w3) (Below.refl _ _) (fun _ => rfl)
    (fun (pre : List Nat) V => pre = [] ∧ Below w3.heap.size w3 V) (fun _ _ _ => False) (OwnFrom.and (ownFrom_pure _ (fun pre => pre = [])) (ownFrom_below (Nat.le_refl _) (Nat.le_refl _))) (fun _ _ _ _ _ hs _ _ => hs) (fun pre V hs => cell_keep hs.2 d1)
    ⟨rfl, Below.refl _ _⟩ (fun _ _ _ => True) (fun _ _ _ _ _ _ hs _ _ => hs) ?assign ?body ?done ?stop
  case assign =>
    intro l' pre k V K hI hK
    have hk2 := fun a' => hK a' (V.alloc dq.box) ((KeepsOthers.alloc V _).from _) ⟨hI.1, keepA hI.2 ((Below.refl _ _).alloc (Nat.le_refl _) _)⟩ trivial
    clear hK
    have e : encR [] k = #[.int .i64 (k : Int), dq.v] := rfl
    rw [e]
    unfold dq at hk2 ⊢
    gi_wp2
    exact hk2 _
  case body =>
    intro l' pre k a' V hf
    exact hf.elim
  case done =>
    rintro D ys V hD hys ⟨_, hB⟩ hK
    have hc := cell_keep hB bx3.cell
    have hBw := keepA hbw hB
    gi_wp2
    refine ⟨by simp, .inl ⟨_, _, rfl, run_takeDeferred hK, ?_⟩⟩
    exact ⟨_, results_tmp rfl _ _ _, rfl, hBw.trans (belowK_b (w := w) (Nat.le_refl _) _ D _ _ (by omega) hK rfl rfl)⟩
  case stop =>
    rintro D c pre V _ hf
    exact hf.elim
end Go.Proofs.YtimcihfngnggaaaDoor

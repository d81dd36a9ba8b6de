/- What Parse comes to; what catches a statement that is none; numbers of tokens. The program's Parse. The live question of the statements of stage 14. A query's only condition; which of n things a number speaks of. -/
import Derived.Test.YtaenpacfbheppaaGreatDoorM14F
import Derived.Test.YtaenpacfbheppaaGreatDoorM14B
set_option maxHeartbeats 16000000
set_option maxRecDepth 100000
set_option linter.unusedVariables false
set_option linter.unusedSimpArgs false
namespace Go.Proofs.YtaenpacfbheppaaGreatDoor
open Go.RowKit

theorem stp_num {r : List UInt8} {k v : Int} {s : List UInt8} {n : Nat} (h : stp r = .tk k s v n) : 0 ≤ v ∧ v ≤ 9223372036854775807 := by
  unfold stp wdS nmS txS sgS at h
  (repeat' split at h)
  all_goals first
    | (cases h; done)
    | (injection h with h1 h2 h3 h4; subst h3; omega)
theorem scN_num : ∀ (f p c : Nat) (r : List UInt8) (l : List Tok), scN f p c r = .ok l → ∀ t ∈ l, 0 ≤ t.n ∧ t.n ≤ 9223372036854775807
  | 0, _, _, _, l, h, t, ht => by unfold scN at h; cases h; cases ht
  | f + 1, p, c, r, l, h, t, ht => by
    unfold scN at h
    split at h
    · cases h; cases ht
    · split at h
      · cases h
      · exact scN_num f _ _ _ l h t ht
      · rename_i k s v n hs
        split at h
        · cases h
        · split at h
          · cases h
          · rename_i l' hl'
            cases h
            rcases List.mem_cons.1 ht with rfl | ht
            · exact stp_num hs
            · exact scN_num f _ _ _ l' hl' t ht
theorem scF_num {s : List UInt8} {l : List Tok} (h : scF s = .ok l) : ∀ t ∈ l, 0 ≤ t.n ∧ t.n ≤ 9223372036854775807 := by
  unfold scF at h
  split at h
  · cases h
  · exact scN_num _ _ _ _ _ h
theorem scF_600 {s : List UInt8} {l : List Tok} (h : scF s = .ok l) : l.length ≤ 600 := by
  unfold scF at h
  split at h
  · cases h
  · have := (scN_tk _ _ _ _ _).1 h
    rcases this.2 with h0 | h0
    · subst h0; simp
    · omega
def prB (er : Nat) : ByteArray := if er = 5 then ⟨#[53, 52, 48, 48, 49]⟩ else stB er
inductive PrTo (w : World) (s : ByteArray) (e : Ending) (w' : World) : Prop
  | ok (t : Tr) (ao : Option Addr) (cap : Nat) (ho : prF s.data.toList = .ok t) (he : e = .returned (.tuple #[nv t.op t.s t.n ao t.L.length cap, .string ⟨#[48, 48, 48, 48, 48]⟩])) (tv : TV (fun k => w.heap.size ≤ k) w' ao cap t) (hb : Below w.heap.size w w')
  | no (er : Nat) (ho : prF s.data.toList = .error er) (he : e = .returned (.tuple #[nv [] [] 0 none 0 0, .string (prB er)])) (hb : Below w.heap.size w w')
abbrev zeroC : List Value := [.string ⟨#[]⟩, .string ⟨#[]⟩, .int .i64 0, .slice none 0 0]
theorem cells4 {w : World} {b : Nat} {c0 c1 c2 c3 : Value} {T : Nat} (h : w.heap[b]? = some (.cells #[c0, c1, c2, c3] T (0, 0))) : w.cell? ⟨b, 0, none⟩ = some c0 ∧ w.cell? ⟨b, 1, none⟩ = some c1 ∧ w.cell? ⟨b, 2, none⟩ = some c2 ∧ w.cell? ⟨b, 3, none⟩ = some c3 ∧ w.frozen? ⟨b, 0, none⟩ = false ∧ w.frozen? ⟨b, 1, none⟩ = false ∧ w.frozen? ⟨b, 2, none⟩ = false ∧ w.frozen? ⟨b, 3, none⟩ = false :=
  ⟨by rw [cell_of_row w b 0 _ _ _ h]; rfl, by rw [cell_of_row w b 1 _ _ _ h]; rfl, by rw [cell_of_row w b 2 _ _ _ h]; rfl, by rw [cell_of_row w b 3 _ _ _ h]; rfl, frozen_row h 0, frozen_row h 1, frozen_row h 2, frozen_row h 3⟩
theorem catch_panicking (b1 b2 : Nat) (v0 v1 v2 v3 u : Value) (older : List PanicEntry) (w : World) (h1 : w.heap[b1]? = some (.cells #[v0, v1, v2, v3] 24 (0, 0))) (h2 : w.heap[b2]? = some (.cells #[u] 25 (0, 0))) :
    CallsD Tryz.prog 11 #[.pointer (some ⟨b1, 0, none⟩), .pointer (some ⟨b2, 0, none⟩)] (.panicking ({ v := stopV, recovered := false } :: older)) w fun e u' w' =>
      e = .returned (.tuple #[]) ∧ u' = .panicking ({ v := stopV, recovered := true } :: older) ∧ w' = ((w.alloc (.cells #[] 36)).setCells b1 0 zeroC).setCell ⟨b2, 0, none⟩ (.string ⟨#[52, 50, 54, 48, 49]⟩) := by
  have hne : b1 ≠ b2 := by
    rintro rfl
    have := h1.symm.trans h2
    simp at this
  have k1 : (w.alloc (.cells #[] 36)).heap[b1]? = some (.cells #[v0, v1, v2, v3] 24 (0, 0)) := (Below.heap_alloc _ _ _ (lt_of_block h1)).trans h1
  have k2 : ((w.alloc (.cells #[] 36)).setCells b1 0 zeroC).heap[b2]? = some (.cells #[u] 25 (0, 0)) := by
    rw [setCells_other _ _ (Ne.symm hne)]
    exact (Below.heap_alloc _ _ _ (lt_of_block h2)).trans h2
  obtain ⟨c0, c1, c2, c3, f0, f1, f2, f3⟩ := cells4 k1
  have d0 := cell_of_one k2
  have g0 := free_of_one k2
  simp only [zeroC, World.setCells] at d0 g0
  clear k1 k2 h1 h2
  have hta : ∀ w : World, (Instr.typeAssert stopV 20 36 true).run Tryz.prog w = .ok (.tuple #[.agg #[], .bool true]) w := fun _ => by kernel_rfl
  refine callsD_of_wpS Tryz.func11 rfl fun c₀ cs hu => ?_
  apply wpS_seq
  apply wpS_region
  simp [wpOpsS, go_sem, recoverD, hu, Tryz.ntmps11, Exit.thenS]
  refine wpS_of_wp ?_
  rw [show (#[Value.pointer (some ⟨b1, 0, none⟩), Value.pointer (some ⟨b2, 0, none⟩)] ++ ((Array.replicate 15 undef).setIfInBounds 3 stopV).setIfInBounds 0 stopV) = #[Value.pointer (some ⟨b1, 0, none⟩), Value.pointer (some ⟨b2, 0, none⟩), stopV, undef, undef, stopV, undef, undef, undef, undef, undef, undef, undef, undef, undef, undef, undef] from rfl]
  go_wp2
  exact ⟨rfl, _, rfl, _, results_none rfl _ _ _, rfl, rfl, rfl⟩
theorem catch_idle (b1 b2 : Nat) (w : World) :
    CallsD Tryz.prog 11 #[.pointer (some ⟨b1, 0, none⟩), .pointer (some ⟨b2, 0, none⟩)] .returning w fun e u' w' => e = .returned (.tuple #[]) ∧ u' = .returning ∧ w' = w := by
  refine callsD_of_wpS Tryz.func11 rfl fun c₀ cs hu => ?_
  apply wpS_seq
  apply wpS_region
  simp [wpOpsS, go_sem, recoverD, hu, Tryz.ntmps11, Exit.thenS]
  refine wpS_of_wp ?_
  rw [show (#[Value.pointer (some ⟨b1, 0, none⟩), Value.pointer (some ⟨b2, 0, none⟩)] ++ ((Array.replicate 15 undef).setIfInBounds 3 Value.nilIface).setIfInBounds 0 Value.nilIface) = #[Value.pointer (some ⟨b1, 0, none⟩), Value.pointer (some ⟨b2, 0, none⟩), Value.nilIface, undef, undef, Value.nilIface, undef, undef, undef, undef, undef, undef, undef, undef, undef, undef, undef] from rfl]
  go_wp2
  refine ⟨rfl, _, rfl, _, results_none rfl _ _ _, rfl, ?_, rfl⟩
  exact hu
end Go.Proofs.YtaenpacfbheppaaGreatDoor

namespace Go.Proofs.YtaenpacfbheppaaGreatDoor
open Go.RowKit

theorem stB_of (er : Nat) : stB er = ⟨#[52, 50, 54, 48, 49]⟩ ∨ stB er = ⟨#[50, 50, 48, 48, 51]⟩ ∨ stB er = ⟨#[50, 50, 48, 48, 49]⟩ ∨ stB er = ⟨#[53, 52, 48, 48, 48]⟩ := by
  unfold stB
  split <;> simp
theorem scN_er : ∀ (f p c : Nat) (r : List UInt8) (er : Nat), scN f p c r = .error er → er ≤ 4
  | 0, _, _, _, er, h => by unfold scN at h; cases h
  | f + 1, p, c, r, er, h => by
    unfold scN at h
    split at h
    · cases h
    · split at h
      · rename_i e hs
        cases h
        unfold stp wdS nmS txS sgS at hs
        (repeat' split at hs)
        all_goals first
          | (cases hs; done)
          | (injection hs with h1; omega)
      · exact scN_er f _ _ _ er h
      · split at h
        · cases h; omega
        · split at h
          · rename_i e' he'
            cases h
            exact scN_er f _ _ _ er he'
          · cases h
theorem scF_er {s : List UInt8} {er : Nat} (h : scF s = .error er) : er ≤ 4 := by
  unfold scF at h
  split at h
  · cases h; omega
  · exact scN_er _ _ _ _ _ h
theorem prF_er {s : List UInt8} {er : Nat} (h : scF s = .error er) : prF s = .error er ∧ prB er = stB er := by
  refine ⟨by unfold prF; rw [h], ?_⟩
  have := scF_er h
  unfold prB
  rw [if_neg (by omega)]
abbrev dfr (b : Nat) : List Deferred := [{ target := .fn (.func 11) #[.pointer (some ⟨b, 0, none⟩), .pointer (some ⟨b + 1, 0, none⟩)], args := #[] }]
theorem door_stop {w w3 : World} {s : ByteArray} {x : Value} (r1 : w3.heap[w.heap.size]? = some (.cells zeroC.toArray 24 (0, 0))) (r2 : w3.heap[w.heap.size + 1]? = some (.cells #[x] 25 (0, 0))) (hb : Below w.heap.size w w3) (hp : prF s.data.toList = .error 1)
    (a : Act) (hd : a.defers = dfr w.heap.size) (h2 : a.tmps[2]?.getD undef = .pointer (some ⟨w.heap.size, 0, none⟩)) (h3 : a.tmps[3]?.getD undef = .pointer (some ⟨w.heap.size + 1, 0, none⟩)) :
    bodyPostD Tryz.prog Tryz.f4 (fun e w' => PrTo w s e w') (Exit.panic stopP) a w3 := by
  obtain ⟨tm, df⟩ := a
  simp only at hd h2 h3
  subst hd
  refine leaves_cons (f := 11) (args := #[.pointer (some ⟨w.heap.size, 0, none⟩), .pointer (some ⟨w.heap.size + 1, 0, none⟩)]) (by simp) (by simp [go_sem]) ?_
  refine (catch_panicking _ _ _ _ _ _ _ [] _ r1 r2).mono ?_
  rintro e u' w'' ⟨rfl, rfl, rfl⟩
  have k1 : (w3.alloc (.cells #[] 36)).heap[w.heap.size]? = some (.cells zeroC.toArray 24 (0, 0)) := (Below.heap_alloc _ _ _ (lt_of_block r1)).trans r1
  have k2 : (w3.alloc (.cells #[] 36)).heap[w.heap.size + 1]? = some (.cells #[x] 25 (0, 0)) := (Below.heap_alloc _ _ _ (lt_of_block r2)).trans r2
  have hsz := (Array.getElem?_eq_some_iff.1 r2).1
  have l1 : (((w3.alloc (.cells #[] 36)).setCells w.heap.size 0 zeroC).setCell ⟨w.heap.size + 1, 0, none⟩ (.string ⟨#[52, 50, 54, 48, 49]⟩)).heap[w.heap.size]? = some (.cells zeroC.toArray 24 (0, 0)) := by
    rw [Below.heap_setCell _ _ _ _ (by simp)]
    exact setCells_block (w3.alloc (.cells #[] 36)) w.heap.size 24 zeroC 0 _ zeroC k1 (by simp)
  have l2 : (((w3.alloc (.cells #[] 36)).setCells w.heap.size 0 zeroC).setCell ⟨w.heap.size + 1, 0, none⟩ (.string ⟨#[52, 50, 54, 48, 49]⟩)).heap[w.heap.size + 1]? = some (.cells #[.string ⟨#[52, 50, 54, 48, 49]⟩] 25 (0, 0)) :=
    one_setCell ((setCells_other _ _ (by simp) _ _ _).trans k2)
  have hbf : Below w.heap.size w (((w3.alloc (.cells #[] 36)).setCells w.heap.size 0 zeroC).setCell ⟨w.heap.size + 1, 0, none⟩ (.string ⟨#[52, 50, 54, 48, 49]⟩)) := by
    refine Below.setCell ?_ (by simp) _
    exact ((hb.alloc (by omega) _).trans (((setCells_fr w.heap.size zeroC 0 _).below (B := w.heap.size) (by simp; omega) (fun k hk => by subst hk; exact Nat.le_refl _))))
  generalize ((w3.alloc (.cells #[] 36)).setCells w.heap.size 0 zeroC).setCell ⟨w.heap.size + 1, 0, none⟩ (.string ⟨#[52, 50, 54, 48, 49]⟩) = wf at *
  obtain ⟨c0, c1, c2, c3, _, _, _, _⟩ := cells4 l1
  have d0 := cell_of_one l2
  exact ⟨.tuple #[nv [] [] 0 none 0 0, .string (prB 1)], by simp [results, Tryz.results4, go_sem, c0, c1, c2, c3, d0, h2, h3, prB, stB], .no 1 hp rfl hbf⟩
theorem door_ret {w wf : World} {s : ByteArray} {c0 c1 c2 c3 x : Value} (r1 : wf.heap[w.heap.size]? = some (.cells #[c0, c1, c2, c3] 24 (0, 0))) (r2 : wf.heap[w.heap.size + 1]? = some (.cells #[x] 25 (0, 0))) (hp : PrTo w s (.returned (.tuple #[.agg #[c0, c1, c2, c3], x])) wf)
    (a : Act) (hd : a.defers = dfr w.heap.size) (h2 : a.tmps[2]?.getD undef = .pointer (some ⟨w.heap.size, 0, none⟩)) (h3 : a.tmps[3]?.getD undef = .pointer (some ⟨w.heap.size + 1, 0, none⟩)) :
    bodyPostD Tryz.prog Tryz.f4 (fun e w' => PrTo w s e w') Exit.ret a wf := by
  obtain ⟨tm, df⟩ := a
  simp only at hd h2 h3
  subst hd
  refine leaves_cons (f := 11) (args := #[.pointer (some ⟨w.heap.size, 0, none⟩), .pointer (some ⟨w.heap.size + 1, 0, none⟩)]) (by simp) (by simp [go_sem]) ?_
  refine (catch_idle _ _ _).mono ?_
  rintro e u' w'' ⟨rfl, rfl, rfl⟩
  obtain ⟨q0, q1, q2, q3, _, _, _, _⟩ := cells4 r1
  have d0 := cell_of_one r2
  exact ⟨_, by simp [results, Tryz.results4, go_sem, q0, q1, q2, q3, d0, h2, h3], hp⟩
theorem door_ret0 {w wf : World} {s : ByteArray} {c0 c1 c2 c3 x : Value} (r1 : wf.heap[w.heap.size]? = some (.cells #[c0, c1, c2, c3] 24 (0, 0))) (r2 : wf.heap[w.heap.size + 1]? = some (.cells #[x] 25 (0, 0))) (hp : PrTo w s (.returned (.tuple #[.agg #[c0, c1, c2, c3], x])) wf)
    (a : Act) (hd : a.defers = []) (h2 : a.tmps[2]?.getD undef = .pointer (some ⟨w.heap.size, 0, none⟩)) (h3 : a.tmps[3]?.getD undef = .pointer (some ⟨w.heap.size + 1, 0, none⟩)) :
    bodyPostD Tryz.prog Tryz.f4 (fun e w' => PrTo w s e w') Exit.ret a wf := by
  obtain ⟨tm, df⟩ := a
  simp only at hd h2 h3
  subst hd
  obtain ⟨q0, q1, q2, q3, _, _, _, _⟩ := cells4 r1
  have d0 := cell_of_one r2
  exact ⟨_, by simp [results, Tryz.results4, go_sem, q0, q1, q2, q3, d0, h2, h3], hp⟩
theorem fin_no {w X : World} {s : ByteArray} {er : Nat} {sb : ByteArray} (z1 : X.heap[w.heap.size]? = some (.cells zeroC.toArray 24 (0, 0))) (z2 : X.heap[w.heap.size + 1]? = some (.cells #[.string sb] 25 (0, 0))) (hb : Below w.heap.size w X) (hp : prF s.data.toList = .error er) (hsb : prB er = sb)
    (a : Act) (hd : a.defers = []) (h2 : a.tmps[2]?.getD undef = .pointer (some ⟨w.heap.size, 0, none⟩)) (h3 : a.tmps[3]?.getD undef = .pointer (some ⟨w.heap.size + 1, 0, none⟩)) :
    bodyPostD Tryz.prog Tryz.f4 (fun e w' => PrTo w s e w') Exit.ret a X.drew := by
  subst hsb
  have y1 : X.drew.heap[w.heap.size]? = some (.cells zeroC.toArray 24 (0, 0)) := z1
  have y2 : X.drew.heap[w.heap.size + 1]? = some (.cells #[.string (prB er)] 25 (0, 0)) := z2
  exact door_ret0 y1 y2 (.no er hp rfl (Below.drew hb)) a hd h2 h3
theorem two_boxes {w : World} {b : Nat} {x0 : Value} {cs : Array Value} (p1 : w.heap[b]? = some (.cells cs 24 (0, 0))) (hcs : cs.size = 4) (p2 : w.heap[b + 1]? = some (.cells #[x0] 25 (0, 0))) (c0 c1 c2 c3 x : Value) :
    (((((w.setCell ⟨b, 0, none⟩ c0).setCell ⟨b, 1, none⟩ c1).setCell ⟨b, 2, none⟩ c2).setCell ⟨b, 3, none⟩ c3).setCell ⟨b + 1, 0, none⟩ x).heap[b]? = some (.cells #[c0, c1, c2, c3] 24 (0, 0)) ∧
    (((((w.setCell ⟨b, 0, none⟩ c0).setCell ⟨b, 1, none⟩ c1).setCell ⟨b, 2, none⟩ c2).setCell ⟨b, 3, none⟩ c3).setCell ⟨b + 1, 0, none⟩ x).heap[b + 1]? = some (.cells #[x] 25 (0, 0)) ∧
    Fr w (((((w.setCell ⟨b, 0, none⟩ c0).setCell ⟨b, 1, none⟩ c1).setCell ⟨b, 2, none⟩ c2).setCell ⟨b, 3, none⟩ c3).setCell ⟨b + 1, 0, none⟩ x) (fun i => i = b ∨ i = b + 1) := by
  have e : (((w.setCell ⟨b, 0, none⟩ c0).setCell ⟨b, 1, none⟩ c1).setCell ⟨b, 2, none⟩ c2).setCell ⟨b, 3, none⟩ c3 = w.setCells b 0 [c0, c1, c2, c3] := rfl
  rw [e]
  refine ⟨?_, ?_, ?_⟩
  · rw [Below.heap_setCell _ _ _ _ (by simp)]
    obtain ⟨cs⟩ := cs
    have hcs : cs.length = 4 := hcs
    have h := setCells_block w b 24 [c0, c1, c2, c3] 0 w cs p1 (by simp; omega)
    have hp : put cs 0 [c0, c1, c2, c3] = [c0, c1, c2, c3] := by
      unfold put
      rw [List.take_zero, List.nil_append, List.drop_eq_nil_of_le (by simp; omega), List.append_nil]
    rw [hp] at h
    exact h
  · exact one_setCell ((setCells_other _ _ (by simp) _ _ _).trans p2)
  · exact ((setCells_fr b _ 0 w).mono (fun k h => Or.inl h)).trans (fr_set _ (b + 1) 0 x) (fun k h => Or.inl (Or.inr h))
theorem parse_any {a : Addr} (s : ByteArray) (w : World) (hL : LibW a w) : Calls Tryz.prog 4 #[.string s] w fun e w' => PrTo w s e w' := by
  have hmf : ∀ (fn : Fn) (first cap : Array Value) (w : World), (Instr.makeFunc fn first cap).run Tryz.prog w = .ok (.func fn first cap) w := fun _ _ _ _ => rfl
  obtain ⟨W0, hW0⟩ : ∃ W0, (w.alloc (.cells zeroC.toArray 24)).alloc (.cells #[.string ⟨#[]⟩] 25) = W0 := ⟨_, rfl⟩
  have hs0 : W0.heap.size = w.heap.size + 1 + 1 := by rw [← hW0]; simp
  have hb0 : Below w.heap.size w W0 := by rw [← hW0]; exact ((Below.refl _ _).alloc (Nat.le_refl _) _).alloc (by simp) _
  have h1 : W0.heap[w.heap.size]? = some (.cells zeroC.toArray 24 (0, 0)) := by rw [← hW0, Below.heap_alloc _ _ _ (by simp)]; exact heap_alloc_new _ _
  have h2 : W0.heap[w.heap.size + 1]? = some (.cells #[.string ⟨#[]⟩] 25 (0, 0)) := by
    rw [← hW0]
    have h := heap_alloc_new (w.alloc (.cells zeroC.toArray 24)) (.cells #[.string ⟨#[]⟩] 25)
    simpa using h
  have HS : Hid (Calls Tryz.prog 10 #[.string s] W0 fun e w' => ScTo W0 s e w') := scan_any s W0 (hL.keep hb0)
  have HB0 := hidk hb0
  clear hL hb0
  simp only [zeroC] at hW0
  go_enter_defers Tryz.func4, Tryz.ntmps4
  go_wp2_with fail
  refine HS.out.mono ?_
  intro e w1 hsc
  clear HS
  rcases hsc with ⟨l, v, ho, rfl, row, hb⟩ | ⟨er, ho, rfl, hb⟩
  · obtain ⟨ao0, cap0, rfl, _⟩ := row.form
    have k1 : w1.heap[w.heap.size]? = some (.cells zeroC.toArray 24 (0, 0)) := (hb.block _ (by omega)).trans h1
    have k2 : w1.heap[w.heap.size + 1]? = some (.cells #[.string ⟨#[]⟩] 25 (0, 0)) := (hb.block _ (by omega)).trans h2
    have d0 := cell_of_one k2
    have g0 := free_of_one k2
    have hsz := hb.size
    obtain ⟨W2, hW2⟩ : ∃ W2, (w1.setCell ⟨w.heap.size + 1, 0, none⟩ (.string ⟨#[48, 48, 48, 48, 48]⟩)).alloc (.cells #[.slice ao0 l.length cap0, .int .i64 0] 40) = W2 := ⟨_, rfl⟩
    have oth : ∀ k, k < w1.heap.size → k ≠ w.heap.size + 1 → W2.heap[k]? = w1.heap[k]? := fun k hk hn => by
      rw [← hW2, Below.heap_alloc _ _ _ (by simpa using hk)]
      exact Below.heap_setCell _ _ _ _ hn
    have hp2 : W2.heap[w1.heap.size]? = some (.cells #[.slice ao0 l.length cap0, .int .i64 0] 40 (0, 0)) := by
      rw [← hW2]
      have h := heap_alloc_new (w1.setCell ⟨w.heap.size + 1, 0, none⟩ (.string ⟨#[48, 48, 48, 48, 48]⟩)) (.cells #[.slice ao0 l.length cap0, .int .i64 0] 40)
      simpa using h
    have q1 : W2.heap[w.heap.size]? = some (.cells zeroC.toArray 24 (0, 0)) := (oth _ (by omega) (by omega)).trans k1
    have q2 : W2.heap[w.heap.size + 1]? = some (.cells #[.string ⟨#[48, 48, 48, 48, 48]⟩] 25 (0, 0)) := by
      rw [← hW2, Below.heap_alloc _ _ _ (by simp; omega)]
      exact one_setCell k2
    have hsz2 : W2.heap.size = w1.heap.size + 1 := by rw [← hW2]; simp
    have hb2 : Below w.heap.size w W2 := by
      rw [← hW2]
      exact ((HB0.out.trans (hb.mono (by omega))).setCell (by simp) _).alloc (by simp; omega) _
    have hown : ∀ k, (Value.slice ao0 l.length cap0).ownBlock = some k → W0.heap.size ≤ k ∧ k < w1.heap.size := fun k hk => row.lo k hk
    have row2 : TRow 0 W2 (.slice ao0 l.length cap0) l := Row.of_block (own_base row (Nat.zero_le _)) (fun k hk => oth k (hown k hk).2 (by have := (hown k hk).1; omega))
    have hC : Cx ⟨w1.heap.size, .slice ao0 l.length cap0, l⟩ (w1.heap.size + 1) W2 W2 (.p l) [] [] :=
      ⟨⟨fun e => by have := (hown _ e).2; exact absurd this (Nat.lt_irrefl _), scF_600 ho, scF_num ho⟩, ⟨0, Nat.zero_le _, rfl, hp2, row2⟩, Fr.refl _ _, ⟨by show w1.heap.size < W2.heap.size; omega, fun k hk => by have := (hown k hk).2; omega⟩, Nat.lt_succ_self _, by omega, (fun x hx => by cases hx), (fun x hx => by cases hx), List.Pairwise.nil, (fun x hx => by cases hx)⟩
    have HW : Hid (Calls Tryz.prog 12 #[.pointer (some ⟨w1.heap.size, 0, none⟩)] W2 ((oN ((whlF (recs (l.length + 2)) l).map fun t => (t, []))).P ⟨w1.heap.size, .slice ao0 l.length cap0, l⟩ (w1.heap.size + 1) W2 [] [])) := q_whole (ct_all (l.length + 2)) (by omega) hC
    have HB2 := hidk hb2
    have HO := hidk ho
    clear hC row2 row hown oth hp2 hb2 hb h1 h2 k1 k2 hW0 ho
    go_wp2_with (first
    | (go_at_call 12; refine HW.out.mono ?_; intro e w3 h3; (generalize hw : whlF (recs (l.length + 2)) l = ow at h3); rcases ow with _ | t; (· obtain ⟨rfl, hf⟩ := h3; exact door_stop ((hf.block _ (by omega) (by show w.heap.size ≠ w1.heap.size; omega)).trans q1) ((hf.block _ (by omega) (by show w.heap.size + 1 ≠ w1.heap.size; omega)).trans q2) (HB2.out.trans (hf.below (by omega) (fun k hk => by have hk : k = w1.heap.size := hk; omega))) (by unfold prF; rw [HO.out]; simp only [hw]) _ rfl rfl rfl); obtain ⟨ao, cap, rfl, hC⟩ := h3 ; have hf := hC.mv; have htv := hC.tv _ (.head _) ; have k1 := (hf.block _ (by omega) (by show w.heap.size ≠ w1.heap.size; omega)).trans q1; have k2 := (hf.block _ (by omega) (by show w.heap.size + 1 ≠ w1.heap.size; omega)).trans q2 ; have hs3 := hf.size ; have HB3 : Hid (Below w.heap.size w w3) := HB2.out.trans (hf.below (by omega) (fun k hk => by have hk : k = w1.heap.size := hk; omega)) ; have HTV : Hid (TV (fun k => w1.heap.size + 1 ≤ k) w3 ao cap t) := htv.keep (fun k hk _ => ⟨hk.1, rfl⟩) ; have HD : Hid (∀ W, Below w3.heap.size w3 W → Calls Tryz.prog 8 #[nv t.op t.s t.n ao t.L.length cap] W fun e w' => e = .returned (.int .i64 t.wd) ∧ Below W.heap.size W w') := fun W hW => q_depth (htv.keep (fun k _ hk => ⟨trivial, hW.block k hk⟩) : TV (fun _ => True) W ao cap t) ; clear hC htv HW; by_cases hgt : 24 < t.wd)
    | (go_at_call 8; refine (HD.out _ (by repeat (first | exact Below.refl _ _ | refine Below.alloc ?_ (by first | (simp; done) | (simp; omega)) _ | refine Below.setCell ?_ (by first | (simp; done) | (simp; omega)) _))).mono ?_; rintro e w5 ⟨rfl, hb5⟩; have p1 := (hb5.block w.heap.size (by simp; omega)).trans ((Below.heap_alloc _ _ _ (by omega)).trans k1); have p2 := (hb5.block (w.heap.size + 1) (by simp; omega)).trans ((Below.heap_alloc _ _ _ (by omega)).trans k2); have p3 := (hb5.block w3.heap.size (by simp)).trans (heap_alloc_new w3 _); have HB5 : Hid (Below w.heap.size w w5) := (HB3.out.alloc (by omega) _).trans (hb5.mono (by simp; omega)); have HT5 : Hid (TV (fun k => w1.heap.size + 1 ≤ k) w5 ao cap t) := HTV.out.keep (fun k hk hkl => ⟨hk, (hb5.block k (by simp; omega)).trans (Below.heap_alloc _ _ _ hkl)⟩); obtain ⟨c0, c1, c2, c3, f0, f1, f2, f3⟩ := cells4 p1; obtain ⟨e0, e1, e2, e3, _, _, _, _⟩ := cells4 p3; have d0 := cell_of_one p2; have g0 := free_of_one p2; have HP1 := hidk p1; have HP2 := hidk p2; clear p1 p2 p3 hb5 HD k1 k2))
    · obtain ⟨z1, z2, z3⟩ := two_boxes (HP1.out) rfl (HP2.out) (.string ⟨#[]⟩) (.string ⟨#[]⟩) (.int .i64 0) (.slice none 0 0) (.string ⟨#[53, 52, 48, 48, 49]⟩)
      exact door_ret z1 z2 (.no 5 (by unfold prF; rw [HO.out]; simp only [hw]; rw [if_pos (by omega)]) rfl (HB5.out.trans (z3.below (by have := HB5.out.size; omega) (fun k hk => by omega)))) _ rfl rfl rfl
    · obtain ⟨z1, z2, z3⟩ := two_boxes (HP1.out) rfl (HP2.out) (.string ⟨t.op.toArray⟩) (.string ⟨t.s.toArray⟩) (.int .i64 t.n) (.slice ao t.L.length cap) (.string ⟨#[48, 48, 48, 48, 48]⟩)
      exact door_ret z1 z2 (.ok t ao cap (by unfold prF; rw [HO.out]; simp only [hw]; rw [if_neg (by omega)]) rfl (HT5.out.keep (fun k hk hkl => ⟨by omega, z3.block k hkl (by omega)⟩)) (HB5.out.trans (z3.below (by have := HB5.out.size; omega) (fun k hk => by omega)))) _ rfl rfl rfl
  · obtain ⟨hp, hpb⟩ := prF_er ho
    have k1 : w1.heap[w.heap.size]? = some (.cells zeroC.toArray 24 (0, 0)) := (hb.block _ (by omega)).trans h1
    have k2 : w1.heap[w.heap.size + 1]? = some (.cells #[.string ⟨#[]⟩] 25 (0, 0)) := (hb.block _ (by omega)).trans h2
    obtain ⟨c0, c1, c2, c3, f0, f1, f2, f3⟩ := cells4 k1
    have d0 := cell_of_one k2
    have g0 := free_of_one k2
    have HB := hidk hb
    have HP := hidk hp
    have HPB := hidk hpb
    have FIN : Hid (∀ (sb : ByteArray), prB er = sb → ∀ (a : Act), a.defers = [] → a.tmps[2]?.getD undef = .pointer (some ⟨w.heap.size, 0, none⟩) → a.tmps[3]?.getD undef = .pointer (some ⟨w.heap.size + 1, 0, none⟩) →
        bodyPostD Tryz.prog Tryz.f4 (fun e w' => PrTo w s e w') Exit.ret a ((((((w1.setCell ⟨w.heap.size + 1, 0, none⟩ (.string sb)).setCell ⟨w.heap.size, 0, none⟩ (.string ⟨#[]⟩)).setCell ⟨w.heap.size, 1, none⟩ (.string ⟨#[]⟩)).setCell ⟨w.heap.size, 2, none⟩ (.int .i64 0)).setCell ⟨w.heap.size, 3, none⟩ (.slice none 0 0)).setCell ⟨w.heap.size + 1, 0, none⟩ (.string sb)).drew) := fun sb hsb a ha h2 h3 => by
      obtain ⟨z1, z2, z3⟩ := two_boxes (w := w1.setCell ⟨w.heap.size + 1, 0, none⟩ (.string sb)) ((Below.heap_setCell _ _ _ _ (by simp)).trans k1) rfl (one_setCell k2) (.string ⟨#[]⟩) (.string ⟨#[]⟩) (.int .i64 0) (.slice none 0 0) (.string sb)
      exact fin_no z1 z2 (((HB0.out.trans ((hb.mono (by omega)).setCell (by simp) _)).trans (z3.below (by have := hb.size; simp; omega) (fun k hk => by omega)))) hp hsb a ha h2 h3
    have hst := stB_of er
    have HK1 := hidk k1
    have HK2 := hidk k2
    clear hp hpb ho hb k1 k2 h1 h2 hW0
    generalize stB er = sb at *
    rcases hst with rfl | rfl | rfl | rfl
    all_goals
      go_wp2_with fail
      go_region
      all_goals
        go_wp2_with fail
        exact FIN.out _ HPB.out _ rfl rfl rfl
end Go.Proofs.YtaenpacfbheppaaGreatDoor

namespace Go.Proofs.YtaenpacfbheppaaGreatDoor
open Go.RowKit

abbrev liveT : Tr := nd [113, 117, 101, 114, 121] [] [.mk [115, 101, 108, 101, 99, 116] [] 0 [nd [105, 116, 101, 109, 115] [] [nd [105, 116, 101, 109] [] [nd [99, 111, 108] [97] []]], nd [102, 114, 111, 109] [] [nd [116, 97, 98, 108, 101] [116] [nd [97, 115] [116] []]], nd [119, 104, 101, 114, 101] [] [], nd [103, 114, 111, 117, 112] [] [], nd [104, 97, 118, 105, 110, 103] [] []], nd [111, 114, 100, 101, 114] [] []]
theorem pr_live : prF [115, 101, 108, 101, 99, 116, 32, 97, 32, 102, 114, 111, 109, 32, 116] = .ok liveT := by kernel_rfl
theorem pr_sel : prF [115, 101, 108, 101, 99, 116] = .error 1 := by kernel_rfl
theorem wd_item : (nd [105, 116, 101, 109] [] [nd [99, 111, 108] [97] []]).wd = 2 := by kernel_rfl
theorem TV.part {P : Nat → Prop} {w : World} {ao : Option Addr} {cap : Nat} {t : Tr} (h : TV P w ao cap t) {i : Nat} {x : Tr} (hi : t.L[i]? = some x) : ∃ g a c, ao = some ⟨g, 0, none⟩ ∧ g < w.heap.size ∧ P g ∧ t.L.length ≤ cap ∧ w.cell? ⟨g, i * 4, none⟩ = some (.string ⟨x.op.toArray⟩) ∧ w.cell? ⟨g, i * 4 + 1, none⟩ = some (.string ⟨x.s.toArray⟩) ∧ w.cell? ⟨g, i * 4 + 2, none⟩ = some (.int .i64 x.n) ∧ w.cell? ⟨g, i * 4 + 3, none⟩ = some (.slice a x.L.length c) ∧ TV P w a c x := by
  cases h with
  | leaf => simp [Tr.L] at hi
  | row g cap op s n L kids hP hlt h0 hcap hl cells sub =>
    have hi' : L[i]? = some x := hi
    obtain ⟨hlt2, rfl⟩ := List.getElem?_eq_some_iff.1 hi'
    exact ⟨g, _, _, rfl, hlt.1, hP, hcap.1, cells i hlt2 0 _ rfl, cells i hlt2 1 _ rfl, cells i hlt2 2 _ rfl, cells i hlt2 3 _ rfl, sub i hlt2⟩
theorem TV.keepB {P : Nat → Prop} {w w' : World} {ao : Option Addr} {cap : Nat} {t : Tr} (h : TV P w ao cap t) (hb : Below w.heap.size w w') : TV P w' ao cap t := h.keep fun k hk hkl => ⟨hk, hb.block k hkl⟩
theorem PrTo.okE {w w' : World} {s : ByteArray} {e : Ending} {t : Tr} (h : PrTo w s e w') (hp : prF s.data.toList = .ok t) : ∃ ao cap, e = .returned (.tuple #[nv t.op t.s t.n ao t.L.length cap, .string ⟨#[48, 48, 48, 48, 48]⟩]) ∧ TV (fun k => w.heap.size ≤ k) w' ao cap t ∧ Below w.heap.size w w' := by
  rcases h with ⟨t', ao, cap, ho, he, tv, hb⟩ | ⟨er, ho, he, hb⟩
  · rw [hp] at ho; cases ho; exact ⟨ao, cap, he, tv, hb⟩
  · rw [hp] at ho; cases ho
theorem PrTo.noE {w w' : World} {s : ByteArray} {e : Ending} {er : Nat} (h : PrTo w s e w') (hp : prF s.data.toList = .error er) : e = .returned (.tuple #[nv [] [] 0 none 0 0, .string (prB er)]) ∧ Below w.heap.size w w' := by
  rcases h with ⟨t', ao, cap, ho, he, tv, hb⟩ | ⟨er, ho, he, hb⟩
  · rw [hp] at ho; cases ho
  · rw [hp] at ho; cases ho; exact ⟨he, hb⟩
theorem alive_any {a : Addr} (w : World) (hL : LibW a w) : Calls Tryz.prog 7 #[] w fun e w' => e = .returned (.bool true) ∧ Below w.heap.size w w' := by
  have HL := hidk hL
  clear hL
  go_enter Tryz.func7, Tryz.ntmps7
  go_wp2_with fail
  refine (parse_any _ w HL.out).mono ?_
  intro e w1 h1
  obtain ⟨ao, cap, rfl, htv, hb1⟩ := h1.okE pr_live
  clear h1
  go_wp2_with fail
  have hbA : Below w.heap.size w (w1.alloc (.cells #[.string ⟨liveT.op.toArray⟩, .string ⟨liveT.s.toArray⟩, .int .i64 liveT.n, .slice ao liveT.L.length cap] 24)) := hb1.alloc hb1.size _
  have hN := heap_alloc_new w1 (.cells #[.string ⟨liveT.op.toArray⟩, .string ⟨liveT.s.toArray⟩, .int .i64 liveT.n, .slice ao liveT.L.length cap] 24)
  have hszA : (w1.alloc (.cells #[.string ⟨liveT.op.toArray⟩, .string ⟨liveT.s.toArray⟩, .int .i64 liveT.n, .slice ao liveT.L.length cap] 24)).heap.size = w1.heap.size + 1 := by simp
  have htvA := htv.keepB ((Below.refl w1.heap.size w1).alloc (Nat.le_refl _) (.cells #[.string ⟨liveT.op.toArray⟩, .string ⟨liveT.s.toArray⟩, .int .i64 liveT.n, .slice ao liveT.L.length cap] 24))
  refine (parse_any _ _ (HL.out.keep hbA)).mono ?_
  intro e w2 h2
  obtain ⟨rfl, hb2⟩ := h2.noE pr_sel
  clear h2
  have hsz2 := hb2.size
  rw [hszA] at hsz2
  have hN2 := (hb2.block w1.heap.size (by omega)).trans hN
  have htv2 := htvA.keepB hb2
  have HB : Hid (Below w.heap.size w w2) := hbA.trans (hb2.mono (by have := hb1.size; omega))
  obtain ⟨n0, n1, n2, n3, _, _, _, _⟩ := cells4 hN2
  obtain ⟨g0, a0, c0, rfl, hg0, _, hc0, x0, x1, x2, x3, tv0⟩ := htv2.part (i := 0) rfl
  obtain ⟨g1, a1, c1, rfl, hg1, _, hc1, y0, y1, y2, y3, tv1⟩ := tv0.part (i := 0) rfl
  obtain ⟨g2, a2, c2, rfl, hg2, _, hc2, z0, z1, z2, z3, tv2⟩ := tv1.part (i := 0) rfl
  have HD : Hid (∀ W, Below w2.heap.size w2 W → Calls Tryz.prog 8 #[.agg #[.string ⟨#[105, 116, 101, 109]⟩, .string ⟨#[]⟩, .int .i64 0, .slice a2 1 c2]] W fun e w' => e = .returned (.int .i64 2) ∧ Below W.heap.size W w') := fun W hW => by
    have h := q_depth (tv2.keepB hW)
    rw [wd_item] at h
    exact h
  have hpb : prB 1 = ⟨#[52, 50, 54, 48, 49]⟩ := rfl
  rw [hpb]
  have n0 : w2.cell? ⟨w1.heap.size, 0, none⟩ = some (.string ⟨#[113, 117, 101, 114, 121]⟩) := n0
  have n3 : w2.cell? ⟨w1.heap.size, 3, none⟩ = some (.slice (some ⟨g0, 0, none⟩) 2 cap) := n3
  have x0 : w2.cell? ⟨g0, 0, none⟩ = some (.string ⟨#[115, 101, 108, 101, 99, 116]⟩) := by rw [← Nat.zero_mul 4]; exact x0
  have x3 : w2.cell? ⟨g0, 3, none⟩ = some (.slice (some ⟨g1, 0, none⟩) 5 c0) := by have h := x3; rw [Nat.zero_mul] at h; exact h
  have y0 : w2.cell? ⟨g1, 0, none⟩ = some (.string ⟨#[105, 116, 101, 109, 115]⟩) := by rw [← Nat.zero_mul 4]; exact y0
  have y1 : w2.cell? ⟨g1, 1, none⟩ = some (.string ⟨#[]⟩) := by have h := y1; rw [Nat.zero_mul] at h; exact h
  have y2 : w2.cell? ⟨g1, 2, none⟩ = some (.int .i64 0) := by have h := y2; rw [Nat.zero_mul] at h; exact h
  have y3 : w2.cell? ⟨g1, 3, none⟩ = some (.slice (some ⟨g2, 0, none⟩) 1 c1) := by have h := y3; rw [Nat.zero_mul] at h; exact h
  have z0 : w2.cell? ⟨g2, 0, none⟩ = some (.string ⟨#[105, 116, 101, 109]⟩) := by rw [← Nat.zero_mul 4]; exact z0
  have z1 : w2.cell? ⟨g2, 1, none⟩ = some (.string ⟨#[]⟩) := by have h := z1; rw [Nat.zero_mul] at h; exact h
  have z2 : w2.cell? ⟨g2, 2, none⟩ = some (.int .i64 0) := by have h := z2; rw [Nat.zero_mul] at h; exact h
  have z3 : w2.cell? ⟨g2, 3, none⟩ = some (.slice a2 1 c2) := by have h := z3; rw [Nat.zero_mul] at h; exact h
  have hc0 : 2 ≤ cap := hc0
  have hc1 : 5 ≤ c0 := hc1
  have hc2 : 1 ≤ c1 := hc2
  clear htv2 tv0 tv1 tv2 hN2 hpb HL hszA hbA hN htv htvA hb1 hb2
  have hl1 : w1.heap.size < w2.heap.size := by omega
  have hl2 : w2.heap.size ≠ w1.heap.size := by omega
  have hl3 : w2.heap.size ≠ g0 := by omega
  have hl4 : w2.heap.size ≠ g1 := by omega
  have hl5 : w2.heap.size ≠ g2 := by omega
  go_wp2_with (first
  | (go_at_call 8; refine (HD.out _ (by repeat (first | exact Below.refl _ _ | refine Below.alloc ?_ (by first | (simp; done) | (simp; omega)) _))).mono ?_; rintro e w3 ⟨rfl, hb3⟩))
  go_ret
  refine ⟨rfl, ?_⟩
  have hs := HB.out.size
  exact ((HB.out.alloc hs _).alloc (by simp; omega) _).trans (hb3.mono (by simp; omega))
end Go.Proofs.YtaenpacfbheppaaGreatDoor

namespace Go.Proofs.YtaenpacfbheppaaGreatDoor
open Go.RowKit

end Go.Proofs.YtaenpacfbheppaaGreatDoor

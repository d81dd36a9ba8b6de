/- onRecord: a record is found by its id. -/
import Derived.Test.YtkmgahembhgloaaH8L
namespace Go.Proofs.Ytkmgahembhgloaa
open Go.RowKit Go.Maps Go.Shelf
set_option linter.unusedVariables false
set_option linter.unusedSimpArgs false

theorem mkF : ∀ (fn : Fn) (first cap : Array Value) (w : World), (Instr.makeFunc fn first cap).run Try.prog w = .ok (.func fn first cap) w := fun _ _ _ _ => rfl
theorem onRecord_nil (id : Int) (g : Nat) (caps : Array Value) (w : World) :
    Calls Try.prog 32 #[.pointer none, .int .i64 id, .func (.func g) #[] caps] w fun e w' => e = .returned (.int .i64 1) ∧ Below w.heap.size w w' := by
  have hb : Below w.heap.size w ((w.alloc (.cells #[.int .i64 id] 3)).alloc (.cells #[.func (.func g) #[] caps] 74)) := ((Below.refl _ _).alloc (Nat.le_refl _) _).alloc (by simp) _
  go_enter Try.func32, Try.ntmps32
  go_wp2
  go_ret
  exact ⟨rfl, hb⟩
/-- Is there such an id? -/
def ThereR (n : Nat) (R : Nat → List (List UInt8)) (id : Int) : Prop := ∃ k s : Nat, k < n ∧ s < 256 ∧ id = 256 * (k : Int) + (s : Int) ∧ thereP (R k) s
/-- What onRecord comes to. -/
inductive OnR (base : Nat) (w : World) (F C : Nat → Prop) (hv : Value) (n : Nat) (R : Nat → List (List UInt8)) (t : Nat) (id : Int) (Post : World → Option (List (List UInt8)) → Int → World → Prop) (e : Ending) (w3 : World) : Prop
  | no (hn : ¬ ThereR n R id) (he : e = .returned (.int .i64 82)) (F' : Nat → Prop) (t' : Nat) (ht : t' ≤ t + 1) (hH : HeapAt base w3 F' hv n R t') (hF' : ∀ i, F' i → F i ∨ w.heap.size ≤ i) (hfr : Fr w w3 F)
  | yes (k s : Nat) (hk : k < n) (hs : s < 256) (hid : id = 256 * (k : Int) + (s : Int)) (hy : thereP (R k) s) (o : Option (List (List UInt8))) (x : Int) (w1 w2 : World) (F1 F' : Nat → Prop) (he : e = .returned (.int .i64 x)) (h1 : Fr w w1 F) (hp : Post w1 o x w2) (h2 : Fr w2 w3 F1) (hF1 : ∀ i, F1 i → i < w1.heap.size ∧ (F i ∨ w.heap.size ≤ i)) (hH : HeapAt base w3 F' hv n (upR R k o) (t + 1)) (hF' : ∀ i, F' i → F i ∨ w.heap.size ≤ i) (hfr : Fr w w3 (fun i => F i ∨ C i)) (hF2 : ∀ i, F' i → i < w1.heap.size ∨ w2.heap.size ≤ i)
theorem HeapAt.there_lt {n : Nat} {R : Nat → List (List UInt8)} {id : Int} (h : ThereR n R id) : 0 ≤ id ∧ id < n * 256 := by
  obtain ⟨k, s, h1, h2, h3, _⟩ := h
  omega
set_option maxHeartbeats 1000000 in
theorem onRecord_any {base : Nat} {w : World} {F C : Nat → Prop} {hv : Value} {n : Nat} {R : Nat → List (List UInt8)} {t : Nat} (hH : HeapAt base w F hv n R t) (ht : t < 50000) (id : Int) (hidr : -9223372036854775808 ≤ id ∧ id ≤ 9223372036854775807) (g : Nat) (caps : Array Value) (eg : Enters Try.prog g) (hCF : ∀ i, C i → ¬ F i ∧ i < w.heap.size)
    (Post : World → Option (List (List UInt8)) → Int → World → Prop)
    (hw : ∀ (k s : Nat) w1 b cap c, k < n → s < 256 → id = 256 * (k : Int) + (s : Int) → thereP (R k) s → Fr w w1 F → OwnB w.heap.size w1 (.slice (some ⟨b, 0, none⟩) 2048 cap) c → PageOk c (R k) → Calls Try.prog g (#[.slice (some ⟨b, 0, none⟩) 2048 cap, .int .i64 s] ++ caps) w1 fun e w2 => WOut2 w1 b C Post e w2) :
    Calls Try.prog 32 #[hv, .int .i64 id, .func (.func g) #[] caps] w fun e w3 => OnR base w F C hv n R t id Post e w3 := by
  obtain ⟨hg, p, rfl, c0, c1, hFg, hn1, hn2⟩ := hH.cells
  have hgl := (hH.lo hg hFg).2
  obtain ⟨wa, hwa⟩ : ∃ wa, (w.alloc (.cells #[.int .i64 id] 3)).alloc (.cells #[.func (.func g) #[] caps] 74) = wa := ⟨_, rfl⟩
  have hba : Below w.heap.size w wa := by rw [← hwa]; exact ((Below.refl _ _).alloc (Nat.le_refl _) _).alloc (by simp) _
  have bi : Boxed wa w.heap.size 3 (.int .i64 id) := by rw [← hwa]; exact (Boxed.new w _ _).alloc _
  have bw : Boxed wa (w.heap.size + 1) 74 (.func (.func g) #[] caps) := by
    rw [← hwa]; have := Boxed.new (w.alloc (.cells #[.int .i64 id] 3)) 74 (.func (.func g) #[] caps); rwa [World.size_alloc] at this
  have hsa : wa.heap.size = w.heap.size + 1 + 1 := by rw [← hwa]; simp
  have c1a := (hba.cell (p := ⟨hg, 1, none⟩) hgl).trans c1
  have cia := bi.cell
  have hno : ¬ ThereR n R id → ∀ nq, OnR base w F C (.pointer (some ⟨hg, 0, none⟩)) n R t id Post (.returned (.int .i64 82)) (wa.drewN nq) := fun h nq => .no h rfl F t (by omega) (hH.keepB (below_drewN hba nq)) (fun i hi => Or.inl hi) (Fr.of_below (below_drewN hba nq))
  have hwn : IntKind.i64.wrap ((n : Int) * 256) = (n : Int) * 256 := by rw [IntKind.wrap_i64]; omega
  by_cases h0 : id < 0
  · have hE := hno (fun h => by have := HeapAt.there_lt h; omega)
    clear hno hw hCF hsa
    go_enter Try.func32, Try.ntmps32
    go_wp2
    go_quiet (fail)
    go_wp2
    go_ret
    exact hE _
  · obtain ⟨N, rfl⟩ := Int.eq_ofNat_of_zero_le (show 0 ≤ id by omega)
    by_cases h1 : (N : Int) ≥ (n : Int) * 256
    · have hE := hno (fun h => by have := HeapAt.there_lt h; omega)
      have d0 : decide ((N : Int) < 0) = false := decide_eq_false (by omega)
      have d1 : decide ((n : Int) * 256 ≤ (N : Int)) = true := decide_eq_true (by omega)
      clear hno hw hCF hsa
      go_enter Try.func32, Try.ntmps32
      go_wp2
      go_quiet (fail)
      go_wp2
      go_ret
      exact hE _
    · clear hno
      obtain ⟨k, hk⟩ : ∃ k, N / 256 = k := ⟨_, rfl⟩
      obtain ⟨s, hs⟩ : ∃ s, N % 256 = s := ⟨_, rfl⟩
      have hs2 : s < 256 := by omega
      have hNk : N = 256 * k + s := by omega
      have hkn : k < n := by omega
      have hq : (N : Int) / 256 = (k : Int) := by omega
      have hcall : ∀ nq, Hid (∃ wb, ((wa.drewN nq).alloc (.cells #[.int .i64 0] 34)).setCell ⟨wa.heap.size, 0, none⟩ (.int .i64 82) = wb ∧ Calls Try.prog 29 #[.pointer (some ⟨hg, 0, none⟩), .int .i64 k, .func (.func 61) #[] #[.pointer (some ⟨w.heap.size, 0, none⟩), .pointer (some ⟨w.heap.size + 1, 0, none⟩), .pointer (some ⟨wa.heap.size, 0, none⟩)]] wb fun e w3 => ∃ x, e = .returned (.int .i64 0) ∧ w3.cell? ⟨wa.heap.size, 0, none⟩ = some (.int .i64 x) ∧ OnR base w F C (.pointer (some ⟨hg, 0, none⟩)) n R t (N : Int) Post (.returned (.int .i64 x)) w3) := by
        intro nq
        refine ⟨_, rfl, ?_⟩
        have hbq : Below w.heap.size w (wa.drewN nq) := below_drewN hba nq
        have hsq : (wa.drewN nq).heap.size = wa.heap.size := rfl
        have t0 := Boxed.new (wa.drewN nq) 34 (.int .i64 0)
        rw [hsq] at t0
        have t1 := t0.set (.int .i64 82)
        have hgs := grownBy_setCell' ((wa.drewN nq).alloc (.cells #[.int .i64 0] 34)) (wa.heap.size) (.int .i64 82)
        have i1 : Boxed (((wa.drewN nq).alloc (.cells #[.int .i64 0] 34)).setCell ⟨wa.heap.size, 0, none⟩ (.int .i64 82)) w.heap.size 3 (.int .i64 N) := ((show Boxed (wa.drewN nq) w.heap.size 3 (.int .i64 N) from bi).alloc _).kept hgs (fun e => by simp at e; omega)
        have i2 : Boxed (((wa.drewN nq).alloc (.cells #[.int .i64 0] 34)).setCell ⟨wa.heap.size, 0, none⟩ (.int .i64 82)) (w.heap.size + 1) 74 (.func (.func g) #[] caps) := ((show Boxed (wa.drewN nq) (w.heap.size + 1) 74 (.func (.func g) #[] caps) from bw).alloc _).kept hgs (fun e => by simp at e; omega)
        have hbb : Below w.heap.size w (((wa.drewN nq).alloc (.cells #[.int .i64 0] 34)).setCell ⟨wa.heap.size, 0, none⟩ (.int .i64 82)) := (hbq.alloc (by omega) _).setCell (by show w.heap.size ≤ wa.heap.size; omega) _
        generalize (((wa.drewN nq).alloc (.cells #[.int .i64 0] 34)).setCell ⟨wa.heap.size, 0, none⟩ (.int .i64 82)) = wb at *
        have hwl := t1.lt
        have hFl := hH.lo
        refine (onPage_any (C := fun i => i = wa.heap.size ∨ C i) (hH.keepB hbb) ht hkn 61 #[.pointer (some ⟨w.heap.size, 0, none⟩), .pointer (some ⟨w.heap.size + 1, 0, none⟩), .pointer (some ⟨wa.heap.size, 0, none⟩)] (enters_of Try.func61 (by kernel_rfl) rfl) (fun i hi => ?_) (RecPost (R k) s (wa.heap.size) Post) ?_).mono ?_
        · rcases hi with rfl | hi
          · exact ⟨fun h => by have := (hFl _ h).2; omega, hwl⟩
          · exact ⟨(hCF i hi).1, by have := (hCF i hi).2; have := hbb.size; omega⟩
        · intro w1 b cap c hf ho hp
          have hob := World.ownsRow.lt ho b rfl
          have kp : ∀ {B : Nat} {ty : TypeId} {v : Value}, Boxed wb B ty v → w.heap.size ≤ B → Boxed w1 B ty v := fun hbx hB => (hf.block _ hbx.lt (fun h => by have := (hFl _ h).2; omega)).trans hbx
          refine onRecord1_any ho hp hNk hs2 (by omega) (kp i1 (Nat.le_refl _)) g caps eg (kp i2 (by omega)) (kp t1 (by omega)) (by omega) (fun i hi => by have := (hCF i hi).2; omega) Post ?_
          intro hy w1' hb1
          have hb1s := hb1.size
          have hfs := hf.size
          have hbs := hbb.size
          exact hw k s w1' b cap c hkn hs2 (by omega) hy (((Fr.of_below hbb).trans hf (fun i hi => Or.inl hi)).trans (Fr.of_below hb1 (F := fun _ => False)) (fun i hi => hi.elim)) (own_base (own_of_block ho (fun j hj => hb1.block j (World.ownsRow.lt ho j hj).2)) (by omega)) hp
        · rintro e w3 ⟨o, w1, w2, F1, F', he, h1', hp, h2, hF1, hH', hF', hfr, hF2⟩
          have hbs := hbb.size
          have hF1' : ¬ F1 (wa.heap.size) := fun h => by
            rcases (hF1 _ h).2 with h' | h'
            · have := (hFl _ h').2; omega
            · omega
          have hfr' : Fr w w3 (fun i => F i ∨ C i) := (Fr.of_below hbb).trans hfr (fun i hi => by
            rcases hi with hi | rfl | hi
            · exact Or.inl (Or.inl hi)
            · exact Or.inr (by omega)
            · exact Or.inl (Or.inr hi))
          have hFF : ∀ i, F' i → F i ∨ w.heap.size ≤ i := fun i hi => (hF' i hi).imp id (fun h => by omega)
          have hw1s := h1'.size
          cases hp with
          | no hn ho htc hb =>
            subst ho
            refine ⟨82, he, fr_cell h2 hF1' htc, .no ?_ rfl F' (t + 1) (Nat.le_refl _) hH' hFF ?_⟩
            · rintro ⟨k', s', h3, h4, h5, h6⟩
              have e1 : k' = k := by omega
              have e2 : s' = s := by omega
              subst e1 e2
              exact hn h6
            · have hfw : Fr w w2 F := ((Fr.of_below hbb).trans h1' (fun i hi => Or.inl hi)).trans (Fr.of_below hb (F := fun _ => False)) (fun i hi => hi.elim)
              exact hfw.trans h2 (fun i hi => (hF1 i hi).2.imp id (fun h => by omega))
          | yes hy x w1' w2' hb hp htc hf =>
            have hb1s := hb.size
            refine ⟨x, he, fr_cell h2 hF1' htc, .yes k s hkn hs2 (by omega) hy o x w1' w2' (fun i => i = wa.heap.size ∨ F1 i) F' rfl ?_ hp ((hf.mono (fun i hi => Or.inl hi)).trans h2 (fun i hi => Or.inl (Or.inr hi))) ?_ hH' hFF hfr' (fun i hi => by have := hf.size; rcases hF2 i hi with h | h <;> omega)⟩
            · exact ((Fr.of_below hbb).trans h1' (fun i hi => Or.inl hi)).trans (Fr.of_below hb (F := fun _ => False)) (fun i hi => hi.elim)
            · intro i hi
              rcases hi with rfl | hi
              · exact ⟨by omega, Or.inr (by omega)⟩
              · exact ⟨by have := (hF1 i hi).1; omega, (hF1 i hi).2.imp id (fun h => by omega)⟩
      have hmf := mkF
      have d0 : decide ((N : Int) < 0) = false := decide_eq_false (by omega)
      have d1 : decide ((n : Int) * 256 ≤ (N : Int)) = false := decide_eq_false (by omega)
      have t3 : ∀ nq, ((wa.drewN nq).alloc (.cells #[.int .i64 0] 34)).cell? ⟨wa.heap.size, 0, none⟩ = some (.int .i64 0) := fun nq => (Boxed.new (wa.drewN nq) _ _).cell
      have t4 : ∀ nq, ((wa.drewN nq).alloc (.cells #[.int .i64 0] 34)).frozen? ⟨wa.heap.size, 0, none⟩ = false := fun nq => (Boxed.new (wa.drewN nq) _ _).frozen
      clear hw hCF hH bw hk hs hNk
      go_enter Try.func32, Try.ntmps32
      go_wp2
      go_quiet (fail)
      rename_i nq
      obtain ⟨wb, hwb, hcl⟩ := (hcall nq).out
      have t3' := t3 nq
      have t4' := t4 nq
      have c4 : wb.cell? ⟨w.heap.size, 0, none⟩ = some (.int .i64 N) := by
        rw [← hwb]
        exact (((show Boxed (wa.drewN nq) w.heap.size 3 (.int .i64 N) from bi).alloc _).kept (grownBy_setCell' _ wa.heap.size _) (fun e => by simp at e; omega)).cell
      clear hcall t3 t4 hsa
      go_wp2_with fail
      refine hcl.mono ?_
      clear hcl hwb
      rintro e w3 ⟨x, rfl, hcx, hE⟩
      go_wp2
      go_ret
      exact hE
end Go.Proofs.Ytkmgahembhgloaa

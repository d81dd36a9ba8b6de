/- New; the law's made. -/
import Derived.Test.YtkmgahembhgloaaH8P
namespace Go.Proofs.Ytkmgahembhgloaa
open Go.RowKit Go.Maps Go.Shelf
set_option linter.unusedVariables false
set_option linter.unusedSimpArgs false

set_option maxHeartbeats 400000 in
theorem eachPage_any (hg n g : Nat) (w : World) (c1 : w.cell? ⟨hg, 1, none⟩ = some (.int .i64 n)) (hn : n ≤ 256) (Inv : Nat → World → Prop) (h0 : Inv 0 w)
    (hstep : ∀ k wr, k < n → Inv k wr → Calls Try.prog 29 #[.pointer (some ⟨hg, 0, none⟩), .int .i64 k, .func (.func g) #[] #[]] wr fun e w3 => e = .returned (.int .i64 0) ∧ Inv (k + 1) w3) :
    Calls Try.prog 46 #[.pointer (some ⟨hg, 0, none⟩), .func (.func g) #[] #[]] w fun e w' => e = .returned (.int .i64 0) ∧ Inv n w' := by
  have HS : Hid (∀ k wr, k < n → Inv k wr → Calls Try.prog 29 #[.pointer (some ⟨hg, 0, none⟩), .int .i64 k, .func (.func g) #[] #[]] wr fun e w3 => e = .returned (.int .i64 0) ∧ Inv (k + 1) w3) := hstep
  clear hstep
  have H0 : Hid (Inv 0 w) := h0
  clear h0
  go_enter Try.func46, Try.ntmps46
  go_wp2
  go_loopw [11] (fun i wr => ∃ k : Nat, k ≤ n ∧ i = .int .i64 k ∧ Hid (Inv k wr)) (fun i _ => n - (intOf i).toNat)
  case atStart => exact ⟨0, Nat.zero_le _, rfl, H0.out⟩
  case round =>
    obtain ⟨k, hk, rfl, HI⟩ := hrel
    by_cases hlt : k < n
    · have hc := HS.out k wr hlt HI.out
      clear HS
      go_wp2_with (go_at_call 29; refine hc.mono ?_; clear hc; rintro e w3 ⟨rfl, hI3⟩; have HI3 : Hid (Inv (k + 1) w3) := hI3; clear hI3)
      go_roundw
      case rel => exact ⟨k + 1, by omega, by first | go_num | (congr 1; omega), HI3.out⟩
      case measure => simp [intOf]; omega
    · obtain rfl : k = n := by omega
      clear HS
      go_wp2
      go_ret
      exact ⟨rfl, HI.out⟩
theorem new1_any (v : Value) (w : World) : Calls Try.prog 47 #[v] w fun e w' => e = .returned (.slice none 0 0) ∧ w' = w := by
  go_enter Try.func47, Try.ntmps47
  go_wp2
  go_ret
  exact ⟨rfl, rfl⟩
theorem new2_any (v : Value) (w : World) : Calls Try.prog 48 #[v] w fun e w' => ∃ c, e = .returned (.slice (some ⟨w.heap.size, 0, none⟩) 2048 2048) ∧ OwnB w.heap.size w' (.slice (some ⟨w.heap.size, 0, none⟩) 2048 2048) c ∧ PageOk c [] ∧ Below w.heap.size w w' := by
  have hL := layOut_any (w := w) (ao := none) (cap := 0) (vs := []) (rs := []) (.mt rfl) (ElB.nil w) (by simp) (by simp) (by simp [roomP, sumL])
  go_enter Try.func48, Try.ntmps48
  go_wp2_with (go_at_call 41; refine hL.mono ?_; clear hL; rintro e w3 ⟨c, rfl, h1, h2, h3⟩)
  go_ret
  exact ⟨c, rfl, h1, h2, h3⟩
theorem hnew_nil (n : Int) (w : World) : Calls Try.prog 22 #[.pointer none, .int .i64 n] w fun e w' => e = .returned (.tuple #[.pointer none, .int .i64 1]) ∧ w' = w := by
  go_enter Try.func22, Try.ntmps22
  go_wp2
  refine bodyPost_ret (v := .tuple #[.pointer none, .int .i64 1]) (by simp [results, Try.results22, go_sem]) rfl ?_
  exact ⟨rfl, rfl⟩
/-- A heap all of whose pages below k are noughts. -/
inductive NewSt (base : Nat) (w0 : World) (F0 : Nat → Prop) (hv : Value) (n : Nat) (G : Nat → Prop) (t : Nat) (w : World) : Prop
  | mk (F : Nat → Prop) (hH : HeapAtG base w F hv n G (fun _ => []) t) (hF : ∀ i, F i → F0 i ∨ w0.heap.size ≤ i) (hfr : Fr w0 w F0)
theorem upR_nil (k : Nat) : upR (fun _ => []) k (some []) = (fun _ => []) := by
  funext j; unfold upR; simp
set_option maxHeartbeats 1000000 in
theorem hnew_any {base : Nat} {w : World} {FP FD : Nat → Prop} {p dp : Value} {nd : Nat} {P : PS} {D : DS} (hpd : PD base w FP FD p dp nd P D) (hi : IdleP P) (hc : CleanP P D) (n : Nat) (hn : 1 ≤ n ∧ n ≤ 256) (hpg : (n : Int) ≤ P.pages) (hu : P.uses ≤ 0) (hws : nd + D.ws.length ≤ 1000) :
    Calls Try.prog 22 #[p, .int .i64 n] w fun e w' => ∃ F', e = .returned (.tuple #[.pointer (some ⟨w.heap.size, 0, none⟩), .int .i64 0]) ∧ HeapAt base w' F' (.pointer (some ⟨w.heap.size, 0, none⟩)) n (fun _ => []) (n + n) ∧ (∀ i, F' i → (FP i ∨ FD i) ∨ w.heap.size ≤ i) ∧ Fr w w' (fun i => FP i ∨ FD i) := by
  obtain ⟨g, dg, rfl, rfl⟩ := hpd.ptr
  have hb0 : Below w.heap.size w (w.alloc (.cells #[.pointer (some ⟨g, 0, none⟩), .int .i64 n] 65)) := (Below.refl _ _).alloc (Nat.le_refl _) _
  have hh : (w.alloc (.cells #[.pointer (some ⟨g, 0, none⟩), .int .i64 n] 65)).heap[w.heap.size]? = some (.cells #[.pointer (some ⟨g, 0, none⟩), .int .i64 n] 65 (0, 0)) := heap_alloc_new w _
  have hbl := hpd.base_le
  have hlo := hpd.lo
  obtain ⟨wa, hwa⟩ : ∃ wa, w.alloc (.cells #[.pointer (some ⟨g, 0, none⟩), .int .i64 n] 65) = wa := ⟨_, rfl⟩
  rw [hwa] at hb0 hh
  have c1 : wa.cell? ⟨w.heap.size, 1, none⟩ = some (.int .i64 n) := by rw [cell_of_row wa w.heap.size 1 _ _ _ hh]; rfl
  have hIn : HeapAtG base wa (fun i => i = w.heap.size ∨ FP i ∨ FD i) (.pointer (some ⟨w.heap.size, 0, none⟩)) n (fun _ => False) (fun _ => []) 0 :=
    ⟨FP, FD, w.heap.size, _, _, nd, P, D, rfl, ⟨hh, hpd.keepB hb0, fun i => Iff.rfl, fun h => by have := (hlo _ (Or.inl h)).2; omega, fun h => by have := (hlo _ (Or.inr h)).2; omega, hbl, ⟨hn.1, hpg⟩, hi, hc, fun j hj => hj.elim, by omega, by omega⟩⟩
  have H0 : Hid (NewSt base w (fun i => FP i ∨ FD i) (.pointer (some ⟨w.heap.size, 0, none⟩)) n (fun _ => False) 0 wa) := NewSt.mk _ hIn (fun i hi => hi.elim (fun e => Or.inr (by omega)) Or.inl) (Fr.of_below hb0)
  have HE1 : Hid (∀ k wr, k < n → NewSt base w (fun i => FP i ∨ FD i) (.pointer (some ⟨w.heap.size, 0, none⟩)) n (fun _ => False) k wr → Calls Try.prog 29 #[.pointer (some ⟨w.heap.size, 0, none⟩), .int .i64 k, .func (.func 47) #[] #[]] wr fun e w3 => e = .returned (.int .i64 0) ∧ NewSt base w (fun i => FP i ∨ FD i) (.pointer (some ⟨w.heap.size, 0, none⟩)) n (fun _ => False) (k + 1) w3) := by
    intro k wr hk ⟨F, hH, hF, hfr⟩
    refine (onPageG_any (C := fun _ => False) hH (by omega) hk 47 #[] (enters_of Try.func47 (by kernel_rfl) rfl) (fun i hi => hi.elim) (fun w1 o w2 => o = none) (fun w1 b cap c h1 h2 h3 h4 => ?_)).mono ?_
    · refine (new1_any _ w1).mono ?_
      rintro e w2 ⟨he, rfl⟩
      exact .none_ he (Fr.refl _ _) rfl
    · rintro e w3 ⟨o, w1, w2, F1, F', he, h1, hp, h2, hF1, hH', hF', hfr', hF2⟩
      subst hp
      have := hfr.size
      refine ⟨he, .mk F' (hH'.mono (fun j hj => Or.inl hj)) (fun i hi => (hF' i hi).elim (hF i) (fun h => Or.inr (by omega))) (hfr.trans hfr' (fun i hi => hi.elim (hF i) False.elim))⟩
  have HE2 : Hid (∀ k wr, k < n → NewSt base w (fun i => FP i ∨ FD i) (.pointer (some ⟨w.heap.size, 0, none⟩)) n (fun j => j < k) (n + k) wr → Calls Try.prog 29 #[.pointer (some ⟨w.heap.size, 0, none⟩), .int .i64 k, .func (.func 48) #[] #[]] wr fun e w3 => e = .returned (.int .i64 0) ∧ NewSt base w (fun i => FP i ∨ FD i) (.pointer (some ⟨w.heap.size, 0, none⟩)) n (fun j => j < k + 1) (n + (k + 1)) w3) := by
    intro k wr hk ⟨F, hH, hF, hfr⟩
    refine (onPageG_any (C := fun _ => False) hH (by omega) hk 48 #[] (enters_of Try.func48 (by kernel_rfl) rfl) (fun i hi => hi.elim) (fun w1 o w2 => o = some []) (fun w1 b cap c h1 h2 h3 h4 => ?_)).mono ?_
    · refine (new2_any _ w1).mono ?_
      rintro e w2 ⟨c', he, ho, hp, hb⟩
      exact .some_ [] _ _ c' he ho.toBytes hp (Fr.of_below hb) rfl
    · rintro e w3 ⟨o, w1, w2, F1, F', he, h1, hp, h2, hF1, hH', hF', hfr', hF2⟩
      subst hp
      have := hfr.size
      rw [upR_nil] at hH'
      refine ⟨he, .mk F' (hH'.mono (fun j hj => ?_)) (fun i hi => (hF' i hi).elim (hF i) (fun h => Or.inr (by omega))) (hfr.trans hfr' (fun i hi => hi.elim (hF i) False.elim))⟩
      by_cases e : j = k
      · exact Or.inr ⟨by simp, e⟩
      · exact Or.inl (by omega)
  have hA := eachPage_any w.heap.size n 47 wa c1 hn.2 _ H0.out HE1.out
  clear HE1 H0 hIn hh hpd hi hc
  go_enter Try.func22, Try.ntmps22
  go_wp2_with fail
  refine hA.mono ?_
  clear hA
  rintro e w1 ⟨rfl, F1, hH1, hF1, hf1⟩
  obtain ⟨hg', p', e', _, c1', _, _, _⟩ := hH1.cells
  cases e'
  have hB := eachPage_any w.heap.size n 48 w1 c1' hn.2 (fun k wr => NewSt base w (fun i => FP i ∨ FD i) (.pointer (some ⟨w.heap.size, 0, none⟩)) n (fun j => j < k) (n + k) wr) (.mk F1 (hH1.mono (fun j hj => by omega)) hF1 hf1) HE2.out
  clear HE2 hH1
  go_wp2_with fail
  refine hB.mono ?_
  clear hB
  rintro e w2 ⟨rfl, F2, hH2, hF2, hf2⟩
  have hE : HeapAt base w2 F2 (.pointer (some ⟨w.heap.size, 0, none⟩)) n (fun _ => []) (n + n) := hH2
  clear hH2
  go_wp2
  refine bodyPost_ret (v := .tuple #[.pointer (some ⟨w.heap.size, 0, none⟩), .int .i64 0]) (by simp [results, Try.results22, go_sem]) rfl ?_
  exact ⟨F2, rfl, hE, hF2, hf2⟩
theorem idle_new (first pages frames : Int) : IdleP (PS.new first pages frames) := fun k hk => by cases hk
theorem clean_new (first pages frames : Int) (D : DS) : CleanP (PS.new first pages frames) D := fun j hj => by cases hj
def junk : List UInt8 := [2, 0, 0, 1, 3, 0, 7, 1, 2, 0]
theorem junk_build (w : World) : (Instr.buildSlice 30 10 #[(0, .int .u8 2), (1, .int .u8 0), (2, .int .u8 0), (3, .int .u8 1), (4, .int .u8 3), (5, .int .u8 0), (6, .int .u8 7), (7, .int .u8 1), (8, .int .u8 2), (9, .int .u8 0)]).run Try.prog w = .ok (.slice (some ⟨w.heap.size, 0, none⟩) 10 10) (w.alloc (.cells (junk.map bv).toArray 5)) := by kernel_rfl
theorem lit_bytes (w : World) (xs : List UInt8) (hx : xs ≠ []) : Bytes (w.alloc (.cells (xs.map bv).toArray 5)) (.slice (some ⟨w.heap.size, 0, none⟩) xs.length xs.length) xs := by
  refine Or.inr ⟨_, _, rfl, Nat.le_refl _, fun j hj => ?_⟩
  rw [Addr.add_mid, cell_of_row _ _ _ _ _ _ (heap_alloc_new w _)]
  simp [hj]
set_option maxHeartbeats 1000000 in
theorem made_any (n fr : Nat) (hn : 1 ≤ n ∧ n ≤ 256) (hf : 1 ≤ fr ∧ fr ≤ 64) (w : World) :
    Calls Try.prog 8 #[.int .i64 n, .int .i64 fr] w fun e w' => ∃ hg F', e = .returned (.pointer (some ⟨hg, 0, none⟩)) ∧ HeapAt w.heap.size w' F' (.pointer (some ⟨hg, 0, none⟩)) n (fun _ => []) (n + n) ∧ Below w.heap.size w w' := by
  have hN := new_any (16 * (n : Int)) w (by omega)
  go_enter Try.func8, Try.ntmps8
  go_wp2_with fail
  refine hN.mono ?_
  clear hN
  rintro e w1 ⟨dg, rfl, hD1, hb1⟩
  have HD1 : Hid (DiskAt w.heap.size w1 (fun k => w.heap.size ≤ k ∧ k < w1.heap.size) (.pointer (some ⟨dg, 0, none⟩)) 0 ⟨16 * (n : Int), fun _ => zsec, fun _ => zsec, [], 0⟩) := hD1
  clear hD1
  go_wp2
  go_loopw [7] (fun i wr => ∃ (k : Nat) (F : Nat → Prop) (D : DS), k ≤ n ∧ i = .int .i64 k ∧ Hid (DiskAt w.heap.size wr F (.pointer (some ⟨dg, 0, none⟩)) 0 D) ∧ Hid (D.size = 16 * (n : Int)) ∧ Hid (D.ws.length = k) ∧ Below w.heap.size w wr) (fun i _ => n - (intOf i).toNat)
  case atStart => exact ⟨0, _, _, Nat.zero_le _, rfl, HD1.out, rfl, rfl, hb1⟩
  case round =>
    obtain ⟨k, F, D, hk, rfl, HD, HS, HW, hb⟩ := hrel
    clear HD1
    by_cases hlt : k < n
    · have hbj := junk_build wr
      have hba : Below wr.heap.size wr (wr.alloc (.cells (junk.map bv).toArray 5)) := (Below.refl _ _).alloc (Nat.le_refl _) _
      have hws := HW.out
      have hsz := HS.out
      have hwr := write_any (HD.out.keepB hba) (16 * (k : Int)) (by omega) _ junk (lit_bytes wr junk (by decide)) (by decide) (by omega)
      have hlen : junk.length = 10 := rfl
      rw [hlen] at hwr
      clear hws hsz hbj
      go_wp2_with fail
      change Calls Try.prog _ _ (wr.alloc (.cells (junk.map bv).toArray 5)) _
      refine hwr.mono ?_
      clear hwr
      rintro e w3 ⟨rfl, F3, hD3, hf3, hF3⟩
      have hlo := HD.out.lo
      have hbs := hb.size
      have HD3 : Hid (DiskAt w.heap.size w3 F3 (.pointer (some ⟨dg, 0, none⟩)) 0 { D with now := upd D.now (16 * (k : Int)) (full junk), ws := D.ws ++ [⟨16 * (k : Int), full junk, D.safe⟩] }) := hD3
      have hb3 : Below w.heap.size w w3 := (hb.trans (hba.mono hbs)).trans (hf3.below (by have := hba.size; omega) (fun i hi => (hlo i hi).1))
      have HW3 : Hid ((D.ws ++ [(⟨16 * (k : Int), full junk, D.safe⟩ : W3)]).length = k + 1) := by rw [List.length_append, HW.out]; exact rfl
      clear hD3 hf3 hba
      go_wp2
      go_roundw
      case rel => exact ⟨k + 1, F3, _, by omega, by first | go_num | (congr 1; omega), HD3.out, HS.out, HW3.out, hb3⟩
      case measure => simp [intOf]; omega
    · obtain rfl : k = n := by omega
      have hbs := hb.size
      have hsz := HS.out
      have hws := HW.out
      have hpn := pd_new HD.out 0 (k : Int) (fr : Int) (by omega) (by omega) (by omega) (by rw [hsz]; omega) hb.size
      clear hsz hws
      go_wp2_with fail
      refine hpn.mono ?_
      clear hpn
      rintro e w2 ⟨rfl, hP2, hb2⟩
      have hnw := hnew_any hP2 (idle_new _ _ _) (clean_new _ _ _ _) k hn (by show (k : Int) ≤ (k : Int); omega) (by show (0 : Int) ≤ 0; omega) (by have := HW.out; omega)
      have hbb : Below w.heap.size w w2 := hb.trans (hb2.mono hbs)
      have hlo := hP2.lo
      have HLO : Hid (∀ i, ((wr.heap.size ≤ i ∧ i < w2.heap.size) ∨ F i) → w.heap.size ≤ i) := fun i hi => (hlo i hi).1
      clear hP2 hb2 HD HS HW hlo
      go_wp2_with fail
      refine hnw.mono ?_
      clear hnw
      rintro e w3 ⟨F', rfl, hH, hF', hfr⟩
      have hb3 : Below w.heap.size w w3 := hbb.trans (hfr.below hbb.size (fun i hi => HLO.out i hi))
      have hE : HeapAt w.heap.size w3 F' (.pointer (some ⟨w2.heap.size, 0, none⟩)) k (fun _ => []) (k + k) := hH
      clear hH
      go_wp2
      go_ret
      exact ⟨w2.heap.size, F', rfl, hE, hb3⟩
end Go.Proofs.Ytkmgahembhgloaa

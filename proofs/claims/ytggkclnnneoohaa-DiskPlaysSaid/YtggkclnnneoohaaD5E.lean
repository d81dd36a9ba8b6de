/- Package disk: Write's refusals; cut, Cut, CutAt. -/
import Derived.Test.YtggkclnnneoohaaD5D
namespace Go.Proofs.Ytggkclnnneoohaa
open Go.RowKit Go.Maps
set_option linter.unusedVariables false
set_option linter.unusedSimpArgs false

theorem write_range {base : Nat} {F : Nat → Prop} {p : Value} {n : Nat} {D : DS} {w : World} (h : DiskAt base w F p n D) (i : Int) (hi : i < 0 ∨ D.size ≤ i) (vb : Value) :
    Calls Try.prog 9 #[p, .int .i64 i, vb] w fun e w' => e = .returned (.int .i64 51) ∧ w' = w := by
  obtain ⟨g, b1, b2, v, rfl, h⟩ := h
  have hh := has_any h i
  have e1 : (decide (0 ≤ i) && decide (i < D.size)) = false := by simp; omega
  rw [e1] at hh
  clear h e1
  go_enter Try.func9, Try.ntmps9
  go_wp2_with (go_at_call 26; refine hh.mono ?_; rintro e wx ⟨rfl, hwx⟩; rw [hwx]; clear hwx wx hh)
  go_ret
  exact ⟨rfl, rfl⟩
theorem write_long {base : Nat} {F : Nat → Prop} {p : Value} {n : Nat} {D : DS} {w : World} (h : DiskAt base w F p n D) (i : Int) (hi : 0 ≤ i ∧ i < D.size) (vb : Value) (xs : List UInt8) (hB : Bytes w vb xs) (hx : 128 < xs.length) :
    Calls Try.prog 9 #[p, .int .i64 i, vb] w fun e w' => e = .returned (.int .i64 1) ∧ w' = w := by
  obtain ⟨g, b1, b2, v, rfl, h⟩ := h
  have hh := has_any h i
  have e1 : (decide (0 ≤ i) && decide (i < D.size)) = true := by simp; omega
  rw [e1] at hh
  obtain ⟨ao, cap, rfl, hc, _⟩ := hB.form
  have t1 : decide ((xs.length : Int) > 128) = true := by simp; omega
  clear h e1 hB
  go_enter Try.func9, Try.ntmps9
  go_wp2_with (go_at_call 26; refine hh.mono ?_; rintro e wx ⟨rfl, hwx⟩; rw [hwx]; clear hwx wx hh)
  go_ret
  exact ⟨rfl, rfl⟩

/-- Whether the write number i is left, where so many are safe. -/
def leftB (ks : List Bool) (safe i : Nat) : Bool := decide (i < safe) || ks.getD (i - safe) false
/-- What writes leave. -/
def cutF (ks : List Bool) (safe : Nat) (f : Int → List UInt8) (ws : List W3) : Int → List UInt8 :=
  (ws.zipIdx).foldl (fun f x => if leftB ks safe x.2 then upd f x.1.place x.1.sec else f) f
theorem cutF_snoc (ks : List Bool) (safe : Nat) (f : Int → List UInt8) (ws : List W3) (k : Nat) (h : k < ws.length) :
    cutF ks safe f (ws.take (k + 1)) = if leftB ks safe k then upd (cutF ks safe f (ws.take k)) ws[k].place ws[k].sec else cutF ks safe f (ws.take k) := by
  unfold cutF
  rw [List.take_succ_eq_append_getElem h, List.zipIdx_append, List.foldl_append]
  simp [Nat.min_eq_left (Nat.le_of_lt h)]
theorem infoWS : (Try.prog.info? 63).map (·.size) = some 130 := by kernel_rfl
theorem zero_write (w : World) : (zeroValue 63).run Try.prog w = .ok (.agg (Value.int .i64 0 :: ((zsec.map bv) ++ [Value.int .i64 0])).toArray) w := by kernel_rfl
theorem wp_allocW {w : World} {ops : Array Oper} {rest : List Oper} {o : Oper} {a : Act} {Q : Exit → Act → World → Prop} (hgd : o.guard = none) (ho : o.op = .alloc 63)
    (h : ∀ w1, w1 = w.alloc (.cells (Value.int .i64 0 :: ((zsec.map bv) ++ [Value.int .i64 0])).toArray 63) → wpList Try.prog ops Q rest (a.put o.dst (.pointer (some ⟨w.heap.size, 0, none⟩))) w1) : wpList Try.prog ops Q (o :: rest) a w :=
  wpList_allocS hgd 63 ho _ zero_write (h _ rfl)
theorem wp_storeW {w : World} {ops : Array Oper} {rest : List Oper} {o : Oper} {a : Act} {Q : Exit → Act → World → Prop} (hgd : o.guard = none) (x y : Operand) (ho : o.op = .store 63 x y)
    (g : Nat) (s : W3) (hs : s.sec.length = 128) (hx : a.eval x = .pointer (some ⟨g, 0, none⟩)) (hy : a.eval y = .agg (cellsW s).toArray) {t : TypeId} {old : Array Value} (hg : w.heap[g]? = some (.cells old t (0, 0))) (hold : old.size = 130)
    (h : ∀ w1, Hid (w1.heap[g]? = some (.cells (cellsW s).toArray t (0, 0))) → Fr w w1 (fun k => k = g) → wpList Try.prog ops Q rest (a.put o.dst undef) w1) : wpList Try.prog ops Q (o :: rest) a w :=
  wpList_store_row hgd 63 x y ho g (cellsW s).toArray hx hy t old hg (by rw [infoWS]; simp [cellsW_len hs]) (by simp [hold, cellsW_len hs]) (all_oneCell_toArray (one_cellsW s))
    (h _ (setRow_heap w g _ _ t _ hg) ⟨rfl, rfl, rfl, by simp, fun k _ hk => setRow_other w g k _ hk⟩)

theorem cell_keep {W w' : World} (hb : Below W.heap.size W w') {b o : Nat} {v : Value} (h : W.cell? ⟨b, o, none⟩ = some v) : w'.cell? ⟨b, o, none⟩ = some v :=
  (hb.cell (p := ⟨b, o, none⟩) (World.block_lt_of_cell? W _ h)).trans h
theorem rangeAt_keep {W w' : World} (hb : Below W.heap.size W w') {b o : Nat} {cs : List Value} (h : W.rangeAt b o cs) : w'.rangeAt b o cs := fun j v hv => cell_keep hb (h j v hv)
/-- A write, laid in a block of its own. -/
theorem cellsW_parts {w : World} {L : Nat} {x : W3} {t : TypeId} (h : w.heap[L]? = some (.cells (cellsW x).toArray t (0, 0))) : w.cell? ⟨L, 0, none⟩ = some (.int .i64 x.place) ∧ w.rangeAt L 1 (x.sec.map bv) := by
  refine ⟨by rw [cell_of_row w L 0 _ _ _ h]; rfl, fun j u hu => ?_⟩
  rw [cell_of_row w L (1 + j) _ _ _ h, Nat.add_comm]
  have hj := (List.getElem?_eq_some_iff.1 hu).1
  simp only [cellsW, List.getElem?_toArray, List.getElem?_cons_succ]
  rw [List.getElem?_append_left hj]
  exact hu
/-- m[i] = s. -/
theorem wp_updS {w : World} {ops : Array Oper} {rest : List Oper} {o : Oper} {a : Act} {Q : Exit → Act → World → Prop} (hgd : o.guard = none) (m x v : Operand) (ho : o.op = .mapUpdate 55 m x v)
    (b n : Nat) (f : Int → List UInt8) (h : SecMap w b n f) (hn : n < 1000000) (i : Int) (hi : -9223372036854775808 ≤ i ∧ i ≤ 9223372036854775807) (s : List UInt8) (hs : s.length = 128) (hm : a.eval m = .map (some b)) (hx : a.eval x = .int .i64 i) (hv : a.eval v = .agg (s.map bv).toArray)
    (hK : ∀ w', SecMap w' b (n + 1) (upd f i s) → w.grownBy w' (some b) → wpList Try.prog ops Q rest (a.put o.dst undef) w') : wpList Try.prog ops Q (o :: rest) a w := by
  refine wpList_plain hgd fun K' hK' => ?_
  obtain ⟨w', hrun, r1, r2⟩ := h.upd hn hi hs
  have hrun' : (Instr.mapUpdate 55 (.map (some b)) (.int .i64 i) (.agg (s.map bv).toArray)).run Try.prog w = .ok () w' := hrun
  unfold Oper.wp
  simp [execOp, ho, hm, hx, hv, hrun', Result.andThen]
  exact hK' _ _ (hK w' r1 r2)
/-- Where a round of the loop stands. -/
structure CutMid (w wr : World) (n k : Nat) (ks : List Bool) (safe : Nat) (D : DS) : Prop where
  m : SecMap wr w.heap.size (n + k) (cutF ks safe D.first (D.ws.take k))
  b : Below w.heap.size w wr
theorem CutMid.skip {w wr wb : World} {n k : Nat} {ks : List Bool} {safe : Nat} {D : DS} (h : CutMid w wr n k ks safe D) (hk : k < D.ws.length) (hl : leftB ks safe k = false) (hb : Below wr.heap.size wr wb) : CutMid w wb n (k + 1) ks safe D := by
  refine ⟨?_, h.b.trans (hb.mono h.b.size)⟩
  rw [cutF_snoc ks safe D.first D.ws k hk, hl]
  exact (h.m.of_block (hb.block _ h.m.lt)).mono (by omega)
theorem CutMid.put {w wr wb wc : World} {n k : Nat} {ks : List Bool} {safe : Nat} {D : DS} (h : CutMid w wr n k ks safe D) (hk : k < D.ws.length) (hl : leftB ks safe k = true) (hb : Below wr.heap.size wr wb)
    (hm : SecMap wc w.heap.size (n + k + 1) (upd (cutF ks safe D.first (D.ws.take k)) D.ws[k].place D.ws[k].sec)) (hg : wb.grownBy wc (some w.heap.size)) : CutMid w wc n (k + 1) ks safe D := by
  have hlt := h.m.lt
  have hs := hb.size
  refine ⟨?_, (h.b.trans (hb.mono h.b.size)).trans ⟨hg.os, hg.tape, hg.output, hg.size, fun i hi => hg.block i (by have := h.b.size; omega) (by simp; omega)⟩⟩
  rw [cutF_snoc ks safe D.first D.ws k hk, hl]
  exact hm
/-- The loop's end: a new disk. -/
theorem cut_end {w wr : World} {n k : Nat} {ks : List Bool} {safe : Nat} {D : DS} (h : CutMid w wr n k ks safe D) (hk : k ≤ D.ws.length) (hsz : 0 ≤ D.size ∧ D.size ≤ 4096) (hc : n + D.ws.length ≤ 100000) :
    Calls Try.prog 25 #[.int .i64 D.size, .map (some w.heap.size)] wr fun e w' => ∃ (c : Nat) (F' : Nat → Prop), e = .returned (.pointer (some ⟨c, 0, none⟩)) ∧ DiskAt w.heap.size w' F' (.pointer (some ⟨c, 0, none⟩)) (n + D.ws.length) ⟨D.size, cutF ks safe D.first (D.ws.take k), cutF ks safe D.first (D.ws.take k), [], 0⟩ ∧ Below w.heap.size w w' := by
  refine (begin_any w.heap.size D.size w.heap.size (n + D.ws.length) _ wr (h.m.mono (by omega)) (Nat.le_refl _) hsz hc).mono ?_
  rintro e w' ⟨p, c, rfl, rfl, hD, hb⟩
  exact ⟨c, _, rfl, hD, h.b.trans (hb.mono h.b.size)⟩

set_option maxHeartbeats 2000000 in
theorem cut_any {base : Nat} {F : Nat → Prop} {p : Value} {n : Nat} {D : DS} {w : World} (h : DiskAt base w F p n D) (done safe : Nat) (hd : done ≤ D.ws.length) (hs : safe ≤ 1000000) (vk : Value) (ks : List Bool) (hk0 : Bools w vk ks) :
    Calls Try.prog 27 #[p, .int .i64 done, .int .i64 safe, vk] w fun e w' => ∃ (c : Nat) (F' : Nat → Prop), e = .returned (.pointer (some ⟨c, 0, none⟩)) ∧ DiskAt w.heap.size w' F' (.pointer (some ⟨c, 0, none⟩)) (n + D.ws.length) ⟨D.size, cutF ks safe D.first (D.ws.take done), cutF ks safe D.first (D.ws.take done), [], 0⟩ ∧ Below w.heap.size w w' := by
  obtain ⟨g, b1, b2, v, rfl, h⟩ := h
  obtain ⟨c0, c1, c2, c3, c4, fz⟩ := cells5 h.hg
  have HD : Hid (DiskIn base w F g b1 b2 v n D) := h
  have hcl := clone_sec h.m1
  have hgl := (h.lo g h.fg).2
  have hcnt := h.cnt
  obtain ⟨ao, cap, hv, hcap⟩ := h.row.form
  subst hv
  have hrow := own_range (fun x hx => cellsW_len (h.oks x hx).len) h.row
  clear h
  go_enter Try.func27, Try.ntmps27
  have hsz := HD.out.sz
  have HO : Hid (∀ x ∈ D.ws, WOk x) := HD.out.oks
  rcases hrow with ⟨hv, hnil⟩ | ⟨gv, cap', hv, hc', hbg, hgvl, hrange⟩
  · have hao : ao = none ∧ D.ws.length = 0 ∧ cap = 0 := by simpa using hv
    obtain ⟨rfl, hl0, rfl⟩ := hao
    rw [hl0] at c3 hd
    obtain rfl : done = 0 := by omega
    go_wp2_with (go_at_call 32; refine hcl.mono ?_; rintro e w1 ⟨rfl, hm, hb⟩; have d0 := cell_keep hb c0; have d3 := cell_keep hb c3; clear c0 c1 c2 c3 c4 fz hcl)
    refine wp_loop_rounds 1 ?_
    rw [rounds_succ]
    go_wp2_with (go_at_call 25; refine (cut_end (w := w) (n := n) (k := 0) (ks := ks) (safe := safe) (D := D) ⟨hm, hb⟩ (Nat.zero_le _) hsz hcnt).mono ?_; rintro e w2 ⟨c, F', rfl, hD, hb2⟩)
    go_ret
    exact ⟨c, F', rfl, hD, hb2⟩
  · have hao : ao = some ⟨gv, 0, none⟩ ∧ cap = cap' := by simpa using hv
    obtain ⟨rfl, rfl⟩ := hao
    have HR : Hid (∀ (k : Nat) (hk : k < D.ws.length), w.rangeAt gv (k * 130) (cellsW D.ws[k])) := hrange
    clear hrange hv hc' HD
    go_wp2_with (go_at_call 32; refine hcl.mono ?_; rintro e w1 ⟨rfl, hm, hb⟩; have d0 := cell_keep hb c0; have d3 := cell_keep hb c3; clear c1 c2 c3 c4 fz hcl)
    go_loopw [24] (fun i wr => ∃ k : Nat, k ≤ done ∧ i = .int .i64 k ∧ CutMid w wr n k ks safe D) (fun i _ => done - (intOf i).toNat)
    case atStart => exact ⟨0, Nat.zero_le _, rfl, ⟨hm, hb⟩⟩
    case round =>
      obtain ⟨k, hk, rfl, hmid⟩ := hrel
      clear hm hb d0 d3
      by_cases h1 : k < done
      · have hkl : k < D.ws.length := by omega
        have r1 := rangeAt_keep hmid.b (HR.out k hkl)
        have hok := HO.out _ (List.getElem_mem hkl)
        have HP : Hid (∀ wb wc, Below wr.heap.size wr wb → SecMap wc w.heap.size (n + k + 1) (upd (cutF ks safe D.first (D.ws.take k)) D.ws[k].place D.ws[k].sec) → wb.grownBy wc (some w.heap.size) → leftB ks safe k = true → CutMid w wc n (k + 1) ks safe D) := fun wb wc a b c d => hmid.put hkl d a b c
        generalize D.ws[k] = x at *
        have hi63 : (Try.prog.info? 63).map (·.size) = some (cellsW x).length := by rw [infoWS, cellsW_len hok.len]
        have hi58 : (Try.prog.info? 58).map (·.size) = some (x.sec.map bv).length := by rw [infoSec]; simp [hok.len]
        have hbs := hmid.b.size
        have hml := hmid.m.lt
        have hz130 : (Value.int .i64 0 :: ((zsec.map bv) ++ [Value.int .i64 0])).toArray.size = 130 := by simp [zsec_len]
        by_cases h2 : k < safe
        · have hleft : leftB ks safe k = true := by simp [leftB, h2]
          have hkept : Hid (∀ wb, Bools wb vk ks → Calls Try.prog 33 #[vk, .int .i64 0] wb fun e w' => e = .returned (.bool (ks.getD 0 false)) ∧ w' = wb) := fun wb h => kept_any vk ks 0 wb h (by omega)
          go_wp2_with (first
            | (guard_target = wpList _ _ _ (Oper.mk _ (Op.load 63 _) _ _ _ _ :: _) _ _; refine wpList_load_mid rfl 63 _ rfl gv (k * 130) (by rfl) (cellsW x) _ r1 Try.underlying63 rfl hi63 ?_)
            | (guard_target = wpList _ _ _ (Oper.mk _ (Op.load 58 _) _ _ _ _ :: _) _ _; refine wpList_load_mid rfl 58 _ rfl wr.heap.size 1 (by rfl) (x.sec.map bv) _ hL1 Try.underlying58 rfl hi58 ?_)
            | (guard_target = wpList _ _ _ (Oper.mk _ (Op.alloc _) _ _ _ _ :: _) _ _; refine wp_allocW rfl rfl ?_; intro wa hwa; have hnewa : wa.heap[wr.heap.size]? = some (.cells (Value.int .i64 0 :: ((zsec.map bv) ++ [Value.int .i64 0])).toArray 63 (0, 0)) := by rw [hwa]; exact heap_alloc_new _ _
               have hba : Below wr.heap.size wr wa := by rw [hwa]; exact (Below.refl _ _).alloc (Nat.le_refl _) _
               have hla : wr.heap.size < wa.heap.size := by rw [hwa]; simp
               clear hwa)
            | (guard_target = wpList _ _ _ (Oper.mk _ (Op.store _ _ _) _ _ _ _ :: _) _ _; refine wp_storeW rfl _ _ rfl wr.heap.size x hok.len rfl rfl hnewa hz130 ?_; intro wb hrb hfb
               obtain ⟨hL0, hL1⟩ := cellsW_parts hrb.out
               have hbb : Below wr.heap.size wr wb := hba.trans (hfb.below (by omega) (fun j hj => by omega))
               have hmb := hmid.m.of_block (hbb.block _ hml)
               clear hnewa hba hla hfb hrb)
            | (go_at_call 33; refine (hkept.out _ (hk0.keep (hmid.b.trans (hbb.mono hbs)))).mono ?_; rintro e wx ⟨rfl, hwx⟩; rw [hwx]; clear hwx wx)
            | (at_mapUpdate; refine wp_updS rfl _ _ _ rfl w.heap.size (n + k) _ hmb (by omega) x.place hok.place x.sec hok.len rfl rfl rfl ?_; intro wc hmc hgc))
          go_roundw
          case rel => exact ⟨k + 1, by omega, by go_num, HP.out wb wc hbb hmc hgc hleft⟩
          case measure => simp [intOf]; omega
        · obtain ⟨q, hq⟩ : ∃ q : Nat, (k : Int) - (safe : Int) = (q : Int) := ⟨k - safe, by omega⟩
          have hq2 : k - safe = q := by omega
          cases hB : ks.getD q false
          · have hleft : leftB ks safe k = false := by simp only [leftB, hq2, hB]; simp; omega
            have hkept : Hid (∀ wb, Bools wb vk ks → Calls Try.prog 33 #[vk, .int .i64 q] wb fun e w' => e = .returned (.bool false) ∧ w' = wb) := fun wb h => by
              have h3 := kept_any vk ks q wb h (by omega)
              rw [hB] at h3; exact h3
            clear hB hq2
            go_wp2_with (first
              | (guard_target = wpList _ _ _ (Oper.mk _ (Op.load 63 _) _ _ _ _ :: _) _ _; refine wpList_load_mid rfl 63 _ rfl gv (k * 130) (by rfl) (cellsW x) _ r1 Try.underlying63 rfl hi63 ?_)
              | (guard_target = wpList _ _ _ (Oper.mk _ (Op.load 58 _) _ _ _ _ :: _) _ _; refine wpList_load_mid rfl 58 _ rfl wr.heap.size 1 (by rfl) (x.sec.map bv) _ hL1 Try.underlying58 rfl hi58 ?_)
              | (guard_target = wpList _ _ _ (Oper.mk _ (Op.alloc _) _ _ _ _ :: _) _ _; refine wp_allocW rfl rfl ?_; intro wa hwa; have hnewa : wa.heap[wr.heap.size]? = some (.cells (Value.int .i64 0 :: ((zsec.map bv) ++ [Value.int .i64 0])).toArray 63 (0, 0)) := by rw [hwa]; exact heap_alloc_new _ _
                 have hba : Below wr.heap.size wr wa := by rw [hwa]; exact (Below.refl _ _).alloc (Nat.le_refl _) _
                 have hla : wr.heap.size < wa.heap.size := by rw [hwa]; simp
                 clear hwa)
              | (guard_target = wpList _ _ _ (Oper.mk _ (Op.store _ _ _) _ _ _ _ :: _) _ _; refine wp_storeW rfl _ _ rfl wr.heap.size x hok.len rfl rfl hnewa hz130 ?_; intro wb hrb hfb
                 obtain ⟨hL0, hL1⟩ := cellsW_parts hrb.out
                 have hbb : Below wr.heap.size wr wb := hba.trans (hfb.below (by omega) (fun j hj => by omega))
                 have hmb := hmid.m.of_block (hbb.block _ hml)
                 clear hnewa hba hla hfb hrb)
              | (go_at_call 33; refine (hkept.out _ (hk0.keep (hmid.b.trans (hbb.mono hbs)))).mono ?_; rintro e wx ⟨rfl, hwx⟩; rw [hwx]; clear hwx wx)
              | (at_mapUpdate; refine wp_updS rfl _ _ _ rfl w.heap.size (n + k) _ hmb (by omega) x.place hok.place x.sec hok.len rfl rfl rfl ?_; intro wc hmc hgc))
            go_roundw
            case rel => exact ⟨k + 1, by omega, by go_num, hmid.skip hkl hleft hbb⟩
            case measure => simp [intOf]; omega
          · have hleft : leftB ks safe k = true := by simp only [leftB, hq2, hB]; simp
            have hkept : Hid (∀ wb, Bools wb vk ks → Calls Try.prog 33 #[vk, .int .i64 q] wb fun e w' => e = .returned (.bool true) ∧ w' = wb) := fun wb h => by
              have h3 := kept_any vk ks q wb h (by omega)
              rw [hB] at h3; exact h3
            clear hB hq2
            go_wp2_with (first
              | (guard_target = wpList _ _ _ (Oper.mk _ (Op.load 63 _) _ _ _ _ :: _) _ _; refine wpList_load_mid rfl 63 _ rfl gv (k * 130) (by rfl) (cellsW x) _ r1 Try.underlying63 rfl hi63 ?_)
              | (guard_target = wpList _ _ _ (Oper.mk _ (Op.load 58 _) _ _ _ _ :: _) _ _; refine wpList_load_mid rfl 58 _ rfl wr.heap.size 1 (by rfl) (x.sec.map bv) _ hL1 Try.underlying58 rfl hi58 ?_)
              | (guard_target = wpList _ _ _ (Oper.mk _ (Op.alloc _) _ _ _ _ :: _) _ _; refine wp_allocW rfl rfl ?_; intro wa hwa; have hnewa : wa.heap[wr.heap.size]? = some (.cells (Value.int .i64 0 :: ((zsec.map bv) ++ [Value.int .i64 0])).toArray 63 (0, 0)) := by rw [hwa]; exact heap_alloc_new _ _
                 have hba : Below wr.heap.size wr wa := by rw [hwa]; exact (Below.refl _ _).alloc (Nat.le_refl _) _
                 have hla : wr.heap.size < wa.heap.size := by rw [hwa]; simp
                 clear hwa)
              | (guard_target = wpList _ _ _ (Oper.mk _ (Op.store _ _ _) _ _ _ _ :: _) _ _; refine wp_storeW rfl _ _ rfl wr.heap.size x hok.len rfl rfl hnewa hz130 ?_; intro wb hrb hfb
                 obtain ⟨hL0, hL1⟩ := cellsW_parts hrb.out
                 have hbb : Below wr.heap.size wr wb := hba.trans (hfb.below (by omega) (fun j hj => by omega))
                 have hmb := hmid.m.of_block (hbb.block _ hml)
                 clear hnewa hba hla hfb hrb)
              | (go_at_call 33; refine (hkept.out _ (hk0.keep (hmid.b.trans (hbb.mono hbs)))).mono ?_; rintro e wx ⟨rfl, hwx⟩; rw [hwx]; clear hwx wx)
              | (at_mapUpdate; refine wp_updS rfl _ _ _ rfl w.heap.size (n + k) _ hmb (by omega) x.place hok.place x.sec hok.len rfl rfl rfl ?_; intro wc hmc hgc))
            go_roundw
            case rel => exact ⟨k + 1, by omega, by go_num, HP.out wb wc hbb hmc hgc hleft⟩
            case measure => simp [intOf]; omega
      · have hkd : k = done := by omega
        have d0 := cell_keep hmid.b c0
        subst hkd
        go_wp2_with (go_at_call 25; refine (cut_end hmid hd hsz hcnt).mono ?_; rintro e w2 ⟨c, F', rfl, hD, hb2⟩)
        go_ret
        exact ⟨c, F', rfl, hD, hb2⟩
end Go.Proofs.Ytggkclnnneoohaa

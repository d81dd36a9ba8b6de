/- The document's table of locks: drop, End, EndShort. -/
import Derived.Test.YtmldpbgdjlblmaaDoorL11F
namespace Go.Proofs.YtmldpbgdjlblmaaDoor
open Go.RowKit Go.Joins
set_option linter.unusedVariables false
set_option linter.unusedSimpArgs false

theorem infoQ : (Tryd.prog.info? 53).map (fun i => (i.zero, i.size, i.bytes)) = some (some (.agg #[.int .i64 0, .int .i64 0, .string ByteArray.empty, .string ByteArray.empty, .string ByteArray.empty, .bool false, .int .i64 0, .bool false, .bool false]), 9, 88) := by kernel_rfl
/-- append, to a row of requests, of one more. -/
theorem wp_appQ (w : World) {ops : Array Oper} {rest : List Oper} {o : Oper} {a : Act} {Q : Exit → Act → World → Prop} (hgd : o.guard = none) (s x : Operand)
    (ho : o.op = .call { callee := .builtin .append, args := #[s, x], argTypes := #[29, 29] })
    (base : Nat) (v : Value) (l : List Rq) (hs : a.eval s = v) (hown : OwnQ base w v l) (Bk : Nat) (r : Rq) (hx : a.eval x = .slice (some ⟨Bk, 0, none⟩) 1 1) (hB : w.heap[Bk]? = some (.cells (Rq.cells r).toArray 53 (0, 0))) (hl : l.length ≤ 1000000) (hbase : base ≤ w.heap.size)
    (h : ∀ g cap w', OwnQ base w' (.slice (some ⟨g, 0, none⟩) (l.length + 1) cap) (l ++ [r]) → w.grownBy w' v.ownBlock → (v.ownBlock = some g ∨ w.heap.size ≤ g) → wpList Tryd.prog ops Q rest (a.put o.dst (.slice (some ⟨g, 0, none⟩) (l.length + 1) cap)) w') : wpList Tryd.prog ops Q (o :: rest) a w := by
  obtain ⟨i0, hi, hz0, hz1, hz2⟩ := info_parts infoQ
  refine wpList_append_lies w hgd s x 29 ho base 53 i0 _ 9 88 Tryd.underlying29 hi hz0 hz1 hz2 rfl (by decide) v l.length (l.flatMap Rq.cells) hs hown ⟨Bk, 0, none⟩ 1 1 (Rq.cells r) hx rfl (World.news_of_block hB) (by intro u hu; simp [Rq.cells] at hu; rcases hu with rfl | rfl | rfl | rfl | rfl | rfl | rfl | rfl | rfl <;> rfl) (by decide) (by unfold maxLen; omega) (by omega) hbase w.heap.size rfl ?_
  intro g cap w' h1 h2 h3 _
  refine h g cap w' ?_ h2 (h3.imp (fun e => e) (fun e => by omega))
  show World.ownsRow _ _ _ _ _ _ _
  rw [List.length_append, List.length_singleton, List.flatMap_append]
  simpa using h1
theorem sizeQ : (Tryd.prog.info? 53).map (·.size) = some 9 := by kernel_rfl
theorem RqAt.range {w : World} {g k : Nat} {r : Rq} (h : RqAt w g k r) : w.rangeAt g (k * 9) (Rq.cells r) := by
  obtain ⟨q0, q1, q2, q3, q4, q5, q6, q7, q8⟩ := h
  intro j u hu
  match j with
  | 0 => simp [Rq.cells] at hu; subst hu; exact q0
  | 1 => simp [Rq.cells] at hu; subst hu; exact q1
  | 2 => simp [Rq.cells] at hu; subst hu; exact q2
  | 3 => simp [Rq.cells] at hu; subst hu; exact q3
  | 4 => simp [Rq.cells] at hu; subst hu; exact q4
  | 5 => simp [Rq.cells] at hu; subst hu; exact q5
  | 6 => simp [Rq.cells] at hu; subst hu; exact q6
  | 7 => simp [Rq.cells] at hu; subst hu; exact q7
  | 8 => simp [Rq.cells] at hu; subst hu; exact q8
  | j + 9 => simp [Rq.cells] at hu
/-- Another row is the table's. -/
theorem QOwn.row_ {base : Nat} {w : World} {t : Nat} {most : Int} {lv nv : Value} {L N : List Rq} (h : QOwn base w t most lv L) (hr : OwnQ base w nv N) (hn : nv.ownBlock ≠ some t) : QOwn base (w.setCell ⟨t, 1, none⟩ nv) t most nv N := by
  have hf := fr_set w t 1 nv
  refine ⟨?_, hr.of_block (fun c hc => hf.block c (hr.lo c hc).2 (fun e => hn (by rw [hc, e]))), hn, h.lo⟩
  rw [heap_setCell_same w t 1 _ _ _ h.tb]
  rfl
theorem filter_take_succ {L : List Rq} {p : Rq → Bool} {k : Nat} (hk : k < L.length) : (L.take (k + 1)).filter p = (L.take k).filter p ++ (if p L[k] then [L[k]] else []) := by
  rw [List.take_succ_eq_append_getElem hk, List.filter_append]
  congr 1
  by_cases h : p L[k] = true <;> simp [h]
set_option maxRecDepth 100000 in
set_option maxHeartbeats 8000000 in
theorem rdrop_any {base : Nat} {w : World} {t : Nat} {most : Int} {lv : Value} {L : List Rq} (h : QOwn base w t most lv L) (hl : L.length ≤ 100000) (hbw : base ≤ w.heap.size) (tx : Int) (all : Bool) :
    Calls Tryd.prog 41 #[.pointer (some ⟨t, 0, none⟩), .int .i64 tx, .bool all] w fun e w' => ∃ ao m cp lv', e = .returned (.slice ao m cp) ∧ w'.ownsRow w.heap.size 3 1 (.slice ao m cp) (endF L tx all).2.length ((endF L tx all).2.map (Value.int .i64)) ∧ QOwn base w' t most lv' (endF L tx all).1 ∧ Fr w w' (fun i => i = t) ∧ (∀ c, lv'.ownBlock = some c → w.heap.size ≤ c) := by
  have ht0 : t < w.heap.size := (Array.getElem?_eq_some_iff.1 h.tb).1
  have HO : Hid (QOwn base w t most lv L) := h
  have HZ : Hid (OwnQ w.heap.size w (.slice none 0 0) ((L.take 0).filter (stays tx all))) := Row.nil_ _ _ _ _ _
  clear h
  go_enter Tryd.func41, Tryd.ntmps41
  go_wp2_with fail
  go_loopw [7, 8] (fun sv x wr => ∃ (k : Nat) (so : Option Addr) (sn sc : Nat), sv = .slice so sn sc ∧ x = .int .i64 k ∧ k ≤ L.length ∧ Hid (OwnQ w.heap.size wr (.slice so sn sc) ((L.take k).filter (stays tx all))) ∧ Hid (Below w.heap.size w wr)) (fun _ x _ => L.length - (intOf x).toNat)
  case atStart => exact ⟨0, none, 0, 0, rfl, rfl, Nat.zero_le _, HZ, Below.refl _ _⟩
  case round =>
    rename World => wr
    obtain ⟨k, so, sn, sc, rfl, rfl, hk, HR, HB⟩ := hrel
    clear HZ
    obtain ⟨ao, cap, hlv, hT⟩ := (HO.out.keepB HB.out).tab
    have c1 := hT.l
    have hle := hT.le
    by_cases hlt : k < L.length
    · have tk : decide ((k : Int) < (L.length : Int)) = true := decide_eq_true (by omega)
      have hk2 : (k : Int) < (L.length : Int) := by omega
      obtain ⟨g, hao, hq⟩ := hT.at_ hlt
      subst hao
      have hsu := filter_take_succ (p := stays tx all) hlt
      have hfl : ((L.take k).filter (stays tx all)).length ≤ 1000000 := by
        have h1 := List.length_filter_le (stays tx all) (L.take k)
        have h2 : (L.take k).length ≤ L.length := by rw [List.length_take]; omega
        omega
      clear hT
      cases hst : stays tx all L[k] with
      | true =>
        rw [hst, if_pos rfl] at hsu
        have hsn := Row.len HR.out
        subst hsn
        have hrg := hq.range
        generalize L[k] = x at *
        obtain ⟨xt, ⟨sa, ta, la, ua, na⟩, xm, xg, xs⟩ := x
        obtain ⟨q0, q1, q2, q3, q4, q5, q6, q7, q8⟩ := hq
        simp only at q0 q7 q8
        have HSU : Hid ((L.take (k + 1)).filter (stays tx all) = (L.take k).filter (stays tx all) ++ [⟨xt, ⟨sa, ta, la, ua, na⟩, xm, xg, xs⟩]) := hsu
        have hrA : OwnQ w.heap.size (wr.alloc (.cells #[.int .i64 xt, .int .i64 sa, .string ta, .string la, .string ua, .bool na, .int .i64 xm, .bool xg, .bool xs] 53)) (.slice so ((L.take k).filter (stays tx all)).length sc) ((L.take k).filter (stays tx all)) := World.ownsRow.alloc HR.out _
        have hnA := heap_alloc_new wr (.cells #[.int .i64 xt, .int .i64 sa, .string ta, .string la, .string ua, .bool na, .int .i64 xm, .bool xg, .bool xs] 53)
        have hbA : Below wr.heap.size wr (wr.alloc (.cells #[.int .i64 xt, .int .i64 sa, .string ta, .string la, .string ua, .bool na, .int .i64 xm, .bool xg, .bool xs] 53)) := (Below.refl _ _).alloc (Nat.le_refl _) _
        have hsA : w.heap.size ≤ (wr.alloc (.cells #[.int .i64 xt, .int .i64 sa, .string ta, .string la, .string ua, .bool na, .int .i64 xm, .bool xg, .bool xs] 53)).heap.size := Nat.le_trans HB.out.size hbA.size
        have HST : Hid (∀ (w3 : World) (g' cp' : Nat), OwnQ w.heap.size w3 (.slice (some ⟨g', 0, none⟩) (((L.take k).filter (stays tx all)).length + 1) cp') ((L.take k).filter (stays tx all) ++ [⟨xt, ⟨sa, ta, la, ua, na⟩, xm, xg, xs⟩]) → (wr.alloc (.cells #[.int .i64 xt, .int .i64 sa, .string ta, .string la, .string ua, .bool na, .int .i64 xm, .bool xg, .bool xs] 53)).grownBy w3 (Value.slice so ((L.take k).filter (stays tx all)).length sc).ownBlock → OwnQ w.heap.size w3 (.slice (some ⟨g', 0, none⟩) (((L.take k).filter (stays tx all)).length + 1) cp') ((L.take (k + 1)).filter (stays tx all)) ∧ Below w.heap.size w w3) := fun w3 g' cp' g1 g2 => by
          rw [HSU.out]
          have hf : Fr (wr.alloc (.cells #[.int .i64 xt, .int .i64 sa, .string ta, .string la, .string ua, .bool na, .int .i64 xm, .bool xg, .bool xs] 53)) w3 (fun i => (Value.slice so ((L.take k).filter (stays tx all)).length sc).ownBlock = some i) := Fr.of_grown g2 (fun i hi => hi)
          exact ⟨g1, (HB.out.trans (hbA.mono HB.out.size)).trans (hf.below hsA (fun i hi => (HR.out.lo i hi).1))⟩
        have hstc : (¬ (xt = tx) ∧ (xt != tx) = true ∧ (xt == tx) = false) ∨ (xt = tx ∧ all = false ∧ xg = false) ∨ (xt = tx ∧ all = false ∧ xg = true ∧ xs = false) := by
          by_cases e : xt = tx
          · right
            cases all <;> cases xg <;> cases xs <;> simp_all [stays]
          · exact Or.inl ⟨e, by simpa using e, by simpa using e⟩
        clear hst hsu HSU HR hbA
        generalize (L.take k).filter (stays tx all) = F at *
        rcases hstc with ⟨hx, hx2, hx3⟩ | ⟨rfl, rfl, rfl⟩ | ⟨rfl, rfl, rfl, rfl⟩
        · go_wp2_with (first
            | (guard_target = wpList _ _ _ (Oper.mk _ (Op.load 53 _) _ _ _ _ :: _) _ _; refine wpList_load_mid rfl 53 _ rfl g (k * 9) (by rfl) _ _ hrg Tryd.underlying53 rfl sizeQ ?_)
            | (at_builtin; refine wp_appQ _ rfl _ _ rfl w.heap.size _ F rfl hrA wr.heap.size ⟨xt, ⟨sa, ta, la, ua, na⟩, xm, xg, xs⟩ rfl hnA hfl hsA ?_))
          intro g' cp' w3 g1 g2 g3
          obtain ⟨hR3, hB3⟩ := HST.out w3 g' cp' g1 g2
          clear g1 g2 g3 HST hrA hnA hsA
          go_wp2_with fail
          go_roundw
          case rel => exact ⟨k + 1, _, _, _, rfl, by go_num, by omega, hR3, hB3⟩
          case measure => simp [intOf]; omega
        · go_wp2_with (first
            | (guard_target = wpList _ _ _ (Oper.mk _ (Op.load 53 _) _ _ _ _ :: _) _ _; refine wpList_load_mid rfl 53 _ rfl g (k * 9) (by rfl) _ _ hrg Tryd.underlying53 rfl sizeQ ?_)
            | (at_builtin; refine wp_appQ _ rfl _ _ rfl w.heap.size _ F rfl hrA wr.heap.size ⟨xt, ⟨sa, ta, la, ua, na⟩, xm, false, xs⟩ rfl hnA hfl hsA ?_))
          intro g' cp' w3 g1 g2 g3
          obtain ⟨hR3, hB3⟩ := HST.out w3 g' cp' g1 g2
          clear g1 g2 g3 HST hrA hnA hsA
          go_wp2_with fail
          go_roundw
          case rel => exact ⟨k + 1, _, _, _, rfl, by go_num, by omega, hR3, hB3⟩
          case measure => simp [intOf]; omega
        · go_wp2_with (first
            | (guard_target = wpList _ _ _ (Oper.mk _ (Op.load 53 _) _ _ _ _ :: _) _ _; refine wpList_load_mid rfl 53 _ rfl g (k * 9) (by rfl) _ _ hrg Tryd.underlying53 rfl sizeQ ?_)
            | (at_builtin; refine wp_appQ _ rfl _ _ rfl w.heap.size _ F rfl hrA wr.heap.size ⟨xt, ⟨sa, ta, la, ua, na⟩, xm, true, false⟩ rfl hnA hfl hsA ?_))
          intro g' cp' w3 g1 g2 g3
          obtain ⟨hR3, hB3⟩ := HST.out w3 g' cp' g1 g2
          clear g1 g2 g3 HST hrA hnA hsA
          go_wp2_with fail
          go_roundw
          case rel => exact ⟨k + 1, _, _, _, rfl, by go_num, by omega, hR3, hB3⟩
          case measure => simp [intOf]; omega
      | false =>
        rw [hst, if_neg (by simp), List.append_nil] at hsu
        have HR2 : Hid (OwnQ w.heap.size wr (.slice so sn sc) ((L.take (k + 1)).filter (stays tx all))) := by rw [hsu]; exact HR.out
        simp only [stays, Bool.or_eq_false_iff, decide_eq_false_iff_not, Bool.and_eq_false_iff, Bool.not_eq_false', Decidable.not_not, Bool.and_eq_true] at hst
        obtain ⟨hx, hst⟩ := hst
        have q0 := hq.c0
        have q7 := hq.c7
        have q8 := hq.c8
        rw [hx] at q0
        clear hq hsu HR
        cases all with
        | true =>
          clear hst
          go_wp2_with fail
          go_roundw
          case rel => exact ⟨k + 1, so, sn, sc, rfl, by go_num, by omega, HR2, HB⟩
          case measure => simp [intOf]; omega
        | false =>
          have hst2 : L[k].gr = true ∧ L[k].sh = true := by simpa using hst
          rw [hst2.1] at q7
          rw [hst2.2] at q8
          clear hst hst2
          go_wp2_with fail
          go_roundw
          case rel => exact ⟨k + 1, so, sn, sc, rfl, by go_num, by omega, HR2, HB⟩
          case measure => simp [intOf]; omega
    · have tk : decide ((k : Int) < (L.length : Int)) = false := decide_eq_false (by omega)
      obtain rfl : k = L.length := by omega
      have hRF : OwnQ w.heap.size wr (.slice so sn sc) (L.filter (stays tx all)) := by have := HR.out; rwa [List.take_length] at this
      have hnt : (Value.slice so sn sc).ownBlock ≠ some t := fun e => by have := (hRF.lo t e).1; omega
      have hQ : QOwn base (wr.setCell ⟨t, 1, none⟩ (.slice so sn sc)) t most (.slice so sn sc) (L.filter (stays tx all)) := (HO.out.keepB HB.out).row_ (own_base hRF hbw) hnt
      have hfl : (L.filter (stays tx all)).length ≤ 100000 := Nat.le_trans (List.length_filter_le _ _) hl
      have hwk := rwake_any hQ hfl
      have hfz : wr.frozen? ⟨t, 1, none⟩ = false := frozen_row (HO.out.keepB HB.out).tb 1
      have hfs := fr_set wr t 1 (.slice so sn sc)
      have hsz : (wr.setCell ⟨t, 1, none⟩ (.slice so sn sc)).heap.size = wr.heap.size := by simp [World.setCell]
      have HFR : Hid (Fr w (wr.setCell ⟨t, 1, none⟩ (.slice so sn sc)) (fun i => i = t)) := (Fr.of_below HB.out).trans hfs (fun i hi => Or.inl hi)
      have HLO : Hid (∀ c, (Value.slice so sn sc).ownBlock = some c → w.heap.size ≤ c) := fun c hc => (hRF.lo c hc).1
      have HSZ : Hid (w.heap.size ≤ (wr.setCell ⟨t, 1, none⟩ (.slice so sn sc)).heap.size) := by show _ ≤ _; rw [hsz]; exact HB.out.size
      clear hT hRF hQ hfs hsz HR
      go_wp2_with fail
      refine hwk.mono ?_
      clear hwk
      rintro e w5 ⟨a5, m5, c5, rfl, g1, g2, g3⟩
      have HF : Hid (∃ ao m cp lv', Ending.returned (.slice a5 m5 c5) = .returned (.slice ao m cp) ∧ w5.ownsRow w.heap.size 3 1 (.slice ao m cp) (endF L tx all).2.length ((endF L tx all).2.map (Value.int .i64)) ∧ QOwn base w5 t most lv' (endF L tx all).1 ∧ Fr w w5 (fun i => i = t) ∧ (∀ c, lv'.ownBlock = some c → w.heap.size ≤ c)) := ⟨a5, m5, c5, _, rfl, own_base g1 HSZ.out, g2, HFR.out.trans g3 (fun i hi => Or.inr (HLO.out i hi)), HLO.out⟩
      clear g1 g2 g3
      go_wp2_with fail
      go_ret
      exact HF.out
theorem rend_any {base : Nat} {w : World} {t : Nat} {most : Int} {lv : Value} {L : List Rq} (h : QOwn base w t most lv L) (hl : L.length ≤ 100000) (hbw : base ≤ w.heap.size) (tx : Int) :
    Calls Tryd.prog 15 #[.pointer (some ⟨t, 0, none⟩), .int .i64 tx] w fun e w' => ∃ ao m cp lv', e = .returned (.slice ao m cp) ∧ w'.ownsRow w.heap.size 3 1 (.slice ao m cp) (endF L tx true).2.length ((endF L tx true).2.map (Value.int .i64)) ∧ QOwn base w' t most lv' (endF L tx true).1 ∧ Fr w w' (fun i => i = t) ∧ (∀ c, lv'.ownBlock = some c → w.heap.size ≤ c) := by
  have hd := rdrop_any h hl hbw tx true
  clear h
  go_enter Tryd.func15, Tryd.ntmps15
  go_wp2_with fail
  refine hd.mono ?_
  clear hd
  rintro e w2 ⟨ao, m, cp, lv', rfl, q⟩
  go_wp2_with fail
  go_ret
  exact ⟨ao, m, cp, lv', rfl, q⟩
theorem rendS_any {base : Nat} {w : World} {t : Nat} {most : Int} {lv : Value} {L : List Rq} (h : QOwn base w t most lv L) (hl : L.length ≤ 100000) (hbw : base ≤ w.heap.size) (tx : Int) :
    Calls Tryd.prog 17 #[.pointer (some ⟨t, 0, none⟩), .int .i64 tx] w fun e w' => ∃ ao m cp lv', e = .returned (.slice ao m cp) ∧ w'.ownsRow w.heap.size 3 1 (.slice ao m cp) (endF L tx false).2.length ((endF L tx false).2.map (Value.int .i64)) ∧ QOwn base w' t most lv' (endF L tx false).1 ∧ Fr w w' (fun i => i = t) ∧ (∀ c, lv'.ownBlock = some c → w.heap.size ≤ c) := by
  have hd := rdrop_any h hl hbw tx false
  clear h
  go_enter Tryd.func17, Tryd.ntmps17
  go_wp2_with fail
  refine hd.mono ?_
  clear hd
  rintro e w2 ⟨ao, m, cp, lv', rfl, q⟩
  go_wp2_with fail
  go_ret
  exact ⟨ao, m, cp, lv', rfl, q⟩
end Go.Proofs.YtmldpbgdjlblmaaDoor

/- The walk of the law HeapKeeps. -/
import Derived.Test.YtmhmmnojmcngfaaH8X
import Derived.Deep.CutBlock
import Derived.Deep.DeepCutAuto
namespace Go.Proofs.Ytmhmmnojmcngfaa
open Go.RowKit Go.Maps
set_option linter.unusedVariables false
set_option linter.unusedSimpArgs false

/-- The heap and the list between two rounds. -/
def KR (base : Nat) (w : World) (hv : Value) (n T : Nat) (lv : Value) (m : Nat) : Prop := ∃ (R : Nat → List (List UInt8)) (L : List KV), KS base w.heap.size w hv n R T lv L ∧ KeepP n R (L.map kvp) ∧ L.length ≤ m
theorem Box8.range {w : World} {B : Nat} {x : Op8} (h : Box8 w B x) : w.rangeAt B 0 (cells8 x) := fun j u hu => by
  rw [Nat.zero_add, cell_of_row w _ _ _ _ _ h.hb]
  simpa [cells8] using hu
theorem KS.row {base S : Nat} {w : World} {hv : Value} {n : Nat} {R : Nat → List (List UInt8)} {t : Nat} {lv : Value} {L : List KV} (h : KS base S w hv n R t lv L) : w.ownsRow base 48 2 lv L.length (L.flatMap kvc) := by
  obtain ⟨F, hA, row, off, vs, lt, le⟩ := h; exact row
theorem infoKV : (Try.prog.info? 48).map (fun i => (i.zero, i.size, i.bytes)) = some (some (.agg #[.int .i64 0, .slice none 0 0]), 2, 32) := by kernel_rfl
theorem KS.cellAt {base S : Nat} {w : World} {hv : Value} {n : Nat} {R : Nat → List (List UInt8)} {t : Nat} {g m cp : Nat} {L : List KV} (h : KS base S w hv n R t (.slice (some ⟨g, 0, none⟩) m cp) L) {k : Nat} (hk : k < L.length) : w.cell? ⟨g, 2 * k, none⟩ = some (.int .i64 L[k].id) ∧ w.cell? ⟨g, 2 * k + 1, none⟩ = some L[k].v ∧ w.frozen? ⟨g, 2 * k + 1, none⟩ = false := by
  obtain ⟨ao, cap, hv, hc, h0 | ⟨g', e, h'⟩⟩ := h.form
  · rw [h0] at hk; simp at hk
  · simp only [Value.slice.injEq] at hv
    rw [← hv.1] at e
    simp only [Option.some.injEq, Addr.mk.injEq, and_true] at e
    rw [e]; exact h' k hk
theorem KS.cell2 {base S : Nat} {w : World} {hv : Value} {n : Nat} {R : Nat → List (List UInt8)} {t : Nat} {g m cp : Nat} {L : List KV} (h : KS base S w hv n R t (.slice (some ⟨g, 0, none⟩) m cp) L) {k : Nat} (hk : k < L.length) : w.cell? ⟨g, k * 2, none⟩ = some (.int .i64 L[k].id) ∧ w.cell? ⟨g, k * 2 + 1, none⟩ = some L[k].v ∧ w.frozen? ⟨g, k * 2 + 1, none⟩ = false := by
  rw [Nat.mul_comm k 2]; exact h.cellAt hk
/-- What is known of a record of the list. -/
theorem KeepP.at {n : Nat} {R : Nat → List (List UInt8)} {L : List KV} (h : KeepP n R (L.map kvp)) {k : Nat} (hk : k < L.length) : (0 ≤ L[k].id ∧ L[k].id < n * 256) ∧ getE n R L[k].id = 0 ∧ getB n R L[k].id = L[k].b := by
  have hm : kvp L[k] ∈ L.map kvp := List.mem_map.2 ⟨_, List.getElem_mem hk, rfl⟩
  have hT : ThereR n R L[k].id := h.there hm
  exact ⟨HeapAt.there_lt hT, by unfold getE; rw [if_pos hT], (h.here _ hm).2⟩
theorem KS.ptr {base S : Nat} {w : World} {hv : Value} {n : Nat} {R : Nat → List (List UInt8)} {t : Nat} {lo : Option Addr} {m cp : Nat} {L : List KV} (h : KS base S w hv n R t (.slice lo m cp) L) (hL : 0 < L.length) : ∃ g, lo = some ⟨g, 0, none⟩ := by
  obtain ⟨ao, cap, hv, hc, h0 | ⟨g', e, h'⟩⟩ := h.form
  · rw [h0] at hL; simp at hL
  · simp only [Value.slice.injEq] at hv
    exact ⟨g', hv.1.trans e⟩
theorem kvc_one (L : List KV) (h : ∀ x ∈ L, x.v.oneCell' = true) : ∀ u ∈ L.flatMap kvc, u.oneCell' = true := by
  intro u hu
  obtain ⟨x, hx, hu⟩ := List.mem_flatMap.1 hu
  simp only [kvc, List.mem_cons, List.not_mem_nil, or_false] at hu
  rcases hu with rfl | rfl
  · rfl
  · exact h x hx
theorem kvc_take (L : List KV) (j : Nat) : (L.take j).flatMap kvc = (L.flatMap kvc).take (j * 2) := by
  induction L generalizing j with
  | nil => simp
  | cons x r ih =>
    cases j with
    | zero => simp
    | succ j =>
      rw [List.take_succ_cons, List.flatMap_cons, List.flatMap_cons, ih, show (j + 1) * 2 = (kvc x).length + j * 2 by show _ = 2 + _; omega, List.take_length_add_append]
theorem kvc_drop (L : List KV) (j : Nat) : (L.drop j).flatMap kvc = (L.flatMap kvc).drop (j * 2) := by
  induction L generalizing j with
  | nil => simp
  | cons x r ih =>
    cases j with
    | zero => simp
    | succ j =>
      rw [List.drop_succ_cons, List.flatMap_cons, ih, show (j + 1) * 2 = (kvc x).length + j * 2 by show _ = 2 + _; omega, List.drop_length_add_append]
theorem KS.one {base S : Nat} {w : World} {hv : Value} {n : Nat} {R : Nat → List (List UInt8)} {t : Nat} {lv : Value} {L : List KV} (h : KS base S w hv n R t lv L) : ∀ x ∈ L, x.v.oneCell' = true := by
  intro x hx
  obtain ⟨ao, cap, e, _⟩ := (h.bytes hx).form
  rw [e]; rfl
theorem KS.cellN {base S : Nat} {w : World} {hv : Value} {n : Nat} {R : Nat → List (List UInt8)} {t : Nat} {g m cp : Nat} {L : List KV} (h : KS base S w hv n R t (.slice (some ⟨g, 0, none⟩) m cp) L) {i : Nat} {u : Value} (hu : (L.flatMap kvc)[i]? = some u) : w.cell? ⟨g, i, none⟩ = some u := by
  have := World.ownsRow.cells h.row (g := g) rfl i u hu
  rwa [Addr.add_mid, Nat.zero_add] at this
theorem app0K (w : World) (ty : TypeId) (so : Option Addr) (sn sc : Nat) (hs : sn ≤ sc) (hn : so = none → sn = 0 ∧ sc = 0) (vo : Option Addr) (vc : Nat) : (Builtin.append_ #[43, 43] ty #[.slice so sn sc, .slice vo 0 vc]).run Try.prog w = .ok (.slice so sn sc) w := by
  obtain ⟨i0, hi, hz0, hz1, hz2⟩ := info_parts infoKV
  cases so with
  | none =>
    obtain ⟨rfl, rfl⟩ := hn rfl
    cases vo with
    | none => simp [Builtin.append_, run_underlying Try.underlying43, sizeOf, typeInfo, hi, Builtin.lenOf, Builtin.firstCells, storeCells]
    | some ad => simp [Builtin.append_, run_underlying Try.underlying43, sizeOf, typeInfo, hi, Builtin.lenOf, Builtin.firstCells, storeCells, loadCells, loadCellsFrom]
  | some a =>
    cases vo with
    | none => simp [Builtin.append_, run_underlying Try.underlying43, sizeOf, typeInfo, hi, Builtin.lenOf, Builtin.firstCells, storeCells, hs]
    | some ad => simp [Builtin.append_, run_underlying Try.underlying43, sizeOf, typeInfo, hi, Builtin.lenOf, Builtin.firstCells, storeCells, loadCells, loadCellsFrom, hs]
/-- append to a row of records, of none or of some. -/
theorem wp_appK (w : World) {ops : Array Oper} {rest : List Oper} {o : Oper} {a : Act} {Q : Exit → Act → World → Prop} (hgd : o.guard = none) (s x : Operand)
    (ho : o.op = .call { callee := .builtin .append, args := #[s, x], argTypes := #[43, 43] }) (base : Nat) (v : Value) (n : Nat) (xs : List Value) (hs : a.eval s = v) (hown : w.ownsRow base 48 2 v n xs)
    (ad : Addr) (m c : Nat) (news : List Value) (hx : a.eval x = .slice (some ad) m c) (hl : news.length = m * 2) (hnews : ∀ j u, news[j]? = some u → w.cell? (ad.add j) = some u) (h1 : ∀ u ∈ news, u.oneCell' = true) (hnm : n + m ≤ 1000000) (hbase : base ≤ w.heap.size)
    (h : ∀ so sn sc w', sn = n + m → w'.ownsRow base 48 2 (.slice so sn sc) (n + m) (xs ++ news) → w.grownBy w' v.ownBlock → ((Value.slice so sn sc).ownBlock = v.ownBlock ∨ ∀ c, (Value.slice so sn sc).ownBlock = some c → w.heap.size ≤ c) → wpList Try.prog ops Q rest (a.put o.dst (.slice so sn sc)) w') : wpList Try.prog ops Q (o :: rest) a w := by
  rcases Nat.eq_zero_or_pos m with hm | hm
  · subst hm
    have hn0 : news = [] := List.eq_nil_of_length_eq_zero (by omega)
    obtain ⟨so, sn, sc, hv, hsn, hle, hno⟩ : ∃ so sn sc, v = .slice so sn sc ∧ sn = n ∧ sn ≤ sc ∧ (so = none → sn = 0 ∧ sc = 0) := by
      rcases hown.2 with ⟨hv, hn⟩ | ⟨g, cap, cur, hv, _, _, hc, _⟩
      · exact ⟨none, 0, 0, hv, hn.symm, Nat.le_refl _, fun _ => ⟨rfl, rfl⟩⟩
      · exact ⟨some ⟨g, 0, none⟩, n, cap, hv, rfl, hc, fun e => by cases e⟩
    subst hv
    have := h so sn sc w (by omega) (by rw [hn0, List.append_nil]; exact hown) (World.grownBy.refl _ _) (Or.inl rfl)
    refine wpList_plain hgd fun K hK => ?_
    unfold Oper.wp execOp
    simp only [ho, resolve, invoke, builtin, Sem.run_bind, Sem.run_pure, Result.andThen_ok, List.map_toArray, List.map_cons, List.map_nil, hs, hx, app0K w _ so sn sc hle hno]
    exact hK _ _ this
  · obtain ⟨i0, hi, hz0, hz1, hz2⟩ := info_parts infoKV
    refine wpList_append_lies w hgd s x 43 ho base 48 i0 (.agg #[.int .i64 0, .slice none 0 0]) 2 32 Try.underlying43 hi hz0 hz1 hz2 rfl (by decide) v n xs hs hown ad m c news hx hl hnews h1 hm (by unfold maxLen; omega) (by omega) hbase _ rfl ?_
    intro g cap w' h2 h3 h4 h5
    refine h _ _ _ w' rfl h2 h3 ?_
    rcases h4 with e | e
    · exact Or.inl (by rw [e]; rfl)
    · exact Or.inr (fun c hc => by simp [Value.ownBlock] at hc; omega)
/-- The list without its j-th, as a row of its own. -/
theorem keep_drop {base : Nat} {w w5 w6 w7 : World} {hv : Value} {n T k j : Nat} {R5 : Nat → List (List UInt8)} {t : Nat} {lv : Value} {L : List KV} {so so7 : Option Addr} {sc sn7 sc7 : Nat} (hK5 : KS base w5.heap.size w5 hv n R5 t lv L) (hB5 : Below base w w5) (hD : KeepP n R5 ((L.map kvp).eraseIdx j)) (hb6 : Below w5.heap.size w5 w6) (hO6 : w6.ownsRow w5.heap.size 48 2 (.slice so j sc) j ((L.take j).flatMap kvc)) (hown7 : w7.ownsRow w5.heap.size 48 2 (.slice so7 sn7 sc7) (j + (L.length - (j + 1))) ((L.take j).flatMap kvc ++ (L.drop (j + 1)).flatMap kvc)) (hgr7 : w6.grownBy w7 (Value.slice so j sc).ownBlock) (hj : j < L.length) (hk : L.length ≤ k + 1) (ht : t ≤ T) (hbw : base ≤ w5.heap.size) : KR base w7 hv n T (.slice so7 sn7 sc7) (k + 1) ∧ Below base w w7 := by
  have hb67 : Below w5.heap.size w6 w7 := (Fr.of_grown (F := fun i => (Value.slice so j sc).ownBlock = some i) hgr7 (fun i h => h)).below hb6.size (fun i hi => (World.ownsRow.lt hO6 i hi).1)
  have hb7 : Below w5.heap.size w5 w7 := hb6.trans hb67
  have hlen : (L.take j ++ L.drop (j + 1)).length = j + (L.length - (j + 1)) := by rw [List.length_append, List.length_take, List.length_drop]; omega
  refine ⟨⟨R5, L.take j ++ L.drop (j + 1), ?_, ?_, by omega⟩, hB5.trans (hb7.mono hbw)⟩
  · refine (hK5.drop (fun x hx => ?_) (by rw [hlen, List.flatMap_append]; exact own_base hown7 hbw) hb7 (fun c hc => (World.ownsRow.lt hown7 c hc).1)).le ht
    rcases List.mem_append.1 hx with hx | hx
    · exact List.mem_of_mem_take hx
    · exact List.mem_of_mem_drop hx
  · rw [List.map_append, List.map_take, List.map_drop, ← List.eraseIdx_eq_take_drop_succ]
    exact hD
set_option maxRecDepth 100000 in
set_option maxHeartbeats 20000000 in
theorem keeps_law (pages : Int) (v : Value) (rs : List Op8) (w : World) (hpa : -9223372036854775808 ≤ pages ∧ pages ≤ 9223372036854775807) (hv : Ops8 w v rs) (hok : ∀ x ∈ rs, Op8Ok w x) (hlen : rs.length ≤ 1048576) :
    Calls Try.prog 4 #[.int .i64 pages, v] w fun e w' => e = .returned (.bool true) ∧ Below w.heap.size w w' := by
  obtain ⟨ao, cap, rfl, hcap, hcl⟩ := hv
  have HOK : Hid (∀ x ∈ rs, Op8Ok w x) := hok
  have HCL : Hid (rs = [] ∨ ∃ g o, ao = some ⟨g, o, none⟩ ∧ ∀ k (h : k < rs.length), w.rangeAt g (o + k * 5) (cells8 rs[k])) := hcl
  clear hok hcl
  have hp1 := pick8 pages 3 w hpa (by omega) (by omega)
  have hq1 := pickN_lt pages 3 (by omega)
  obtain ⟨n, hn⟩ : ∃ n, 1 + pickN pages 3 = n := ⟨_, rfl⟩
  have hn' : (1 : Int) + (pickN pages 3 : Int) = (n : Int) := by omega
  have hn4 : 1 ≤ n ∧ n ≤ 3 := by omega
  have hm1 := made_any n 2 (by omega) (by omega) w
  clear hn hq1
  go_enter Try.func4, Try.ntmps4
  go_wp2_with (go_at_call 7; refine hp1.mono ?_; clear hp1; rintro e wx ⟨rfl, hwx⟩; rw [hwx]; clear hwx wx)
  refine hm1.mono ?_
  clear hm1
  rintro e w1 ⟨ga, Fa, rfl, hA, hb1⟩
  have HK1 : Hid (KS w.heap.size w1.heap.size w1 (.pointer (some ⟨ga, 0, none⟩)) n (fun _ => []) (n + n) (.slice none 0 0) []) := KS.start hA
  have hal := alive_any w1
  clear hA
  go_wp2_with fail
  refine hal.mono ?_
  clear hal
  rintro e w3 ⟨rfl, hb3⟩
  have hb03 : Below w.heap.size w w3 := hb1.trans (hb3.mono hb1.size)
  have HM4 : Hid (KR w.heap.size w3 (.pointer (some ⟨ga, 0, none⟩)) n (10 + 150 * 0) (.slice none 0 0) 0) := ⟨_, [], (HK1.out.keepB hb3).up.le (by omega), KeepP.nil n, Nat.le_refl _⟩
  clear HK1 hb1 hb3
  go_wp2
  go_loopw [6, 7] (fun lv i wr => ∃ (k : Nat) (lo : Option Addr) (lm lc : Nat), k ≤ rs.length ∧ k ≤ 120 ∧ i = .int .i64 k ∧ lv = .slice lo lm lc ∧ Hid (KR w.heap.size wr (.pointer (some ⟨ga, 0, none⟩)) n (10 + 150 * k) (.slice lo lm lc) k) ∧ Below w.heap.size w wr) (fun _ i _ => rs.length - (intOf i).toNat)
  case atStart => exact ⟨0, none, 0, 0, Nat.zero_le _, Nat.zero_le _, rfl, rfl, HM4.out, hb03⟩
  case round =>
    obtain ⟨k, lo, lm, lc, hk, hk100, rfl, rfl, HR, hbr⟩ := hrel
    clear HM4 hb03
    by_cases h1 : k < rs.length ∧ k < 120
    · obtain ⟨h1a, h1b⟩ := h1
      have t8 : decide ((k : Int) < (rs.length : Int)) = true := by simpa using h1a
      have t9 : decide ((k : Int) < 120) = true := by simp; omega
      obtain ⟨g, o, rfl, hrb⟩ := ops_at HCL.out h1a hbr
      have ho := HOK.out _ (List.getElem_mem h1a)
      obtain ⟨R, L, hKS, hKP, hLk0⟩ := HR.out
      have hLk : L.length ≤ k := hLk0
      clear hLk0
      obtain ⟨lo', lc', hlv, hllc, _⟩ := id hKS.form
      simp only [Value.slice.injEq] at hlv
      obtain ⟨rfl, rfl, rfl⟩ := hlv
      have HKS : Hid (KS w.heap.size wr.heap.size wr (.pointer (some ⟨ga, 0, none⟩)) n R (10 + 150 * k) (.slice lo L.length lc) L) := hKS
      have HKP : Hid (KeepP n R (L.map kvp)) := hKP
      generalize rs[k] = x at *
      obtain ⟨kd, id, vb, tm, nr, b⟩ := x
      obtain ⟨ba, bc, hvb, _, _⟩ := ho.b.form
      simp only at hvb
      subst hvb
      have HO : Hid (Op8Ok w ⟨kd, id, .slice ba b.length bc, tm, nr, b⟩) := ho
      have hid := ho.id
      have hrb' : wr.rangeAt g (o + k * 5) [.int .i64 kd, .int .i64 id, .slice ba b.length bc, .int .i64 tm, .bool nr] := hrb
      clear hKS hKP ho HR HCL hrb
      have hB0 : Below wr.heap.size wr (wr.alloc (.cells #[.int .i64 kd, .int .i64 id, .slice ba b.length bc, .int .i64 tm, .bool nr] 32)) := (Below.refl _ _).alloc (Nat.le_refl _) _
      have hx0 : Box8 (wr.alloc (.cells #[.int .i64 kd, .int .i64 id, .slice ba b.length bc, .int .i64 tm, .bool nr] 32)) wr.heap.size ⟨kd, id, .slice ba b.length bc, tm, nr, b⟩ := ⟨heap_alloc_new wr _⟩
      have hsz0 : (wr.alloc (.cells #[.int .i64 kd, .int .i64 id, .slice ba b.length bc, .int .i64 tm, .bool nr] 32)).heap.size = wr.heap.size + 1 := by simp
      have HM0 := HKS.out.keepB hB0
      have HBX := hbr.trans (hB0.mono hbr.size)
      go_upto_if 46 with (guard_target = wpList _ _ _ (Oper.mk _ (Op.load 32 _) _ _ _ _ :: _) _ _; refine wpList_load_mid rfl 32 _ rfl g (o + k * 5) (by rfl) [.int .i64 kd, .int .i64 id, .slice ba b.length bc, .int .i64 tm, .bool nr] _ hrb' Try.underlying32 rfl infoOp8 ?_)
      obtain ⟨wb, hwb⟩ : ∃ wb, wr.alloc (.cells #[.int .i64 kd, .int .i64 id, .slice ba b.length bc, .int .i64 tm, .bool nr] 32) = wb := ⟨_, rfl⟩
      rw [hwb] at hx0 hsz0 HM0 HBX
      rw [hwb]
      have HK0 : Hid (KS w.heap.size wr.heap.size wb (.pointer (some ⟨ga, 0, none⟩)) n R (10 + 150 * k) (.slice lo L.length lc) L) := HM0
      have HB0 : Hid (Below w.heap.size w wb) := HBX
      have HX0 : Hid (Box8 wb wr.heap.size ⟨kd, id, .slice ba b.length bc, tm, nr, b⟩) := hx0
      have HSZ : Hid (wb.heap.size = wr.heap.size + 1) := hsz0
      clear hwb HM0 HBX hx0 hsz0 hB0 HKS hrb' hbr
      go_cut [9] (fun kv wx => ∃ kk : Int, kv = .int .i64 kk ∧ wx = wb ∧ Hid ((L = [] ∧ kk = -1) ∨ ∃ j : Nat, j < L.length ∧ kk = j))
      case first =>
        as_aux_lemma =>
          have c1 := HX0.out.cells.2.1
          by_cases hL : 0 < L.length
          · have tl : decide ((L.length : Int) > 0) = true := decide_eq_true (by omega)
            have hpk := pick8 id L.length wb hid hL (by omega)
            have hlt := pickN_lt id L.length hL
            go_wp2_with (go_at_call 7; refine hpk.mono ?_; clear hpk; rintro e wx ⟨rfl, hwx⟩; rw [hwx]; clear hwx wx)
            go_meet
            case rel => exact ⟨_, rfl, rfl, Or.inr ⟨_, hlt, rfl⟩⟩
          · have HL0 : Hid (L = []) := List.eq_nil_of_length_eq_zero (by omega)
            have tl2 : decide (0 < L.length) = false := decide_eq_false (by omega)
            go_wp2_with fail
            go_meet
            case rel => exact ⟨_, rfl, rfl, Or.inl ⟨HL0.out, rfl⟩⟩
      case rest =>
      obtain ⟨kk, rfl, rfl, HKK⟩ := hcut
      go_upto_block 2 with fail
      go_cut [6] (fun lv wx => ∃ (lo : Option Addr) (lm lc : Nat), lv = .slice lo lm lc ∧ Hid (KR w.heap.size wx (.pointer (some ⟨ga, 0, none⟩)) n (20 + 150 * k) (.slice lo lm lc) (k + 1)) ∧ Below w.heap.size w wx)
      case first =>
        have c0 := HX0.out.cells.1
        have HKR : Hid (KR w.heap.size wc (.pointer (some ⟨ga, 0, none⟩)) n (20 + 150 * k) (.slice lo L.length lc) (k + 1)) := ⟨R, L, HK0.out.up.le (by omega), HKP.out, by omega⟩
        rcases (show kd = 1 ∨ kd = 3 ∨ kd = 4 ∨ (kd ≠ 1 ∧ kd ≠ 3 ∧ kd ≠ 4) by omega) with rfl | rfl | rfl | ⟨n1, n3, n4⟩
        · skip
          as_aux_lemma =>
            have hr0 := HX0.out.range
            have hby := bytes8 (HO.out.keep HB0.out)
            have hlb := repB_len ⟨1, id, .slice ba b.length bc, tm, nr, b⟩ HO.out.len
            have HO' : Hid (∀ wx, Below w.heap.size w wx → Calls Try.prog 19 #[.agg #[.int .i64 1, .int .i64 id, .slice ba b.length bc, .int .i64 tm, .bool nr]] wx fun e w' => ∃ ao m cp, e = .returned (.slice ao m cp) ∧ OwnB wx.heap.size w' (.slice ao m cp) (repB ⟨1, id, .slice ba b.length bc, tm, nr, b⟩) ∧ Below wx.heap.size wx w') := fun wx h => bytes8 (HO.out.keep h)
            generalize repB ⟨1, id, .slice ba b.length bc, tm, nr, b⟩ = rb at *
            have hsz := HSZ.out
            simp only [cells8] at hr0
            go_wp2_with (guard_target = wpList _ _ _ (Oper.mk _ (Op.load 32 _) _ _ _ _ :: _) _ _; refine wpList_load_mid rfl 32 _ rfl wr.heap.size 0 (by rfl) [.int .i64 1, .int .i64 id, .slice ba b.length bc, .int .i64 tm, .bool nr] _ hr0 Try.underlying32 rfl infoOp8 ?_)
            refine hby.mono ?_
            clear hby
            rintro e w3 ⟨a3, m3, c3, rfl, ho3, hb3⟩
            have hs3 := hb3.size
            have hI1 := (HK0.out.keepB hb3).insert (by omega) _ rb ho3.toBytes (newB_own ho3 (by omega)) (by omega)
            have HX3 : Hid (Box8 w3 wr.heap.size ⟨1, id, .slice ba b.length bc, tm, nr, b⟩) := HX0.out.keep hb3
            have HB3 : Hid (Below w.heap.size w w3) := HB0.out.trans (hb3.mono HB0.out.size)
            clear ho3 hb3 HX0 HB0 HKR c0 hr0 HSZ HO
            go_wp2_with fail
            refine hI1.mono ?_
            clear hI1
            rintro e w4 ⟨rfl, hK4, hf4⟩
            have HX4 : Hid (Box8 w4 wr.heap.size ⟨1, id, .slice ba b.length bc, tm, nr, b⟩) := HX3.out.fr hf4 (fun h => by omega)
            have HB4 : Hid (Below w.heap.size w w4) := fr_base HB3.out hf4 HB3.out.size
            have HK4 : Hid (KS w.heap.size w4.heap.size w4 (.pointer (some ⟨ga, 0, none⟩)) n (insR n R rb) (10 + 150 * k + n) (.slice lo L.length lc) L) := hK4
            by_cases hE : (insE n R rb).2 = 0
            · skip
              as_aux_lemma =>
                obtain ⟨hP, hne⟩ := HKP.out.ins HK0.out.few rb hE
                have HP : Hid (KeepP n (insR n R rb) (L.map kvp ++ [((insE n R rb).1, rb)])) := hP
                have HNE : Hid (∀ x ∈ L.map kvp, x.1 ≠ (insE n R rb).1) := hne
                have HRX : Hid (Box8 w4 wr.heap.size ⟨1, id, .slice ba b.length bc, tm, nr, b⟩) := HX4.out
                rw [hE]
                clear hK4 hf4 HK0 HX3 HB3 hE hP hne
                generalize (insE n R rb).1 = E1 at *
                generalize insR n R rb = R4 at *
                go_wp2_with fail
                go_loopw [12] (fun i wq => ∃ j : Nat, j ≤ L.length ∧ i = .int .i64 j ∧ wq = w4) (fun i _ => L.length - (intOf i).toNat)
                case atStart => exact ⟨0, Nat.zero_le _, rfl, rfl⟩
                case round =>
                  rename World => wq
                  obtain ⟨j, hj, rfl, rfl⟩ := hrel
                  by_cases hlt : j < L.length
                  · have tj : decide ((j : Int) < (L.length : Int)) = true := by simpa using hlt
                    obtain ⟨g2, rfl⟩ := HK4.out.ptr (by omega)
                    obtain ⟨q0, _, _⟩ := HK4.out.cell2 hlt
                    have hn := HNE.out (kvp L[j]) (List.mem_map.2 ⟨_, List.getElem_mem hlt, rfl⟩)
                    have hn' : (L[j].id == E1) = false := by simpa [kvp] using hn
                    clear hn
                    generalize L[j].id = X at *
                    go_wp2_with fail
                    go_roundw
                    case rel => exact ⟨j + 1, by omega, by first | go_num | (congr 1; omega), by first | rfl | trivial⟩
                    case measure => simp [intOf]; omega
                  · have tj : decide ((j : Int) < (L.length : Int)) = false := by simpa using hlt
                    have hr4 := HRX.out.range
                    simp only [cells8] at hr4
                    have hby2 := HO'.out _ HB4.out
                    go_wp2_with (guard_target = wpList _ _ _ (Oper.mk _ (Op.load 32 _) _ _ _ _ :: _) _ _; refine wpList_load_mid rfl 32 _ rfl wr.heap.size 0 (by rfl) [.int .i64 1, .int .i64 id, .slice ba b.length bc, .int .i64 tm, .bool nr] _ hr4 Try.underlying32 rfl infoOp8 ?_)
                    refine hby2.mono ?_
                    clear hby2 hr4
                    rintro e w5 ⟨a5, m5, c5, rfl, ho5, hb5⟩
                    have HK5 := HK4.out.keepB hb5
                    have hs5 := hb5.size
                    have hbase : w.heap.size ≤ w5.heap.size := Nat.le_trans HB4.out.size hs5
                    have hs4 := HB4.out.size
                    obtain ⟨i0, hi, hz0, hz1, hz2⟩ := info_parts infoKV
                    have HN : Hid (∀ a n c, Value.slice a5 m5 c5 = .slice (some a) n c → wq.heap.size ≤ a.block ∧ a.block < w5.heap.size) := fun a n c e => World.ownsRow.lt ho5 a.block (by rw [e]; rfl)
                    have HO5 : Hid (Bytes w5 (.slice a5 m5 c5) rb) := ho5.toBytes
                    clear ho5
                    go_wp2_with (at_builtin; refine wpList_append_lies _ rfl _ _ 43 rfl w.heap.size 48 i0 (.agg #[.int .i64 0, .slice none 0 0]) 2 32 Try.underlying43 hi hz0 hz1 hz2 rfl (by decide) _ L.length (L.flatMap kvc) rfl (World.ownsRow.alloc HK5.row _) ⟨w5.heap.size, 0, none⟩ 1 1 (kvc ⟨E1, .slice a5 m5 c5, rb⟩) rfl rfl ?hn (by intro u hu; simp [kvc] at hu; rcases hu with rfl | rfl <;> rfl) (by decide) (by unfold maxLen; omega) (by omega) (by simp; omega) _ rfl ?_)
                    case hn => exact World.news_of_block (heap_alloc_new w5 _)
                    intro gk ck w6 hown6 hgr6 hat6 hlt6
                    have hbA : Below w5.heap.size w5 (w5.alloc (.cells #[.int .i64 E1, .slice a5 m5 c5] 48)) := (Below.refl _ _).alloc (Nat.le_refl _) _
                    obtain ⟨hK6, hf6⟩ := (HK5.keepB hbA).put ⟨E1, .slice a5 m5 c5, rb⟩ (HO5.out.keep hbA) (fun a n c e => by have := HN.out a n c e; exact ⟨by omega, by omega, by simp; omega⟩) hown6 hgr6 (by simpa using hat6)
                    have HK6 : Hid (KR w.heap.size w6 (.pointer (some ⟨ga, 0, none⟩)) n (20 + 150 * k) (.slice (some ⟨gk, 0, none⟩) (L.length + 1) ck) (k + 1)) := ⟨R4, _, hK6.le (by omega), by rw [List.map_append]; exact HP.out, by simp; omega⟩
                    have HB6 : Hid (Below w.heap.size w w6) := fr_base ((HB4.out.trans (hb5.mono HB4.out.size)).trans (hbA.mono hbase)) hf6 (by simp; omega)
                    clear hown6 hgr6 hat6 hlt6 hbA hK6 hf6 HK5 HK4 hb5 HP HNE HRX HX4
                    go_wp2_with fail
                    go_meet
                    case rel => exact ⟨_, _, _, rfl, HK6.out, HB6.out⟩
            · skip
              as_aux_lemma =>
                have e2 : ((insE n R rb).2 == 0) = false := by simpa using hE
                have HK5 : Hid (KR w.heap.size w4 (.pointer (some ⟨ga, 0, none⟩)) n (20 + 150 * k) (.slice lo L.length lc) (k + 1)) := ⟨R, L, by rw [insR_not hE] at hK4; exact hK4.le (by omega), HKP.out, by omega⟩
                clear hK4 hf4 HK0 HX3 HB3 HX4 HK4 HKP hE
                generalize (insE n R rb).1 = E1 at *
                generalize (insE n R rb).2 = E2 at *
                go_wp2_with fail
                go_loopw [12] (fun i wq => i = .int .i64 0 ∧ wq = w4) (fun i _ => 1)
                case atStart => exact ⟨rfl, rfl⟩
                case round =>
                  rename World => wq
                  obtain ⟨rfl, rfl⟩ := hrel
                  by_cases hlt : 0 < L.length
                  · have tj : decide (0 < L.length) = true := decide_eq_true hlt
                    go_wp2_with fail
                    go_meet
                    case rel => exact ⟨_, _, _, rfl, HK5.out, HB4.out⟩
                  · have tj : decide (0 < L.length) = false := decide_eq_false hlt
                    go_wp2_with fail
                    go_meet
                    case rel => exact ⟨_, _, _, rfl, HK5.out, HB4.out⟩
        · skip
          rcases HKK.out with ⟨hL0, hkk⟩ | ⟨j, hj, hkk⟩
          · --KC
            subst hkk
            clear HKK hL0
            go_wp2_with fail
            go_meet
            case rel => exact ⟨_, _, _, rfl, HKR.out, HB0.out⟩
            --KCE
          · --KD
            subst hkk
            obtain ⟨g2, rfl⟩ := HK0.out.ptr (by omega)
            have q0 := (HK0.out.cell2 hj).1
            obtain ⟨hr, _, _⟩ := HKP.out.at hj
            have HBY : Hid (∀ wx, Below w.heap.size w wx → Calls Try.prog 19 #[.agg #[.int .i64 3, .int .i64 id, .slice ba b.length bc, .int .i64 tm, .bool nr]] wx fun e w' => ∃ ao m cp, e = .returned (.slice ao m cp) ∧ OwnB wx.heap.size w' (.slice ao m cp) (repB ⟨3, id, .slice ba b.length bc, tm, nr, b⟩) ∧ Below wx.heap.size wx w') := fun wx h => bytes8 (HO.out.keep h)
            have hlb := repB_len ⟨3, id, .slice ba b.length bc, tm, nr, b⟩ HO.out.len
            have HQ : Hid (∀ (S : Nat) (wx : World) (R' : Nat → List (List UInt8)) (t : Nat), KS w.heap.size S wx (.pointer (some ⟨ga, 0, none⟩)) n R' t (.slice (some ⟨g2, 0, none⟩) L.length lc) L → wx.cell? ⟨g2, j * 2, none⟩ = some (.int .i64 L[j].id) ∧ wx.cell? ⟨g2, j * 2 + 1, none⟩ = some L[j].v ∧ wx.frozen? ⟨g2, j * 2 + 1, none⟩ = false) := fun S wx R' t h => h.cell2 hj
            have HU : Hid (∀ rb, updE n R L[j].id rb = 0 → KeepP n (updR n R L[j].id rb) ((L.map kvp).set j (L[j].id, rb))) := fun rb he => by
              have hj' : j < (L.map kvp).length := by simpa using hj
              have e1 : (L.map kvp)[j].1 = L[j].id := by rw [List.getElem_map]; rfl
              have := HKP.out.upd hj' rb (by rw [e1]; exact he)
              rw [e1] at this
              exact this
            have HST : Hid (∀ (S : Nat) (wx : World) (R' : Nat → List (List UInt8)) (t : Nat), KS w.heap.size S wx (.pointer (some ⟨ga, 0, none⟩)) n R' t (.slice (some ⟨g2, 0, none⟩) L.length lc) L → ∀ (vv : Value) (bb : List UInt8), Bytes wx vv bb → (∀ a n c, vv = .slice (some a) n c → w.heap.size ≤ a.block ∧ S ≤ a.block ∧ a.block < wx.heap.size) → KS w.heap.size (wx.setCell ⟨g2, j * 2 + 1, none⟩ vv).heap.size (wx.setCell ⟨g2, j * 2 + 1, none⟩ vv) (.pointer (some ⟨ga, 0, none⟩)) n R' t (.slice (some ⟨g2, 0, none⟩) L.length lc) (L.set j ⟨L[j].id, vv, bb⟩) ∧ Fr wx (wx.setCell ⟨g2, j * 2 + 1, none⟩ vv) (fun i => w.heap.size ≤ i ∧ i < S)) := fun S wx R' t h vv bb h1 h2 => by
              rw [Nat.mul_comm j 2]; exact h.set hj vv bb h1 h2
            have HMS : Hid (∀ vv bb, (L.set j ⟨L[j].id, vv, bb⟩).map kvp = (L.map kvp).set j (L[j].id, bb)) := fun vv bb => by rw [List.map_set]; rfl
            generalize repB ⟨3, id, .slice ba b.length bc, tm, nr, b⟩ = rb at *
            have hsz := HSZ.out
            generalize hX : L[j].id = X at *
            have S0 : (wc.cell? ⟨wr.heap.size, 0, none⟩ = some (.int .i64 3) ∧ wc.cell? ⟨wr.heap.size, 1, none⟩ = some (.int .i64 id) ∧ wc.cell? ⟨wr.heap.size, 2, none⟩ = some (.slice ba b.length bc) ∧ wc.cell? ⟨wr.heap.size, 3, none⟩ = some (.int .i64 tm) ∧ wc.cell? ⟨wr.heap.size, 4, none⟩ = some (.bool nr)) ∧ wc.cell? ⟨g2, j * 2, none⟩ = some (.int .i64 X) := ⟨HX0.out.cells, q0⟩
            have HJ : Hid (L[j].id = X) := hX
            clear hX HKR HKK q0
            go_wp2_with fail
            clear c0
            go_region_held_law (fun w' => (w'.cell? ⟨wr.heap.size, 0, none⟩ = some (.int .i64 3) ∧ w'.cell? ⟨wr.heap.size, 1, none⟩ = some (.int .i64 id) ∧ w'.cell? ⟨wr.heap.size, 2, none⟩ = some (.slice ba b.length bc) ∧ w'.cell? ⟨wr.heap.size, 3, none⟩ = some (.int .i64 tm) ∧ w'.cell? ⟨wr.heap.size, 4, none⟩ = some (.bool nr)) ∧ w'.cell? ⟨g2, j * 2, none⟩ = some (.int .i64 X)) (first | exact S0 | exact S3 | exact S4)
              (first
                | (go_at_call 19
                   refine (HBY.out wc.drew HB0.out.drew).mono ?_
                   rintro e w3 ⟨a3, m3, c3, rfl, ho3, hb3'⟩
                   have hb3 : Below wc.heap.size wc w3 := (Below.refl wc.heap.size wc).drew.trans hb3'
                   have HK3 : Hid (KS w.heap.size wr.heap.size w3 (.pointer (some ⟨ga, 0, none⟩)) n R (10 + 150 * k) (.slice (some ⟨g2, 0, none⟩) L.length lc) L) := HK0.out.keepB hb3
                   have HX3 : Hid (Box8 w3 wr.heap.size ⟨3, id, .slice ba b.length bc, tm, nr, b⟩) := HX0.out.keep hb3
                   have S3 := And.intro HX3.out.cells (HQ.out _ _ _ _ HK3.out).1
                   have HB3 : Hid (Below w.heap.size w w3) := HB0.out.trans (hb3.mono HB0.out.size)
                   have HO3 : Hid (Bytes w3 (.slice a3 m3 c3) rb ∧ NewB wr.heap.size (.slice a3 m3 c3)) := ⟨ho3.toBytes, newB_own ho3 (by show wr.heap.size ≤ wc.heap.size; omega)⟩
                   clear ho3 hb3 hb3')
                | (go_at_call 20
                   refine (HK3.out.update (by omega) X (by omega) _ rb HO3.out.1 HO3.out.2 (by omega)).mono ?_
                   rintro e w4 ⟨rfl, hK4, hf4⟩
                   have HX4 : Hid (Box8 w4 wr.heap.size ⟨3, id, .slice ba b.length bc, tm, nr, b⟩) := HX3.out.fr hf4 (fun h => by omega)
                   have HK4 : Hid (KS w.heap.size w4.heap.size w4 (.pointer (some ⟨ga, 0, none⟩)) n (updR n R X rb) (10 + 150 * k + 1) (.slice (some ⟨g2, 0, none⟩) L.length lc) L) := hK4
                   have S4 := And.intro HX4.out.cells (HQ.out _ _ _ _ HK4.out).1
                   have HB4 : Hid (Below w.heap.size w w4) := fr_base HB3.out hf4 HB3.out.size
                   clear hK4 hf4))
            clear S0 S3 S4 HK3 HX3 HB3 HO3 HK0 HX0 HB0 HSZ
            by_cases hE : updE n R X rb = 0
            · skip
              as_aux_lemma =>
                have HP := HU.out rb hE
                rw [hE]
                clear hE
                have hr4 := HX4.out.range
                simp only [cells8] at hr4
                have hby2 := HBY.out _ HB4.out
                generalize updR n R X rb = R4 at *
                have hs4 := HB4.out.size
                go_wp2_with (guard_target = wpList _ _ _ (Oper.mk _ (Op.load 32 _) _ _ _ _ :: _) _ _; refine wpList_load_mid rfl 32 _ rfl wr.heap.size 0 (by rfl) [.int .i64 3, .int .i64 id, .slice ba b.length bc, .int .i64 tm, .bool nr] _ hr4 Try.underlying32 rfl infoOp8 ?_)
                refine hby2.mono ?_
                clear hby2 hr4
                rintro e w5 ⟨a5, m5, c5, rfl, ho5, hb5⟩
                obtain ⟨_, q1, q2⟩ := HQ.out _ _ _ _ (HK4.out.keepB hb5)
                obtain ⟨hK6, hf6⟩ := HST.out _ _ _ _ (HK4.out.keepB hb5) (.slice a5 m5 c5) rb ho5.toBytes (fun a n c e => by have := World.ownsRow.lt ho5 a.block (by rw [e]; rfl); exact ⟨by omega, this.1, this.2⟩)
                have HK6 : Hid (KR w.heap.size (w5.setCell ⟨g2, j * 2 + 1, none⟩ (.slice a5 m5 c5)) (.pointer (some ⟨ga, 0, none⟩)) n (20 + 150 * k) (.slice (some ⟨g2, 0, none⟩) L.length lc) (k + 1)) := ⟨R4, _, hK6.le (by omega), by rw [HMS.out]; exact HP, by simp; omega⟩
                have HB6 : Hid (Below w.heap.size w (w5.setCell ⟨g2, j * 2 + 1, none⟩ (.slice a5 m5 c5))) := fr_base (HB4.out.trans (hb5.mono HB4.out.size)) hf6 (Nat.le_trans HB4.out.size hb5.size)
                clear ho5 hb5 hK6 hf6 HP HST HMS HU HQ HK4 HX4
                generalize L[j].v = V at *
                go_wp2_with fail
                go_meet
                case rel => exact ⟨_, _, _, rfl, HK6.out, HB6.out⟩
            · skip
              as_aux_lemma =>
                have HK5 : Hid (KR w.heap.size w4 (.pointer (some ⟨ga, 0, none⟩)) n (20 + 150 * k) (.slice (some ⟨g2, 0, none⟩) L.length lc) (k + 1)) := ⟨R, L, by have h := HK4.out; rw [updR_not hE] at h; exact h.le (by omega), HKP.out, by omega⟩
                have e2 : (updE n R X rb == 0) = false := by simpa using hE
                clear HK4 HX4 HU HST HMS HQ HBY hE
                generalize updE n R X rb = E1 at *
                go_wp2_with fail
                go_meet
                case rel => exact ⟨_, _, _, rfl, HK5.out, HB4.out⟩
            --KDE
        · skip
          rcases HKK.out with ⟨hL0, hkk⟩ | ⟨j, hj, hkk⟩
          · --KE
            subst hkk
            clear HKK hL0
            go_wp2_with fail
            go_meet
            case rel => exact ⟨_, _, _, rfl, HKR.out, HB0.out⟩
            --KEE
          · --KF
            subst hkk
            obtain ⟨g2, rfl⟩ := HK0.out.ptr (by omega)
            have q0 := (HK0.out.cell2 hj).1
            obtain ⟨hr, _, _⟩ := HKP.out.at hj
            have HQ : Hid (∀ (S : Nat) (wx : World) (R' : Nat → List (List UInt8)) (t : Nat), KS w.heap.size S wx (.pointer (some ⟨ga, 0, none⟩)) n R' t (.slice (some ⟨g2, 0, none⟩) L.length lc) L → wx.cell? ⟨g2, j * 2, none⟩ = some (.int .i64 L[j].id)) := fun S wx R' t h => (h.cell2 hj).1
            have hj' : j < (L.map kvp).length := by simpa using hj
            have e1 : (L.map kvp)[j].1 = L[j].id := by rw [List.getElem_map]; rfl
            have hd := HKP.out.del hj'
            rw [e1] at hd
            obtain ⟨d1, d2, d3, d4⟩ := hd
            have HD : Hid (KeepP n (delR n R L[j].id) ((L.map kvp).eraseIdx j)) := d2
            have hD1 := HK0.out.delete (by omega) L[j].id (by omega)
            rw [d1] at hD1
            have HD3 : Hid (delE n (delR n R L[j].id) L[j].id = 82) := d3
            have HD4 : Hid (delR n (delR n R L[j].id) L[j].id = delR n R L[j].id) := d4
            clear d1 d2 d3 d4 hj' e1
            generalize L[j].id = X at *
            have hsz := HSZ.out
            clear HKR HKK HX0
            go_wp2_with fail
            refine hD1.mono ?_
            clear hD1 q0
            rintro e w4 ⟨rfl, hK4, hf4⟩
            have q4 := HQ.out _ _ _ _ hK4
            have hD2 := hK4.delete (by omega) X (by omega)
            rw [HD3.out, HD4.out] at hD2
            have HB4 : Hid (Below w.heap.size w w4) := fr_base HB0.out hf4 HB0.out.size
            clear hK4 hf4
            go_wp2_with fail
            refine hD2.mono ?_
            clear hD2 q4
            rintro e w5 ⟨rfl, hK5, hf5⟩
            have HB5 : Hid (Below w.heap.size w w5) := fr_base HB4.out hf5 HB4.out.size
            have HK5 : Hid (KS w.heap.size w5.heap.size w5 (.pointer (some ⟨ga, 0, none⟩)) n (delR n R X) (10 + 150 * k + 1 + 1) (.slice (some ⟨g2, 0, none⟩) L.length lc) L) := hK5
            clear hK5 hf5 HB4 HB0 HK0 HQ HD3 HD4
            generalize delR n R X = R5 at *
            have hllc' : L.length ≤ lc := hllc
            have hone := HK5.out.one
            have hn1 : ∀ i u, ((L.take j).flatMap kvc)[i]? = some u → w5.cell? ((⟨g2, 0, none⟩ : Addr).add i) = some u := fun i u hu => by
              rw [Addr.add_mid, Nat.zero_add]
              rw [kvc_take, List.getElem?_take] at hu
              split at hu
              · exact HK5.out.cellN hu
              · cases hu
            have hl1 : ((L.take j).flatMap kvc).length = j * 2 := by rw [kvc_len, List.length_take]; omega
            have HONE : Hid (∀ x ∈ L, x.v.oneCell' = true) := hone
            clear hone
            go_wp2_with (at_builtin; refine wp_appK _ rfl _ _ rfl w5.heap.size (.slice none 0 0) 0 [] rfl ⟨rfl, Or.inl ⟨rfl, rfl⟩⟩ ⟨g2, 0, none⟩ j lc ((L.take j).flatMap kvc) rfl hl1 hn1 (kvc_one _ (fun x hx => HONE.out x (List.mem_of_mem_take hx))) (by omega) (Nat.le_refl _) ?_; clear hn1 hl1)
            intro so sn sc w6 hsn hown6 hgr6 hat6
            obtain rfl : j = sn := by omega
            clear hsn
            have hb6 : Below w5.heap.size w5 w6 := (Fr.of_grown (F := fun _ => False) hgr6 (fun k hk => by cases hk)).below (Nat.le_refl _) (fun _ h => h.elim)
            try simp only [Nat.zero_add, List.nil_append] at hown6
            have HK6 := HK5.out.keepB hb6
            have HO6 : Hid (w6.ownsRow w5.heap.size 48 2 (.slice so j sc) j ((L.take j).flatMap kvc)) := hown6
            clear hgr6 hat6 hown6
            by_cases hc : lc = j + 1
            · skip
              as_aux_lemma =>
                have hl2 : ((L.drop (j + 1)).flatMap kvc).length = (L.length - (j + 1)) * 2 := by rw [kvc_len, List.length_drop]
                have hn2 : ∀ i u, ((L.drop (j + 1)).flatMap kvc)[i]? = some u → w6.cell? ((⟨g2, 0, none⟩ : Addr).add i) = some u := fun i u hu => by
                  rw [List.drop_eq_nil_of_le (by omega)] at hu
                  simp at hu
                have hs6 := hb6.size
                go_wp2_with (at_builtin; refine wp_appK _ rfl _ _ rfl w5.heap.size (.slice so j sc) j ((L.take j).flatMap kvc) rfl HO6.out ⟨g2, 0, none⟩ (L.length - (j + 1)) _ ((L.drop (j + 1)).flatMap kvc) rfl hl2 hn2 (kvc_one _ (fun x hx => HONE.out x (List.mem_of_mem_drop hx))) (by omega) hs6 ?_; clear hn2 hl2)
                intro so7 sn7 sc7 w7 hsn7 hown7 hgr7 hat7
                have HK7 : Hid (KR w.heap.size w7 (.pointer (some ⟨ga, 0, none⟩)) n (20 + 150 * k) (.slice so7 sn7 sc7) (k + 1) ∧ Below w.heap.size w w7) := keep_drop HK5.out HB5.out HD.out hb6 HO6.out hown7 hgr7 hj (by omega) (by omega) HB5.out.size
                clear hown7 hgr7 hat7 HK6 HO6 hb6 HK5 HB5 HD hsn7
                go_wp2_with fail
                go_meet
                case rel => exact ⟨_, _, _, rfl, HK7.out.1, HK7.out.2⟩
            · skip
              as_aux_lemma =>
                have hc2 : ¬ lc - (j + 1) = 0 := by omega
                have hl2 : ((L.drop (j + 1)).flatMap kvc).length = (L.length - (j + 1)) * 2 := by rw [kvc_len, List.length_drop]
                have hn2 : ∀ i u, ((L.drop (j + 1)).flatMap kvc)[i]? = some u → w6.cell? ((⟨g2, (j + 1) * 2, none⟩ : Addr).add i) = some u := fun i u hu => by
                  rw [Addr.add_mid]
                  rw [kvc_drop, List.getElem?_drop] at hu
                  exact HK6.cellN hu
                have hs6 := hb6.size
                go_wp2_with (at_builtin; refine wp_appK _ rfl _ _ rfl w5.heap.size (.slice so j sc) j ((L.take j).flatMap kvc) rfl HO6.out ⟨g2, (j + 1) * 2, none⟩ (L.length - (j + 1)) _ ((L.drop (j + 1)).flatMap kvc) rfl hl2 hn2 (kvc_one _ (fun x hx => HONE.out x (List.mem_of_mem_drop hx))) (by omega) hs6 ?_; clear hn2 hl2)
                intro so7 sn7 sc7 w7 hsn7 hown7 hgr7 hat7
                have HK7 : Hid (KR w.heap.size w7 (.pointer (some ⟨ga, 0, none⟩)) n (20 + 150 * k) (.slice so7 sn7 sc7) (k + 1) ∧ Below w.heap.size w w7) := keep_drop HK5.out HB5.out HD.out hb6 HO6.out hown7 hgr7 hj (by omega) (by omega) HB5.out.size
                clear hown7 hgr7 hat7 HK6 HO6 hb6 HK5 HB5 HD hsn7
                go_wp2_with fail
                go_meet
                case rel => exact ⟨_, _, _, rfl, HK7.out.1, HK7.out.2⟩
            --KFE
        · skip
          as_aux_lemma =>
            have e1 : (kd == 1) = false := by simpa using n1
            have e3 : (kd == 3) = false := by simpa using n3
            have e4 : (kd == 4) = false := by simpa using n4
            go_wp2_with fail
            go_meet
            case rel => exact ⟨_, _, _, rfl, HKR.out, HB0.out⟩
      case rest =>
      obtain ⟨lo', lm', lc', rfl, HKR, hbc⟩ := hcut
      as_aux_lemma =>
        obtain ⟨R2, L2, hKS, hKP, hL20⟩ := HKR.out
        have hL2 : L2.length ≤ k + 1 := hL20
        obtain ⟨lo2, lc2, hlv, hllc2, _⟩ := hKS.form
        simp only [Value.slice.injEq] at hlv
        obtain ⟨rfl, rfl, rfl⟩ := hlv
        have HKS : Hid (KS w.heap.size wc.heap.size wc (.pointer (some ⟨ga, 0, none⟩)) n R2 (20 + 150 * k + 0) (.slice lo' L2.length lc') L2) := hKS
        have HKP2 : Hid (KeepP n R2 (L2.map kvp)) := hKP
        have hlen2 : (scanR n R2).length = L2.length := by rw [hKP.len hKS.few, List.length_map]
        clear hKS hKP HKR hL20 HKP
        go_wp2_with fail
        go_loopw [14] (fun i wq => ∃ j : Nat, j ≤ L2.length ∧ i = .int .i64 j ∧ Hid (KS w.heap.size wq.heap.size wq (.pointer (some ⟨ga, 0, none⟩)) n R2 (20 + 150 * k + j) (.slice lo' L2.length lc') L2) ∧ Below w.heap.size w wq) (fun i _ => L2.length - (intOf i).toNat)
        case atStart => exact ⟨0, Nat.zero_le _, rfl, HKS.out, hbc⟩
        case round =>
          rename World => wq
          obtain ⟨j, hj, rfl, HKq, hbq⟩ := hrel
          clear HKS hbc
          by_cases hlt : j < L2.length
          · skip
            as_aux_lemma =>
              have tj : decide ((j : Int) < (L2.length : Int)) = true := by simpa using hlt
              obtain ⟨g2, rfl⟩ := HKq.out.ptr (by omega)
              obtain ⟨q0, _, _⟩ := HKq.out.cell2 hlt
              obtain ⟨hr, hE, hG⟩ := HKP2.out.at hlt
              have hBv := HKq.out.bytes (List.getElem_mem hlt)
              have HC : Hid (∀ wx t, KS w.heap.size wx.heap.size wx (.pointer (some ⟨ga, 0, none⟩)) n R2 t (.slice (some ⟨g2, 0, none⟩) L2.length lc') L2 → wx.cell? ⟨g2, j * 2 + 1, none⟩ = some L2[j].v ∧ Bytes wx L2[j].v L2[j].b) := fun wx t h => ⟨(h.cell2 hlt).2.1, h.bytes (List.getElem_mem hlt)⟩
              have hg1 := HKq.out.get (by omega) L2[j].id (by omega)
              rw [hE, hG] at hg1
              obtain ⟨va, vc, hvf, _, _⟩ := hBv.form
              clear hBv hE hG
              generalize L2[j].id = X at *
              generalize L2[j].b = Y at *
              generalize L2[j].v = V at *
              subst hvf
              go_wp2_with fail
              refine hg1.mono ?_
              clear hg1 q0
              rintro e w4 ⟨a4, m4, c4, rfl, hB4, hK4, hf4⟩
              obtain ⟨q1, hB1⟩ := HC.out w4 _ hK4
              have hsm := same7 _ _ _ _ w4 hB4 hB1
              rw [decide_eq_true rfl] at hsm
              have HK4 : Hid (KS w.heap.size w4.heap.size w4 (.pointer (some ⟨ga, 0, none⟩)) n R2 (20 + 150 * k + (j + 1)) (.slice (some ⟨g2, 0, none⟩) L2.length lc') L2) := hK4.le (by omega)
              have HB4 : Hid (Below w.heap.size w w4) := fr_base hbq hf4 hbq.size
              clear hB4 hK4 hf4 hB1 HC HKq hbq
              go_wp2_with (go_at_call 17; refine hsm.mono ?_; clear hsm; rintro e wx ⟨rfl, hwx⟩; rw [hwx]; clear hwx wx)
              go_roundw
              case rel => exact ⟨j + 1, by omega, by first | go_num | (congr 1; omega), HK4.out, HB4.out⟩
              case measure => simp [intOf]; omega
          · skip
            as_aux_lemma =>
              have tj : decide ((j : Int) < (L2.length : Int)) = false := by simpa using hlt
              have hsc := HKq.out.scan (by omega)
              rw [hlen2] at hsc
              go_wp2_with fail
              refine hsc.mono ?_
              clear hsc
              rintro e w4 ⟨a4, c4, rfl, hK4, hf4⟩
              have HK4 : Hid (KR w.heap.size w4 (.pointer (some ⟨ga, 0, none⟩)) n (10 + 150 * (k + 1)) (.slice lo' L2.length lc') (k + 1)) := ⟨R2, L2, hK4.le (by omega), HKP2.out, hL2⟩
              have HB4 : Hid (Below w.heap.size w w4) := fr_base hbq hf4 hbq.size
              clear hK4 hf4 HKq hbq
              go_wp2_with fail
              go_roundw
              case rel => exact ⟨k + 1, _, _, _, by omega, by omega, by first | go_num | (congr 1; omega), rfl, HK4.out, HB4.out⟩
              case measure => simp [intOf]; omega
    · skip
      as_aux_lemma =>
        by_cases h2 : k < rs.length
        · have h3 : ¬ k < 120 := fun h => h1 ⟨h2, h⟩
          have t8 : decide ((k : Int) < (rs.length : Int)) = true := by simpa using h2
          have t9 : decide ((k : Int) < 120) = false := by simp; omega
          clear h1
          go_wp2_with fail
          go_ret
          exact ⟨rfl, hbr⟩
        · have t8 : decide ((k : Int) < (rs.length : Int)) = false := by simpa using h2
          clear h1
          go_wp2_with fail
          go_ret
          exact ⟨rfl, hbr⟩
end Go.Proofs.Ytmhmmnojmcngfaa

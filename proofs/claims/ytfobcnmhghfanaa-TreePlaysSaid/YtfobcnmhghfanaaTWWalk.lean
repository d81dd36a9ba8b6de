/- The walk of the law TreeWalks. -/
import Derived.Test.YtfobcnmhghfanaaB9ZJ
import Derived.Deep.CutBlock
import Derived.Deep.DeepCutAuto
namespace Go.Proofs.Ytfobcnmhghfanaa
open Go.RowKit Go.Shelf
set_option linter.unusedVariables false
set_option linter.unusedSimpArgs false

theorem infoOp9 : (Try.prog.info? 32).map (·.size) = some 5 := by kernel_rfl
/-- The tree between two ops. -/
def TA (w wr : World) (a : Nat) (m : Nat) : Prop := ∃ ro L, TB w wr ro (pt a) L ∧ L.length ≤ m
theorem TA.bl {w wr : World} {a m : Nat} (h : TA w wr a m) : Below w.heap.size w wr := by obtain ⟨ro, L, h, _⟩ := h; exact h.bl
theorem PB.ta {w0 w : World} {a : Nat} {B : Nat} {x : Op9} {m m' : Nat} (h : PB w0 w (pt a) B x m) (hm : m ≤ m') : TA w0 w a m' := by
  obtain ⟨ro, L, h1, h2, _⟩ := h; exact ⟨ro, L, h1, by omega⟩
theorem TA.box {w wr : World} {a m : Nat} (h : TA w wr a m) (x : Op9) : PB w (wr.alloc (.cells #[.int .i64 x.kind, .int .i64 x.n, .string x.key, .bool x.is, .bool x.near] 32)) (pt a) wr.heap.size x m := by
  obtain ⟨ro, L, h, hl⟩ := h
  refine ⟨ro, L, h.below ((Below.refl _ _).alloc (Nat.le_refl _) _), hl, Classical.byContradiction fun hn => ?_, heap_alloc_new wr _⟩
  have := (h.tr.lo _ hn).2; omega
set_option maxRecDepth 100000 in
set_option maxHeartbeats 4000000 in
theorem walks_law (v : Value) (rs : List Op9) (w : World) (hv : Ops9 w v rs) (hok : ∀ x ∈ rs, Op9Ok x) :
    Calls Try.prog 4 #[v] w fun e w' => e = .returned (.bool true) ∧ Below w.heap.size w w' := by
  obtain ⟨ao, cap, rfl, hcap, hcl⟩ := hv
  have HCL : Hid (rs = [] ∨ ∃ g o, ao = some ⟨g, o, none⟩ ∧ ∀ k (h : k < rs.length), w.rangeAt g (o + k * 5) (cells9 rs[k])) := hcl
  have HOK : Hid (∀ x ∈ rs, Op9Ok x) := hok
  clear hcl hok
  have hn1 := tb_new w w (Below.refl _ _)
  go_enter Try.func4, Try.ntmps4
  go_wp2_with fail
  refine hn1.mono ?_
  clear hn1
  rintro e w1 ⟨ra, a, rfl, ta, _, _⟩
  have hal := alive_any w1
  have TT : Hid (TB w w1 ra (pt a) []) := ta
  clear ta
  go_wp2_with fail
  refine hal.mono ?_
  clear hal
  rintro e w3 ⟨rfl, hb3⟩
  have H0 : Hid (TA w w3 a 0) := ⟨ra, [], TT.out.below hb3, Nat.le_refl _⟩
  clear TT hb3
  go_upto_block 0 with fail
  go_cut [4] (fun _ wx => Hid (TA w wx a 7320))
  case first =>
    go_wp2_with fail
    go_loopw [4] (fun i wr => ∃ k : Nat, i = .int .i64 k ∧ k ≤ 120 ∧ k ≤ rs.length ∧ Hid (TA w wr a (61 * k))) (fun i _ => 120 - (intOf i).toNat)
    case atStart => exact ⟨0, rfl, by omega, by omega, H0⟩
    case round =>
      obtain ⟨k, rfl, hk2, hkl, H⟩ := hrel
      clear H0
      have HX : Hid (TA w wr a 7320) := by obtain ⟨ro, L, h, hl⟩ := H.out; exact ⟨ro, L, h, by omega⟩
      by_cases h1 : k < rs.length
      · by_cases h2 : k < 120
        · clear HX
          rcases HCL.out with h0 | ⟨g, o, rfl, hcl⟩
          · rw [h0] at h1; simp at h1
          have r0 := hcl k h1
          have ho := HOK.out _ (List.getElem_mem h1)
          generalize rs[k] = x at *
          have hrb : wr.rangeAt g (o + k * 5) (cells9 x) := fun j u hu => by
            have := r0 j u hu
            exact (H.out.bl.cell (World.block_lt_of_cell? w _ this)).trans this
          have hp := H.out.box x
          obtain ⟨c0, c1, c2⟩ := hp.blk
          obtain ⟨kd, nn, key, is, nr⟩ := x
          have hnn := ho.2
          simp only [cells9] at hrb hp c0 c1 c2 hnn
          have HP : Hid (PB w (wr.alloc (.cells #[.int .i64 kd, .int .i64 nn, .string key, .bool is, .bool nr] 32)) (pt a) wr.heap.size ⟨kd, nn, key, is, nr⟩ (61 * k)) := hp
          clear hcl r0 ho hp H
          rcases (show kd = 1 ∨ kd = 2 ∨ kd = 3 ∨ kd = 6 ∨ kd = 7 ∨ (kd ≠ 1 ∧ kd ≠ 2 ∧ kd ≠ 3 ∧ kd ≠ 6 ∧ kd ≠ 7) by omega) with rfl | rfl | rfl | rfl | rfl | ⟨m1, m2, m3, m6, m7⟩
          · go_wp2_with (guard_target = wpList _ _ _ (Oper.mk _ (Op.load 32 _) _ _ _ _ :: _) _ _; refine wpList_load_mid rfl 32 _ rfl g (o + k * 5) (by rfl) [.int .i64 1, .int .i64 nn, .string key, .bool is, .bool nr] _ hrb Try.underlying32 rfl infoOp9 ?_)
            refine (HP.out.ins (by omega) key nn).mono ?_
            rintro e wb ⟨z, rfl, hb⟩
            have HR : Hid (TA w wb a (61 * (k + 1))) := hb.ta (by omega)
            clear hb HP c0 c1 c2 hrb
            go_wp2_with fail
            go_roundw
            case rel => exact ⟨k + 1, by go_num, by omega, by omega, HR⟩
            case measure => simp [intOf]; omega
          · go_wp2_with (guard_target = wpList _ _ _ (Oper.mk _ (Op.load 32 _) _ _ _ _ :: _) _ _; refine wpList_load_mid rfl 32 _ rfl g (o + k * 5) (by rfl) [.int .i64 2, .int .i64 nn, .string key, .bool is, .bool nr] _ hrb Try.underlying32 rfl infoOp9 ?_)
            refine (HP.out.gho (by omega) key).mono ?_
            rintro e wb ⟨z, rfl, hb⟩
            have HR : Hid (TA w wb a (61 * (k + 1))) := hb.ta (by omega)
            clear hb HP c0 c1 c2 hrb
            go_wp2_with fail
            go_roundw
            case rel => exact ⟨k + 1, by go_num, by omega, by omega, HR⟩
            case measure => simp [intOf]; omega
          · go_wp2_with (guard_target = wpList _ _ _ (Oper.mk _ (Op.load 32 _) _ _ _ _ :: _) _ _; refine wpList_load_mid rfl 32 _ rfl g (o + k * 5) (by rfl) [.int .i64 3, .int .i64 nn, .string key, .bool is, .bool nr] _ hrb Try.underlying32 rfl infoOp9 ?_)
            refine (HP.out.pur (by omega) key).mono ?_
            rintro e wb ⟨z, rfl, hb⟩
            have HR : Hid (TA w wb a (61 * (k + 1))) := hb.ta (by omega)
            clear hb HP c0 c1 c2 hrb
            go_wp2_with fail
            go_roundw
            case rel => exact ⟨k + 1, by go_num, by omega, by omega, HR⟩
            case measure => simp [intOf]; omega
          · go_wp2_with (guard_target = wpList _ _ _ (Oper.mk _ (Op.load 32 _) _ _ _ _ :: _) _ _; refine wpList_load_mid rfl 32 _ rfl g (o + k * 5) (by rfl) [.int .i64 6, .int .i64 nn, .string key, .bool is, .bool nr] _ hrb Try.underlying32 rfl infoOp9 ?_)
            generalize hBB : wr.heap.size = B at *
            generalize (wr.alloc (.cells #[.int .i64 6, .int .i64 nn, .string key, .bool is, .bool nr] 32)) = wq at *
            clear c0 c1 c2 hrb hBB
            go_loopw [6] (fun i wz => ∃ j : Nat, i = .int .i64 j ∧ j ≤ 60 ∧ Hid (PB w wz (pt a) B ⟨6, nn, key, is, nr⟩ (61 * k + j))) (fun i _ => 60 - (intOf i).toNat)
            case atStart => exact ⟨0, rfl, by omega, HP⟩
            case round =>
              obtain ⟨j, rfl, hj, H⟩ := hrel
              rename World => wz
              clear HP
              by_cases hj6 : j < 60
              · obtain ⟨c0, c1, c2⟩ := H.out.blk
                have hpk : Calls Try.prog 18 #[.int .i64 nn, .int .i64 676] wz fun e w' => e = .returned (.int .i64 (pickN nn 676)) ∧ w' = wz := pick9 nn 676 wz hnn (by omega) (by omega)
                have hpl := pickN_lt nn 676 (by omega)
                generalize pickN nn 676 = p at *
                obtain ⟨r, hr⟩ : ∃ r : Int, ((j : Int) * 7 + (p : Int)) % 676 = r := ⟨_, rfl⟩
                have hr2 : ((j : Int) * 7 + (p : Int)).tmod 676 = r := by rw [← hr]; exact Int.tmod_eq_emod_of_nonneg (by omega)
                have hrow := row_any r (by omega) (by omega) wz
                simp only at c0 c1 c2
                go_wp2_with (go_at_call 18; refine hpk.mono ?_; clear hpk; rintro e wx ⟨rfl, hwx⟩; rw [hwx]; clear hwx wx)
                refine hrow.mono ?_
                clear hrow
                rintro e wy ⟨s, rfl, hby⟩
                have hq := H.out.below hby
                obtain ⟨c0, c1, c2⟩ := hq.blk
                have hi := hq.ins (by omega) s j
                clear hq hby H
                simp only at c0 c1 c2
                go_wp2_with fail
                refine hi.mono ?_
                clear hi c0 c1 c2
                rintro e wb ⟨z, rfl, hb⟩
                have HR : Hid (PB w wb (pt a) B ⟨6, nn, key, is, nr⟩ (61 * k + (j + 1))) := hb
                clear hb
                go_wp2_with fail
                go_roundw
                case rel => exact ⟨j + 1, by go_num, by omega, HR⟩
                case measure => simp [intOf]; omega
              · have HR : Hid (TA w wz a (61 * (k + 1))) := H.out.ta (by omega)
                clear H
                go_wp2_with fail
                go_roundw
                case rel => exact ⟨k + 1, by go_num, by omega, by omega, HR⟩
                case measure => simp [intOf]; omega
          · go_wp2_with (guard_target = wpList _ _ _ (Oper.mk _ (Op.load 32 _) _ _ _ _ :: _) _ _; refine wpList_load_mid rfl 32 _ rfl g (o + k * 5) (by rfl) [.int .i64 7, .int .i64 nn, .string key, .bool is, .bool nr] _ hrb Try.underlying32 rfl infoOp9 ?_)
            generalize hBB : wr.heap.size = B at *
            generalize (wr.alloc (.cells #[.int .i64 7, .int .i64 nn, .string key, .bool is, .bool nr] 32)) = wq at *
            clear c0 c1 c2 hrb hBB
            go_loopw [6] (fun i wz => ∃ j : Nat, i = .int .i64 j ∧ j ≤ 60 ∧ Hid (PB w wz (pt a) B ⟨7, nn, key, is, nr⟩ (61 * k + j))) (fun i _ => 60 - (intOf i).toNat)
            case atStart => exact ⟨0, rfl, by omega, HP⟩
            case round =>
              obtain ⟨j, rfl, hj, H⟩ := hrel
              rename World => wz
              clear HP
              by_cases hj6 : j < 60
              · obtain ⟨c0, c1, c2⟩ := H.out.blk
                have hpk : Calls Try.prog 18 #[.int .i64 nn, .int .i64 676] wz fun e w' => e = .returned (.int .i64 (pickN nn 676)) ∧ w' = wz := pick9 nn 676 wz hnn (by omega) (by omega)
                have hpl := pickN_lt nn 676 (by omega)
                generalize pickN nn 676 = p at *
                obtain ⟨r, hr⟩ : ∃ r : Int, ((j : Int) * 7 + (p : Int)) % 676 = r := ⟨_, rfl⟩
                have hr2 : ((j : Int) * 7 + (p : Int)).tmod 676 = r := by rw [← hr]; exact Int.tmod_eq_emod_of_nonneg (by omega)
                have hrow := row_any r (by omega) (by omega) wz
                simp only at c0 c1 c2
                go_wp2_with (go_at_call 18; refine hpk.mono ?_; clear hpk; rintro e wx ⟨rfl, hwx⟩; rw [hwx]; clear hwx wx)
                refine hrow.mono ?_
                clear hrow
                rintro e wy ⟨s, rfl, hby⟩
                have hq := H.out.below hby
                obtain ⟨c0, c1, c2⟩ := hq.blk
                have hi := hq.gho (by omega) s
                clear hq hby H
                simp only at c0 c1 c2
                go_wp2_with fail
                refine hi.mono ?_
                clear hi c0 c1 c2
                rintro e wb ⟨z, rfl, hb⟩
                have HR : Hid (PB w wb (pt a) B ⟨7, nn, key, is, nr⟩ (61 * k + (j + 1))) := hb
                clear hb
                go_wp2_with fail
                go_roundw
                case rel => exact ⟨j + 1, by go_num, by omega, HR⟩
                case measure => simp [intOf]; omega
              · have HR : Hid (TA w wz a (61 * (k + 1))) := H.out.ta (by omega)
                clear H
                go_wp2_with fail
                go_roundw
                case rel => exact ⟨k + 1, by go_num, by omega, by omega, HR⟩
                case measure => simp [intOf]; omega
          · have HR : Hid (TA w (wr.alloc (.cells #[.int .i64 kd, .int .i64 nn, .string key, .bool is, .bool nr] 32)) a (61 * (k + 1))) := HP.out.ta (by omega)
            go_wp2_with (guard_target = wpList _ _ _ (Oper.mk _ (Op.load 32 _) _ _ _ _ :: _) _ _; refine wpList_load_mid rfl 32 _ rfl g (o + k * 5) (by rfl) [.int .i64 kd, .int .i64 nn, .string key, .bool is, .bool nr] _ hrb Try.underlying32 rfl infoOp9 ?_)
            go_roundw
            case rel => exact ⟨k + 1, by go_num, by omega, by omega, HR⟩
            case measure => simp [intOf]; omega
        · clear H
          go_wp2_with fail
          go_meet
          case rel => exact HX
      · clear H
        go_wp2_with fail
        go_meet
        case rel => exact HX
  case rest =>
  have H1 := hcut
  clear hcut H0
  obtain ⟨ro, L, t, hl⟩ := H1.out
  have nc := tcount_any t.tr
  have HL : Hid (Line L) := t.tr.line
  have T0 : Hid (TB w wc ro (pt a) L) := t
  have hlg := live_ghost L
  clear H1 t
  generalize liveN L = lv at *
  generalize ghostN L = gh at *
  go_wp2_with fail
  refine nc.mono ?_
  clear nc
  rintro e wd ⟨rfl, hbd⟩
  have T1 : Hid (TB w wd ro (pt a) L) := T0.out.below hbd
  clear T0 hbd
  simp only
  go_wp2_with fail
  go_loopw [10, 11, 12] (fun kv fv i wr => ∃ n : Nat, kv = .string (keyAt L n) ∧ fv = .bool (decide (n = 0)) ∧ i = .int .i64 n ∧ n ≤ L.length ∧ Hid (TB w wr ro (pt a) L)) (fun _ _ i _ => L.length + 1 - (intOf i).toNat)
  case atStart => exact ⟨0, rfl, rfl, rfl, Nat.zero_le _, T1⟩
  case round =>
    obtain ⟨n, rfl, rfl, rfl, hn, T⟩ := hrel
    clear T1
    have hna := next_at HL.out n hn
    have n1 := tnext_any T.out.tr (keyAt L n) (decide (n = 0))
    have hle : (n : Int) ≤ (lv : Int) + (gh : Int) := by omega
    by_cases hlt : n < L.length
    · rw [hna, List.getElem?_eq_getElem hlt] at n1
      have hget := get_of_mem HL.out (List.getElem_mem hlt)
      have hks := keyAt_succ hlt
      have hkl : n ≠ 0 → kl (keyAt L n) L[n].key = true := fun h0 => keyAt_lt HL.out h0 hlt
      generalize L[n] = e1 at *
      obtain ⟨k1, m1, g1⟩ := e1
      simp only at hget hks hkl
      clear hna
      go_wp2_with fail
      refine n1.mono ?_
      clear n1
      rintro e wa ⟨rfl, hba⟩
      have t := T.out.below hba
      have n2 := tget_any t.tr k1
      rw [hget] at n2
      have T2' : Hid (TB w wa ro (pt a) L) := t
      clear T t hba hget
      simp only [nextV]
      by_cases h0 : n = 0
      · subst h0
        simp only [decide_true]
        go_wp2_with fail
        refine n2.mono ?_
        clear n2
        rintro e wb ⟨rfl, hbb⟩
        have T3' : Hid (TB w wb ro (pt a) L) := T2'.out.below hbb
        clear hbb T2'
        simp only [getV]
        go_wp2_with fail
        go_roundw
        case rel => exact ⟨0 + 1, by rw [hks], rfl, by go_num, by omega, T3'⟩
        case measure => first | (simp [intOf]; done) | (simp [intOf]; omega)
      · have d0 : decide (n = 0) = false := decide_eq_false h0
        have q1 : Op.bytesLess k1.toList (keyAt L n).toList = false := kl_asymm (hkl h0)
        have q2 : (k1.toList == (keyAt L n).toList) = false := by
          rw [eq_kl]; exact decide_eq_false fun e => by have := hkl h0; rw [← e, kl_irrefl] at this; cases this
        rw [d0]
        generalize keyAt L n = kk at *
        go_wp2_with fail
        refine n2.mono ?_
        clear n2
        rintro e wb ⟨rfl, hbb⟩
        have T3' : Hid (TB w wb ro (pt a) L) := T2'.out.below hbb
        clear hbb T2'
        simp only [getV]
        go_wp2_with fail
        go_roundw
        case rel => exact ⟨n + 1, by rw [hks], rfl, by go_num, by omega, T3'⟩
        case measure => simp [intOf]; omega
    · rw [hna, List.getElem?_eq_none (by omega)] at n1
      have heq : (n : Int) = (lv : Int) + (gh : Int) := by omega
      go_wp2_with fail
      refine n1.mono ?_
      clear n1
      rintro e wa ⟨rfl, hba⟩
      have t := T.out.below hba
      have n2 := twell_any t.tr (by omega)
      have HB : Hid _ := t.bl
      clear T t hba
      simp only [nextV]
      go_wp2_with fail
      refine n2.mono ?_
      clear n2
      rintro e wb ⟨rfl, hbb⟩
      simp only
      go_wp2_with fail
      go_ret
      exact ⟨rfl, HB.out.trans (hbb.mono HB.out.size)⟩
end Go.Proofs.Ytfobcnmhghfanaa

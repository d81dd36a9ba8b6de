/- The walk of the law DiskPlays. -/
import Derived.Test.YtggkclnnneoohaaD5ZB
import Derived.Test.YtggkclnnneoohaaD5Open
import Derived.Deep.CutBlock
import Derived.Deep.DeepCutAuto
namespace Go.Proofs.Ytggkclnnneoohaa
open Go.RowKit Go.Maps
set_option linter.unusedVariables false
set_option linter.unusedSimpArgs false

theorem infoOp5 : (Try.prog.info? 35).map (·.size) = some 4 := by kernel_rfl
set_option maxRecDepth 100000 in
set_option maxHeartbeats 20000000 in
theorem diskPlays_law (N : Int) (v : Value) (rs : List OpV) (w : World) (hN0 : -9223372036854775808 ≤ N ∧ N ≤ 9223372036854775807) (hv : OpsAt w v rs) (hok : ∀ x ∈ rs, OpOk 140737488351232 w x) (hl : rs.length ≤ 4398046511104) :
    Calls Try.prog 3 #[.int .i64 N, v] w fun e w' => e = .returned (.bool true) ∧ Below w.heap.size w w' := by
  obtain ⟨ao, cap, rfl, hcap, hcl⟩ := hv
  have HOK : Hid (∀ x ∈ rs, OpOk 140737488351232 w x) := hok
  have HCL : Hid (rs = [] ∨ ∃ g o, ao = some ⟨g, o, none⟩ ∧ ∀ k (h : k < rs.length), w.rangeAt g (o + k * 4) (cellsO rs[k])) := hcl
  clear hok hcl
  by_cases hN : 1 ≤ N ∧ N ≤ 4096
  · have t1 : decide (N ≥ 1) = true := by simp; omega
    have t2 : decide (N ≤ 4096) = true := by simp; omega
    go_enter Try.func3, Try.ntmps3
    go_wp2_with fail
    refine (new_any N w hN).mono ?_
    rintro e w1 ⟨gd, rfl, hD1, hb1⟩
    have HD1 : Hid (DiskAt w.heap.size w1 (fun k => w.heap.size ≤ k ∧ k < w1.heap.size) (.pointer (some ⟨gd, 0, none⟩)) 0 ⟨N, fun _ => zsec, fun _ => zsec, [], 0⟩) := hD1
    clear hD1
    go_wp2_with fail
    refine (alive_any w1).mono ?_
    rintro e w2 ⟨rfl, hb2⟩
    have hs1 := hb1.size
    have hs2 := hb2.size
    have hbw2 : Below w.heap.size w w2 := hb1.trans (hb2.mono hs1)
    have HT2 : Hid (Two5 w.heap.size (w2.alloc (.cells #[.int .i64 N, .slice none 0 0, .slice none 0 0] 31)) (fun k => w.heap.size ≤ k ∧ k < w1.heap.size) (fun k => k = w2.heap.size) (.pointer (some ⟨gd, 0, none⟩)) (.pointer (some ⟨w2.heap.size, 0, none⟩)) 0 ⟨N, fun _ => zsec, fun _ => zsec, [], 0⟩ N [] []) :=
      ⟨HD1.out.keepB (hb2.trans ((Below.refl _ _).alloc (Nat.le_refl _) _ |>.mono hs2)), ref_new w.heap.size w2 N hbw2.size, fun k hk hk2 => by omega, Same5.new N⟩
    have hbw3 : Below w.heap.size w (w2.alloc (.cells #[.int .i64 N, .slice none 0 0, .slice none 0 0] 31)) := hbw2.alloc hbw2.size _
    clear HD1 hb1 hb2 hbw2
    go_wp2_with fail
    go_loopw [5, 8, 9] (fun d q i wr => ∃ (k gd gq n : Nat) (X G : Nat → Prop) (D : DS) (F L : List EV), k ≤ rs.length ∧ k ≤ 150 ∧ d = .pointer (some ⟨gd, 0, none⟩) ∧ q = .pointer (some ⟨gq, 0, none⟩) ∧ i = .int .i64 k ∧ n + D.ws.length ≤ k ∧ F.length + L.length ≤ k ∧ Below w.heap.size w wr ∧ Hid (Two5 w.heap.size wr X G (.pointer (some ⟨gd, 0, none⟩)) (.pointer (some ⟨gq, 0, none⟩)) n D N F L)) (fun _ _ i _ => 150 - (intOf i).toNat)
    case atStart => exact ⟨0, gd, w2.heap.size, 0, _, _, _, [], [], Nat.zero_le _, Nat.zero_le _, rfl, rfl, rfl, Nat.le_refl _, Nat.le_refl _, hbw3, HT2⟩
    case round =>
      obtain ⟨k, gd7, gq7, n, X, G, D, F, L, hk, hk150, rfl, rfl, rfl, hcn, hcl, hbw, HT⟩ := hrel
      clear HT2 hbw3
      by_cases h1 : k < rs.length ∧ k < 150
      · have t6 : decide ((k : Int) < (rs.length : Int)) = true := by simpa using h1.1
        have t7 : decide ((k : Int) < 150) = true := by simp; omega
        rcases HCL.out with h0 | ⟨g, o, rfl, hcl0⟩
        · rw [h0] at h1; simp at h1
        have r0 := hcl0 k h1.1
        have ho := HOK.out _ (List.getElem_mem h1.1)
        generalize rs[k] = x at *
        obtain ⟨K, I, vb, vk, bs, ks⟩ := x
        obtain ⟨hxk, hxi, hxb, hxs, hxl⟩ := ho
        simp only at hxk hxi hxb hxs hxl
        clear hcl0
        obtain ⟨ba, bc, rfl, hbc, _⟩ := hxb.form
        obtain ⟨ka, kc, rfl⟩ : ∃ ka kc, vk = .slice ka ks.length kc := by
          rcases hxs with ⟨h, h'⟩ | ⟨a, c, h, _⟩
          · exact ⟨none, 0, by rw [h, h']; rfl⟩
          · exact ⟨some a, c, h⟩
        have hrb : wr.rangeAt g (o + k * 4) [.int .i64 K, .int .i64 I, .slice ba bs.length bc, .slice ka ks.length kc] := fun j u hu => by
          have := r0 j u hu
          exact (hbw.cell (World.block_lt_of_cell? w _ this)).trans this
        clear r0
        obtain ⟨wo, hwo⟩ : ∃ wo, wo = wr.alloc (.cells #[.int .i64 K, .int .i64 I, .slice ba bs.length bc, .slice ka ks.length kc] 35) := ⟨_, rfl⟩
        have hwb : Below wr.heap.size wr wo := by rw [hwo]; exact (Below.refl _ _).alloc (Nat.le_refl _) _
        have HTo : Hid (Two5 w.heap.size wo X G (.pointer (some ⟨gd7, 0, none⟩)) (.pointer (some ⟨gq7, 0, none⟩)) n D N F L) := HT.out.keep hwb
        have hbo : Below w.heap.size w wo := hbw.trans (hwb.mono hbw.size)
        have hso : wr.heap.size < wo.heap.size := by rw [hwo]; simp
        have hsw : w.heap.size ≤ wr.heap.size := hbw.size
        have HOB : Hid (wo.heap[wr.heap.size]? = some (.cells #[.int .i64 K, .int .i64 I, .slice ba bs.length bc, .slice ka ks.length kc] 35 (0, 0))) := by rw [hwo]; exact heap_alloc_new wr _
        have HB : Hid (Bytes w (.slice ba bs.length bc) bs) := hxb
        have HK : Hid (Bools w (.slice ka ks.length kc) ks) := hxs
        have HXl : Hid (∀ k, X k → k < wr.heap.size) := fun k hk => (HT.out.d.lo k hk).2
        have HGl : Hid (∀ k, G k → k < wr.heap.size) := fun k hk => (HT.out.r.lo k hk).2
        clear hxb hxs HT
        go_upto_block 1 with fail
        go_cut [5, 8] (fun d q wx => ∃ (gd gq n : Nat) (X G : Nat → Prop) (D : DS) (F L : List EV), d = .pointer (some ⟨gd, 0, none⟩) ∧ q = .pointer (some ⟨gq, 0, none⟩) ∧ n + D.ws.length ≤ k + 1 ∧ F.length + L.length ≤ k + 1 ∧ Below w.heap.size w wx ∧ Hid (Two5 w.heap.size wx X G (.pointer (some ⟨gd, 0, none⟩)) (.pointer (some ⟨gq, 0, none⟩)) n D N F L))
        case first =>
          go_upto_block 2 with (guard_target = wpList _ _ _ (Oper.mk _ (Op.load 35 _) _ _ _ _ :: _) _ _; refine wpList_load_mid rfl 35 _ rfl g (o + k * 4) (by rfl) [.int .i64 K, .int .i64 I, .slice ba bs.length bc, .slice ka ks.length kc] _ hrb Try.underlying35 rfl infoOp5 ?_)
          rw [← hwo]
          generalize hB0 : wr.heap.size = B0 at *
          clear hwo hrb hwb hbw
          have o0 : wo.cell? ⟨B0, 0, none⟩ = some (.int .i64 K) := by rw [cell_of_row wo B0 0 _ _ _ HOB.out]; rfl
          have o1 : wo.cell? ⟨B0, 1, none⟩ = some (.int .i64 I) := by rw [cell_of_row wo B0 1 _ _ _ HOB.out]; rfl
          have o2 : wo.cell? ⟨B0, 2, none⟩ = some (.slice ba bs.length bc) := by rw [cell_of_row wo B0 2 _ _ _ HOB.out]; rfl
          have o3 : wo.cell? ⟨B0, 3, none⟩ = some (.slice ka ks.length kc) := by rw [cell_of_row wo B0 3 _ _ _ HOB.out]; rfl
          by_cases hK1 : K = 1
          · subst hK1
            as_aux_lemma =>
              have hsw' : w.heap.size ≤ wo.heap.size := by omega
              have hbe := build_empty wo
              have hBo : Bytes wo (.slice ba bs.length bc) bs := HB.out.keep hbo
              have q2 := cell_keep ((Below.refl wo.heap.size wo).alloc (Nat.le_refl _) (.cells #[] 5)) o2
              go_wp2_with (at_builtin; refine wp_appF wo rfl _ _ rfl rfl (.slice ba bs.length bc) bs rfl hBo hxl ?_; intro g5 c5 cur5 w5 hg5 hh5 hcs5 hlc5 hB5 hb5; have hs5 := hb5.size; have q1 := cell_keep hb5 o1; clear hBo hbe q2)
              have hW := write_all (HTo.out.d.keepB hb5) I _ bs hB5 (by omega)
              rw [HTo.out.s.size] at hW
              refine hW.mono ?_
              rintro e w6 ⟨rfl, ht6⟩
              obtain ⟨X6, hP6, hf6, hX6, hb6⟩ := (HTo.out.pair.keep hb5).turnD (by omega) ht6
              have hs6 := hf6.size
              have hX5 : ¬ X g5 := fun h => by have := HXl.out _ h; omega
              have hXB : ¬ X B0 := fun h => by have := HXl.out _ h; omega
              have hg5l : g5 < w5.heap.size := (Array.getElem?_eq_some_iff.1 hh5).1
              have hX6g : ¬ X6 g5 := fun h => by
                rcases hX6 _ h with h | h
                · exact hX5 h
                · omega
              have hG6g : ¬ G g5 := fun h => by have := HGl.out _ h; omega
              have hSc : Scrub w6 w6 g5 c5 := Scrub.start ((hf6.block g5 hg5l hX5).trans hh5) hcs5
              have HP6 : Hid (Pair5 w.heap.size w6 X6 G (.pointer (some ⟨gd7, 0, none⟩)) (.pointer (some ⟨gq7, 0, none⟩)) n (D.write I bs) N F L) := hP6
              have HO6 : Hid (w6.heap[B0]? = some (.cells #[.int .i64 1, .int .i64 I, .slice ba bs.length bc, .slice ka ks.length kc] 35 (0, 0))) := (hf6.block B0 (by omega) hXB).trans ((hb5.block B0 (by omega)).trans HOB.out)
              have hb06 : Below w.heap.size w w6 := hbo.trans ((hb5.mono hsw').trans hb6)
              obtain ⟨E, hE⟩ : ∃ E : Int, writeE N I bs = E := ⟨_, rfl⟩
              rw [hE]
              clear hW ht6 hP6 hf6 hX6 hb6 hB5 hb5 hh5 q1 o0 o1 o2 o3 HOB
              go_wp2_with fail
              go_loopw [13] (fun iv wq => ∃ j : Nat, j ≤ bs.length ∧ iv = .int .i64 j ∧ Scrub w6 wq g5 c5) (fun iv _ => bs.length - (intOf iv).toNat)
              case atStart => exact ⟨0, Nat.zero_le _, rfl, hSc⟩
              case round =>
                rename World => wq
                obtain ⟨j, hj, rfl, hSq⟩ := hrel
                clear hSc
                by_cases hj1 : j < bs.length
                · have tj : decide ((j : Int) < (bs.length : Int)) = true := by simpa using hj1
                  obtain ⟨u0, hu0⟩ := hSq.cell (k := j) (by omega)
                  have hfz := hSq.frozen j
                  have hSn := hSq.step j (.int .u8 99)
                  go_wp2
                  go_roundw
                  case rel => exact ⟨j + 1, by omega, by go_num, hSn⟩
                  case measure => simp [intOf]; omega
                · have tj : decide ((j : Int) < (bs.length : Int)) = false := by simpa using hj1
                  have hbq : Below w.heap.size w wq := hb06.trans (hSq.below (by omega) (by omega))
                  have hPq : Pair5 w.heap.size wq X6 G (.pointer (some ⟨gd7, 0, none⟩)) (.pointer (some ⟨gq7, 0, none⟩)) n (D.write I bs) N F L := HP6.out.scrub hSq hX6g hG6g
                  have hOq := (hSq.f.block B0 (by omega) (by omega)).trans HO6.out
                  have p1 : wq.cell? ⟨B0, 1, none⟩ = some (.int .i64 I) := by rw [cell_of_row wq B0 1 _ _ _ hOq]; rfl
                  have p2 : wq.cell? ⟨B0, 2, none⟩ = some (.slice ba bs.length bc) := by rw [cell_of_row wq B0 2 _ _ _ hOq]; rfl
                  have hRW := refWrite_all hPq.r I _ bs (HB.out.keep hbq) (by omega)
                  rw [hE] at hRW
                  have HPq : Hid (Pair5 w.heap.size wq X6 G (.pointer (some ⟨gd7, 0, none⟩)) (.pointer (some ⟨gq7, 0, none⟩)) n (D.write I bs) N F L) := hPq
                  have hsq := hSq.f.size
                  clear hPq hOq hSq HP6 HO6
                  go_wp2_with (go_at_call 10; refine hRW.mono ?_; rintro e w7 ⟨rfl, L7, ht7, hL7, hS7⟩; obtain ⟨G7, hP7, hb7⟩ := HPq.out.turnR (by omega) ht7; have HT7 : Hid (Two5 w.heap.size w7 X6 G7 (.pointer (some ⟨gd7, 0, none⟩)) (.pointer (some ⟨gq7, 0, none⟩)) n (D.write I bs) N F L7) := hP7.two (hS7 _ HTo.out.s); have hb07 : Below w.heap.size w w7 := hbq.trans hb7; clear ht7 hS7 hP7 hb7)
                  go_meet
                  exact ⟨gd7, gq7, n, X6, G7, D.write I bs, F, L7, rfl, rfl, by have := (write_len D I bs).1; omega, by omega, hb07, HT7⟩
          · have hb1 : (K == 1) = false := by rw [beq_eq_false_iff_ne]; exact hK1
            by_cases hK2 : K = 2
            · subst hK2
              as_aux_lemma =>
                have hS := sync_all HTo.out.d
                have hsw' : w.heap.size ≤ wo.heap.size := by omega
                go_wp2_with fail
                refine hS.mono ?_
                rintro e w5 ⟨rfl, ht5⟩
                obtain ⟨X5, hP5, hf5, hX5, hb5⟩ := HTo.out.pair.turnD hsw' ht5
                have hs5 := hf5.size
                have HP5 : Hid (Pair5 w.heap.size w5 X5 G (.pointer (some ⟨gd7, 0, none⟩)) (.pointer (some ⟨gq7, 0, none⟩)) n { D with safe := D.ws.length } N F L) := hP5
                clear hS ht5 hP5 hf5 hX5 o0 o1 o2 o3
                go_wp2_with fail
                refine (refSync_any HP5.out.r (by omega)).mono ?_
                rintro e w6 ⟨rfl, ht6⟩
                obtain ⟨G6, hP6, hb6⟩ := HP5.out.turnR (by omega) ht6
                have HT6 : Hid (Two5 w.heap.size w6 X5 G6 (.pointer (some ⟨gd7, 0, none⟩)) (.pointer (some ⟨gq7, 0, none⟩)) n { D with safe := D.ws.length } N F (L ++ [syncE])) := hP6.two HTo.out.s.sync
                have hb06 : Below w.heap.size w w6 := hbo.trans (hb5.trans hb6)
                clear ht6 hP6 HP5 HTo HOB HB HK HXl HGl hb5 hb6
                go_wp2
                go_meet
                exact ⟨gd7, gq7, n, X5, G6, { D with safe := D.ws.length }, F, L ++ [syncE], rfl, rfl, by show n + D.ws.length ≤ k + 1; omega, by simp; omega, hb06, HT6⟩
            · have hb2 : (K == 2) = false := by rw [beq_eq_false_iff_ne]; exact hK2
              by_cases hK3 : K = 3
              · subst hK3
                as_aux_lemma =>
                  have hsw' : w.heap.size ≤ wo.heap.size := by omega
                  by_cases hI : 0 ≤ I ∧ I < N
                  · have hRd := read_any HTo.out.d I (by rw [HTo.out.s.size]; exact hI)
                    go_wp2_with fail
                    refine hRd.mono ?_
                    rintro e w5 ⟨k5, hk5, rfl, hr5, hb5⟩
                    have q1 := cell_keep hb5 o1
                    have hRr := refRead_any (HTo.out.r.keepB hb5) I hI
                    rw [← HTo.out.s.now I] at hRr
                    have hnl := now_len5 HTo.out.d I
                    clear hRd o0 o1 o2 o3
                    go_wp2_with fail
                    refine hRr.mono ?_
                    rintro e w6 ⟨k6, rfl, hr6, hb6⟩
                    have hr5' : RowB w6 k5 (D.now I) := (hb6.block k5 hr5.lt).trans hr5
                    have hsm := same_any (sl k5) (sl k6) _ _ w6 (bytes_row hr5' hnl) (bytes_row hr6 hnl)
                    rw [decide_eq_true rfl] at hsm
                    have hs5 := hb5.size
                    have hs6 := hb6.size
                    have hk5l := hr5.lt
                    clear hRr q1
                    go_wp2_with fail
                    refine hsm.mono ?_
                    rintro e w7 ⟨rfl, hw7⟩
                    rw [hw7]
                    have hSc : Scrub w6 w6 k5 128 := Scrub.start hr5' (by simp [hnl])
                    have HP6 : Hid (Pair5 w.heap.size w6 X G (.pointer (some ⟨gd7, 0, none⟩)) (.pointer (some ⟨gq7, 0, none⟩)) n D N F L) := (HTo.out.pair.keep hb5).keep hb6
                    have hb06 : Below w.heap.size w w6 := hbo.trans ((hb5.mono hsw').trans (hb6.mono (by omega)))
                    have hX5 : ¬ X k5 := fun h => by have := HXl.out _ h; omega
                    have hG5 : ¬ G k5 := fun h => by have := HGl.out _ h; omega
                    clear hw7 hsm hr6 hr5 hr5' HOB HB HK hb5 hb6 hnl
                    go_wp2_with fail
                    go_loopw [19] (fun iv wq => ∃ j : Nat, j ≤ 128 ∧ iv = .int .i64 j ∧ Scrub w6 wq k5 128) (fun iv _ => 128 - (intOf iv).toNat)
                    case atStart => exact ⟨0, Nat.zero_le _, rfl, hSc⟩
                    case round =>
                      rename World => wq
                      obtain ⟨j, hj, rfl, hSq⟩ := hrel
                      clear hSc
                      by_cases hj1 : j < 128
                      · have tj : decide ((j : Int) < 128) = true := by simp; omega
                        obtain ⟨u0, hu0⟩ := hSq.cell (k := j) (by omega)
                        have hfz := hSq.frozen j
                        have hSn := hSq.step j (.int .u8 98)
                        go_wp2
                        go_roundw
                        case rel => exact ⟨j + 1, by omega, by go_num, hSn⟩
                        case measure => simp [intOf]; omega
                      · have tj : decide ((j : Int) < 128) = false := by simp; omega
                        have hbq : Below w.heap.size w wq := hb06.trans (hSq.below (by omega) (by omega))
                        have HTq : Hid (Two5 w.heap.size wq X G (.pointer (some ⟨gd7, 0, none⟩)) (.pointer (some ⟨gq7, 0, none⟩)) n D N F L) := (HP6.out.scrub hSq hX5 hG5).two HTo.out.s
                        clear HP6 hSq HTo
                        go_wp2
                        go_meet
                        exact ⟨gd7, gq7, n, X, G, D, F, L, rfl, rfl, by omega, by omega, hbq, HTq⟩
                  · have hRd := read_bad HTo.out.d I (by rw [HTo.out.s.size]; omega)
                    have hRr := refRead_bad HTo.out.r I (by omega)
                    have hsm := same_any (.slice none 0 0) (.slice none 0 0) [] [] wo (Or.inl ⟨rfl, rfl⟩) (Or.inl ⟨rfl, rfl⟩)
                    rw [decide_eq_true rfl] at hsm
                    clear HOB HB HK HXl HGl
                    go_wp2_with (first
                      | (go_at_call 13; refine hRd.mono ?_; rintro e wx ⟨rfl, hwx⟩; rw [hwx]; clear hwx wx)
                      | (go_at_call 14; refine hRr.mono ?_; rintro e wx ⟨rfl, hwx⟩; rw [hwx]; clear hwx wx)
                      | (go_at_call 15; refine hsm.mono ?_; rintro e wx ⟨rfl, hwx⟩; rw [hwx]; clear hwx wx))
                    go_loopw [19] (fun iv wq => iv = .int .i64 0 ∧ wq = wo) (fun _ _ => 0)
                    case atStart => exact ⟨rfl, rfl⟩
                    case round =>
                      obtain ⟨rfl, hwq⟩ := hrel
                      rw [hwq]
                      go_wp2
                      go_meet
                      exact ⟨gd7, gq7, n, X, G, D, F, L, rfl, rfl, by omega, by omega, hbo, HTo⟩
              · have hb3 : (K == 3) = false := by rw [beq_eq_false_iff_ne]; exact hK3
                by_cases hK4 : K = 4
                · subst hK4
                  as_aux_lemma =>
                    have hsw' : w.heap.size ≤ wo.heap.size := by omega
                    have hcD := Cut_any HTo.out.d (.slice ka ks.length kc) ks (HK.out.keep hbo)
                    have hsame : Same5 (D.left D.ws.length D.safe ks) N (leftE ks (lastS L) L F).1 [] := HTo.out.s.cut ks L HTo.out.r.lens _ _ (by rw [List.take_length]; exact HTo.out.s.ws) HTo.out.s.safe
                    have hF' : (leftE ks (lastS L) L F).1.length ≤ F.length + L.length := left_len ks L F L (Nat.le_refl _) _
                    go_wp2_with fail
                    refine hcD.mono ?_
                    rintro e w5 ⟨c5, X5, rfl, hD5, hb5⟩
                    have q3 := cell_keep hb5 o3
                    have q0 := cell_keep hb5 o0
                    have hcR := refCut_any (HTo.out.r.keepB hb5) (.slice ka ks.length kc) ks (HK.out.keep (hbo.trans (hb5.mono hsw'))) (by omega)
                    have hs5 := hb5.size
                    clear hcD o0 o1 o2 o3
                    go_wp2_with fail
                    refine hcR.mono ?_
                    rintro e w6 ⟨c6, rfl, hR6, hb6⟩
                    have p0 := cell_keep hb6 q0
                    have hs6 := hb6.size
                    have hb56 : Below wo.heap.size wo w6 := hb5.trans (hb6.mono hs5)
                    have HT6 : Hid (Two5 w.heap.size w6 X5 (fun k => G k ∨ w5.heap.size ≤ k ∧ k < w6.heap.size) (.pointer (some ⟨c5, 0, none⟩)) (.pointer (some ⟨c6, 0, none⟩)) (n + D.ws.length) (D.left D.ws.length D.safe ks) N (leftE ks (lastS L) L F).1 []) := HTo.out.cutTo hsw' hD5 hb5 hR6 hb6 hsame
                    have hsm := same_law (HTo.out.keep hb56)
                    clear hcR hD5 hR6 q3 q0 HOB HB HK HXl HGl
                    go_wp2_with (go_at_call 20; refine hsm.mono ?_; rintro e w7 ⟨rfl, hb7⟩; have HT7 : Hid _ := HT6.out.keep hb7; have hb07 : Below w.heap.size w w7 := hbo.trans ((hb56.mono hsw').trans (hb7.mono (by omega))); clear hsm HT6)
                    go_meet
                    exact ⟨c5, c6, _, _, _, _, _, [], rfl, rfl, by show n + D.ws.length + 0 ≤ k + 1; omega, by simp; omega, hb07, HT7⟩
                · have hb4 : (K == 4) = false := by rw [beq_eq_false_iff_ne]; exact hK4
                  by_cases hK5 : K = 5
                  · subst hK5
                    as_aux_lemma =>
                      have hsw' : w.heap.size ≤ wo.heap.size := by omega
                      have hcD := Cut_any HTo.out.d (.slice ka ks.length kc) ks (HK.out.keep hbo)
                      go_wp2_with fail
                      refine hcD.mono ?_
                      rintro e w5 ⟨c5, X5, rfl, hD5, hb5⟩
                      have q3 := cell_keep hb5 o3
                      have q1 := cell_keep hb5 o1
                      have q0 := cell_keep hb5 o0
                      have hcR := refCut_any (HTo.out.r.keepB hb5) (.slice ka ks.length kc) ks (HK.out.keep (hbo.trans (hb5.mono hsw'))) (by omega)
                      have hs5 := hb5.size
                      clear hcD o0 o1 o2 o3 hD5
                      go_wp2_with fail
                      refine hcR.mono ?_
                      rintro e w6 ⟨c6, rfl, hR6, hb6⟩
                      have p0 := cell_keep hb6 q0
                      have p1 := cell_keep hb6 q1
                      have p3 := cell_keep hb6 q3
                      have hs6 := hb6.size
                      have hb56 : Below wo.heap.size wo w6 := hb5.trans (hb6.mono hs5)
                      have HT6 : Hid (Two5 w.heap.size w6 X G (.pointer (some ⟨gd7, 0, none⟩)) (.pointer (some ⟨gq7, 0, none⟩)) n D N F L) := HTo.out.keep hb56
                      have hb06 : Below w.heap.size w w6 := hbo.trans (hb56.mono hsw')
                      clear hcR hR6 q3 q1 q0 HOB HTo hb5 hb6
                      obtain ⟨m, hm⟩ : ∃ m : Nat, (m : Int) = min (max I 0) D.ws.length := ⟨(min (max I 0) (D.ws.length : Int)).toNat, by omega⟩
                      have hwl : (D.ws.length : Int) = (cntE L : Nat) := by rw [HT6.out.s.ws, stE_len']
                      have hcD := CutAt_any HT6.out.d I m hm (.slice ka ks.length kc) ks (HK.out.keep hb06)
                      go_wp2_with fail
                      refine hcD.mono ?_
                      rintro e w7 ⟨c7, X7, rfl, hD7, hb7⟩
                      have q3 := cell_keep hb7 p3
                      have q1 := cell_keep hb7 p1
                      have hs7 := hb7.size
                      have hcR := refCutAt_any (HT6.out.r.keepB hb7) I m (by omega) (.slice ka ks.length kc) ks (HK.out.keep (hb06.trans (hb7.mono (by omega)))) (by omega)
                      clear hcD p0 p1 p3
                      go_wp2_with fail
                      refine hcR.mono ?_
                      rintro e w8 ⟨tt, hu, c8, rfl, hR8, hb8⟩
                      have hup := HT6.out.s.upto hu
                      have hsame : Same5 (D.left m (D.safeAt m) ks) N (leftE ks (lastS (L.take tt)) (L.take tt) F).1 [] := HT6.out.s.cut ks (L.take tt) (fun e he => HT6.out.r.lens e (List.mem_of_mem_take he)) _ _ hup.1 hup.2
                      have hF' : (leftE ks (lastS (L.take tt)) (L.take tt) F).1.length ≤ F.length + L.length := left_len ks (L.take tt) F L (by simp; omega) _
                      have hs8 := hb8.size
                      have hb68 : Below w6.heap.size w6 w8 := hb7.trans (hb8.mono hs7)
                      have HT8 : Hid (Two5 w.heap.size w8 X7 (fun k => G k ∨ w7.heap.size ≤ k ∧ k < w8.heap.size) (.pointer (some ⟨c7, 0, none⟩)) (.pointer (some ⟨c8, 0, none⟩)) (n + D.ws.length) (D.left m (D.safeAt m) ks) N (leftE ks (lastS (L.take tt)) (L.take tt) F).1 []) := HT6.out.cutTo (by omega) hD7 hb7 hR8 hb8 hsame
                      have hsm := same_law (HT6.out.keep hb68)
                      clear hcR hD7 hR8 q3 q1 HB HK HXl HGl
                      go_wp2_with (go_at_call 20; refine hsm.mono ?_; rintro e w9 ⟨rfl, hb9⟩; have HT9 : Hid _ := HT8.out.keep hb9; have hb09 : Below w.heap.size w w9 := hb06.trans ((hb68.mono (by omega)).trans (hb9.mono (by omega))); clear hsm HT8)
                      go_meet
                      exact ⟨c7, c8, _, _, _, _, _, [], rfl, rfl, by show n + D.ws.length + 0 ≤ k + 1; omega, by simp; omega, hb09, HT9⟩
                  · have hb5 : (K == 5) = false := by rw [beq_eq_false_iff_ne]; exact hK5
                    as_aux_lemma =>
                      clear HOB HB HK HXl HGl
                      go_wp2
                      go_meet
                      exact ⟨gd7, gq7, n, X, G, D, F, L, rfl, rfl, by omega, by omega, hbo, HTo⟩
        case rest =>
          as_aux_lemma =>
            obtain ⟨gd8, gq8, n8, X8, G8, D8, F8, L8, rfl, rfl, hcn8, hcl8, hb8, HT8⟩ := hcut
            clear HTo HOB HB HK HXl HGl hbo hwo hrb hwb hbw
            go_wp2
            go_roundw
            case rel => exact ⟨k + 1, gd8, gq8, n8, X8, G8, D8, F8, L8, by omega, by omega, rfl, rfl, by go_num, hcn8, hcl8, hb8, HT8⟩
            case measure => simp [intOf]; omega
      · skip
        --KE
        have hend : (decide ((k : Int) < (rs.length : Int)) = false) ∨ (decide ((k : Int) < (rs.length : Int)) = true ∧ decide ((k : Int) < 150) = false) := by
          by_cases h2 : k < rs.length
          · exact Or.inr ⟨by simpa using h2, by simp; omega⟩
          · exact Or.inl (by simpa using h2)
        have hsm := same_law HT.out
        clear HT
        rcases hend with t6 | ⟨t6, t7⟩
        · go_wp2_with (go_at_call 20; refine hsm.mono ?_; rintro e wx ⟨rfl, hbx⟩)
          all_goals (go_ret; exact ⟨rfl, hbw.trans (hbx.mono hbw.size)⟩)
        · go_wp2_with (go_at_call 20; refine hsm.mono ?_; rintro e wx ⟨rfl, hbx⟩)
          all_goals (go_ret; exact ⟨rfl, hbw.trans (hbx.mono hbw.size)⟩)
        --KEE
  · skip
    as_aux_lemma =>
      have hnb := new_bad N w (by omega)
      have hmay : (decide (N ≥ 1) = false) ∨ (decide (N ≥ 1) = true ∧ decide (N ≤ 4096) = false) := by
        by_cases h2 : 1 ≤ N
        · exact Or.inr ⟨by simp; omega, by simp; omega⟩
        · exact Or.inl (by simp; omega)
      rcases hmay with t1 | ⟨t1, t2⟩
      all_goals
        go_enter Try.func3, Try.ntmps3
        go_wp2_with (first
          | (go_at_call 7; refine hnb.mono ?_; rintro e wx ⟨rfl, hwx⟩; rw [hwx]; clear hwx wx)
          | (go_at_call 8; refine (alive_any w).mono ?_; rintro e w2 ⟨rfl, hb2⟩; have hb3 : Below w.heap.size w (w2.alloc (.cells #[.int .i64 N, .slice none 0 0, .slice none 0 0] 31)) := hb2.alloc hb2.size _))
        go_loopw [9] (fun i wr => i = .int .i64 0 ∧ Below w.heap.size w wr) (fun _ _ => 0)
        case atStart => exact ⟨rfl, hb3⟩
        case round =>
          obtain ⟨rfl, hbr⟩ := hrel
          by_cases h0 : rs.length = 0
          · have t6 : decide ((0 : Int) < (rs.length : Int)) = false := decide_eq_false (by omega)
            go_wp2
            go_ret
            exact ⟨rfl, hbr⟩
          · have t6 : decide ((0 : Int) < (rs.length : Int)) = true := decide_eq_true (by omega)
            go_wp2
            go_ret
            exact ⟨rfl, hbr⟩
end Go.Proofs.Ytggkclnnneoohaa

/- The walk of the law HeapFrames. -/
import Derived.Test.YtmhmmnojmcngfaaH8V
import Derived.Deep.CutBlock
import Derived.Deep.DeepCutAuto
namespace Go.Proofs.Ytmhmmnojmcngfaa
open Go.RowKit Go.Maps
set_option linter.unusedVariables false
set_option linter.unusedSimpArgs false

set_option maxRecDepth 100000 in
set_option maxHeartbeats 20000000 in
theorem frames_law (pages frames : Int) (v : Value) (rs : List Op8) (w : World) (hpa : -9223372036854775808 ≤ pages ∧ pages ≤ 9223372036854775807) (hfr : -9223372036854775808 ≤ frames ∧ frames ≤ 9223372036854775807) (hv : Ops8 w v rs) (hok : ∀ x ∈ rs, Op8Ok w x) (hlen : rs.length ≤ 1048576) :
    Calls Try.prog 6 #[.int .i64 pages, .int .i64 frames, v] w fun e w' => e = .returned (.bool true) ∧ Below w.heap.size w w' := by
  obtain ⟨ao, cap, rfl, hcap, hcl⟩ := hv
  have HOK : Hid (∀ x ∈ rs, Op8Ok w x) := hok
  have HCL : Hid (rs = [] ∨ ∃ g o, ao = some ⟨g, o, none⟩ ∧ ∀ k (h : k < rs.length), w.rangeAt g (o + k * 5) (cells8 rs[k])) := hcl
  clear hok hcl
  have hp1 := pick8 pages 4 w hpa (by omega) (by omega)
  have hq1 := pickN_lt pages 4 (by omega)
  obtain ⟨n, hn⟩ : ∃ n, 1 + pickN pages 4 = n := ⟨_, rfl⟩
  have hn' : (1 : Int) + (pickN pages 4 : Int) = (n : Int) := by omega
  have hn4 : 1 ≤ n ∧ n ≤ 4 := by omega
  have hq2 := pickN_lt frames 8 (by omega)
  obtain ⟨f, hf⟩ : ∃ f, 1 + pickN frames 8 = f := ⟨_, rfl⟩
  have hf' : (1 : Int) + (pickN frames 8 : Int) = (f : Int) := by omega
  have hf8 : 1 ≤ f ∧ f ≤ 8 := by omega
  have hm1 := made_any n 1 (by omega) (by omega) w
  clear hn hf hq1 hq2
  go_enter Try.func6, Try.ntmps6
  go_wp2_with (go_at_call 7; refine hp1.mono ?_; clear hp1; rintro e wx ⟨rfl, hwx⟩; rw [hwx]; clear hwx wx)
  refine hm1.mono ?_
  clear hm1
  rintro e w1 ⟨ga, Fa, rfl, hA, hb1⟩
  have hp2 := pick8 frames 8 w1 hfr (by omega) (by omega)
  have hm2 := made_any n f (by omega) (by omega) w1
  go_wp2_with (go_at_call 7; refine hp2.mono ?_; clear hp2; rintro e wx ⟨rfl, hwx⟩; rw [hwx]; clear hwx wx)
  refine hm2.mono ?_
  clear hm2
  rintro e w2 ⟨gb, Fb, rfl, hB, hb2⟩
  have hb02 : Below w.heap.size w w2 := hb1.trans (hb2.mono hb1.size)
  have HM2 : Hid (Mix w.heap.size w2.heap.size w2.heap.size w2 (.pointer (some ⟨ga, 0, none⟩)) (.pointer (some ⟨gb, 0, none⟩)) n (fun _ => []) (fun _ => []) (n + n)) := Mix.made hA hB hb1.size hb2
  have hal := alive_any w2
  clear hA hB hb1 hb2
  go_wp2_with fail
  refine hal.mono ?_
  clear hal
  rintro e w3 ⟨rfl, hb3⟩
  have HM3 : Hid (Mix w.heap.size w2.heap.size w2.heap.size w3 (.pointer (some ⟨ga, 0, none⟩)) (.pointer (some ⟨gb, 0, none⟩)) n (fun _ => []) (fun _ => []) (n + n)) := HM2.out.keepB hb3
  have hb03 : Below w.heap.size w w3 := hb02.trans (hb3.mono hb02.size)
  have HM4 : Hid (∃ R, Mix w.heap.size w3.heap.size w3.heap.size w3 (.pointer (some ⟨ga, 0, none⟩)) (.pointer (some ⟨gb, 0, none⟩)) n R R (8 + 8 * 0)) := by
    exact ⟨_, HM3.out.up.le (by omega)⟩
  clear HM2 HM3 hb02 hb3
  go_wp2
  go_loopw [10] (fun i wr => ∃ k : Nat, k ≤ rs.length ∧ k ≤ 100 ∧ i = .int .i64 k ∧ Hid (∃ R, Mix w.heap.size wr.heap.size wr.heap.size wr (.pointer (some ⟨ga, 0, none⟩)) (.pointer (some ⟨gb, 0, none⟩)) n R R (8 + 8 * k)) ∧ Below w.heap.size w wr) (fun i _ => rs.length - (intOf i).toNat)
  case atStart => exact ⟨0, Nat.zero_le _, Nat.zero_le _, rfl, HM4.out, hb03⟩
  case round =>
    obtain ⟨k, hk, hk100, rfl, HR, hbr⟩ := hrel
    clear HM4 hb03
    by_cases h1 : k < rs.length ∧ k < 100
    · obtain ⟨h1a, h1b⟩ := h1
      have t8 : decide ((k : Int) < (rs.length : Int)) = true := by simpa using h1a
      have t9 : decide ((k : Int) < 100) = true := by simp; omega
      obtain ⟨g, o, rfl, hrb⟩ := ops_at HCL.out h1a hbr
      have ho := HOK.out _ (List.getElem_mem h1a)
      obtain ⟨R, hMx⟩ := HR.out
      have HMx : Hid (Mix w.heap.size wr.heap.size wr.heap.size wr (.pointer (some ⟨ga, 0, none⟩)) (.pointer (some ⟨gb, 0, none⟩)) n R R (8 + 8 * k)) := hMx
      generalize rs[k] = x at *
      obtain ⟨kd, id, vb, tm, nr, b⟩ := x
      obtain ⟨ba, bc, hvb, _, _⟩ := ho.b.form
      simp only at hvb
      subst hvb
      have HO : Hid (Op8Ok w ⟨kd, id, .slice ba b.length bc, tm, nr, b⟩) := ho
      have hid := ho.id
      have hrb' : wr.rangeAt g (o + k * 5) [.int .i64 kd, .int .i64 id, .slice ba b.length bc, .int .i64 tm, .bool nr] := hrb
      clear hMx ho HR HCL hrb
      have hB0 : Below wr.heap.size wr (wr.alloc (.cells #[.int .i64 kd, .int .i64 id, .slice ba b.length bc, .int .i64 tm, .bool nr] 32)) := (Below.refl _ _).alloc (Nat.le_refl _) _
      have hx0 : Box8 (wr.alloc (.cells #[.int .i64 kd, .int .i64 id, .slice ba b.length bc, .int .i64 tm, .bool nr] 32)) wr.heap.size ⟨kd, id, .slice ba b.length bc, tm, nr, b⟩ := ⟨heap_alloc_new wr _⟩
      have hsz0 : (wr.alloc (.cells #[.int .i64 kd, .int .i64 id, .slice ba b.length bc, .int .i64 tm, .bool nr] 32)).heap.size = wr.heap.size + 1 := by simp
      have HX0 : Hid (Box8 (wr.alloc (.cells #[.int .i64 kd, .int .i64 id, .slice ba b.length bc, .int .i64 tm, .bool nr] 32)) wr.heap.size ⟨kd, id, .slice ba b.length bc, tm, nr, b⟩) := hx0
      have HSZ0 : Hid ((wr.alloc (.cells #[.int .i64 kd, .int .i64 id, .slice ba b.length bc, .int .i64 tm, .bool nr] 32)).heap.size = wr.heap.size + 1) := hsz0
      have HB0 : Hid (Below wr.heap.size wr (wr.alloc (.cells #[.int .i64 kd, .int .i64 id, .slice ba b.length bc, .int .i64 tm, .bool nr] 32))) := hB0
      clear hx0 hsz0 hB0
      rcases (show kd = 1 ∨ kd = 3 ∨ kd = 4 ∨ (kd ≠ 1 ∧ kd ≠ 3 ∧ kd ≠ 4) by omega) with rfl | rfl | rfl | ⟨n1, n3, n4⟩
      · skip
        as_aux_lemma =>
          go_wp2_with (guard_target = wpList _ _ _ (Oper.mk _ (Op.load 32 _) _ _ _ _ :: _) _ _; refine wpList_load_mid rfl 32 _ rfl g (o + k * 5) (by rfl) [.int .i64 1, .int .i64 id, .slice ba b.length bc, .int .i64 tm, .bool nr] _ hrb' Try.underlying32 rfl infoOp8 ?_)
          have hbx : Below w.heap.size w _ := hbr.trans (HB0.out.mono hbr.size)
          have hby := bytes8 (HO.out.keep hbx)
          have HM0 := HMx.out.keepB HB0.out
          have hxb := HX0.out
          have hszb := HSZ0.out
          have hlb := repB_len ⟨1, id, .slice ba b.length bc, tm, nr, b⟩ HO.out.len
          obtain ⟨wb, hwb⟩ : ∃ wb, wr.alloc (.cells #[.int .i64 1, .int .i64 id, .slice ba b.length bc, .int .i64 tm, .bool nr] 32) = wb := ⟨_, rfl⟩
          rw [hwb] at hbx hby HM0 hxb hszb
          rw [hwb]
          obtain ⟨rb, hrb⟩ : ∃ rb, repB ⟨1, id, .slice ba b.length bc, tm, nr, b⟩ = rb := ⟨_, rfl⟩
          have HRB : Hid (repB ⟨1, id, .slice ba b.length bc, tm, nr, b⟩ = rb) := hrb
          rw [hrb] at hby hlb
          clear hrb
          refine hby.mono ?_
          rintro e w3 ⟨a3, m3, c3, rfl, ho3, hb3⟩
          have hs3 := hb3.size
          have hI1 := (HM0.keepB hb3).insert (by omega) _ rb ho3.toBytes (newB_own ho3 (by omega)) (by omega)
          have hx3 := hxb.keep hb3
          have hbx3 : Below w.heap.size w w3 := hbx.trans (hb3.mono hbx.size)
          have HX3 : Hid (Box8 w3 wr.heap.size ⟨1, id, .slice ba b.length bc, tm, nr, b⟩) := hx3
          have HB3 : Hid (Below w.heap.size w w3) := hbx3
          clear hby HM0 ho3 hb3 hx3 hbx3 hbx hxb hwb HMx HX0 HB0 HSZ0 hrb'
          go_wp2_with fail
          refine hI1.mono ?_
          clear hI1
          rintro e w4 ⟨rfl, hM4, hf4⟩
          have hx4 := HX3.out.fr hf4 (fun h => by omega)
          have hb4 : Below w.heap.size w w4 := fr_base HB3.out hf4 HB3.out.size
          have hby2 := bytes8 (HO.out.keep hb4)
          have hr4 : w4.rangeAt wr.heap.size 0 [.int .i64 1, .int .i64 id, .slice ba b.length bc, .int .i64 tm, .bool nr] := fun j u hu => by
            rw [Nat.zero_add, cell_of_row w4 _ _ _ _ _ hx4.hb]
            simpa [cells8] using hu
          rw [HRB.out] at hby2
          have HM4 : Hid (Mix w.heap.size w4.heap.size wr.heap.size w4 (.pointer (some ⟨ga, 0, none⟩)) (.pointer (some ⟨gb, 0, none⟩)) n (insR n R rb) R (8 + 8 * k + n)) := hM4
          have HB4 : Hid (Below w.heap.size w w4) := hb4
          clear hM4 hf4 hb4 hx4 HX3 HB3
          go_wp2_with (guard_target = wpList _ _ _ (Oper.mk _ (Op.load 32 _) _ _ _ _ :: _) _ _; refine wpList_load_mid rfl 32 _ rfl wr.heap.size 0 (by rfl) [.int .i64 1, .int .i64 id, .slice ba b.length bc, .int .i64 tm, .bool nr] _ hr4 Try.underlying32 rfl infoOp8 ?_)
          refine hby2.mono ?_
          clear hby2 hr4
          rintro e w5 ⟨a5, m5, c5, rfl, ho5, hb5⟩
          have hs5 := hb5.size
          have hI2 := (HM4.out.keepB hb5).swap.insert (by omega) _ rb ho5.toBytes (newB_own ho5 (by have := HM4.out.size.2; omega)) (by omega)
          have HB5 : Hid (Below w.heap.size w w5) := HB4.out.trans (hb5.mono HB4.out.size)
          clear ho5 hb5 HM4 HB4
          go_wp2_with fail
          refine hI2.mono ?_
          clear hI2
          rintro e w6 ⟨rfl, hM6, hf6⟩
          have HM6 : Hid (∃ R, Mix w.heap.size w6.heap.size w6.heap.size w6 (.pointer (some ⟨ga, 0, none⟩)) (.pointer (some ⟨gb, 0, none⟩)) n R R (8 + 8 * (k + 1))) := ⟨_, hM6.swap.up.le (by omega)⟩
          have hb6 : Below w.heap.size w w6 := fr_base HB5.out hf6 HB5.out.size
          clear hM6 hf6 HB5 HRB
          generalize (insE n R rb).1 = E1 at *
          generalize (insE n R rb).2 = E2 at *
          go_wp2
          go_roundw
          case rel => exact ⟨k + 1, by omega, by omega, by first | go_num | (congr 1; omega), HM6.out, hb6⟩
          case measure => simp [intOf]; omega
      · skip
        as_aux_lemma =>
          have hbx : Below w.heap.size w _ := hbr.trans (HB0.out.mono hbr.size)
          have HBY : Hid (∀ wx, Below w.heap.size w wx → Calls Try.prog 19 #[.agg #[.int .i64 3, .int .i64 id, .slice ba b.length bc, .int .i64 tm, .bool nr]] wx fun e w' => ∃ ao m cp, e = .returned (.slice ao m cp) ∧ OwnB wx.heap.size w' (.slice ao m cp) (repB ⟨3, id, .slice ba b.length bc, tm, nr, b⟩) ∧ Below wx.heap.size wx w') := fun wx h => bytes8 (HO.out.keep h)
          have HM0 := HMx.out.keepB HB0.out
          have hxb := HX0.out
          have hszb := HSZ0.out
          have hlb := repB_len ⟨3, id, .slice ba b.length bc, tm, nr, b⟩ HO.out.len
          go_wp2_with (guard_target = wpList _ _ _ (Oper.mk _ (Op.load 32 _) _ _ _ _ :: _) _ _; refine wpList_load_mid rfl 32 _ rfl g (o + k * 5) (by rfl) [.int .i64 3, .int .i64 id, .slice ba b.length bc, .int .i64 tm, .bool nr] _ hrb' Try.underlying32 rfl infoOp8 ?_)
          obtain ⟨wb, hwb⟩ : ∃ wb, wr.alloc (.cells #[.int .i64 3, .int .i64 id, .slice ba b.length bc, .int .i64 tm, .bool nr] 32) = wb := ⟨_, rfl⟩
          rw [hwb] at hbx HM0 hxb hszb
          rw [hwb]
          generalize repB ⟨3, id, .slice ba b.length bc, tm, nr, b⟩ = rb at *
          have HM0' : Hid (Mix w.heap.size wr.heap.size wr.heap.size wb (.pointer (some ⟨ga, 0, none⟩)) (.pointer (some ⟨gb, 0, none⟩)) n R R (8 + 8 * k)) := HM0
          have HBX : Hid (Below w.heap.size w wb) := hbx
          have HXB : Hid (Box8 wb wr.heap.size ⟨3, id, .slice ba b.length bc, tm, nr, b⟩) := hxb
          have S0 := hxb.cells
          simp only at S0
          clear hwb hbx hxb HM0 HMx HX0 HB0 HSZ0 hrb'
          go_region_held_law (fun w' => w'.cell? ⟨wr.heap.size, 0, none⟩ = some (.int .i64 3) ∧ w'.cell? ⟨wr.heap.size, 1, none⟩ = some (.int .i64 id) ∧ w'.cell? ⟨wr.heap.size, 2, none⟩ = some (.slice ba b.length bc) ∧ w'.cell? ⟨wr.heap.size, 3, none⟩ = some (.int .i64 tm) ∧ w'.cell? ⟨wr.heap.size, 4, none⟩ = some (.bool nr)) (first | exact S0 | exact S3 | exact S4 | exact S5 | exact S6)
            (first
              | (go_at_call 19
                 refine (HBY.out wb.drew HBX.out.drew).mono ?_
                 rintro e w3 ⟨a3, m3, c3, rfl, ho3, hb3'⟩
                 have hb3 : Below wb.heap.size wb w3 := (Below.refl wb.heap.size wb).drew.trans hb3'
                 have S3 := (HXB.out.keep hb3).cells
                 have HM3 : Hid (Mix w.heap.size wr.heap.size wr.heap.size w3 (.pointer (some ⟨ga, 0, none⟩)) (.pointer (some ⟨gb, 0, none⟩)) n R R (8 + 8 * k)) := HM0'.out.keepB hb3
                 have HXB3 : Hid (Box8 w3 wr.heap.size ⟨3, id, .slice ba b.length bc, tm, nr, b⟩) := HXB.out.keep hb3
                 have HB3 : Hid (Below w.heap.size w w3) := HBX.out.trans (hb3.mono HBX.out.size)
                 have HO3 : Hid (Bytes w3 (.slice a3 m3 c3) rb ∧ NewB wr.heap.size (.slice a3 m3 c3)) := ⟨ho3.toBytes, newB_own ho3 (by show wr.heap.size ≤ wb.heap.size; omega)⟩
                 clear ho3 hb3 hb3' HM0' HXB HBX)
              | (go_at_call 20
                 refine (HM3.out.update (by omega) id hid _ rb HO3.out.1 HO3.out.2 (by omega)).mono ?_
                 rintro e w4 ⟨rfl, hM4, hf4⟩
                 have S4 := (HXB3.out.fr hf4 (fun h => by omega)).cells
                 have HXB4 : Hid (Box8 w4 wr.heap.size ⟨3, id, .slice ba b.length bc, tm, nr, b⟩) := HXB3.out.fr hf4 (fun h => by omega)
                 have HB4 : Hid (Below w.heap.size w w4) := fr_base HB3.out hf4 HB3.out.size
                 have HM4 : Hid (Mix w.heap.size w4.heap.size wr.heap.size w4 (.pointer (some ⟨ga, 0, none⟩)) (.pointer (some ⟨gb, 0, none⟩)) n (updR n R id rb) R (8 + 8 * k + 1)) := hM4
                 clear hM4 hf4 HM3 HXB3 HB3 HO3)
              | (go_at_call 19
                 refine (HBY.out w4 HB4.out).mono ?_
                 rintro e w5 ⟨a5, m5, c5, rfl, ho5, hb5⟩
                 have S5 := (HXB4.out.keep hb5).cells
                 have HM5 : Hid (Mix w.heap.size w4.heap.size wr.heap.size w5 (.pointer (some ⟨ga, 0, none⟩)) (.pointer (some ⟨gb, 0, none⟩)) n (updR n R id rb) R (8 + 8 * k + 1)) := HM4.out.keepB hb5
                 have HXB5 : Hid (Box8 w5 wr.heap.size ⟨3, id, .slice ba b.length bc, tm, nr, b⟩) := HXB4.out.keep hb5
                 have HB5 : Hid (Below w.heap.size w w5) := HB4.out.trans (hb5.mono HB4.out.size)
                 have HO5 : Hid (Bytes w5 (.slice a5 m5 c5) rb ∧ NewB wr.heap.size (.slice a5 m5 c5)) := ⟨ho5.toBytes, newB_own ho5 HM4.out.size.2⟩
                 clear ho5 hb5 HM4 HXB4 HB4)
              | (go_at_call 20
                 refine (HM5.out.swap.update (by omega) id hid _ rb HO5.out.1 HO5.out.2 (by omega)).mono ?_
                 rintro e w6 ⟨rfl, hM6, hf6⟩
                 have S6 := (HXB5.out.fr hf6 (fun h => by omega)).cells
                 have HB6 : Hid (Below w.heap.size w w6) := fr_base HB5.out hf6 HB5.out.size
                 have HM6 : Hid (∃ R, Mix w.heap.size w6.heap.size w6.heap.size w6 (.pointer (some ⟨ga, 0, none⟩)) (.pointer (some ⟨gb, 0, none⟩)) n R R (8 + 8 * (k + 1))) := ⟨_, hM6.swap.up.le (by omega)⟩
                 clear hM6 hf6 HM5 HXB5 HB5 HO5))
          clear S0 S3 S4 S5 S6 HBY
          generalize updE n R id rb = E1 at *
          go_wp2
          go_roundw
          case rel => exact ⟨k + 1, by omega, by omega, by first | go_num | (congr 1; omega), HM6.out, HB6.out⟩
          case measure => simp [intOf]; omega
      · skip
        as_aux_lemma =>
          have hbx : Below w.heap.size w _ := hbr.trans (HB0.out.mono hbr.size)
          have HM0 := HMx.out.keepB HB0.out
          have hxb := HX0.out
          have hszb := HSZ0.out
          go_wp2_with (guard_target = wpList _ _ _ (Oper.mk _ (Op.load 32 _) _ _ _ _ :: _) _ _; refine wpList_load_mid rfl 32 _ rfl g (o + k * 5) (by rfl) [.int .i64 4, .int .i64 id, .slice ba b.length bc, .int .i64 tm, .bool nr] _ hrb' Try.underlying32 rfl infoOp8 ?_)
          obtain ⟨wb, hwb⟩ : ∃ wb, wr.alloc (.cells #[.int .i64 4, .int .i64 id, .slice ba b.length bc, .int .i64 tm, .bool nr] 32) = wb := ⟨_, rfl⟩
          rw [hwb] at hbx HM0 hxb hszb
          rw [hwb]
          have HM0' : Hid (Mix w.heap.size wr.heap.size wr.heap.size wb.drew (.pointer (some ⟨ga, 0, none⟩)) (.pointer (some ⟨gb, 0, none⟩)) n R R (8 + 8 * k)) := HM0.keepB (Below.refl _ _).drew
          have HBX : Hid (Below w.heap.size w wb.drew) := hbx.drew
          have HXB : Hid (Box8 wb.drew wr.heap.size ⟨4, id, .slice ba b.length bc, tm, nr, b⟩) := hxb.keep (Below.refl _ _).drew
          have S0 := hxb.cells.2.1
          simp only at S0
          clear hwb hbx hxb HM0 HMx HX0 HB0 HSZ0 hrb'
          go_region_held_law (fun w' => w'.cell? ⟨wr.heap.size, 1, none⟩ = some (.int .i64 id)) (first | exact S0 | exact S4 | exact S6)
            (first
              | (go_at_call 21
                 refine (HM0'.out.delete (by omega) id hid).mono ?_
                 rintro e w4 ⟨rfl, hM4, hf4⟩
                 have S4 := (HXB.out.fr hf4 (fun h => by omega)).cells.2.1
                 have HXB4 : Hid (Box8 w4 wr.heap.size ⟨4, id, .slice ba b.length bc, tm, nr, b⟩) := HXB.out.fr hf4 (fun h => by omega)
                 have HB4 : Hid (Below w.heap.size w w4) := fr_base HBX.out hf4 HBX.out.size
                 have HM4 : Hid (Mix w.heap.size w4.heap.size wr.heap.size w4 (.pointer (some ⟨ga, 0, none⟩)) (.pointer (some ⟨gb, 0, none⟩)) n (delR n R id) R (8 + 8 * k + 1)) := hM4
                 clear hM4 hf4 HM0' HXB HBX)
              | (go_at_call 21
                 refine (HM4.out.swap.delete (by omega) id hid).mono ?_
                 rintro e w6 ⟨rfl, hM6, hf6⟩
                 have S6 := (HXB4.out.fr hf6 (fun h => by omega)).cells.2.1
                 have HB6 : Hid (Below w.heap.size w w6) := fr_base HB4.out hf6 HB4.out.size
                 have HM6 : Hid (∃ R, Mix w.heap.size w6.heap.size w6.heap.size w6 (.pointer (some ⟨ga, 0, none⟩)) (.pointer (some ⟨gb, 0, none⟩)) n R R (8 + 8 * (k + 1))) := ⟨_, hM6.swap.up.le (by omega)⟩
                 clear hM6 hf6 HM4 HXB4 HB4))
          clear S0 S4 S6
          generalize delE n R id = E1 at *
          go_wp2
          go_roundw
          case rel => exact ⟨k + 1, by omega, by omega, by first | go_num | (congr 1; omega), HM6.out, HB6.out⟩
          case measure => simp [intOf]; omega
      · skip
        as_aux_lemma =>
          have hbx : Below w.heap.size w _ := hbr.trans (HB0.out.mono hbr.size)
          have HM6 : Hid (∃ R, Mix w.heap.size (wr.alloc (.cells #[.int .i64 kd, .int .i64 id, .slice ba b.length bc, .int .i64 tm, .bool nr] 32)).heap.size (wr.alloc (.cells #[.int .i64 kd, .int .i64 id, .slice ba b.length bc, .int .i64 tm, .bool nr] 32)).heap.size (wr.alloc (.cells #[.int .i64 kd, .int .i64 id, .slice ba b.length bc, .int .i64 tm, .bool nr] 32)) (.pointer (some ⟨ga, 0, none⟩)) (.pointer (some ⟨gb, 0, none⟩)) n R R (8 + 8 * (k + 1))) := ⟨_, (HMx.out.keepB HB0.out).up.le (by omega)⟩
          have e1 : (kd == 1) = false := by simpa using n1
          have e3 : (kd == 3) = false := by simpa using n3
          have e4 : (kd == 4) = false := by simpa using n4
          have HBX := hbx
          clear HMx HX0 HB0 HSZ0 hbx
          go_wp2_with (guard_target = wpList _ _ _ (Oper.mk _ (Op.load 32 _) _ _ _ _ :: _) _ _; refine wpList_load_mid rfl 32 _ rfl g (o + k * 5) (by rfl) [.int .i64 kd, .int .i64 id, .slice ba b.length bc, .int .i64 tm, .bool nr] _ hrb' Try.underlying32 rfl infoOp8 ?_)
          go_roundw
          case rel => exact ⟨k + 1, by omega, by omega, by first | go_num | (congr 1; omega), HM6.out, HBX⟩
          case measure => simp [intOf]; omega
    · skip
      --KE
      by_cases h2 : k < rs.length
      · have h3 : ¬ k < 100 := fun h => h1 ⟨h2, h⟩
        have t8 : decide ((k : Int) < (rs.length : Int)) = true := by simpa using h2
        have t9 : decide ((k : Int) < 100) = false := by simp; omega
        clear h1
        as_aux_lemma =>
          obtain ⟨R, hMx⟩ := HR.out
          have hfew := hMx.few
          have HRG : Hid (∀ id ∈ scanR n R, 0 ≤ id ∧ id ≤ 100000) := fun id h => scanR_range (by omega) hfew h
          have hsl : (scanR n R).length ≤ 1024 := by
            have := scanR_len n R hfew
            omega
          have hsc1 := hMx.scan (by omega)
          clear hMx HR hfew HOK HCL
          go_wp2_with fail
          refine hsc1.mono ?_
          clear hsc1
          rintro e w1 ⟨a1, m1, c1, rfl, hrow, ⟨Fa, Fb, hA, hB, dis, off⟩, hf1⟩
          have hsc2 := End8.of_scan hA hB dis hrow off (by omega)
          have HB1 : Hid (Below w.heap.size w w1) := fr_base hbr hf1 hbr.size
          clear hA hB dis off hrow hf1 hbr
          go_wp2_with fail
          refine hsc2.mono ?_
          clear hsc2
          rintro e w2 ⟨a2, m2, c2, rfl, hi2, hE, hb2⟩
          have hsm := sameInts_any hE.ints hi2 (by omega) (by omega)
          rw [decide_eq_true rfl] at hsm
          obtain ⟨a1', c1', hv1, hc1, _⟩ := id hE.ints
          simp only [Value.slice.injEq] at hv1
          obtain ⟨rfl, rfl, rfl⟩ := hv1
          have HB2 : Hid (Below w.heap.size w w2) := HB1.out.trans (hb2 HB1.out.size)
          have HE2 : Hid (End8 w.heap.size w2 (.pointer (some ⟨ga, 0, none⟩)) (.pointer (some ⟨gb, 0, none⟩)) n R (8 + 8 * k + n + n) (.slice a1 (scanR n R).length c1) (scanR n R)) := hE
          clear hE hi2 hb2 HB1
          generalize scanR n R = ids at *
          go_wp2_with fail
          refine hsm.mono ?_
          clear hsm
          rintro e w3 ⟨rfl, hb3⟩
          have HE3 : Hid (End8 w.heap.size w3 (.pointer (some ⟨ga, 0, none⟩)) (.pointer (some ⟨gb, 0, none⟩)) n R (8 + 8 * k + n + n + 2 * 0) (.slice a1 ids.length c1) ids) := HE2.out.keepB hb3
          have HB3 : Hid (Below w.heap.size w w3) := HB2.out.trans (hb3.mono HB2.out.size)
          clear hb3 HE2 HB2
          go_wp2_with fail
          go_loopw [21] (fun i wq => ∃ j : Nat, j ≤ ids.length ∧ i = .int .i64 j ∧ Hid (End8 w.heap.size wq (.pointer (some ⟨ga, 0, none⟩)) (.pointer (some ⟨gb, 0, none⟩)) n R (8 + 8 * k + n + n + 2 * j) (.slice a1 ids.length c1) ids) ∧ Below w.heap.size w wq) (fun i _ => ids.length - (intOf i).toNat)
          case atStart => exact ⟨0, Nat.zero_le _, rfl, HE3.out, HB3.out⟩
          case round =>
            rename World => wq
            obtain ⟨j, hj, rfl, HEq, hbq⟩ := hrel
            clear HE3 HB3
            by_cases hlt : j < ids.length
            · obtain ⟨a1', c1', hv1, hc1', hcl⟩ := id HEq.out.ints
              rcases hcl with h0 | ⟨g1, h1g, hcl⟩
              · rw [h0] at hlt; simp at hlt
              simp only [Value.slice.injEq, true_and] at hv1
              have e1 := hv1.1; clear hv1 hc1'
              rw [h1g] at e1
              subst e1
              have q1 := hcl j hlt
              have hid := HRG.out _ (List.getElem_mem hlt)
              have HCQ : Hid (∀ wx, End8 w.heap.size wx (.pointer (some ⟨ga, 0, none⟩)) (.pointer (some ⟨gb, 0, none⟩)) n R (8 + 8 * k + n + n + 2 * j + 1) (.slice (some ⟨g1, 0, none⟩) ids.length c1) ids → wx.cell? ⟨g1, j, none⟩ = some (.int .i64 ids[j])) := fun wx h => by
                obtain ⟨a1', c1', hv1, _, hcl⟩ := h.ints
                rcases hcl with h0 | ⟨g1', h1g', hcl⟩
                · rw [h0] at hlt; simp at hlt
                simp only [Value.slice.injEq, true_and] at hv1
                rw [← hv1.1] at h1g'
                simp only [Option.some.injEq, Addr.mk.injEq, and_true] at h1g'
                rw [h1g']
                exact hcl j hlt
              clear hcl h1g
              generalize ids[j] = X at *
              have hg1 := HEq.out.get (by omega) X (by omega)
              go_wp2_with fail
              refine hg1.mono ?_
              clear hg1 q1
              rintro e w4 ⟨a4, m4, c4, rfl, hG, hb4⟩
              have q2 := HCQ.out w4 hG.end8
              have hg2 := hG.get2 (by omega) X (by omega)
              have HB4 : Hid (Below w.heap.size w w4) := hbq.trans (hb4 hbq.size)
              clear hG hb4 HEq hbq
              generalize getE n R X = E1 at *
              go_wp2_with fail
              refine hg2.mono ?_
              clear hg2 q2
              rintro e w5 ⟨a5, m5, c5, rfl, hx5, hy5, hE5, hb5⟩
              have hsm := same7 _ _ _ _ w5 hy5 hx5
              rw [decide_eq_true rfl] at hsm
              have HE5 : Hid (End8 w.heap.size w5 (.pointer (some ⟨ga, 0, none⟩)) (.pointer (some ⟨gb, 0, none⟩)) n R (8 + 8 * k + n + n + 2 * (j + 1)) (.slice (some ⟨g1, 0, none⟩) ids.length c1) ids) := hE5.le (by omega)
              have HB5 : Hid (Below w.heap.size w w5) := HB4.out.trans (hb5 HB4.out.size)
              clear hx5 hy5 hE5 hb5 HB4 HCQ
              go_wp2_with (go_at_call 17; refine hsm.mono ?_; clear hsm; rintro e wx ⟨rfl, hwx⟩; rw [hwx]; clear hwx wx)
              go_roundw
              case rel => exact ⟨j + 1, by omega, by first | go_num | (congr 1; omega), HE5.out, HB5.out⟩
              case measure => simp [intOf]; omega
            · have tj : decide ((j : Int) < (ids.length : Int)) = false := by simpa using hlt
              go_wp2_with fail
              go_ret
              exact ⟨rfl, hbq⟩
      · have t8 : decide ((k : Int) < (rs.length : Int)) = false := by simpa using h2
        clear h1
        as_aux_lemma =>
          obtain ⟨R, hMx⟩ := HR.out
          have hfew := hMx.few
          have HRG : Hid (∀ id ∈ scanR n R, 0 ≤ id ∧ id ≤ 100000) := fun id h => scanR_range (by omega) hfew h
          have hsl : (scanR n R).length ≤ 1024 := by
            have := scanR_len n R hfew
            omega
          have hsc1 := hMx.scan (by omega)
          clear hMx HR hfew HOK HCL
          go_wp2_with fail
          refine hsc1.mono ?_
          clear hsc1
          rintro e w1 ⟨a1, m1, c1, rfl, hrow, ⟨Fa, Fb, hA, hB, dis, off⟩, hf1⟩
          have hsc2 := End8.of_scan hA hB dis hrow off (by omega)
          have HB1 : Hid (Below w.heap.size w w1) := fr_base hbr hf1 hbr.size
          clear hA hB dis off hrow hf1 hbr
          go_wp2_with fail
          refine hsc2.mono ?_
          clear hsc2
          rintro e w2 ⟨a2, m2, c2, rfl, hi2, hE, hb2⟩
          have hsm := sameInts_any hE.ints hi2 (by omega) (by omega)
          rw [decide_eq_true rfl] at hsm
          obtain ⟨a1', c1', hv1, hc1, _⟩ := id hE.ints
          simp only [Value.slice.injEq] at hv1
          obtain ⟨rfl, rfl, rfl⟩ := hv1
          have HB2 : Hid (Below w.heap.size w w2) := HB1.out.trans (hb2 HB1.out.size)
          have HE2 : Hid (End8 w.heap.size w2 (.pointer (some ⟨ga, 0, none⟩)) (.pointer (some ⟨gb, 0, none⟩)) n R (8 + 8 * k + n + n) (.slice a1 (scanR n R).length c1) (scanR n R)) := hE
          clear hE hi2 hb2 HB1
          generalize scanR n R = ids at *
          go_wp2_with fail
          refine hsm.mono ?_
          clear hsm
          rintro e w3 ⟨rfl, hb3⟩
          have HE3 : Hid (End8 w.heap.size w3 (.pointer (some ⟨ga, 0, none⟩)) (.pointer (some ⟨gb, 0, none⟩)) n R (8 + 8 * k + n + n + 2 * 0) (.slice a1 ids.length c1) ids) := HE2.out.keepB hb3
          have HB3 : Hid (Below w.heap.size w w3) := HB2.out.trans (hb3.mono HB2.out.size)
          clear hb3 HE2 HB2
          go_wp2_with fail
          go_loopw [21] (fun i wq => ∃ j : Nat, j ≤ ids.length ∧ i = .int .i64 j ∧ Hid (End8 w.heap.size wq (.pointer (some ⟨ga, 0, none⟩)) (.pointer (some ⟨gb, 0, none⟩)) n R (8 + 8 * k + n + n + 2 * j) (.slice a1 ids.length c1) ids) ∧ Below w.heap.size w wq) (fun i _ => ids.length - (intOf i).toNat)
          case atStart => exact ⟨0, Nat.zero_le _, rfl, HE3.out, HB3.out⟩
          case round =>
            rename World => wq
            obtain ⟨j, hj, rfl, HEq, hbq⟩ := hrel
            clear HE3 HB3
            by_cases hlt : j < ids.length
            · obtain ⟨a1', c1', hv1, hc1', hcl⟩ := id HEq.out.ints
              rcases hcl with h0 | ⟨g1, h1g, hcl⟩
              · rw [h0] at hlt; simp at hlt
              simp only [Value.slice.injEq, true_and] at hv1
              have e1 := hv1.1; clear hv1 hc1'
              rw [h1g] at e1
              subst e1
              have q1 := hcl j hlt
              have hid := HRG.out _ (List.getElem_mem hlt)
              have HCQ : Hid (∀ wx, End8 w.heap.size wx (.pointer (some ⟨ga, 0, none⟩)) (.pointer (some ⟨gb, 0, none⟩)) n R (8 + 8 * k + n + n + 2 * j + 1) (.slice (some ⟨g1, 0, none⟩) ids.length c1) ids → wx.cell? ⟨g1, j, none⟩ = some (.int .i64 ids[j])) := fun wx h => by
                obtain ⟨a1', c1', hv1, _, hcl⟩ := h.ints
                rcases hcl with h0 | ⟨g1', h1g', hcl⟩
                · rw [h0] at hlt; simp at hlt
                simp only [Value.slice.injEq, true_and] at hv1
                rw [← hv1.1] at h1g'
                simp only [Option.some.injEq, Addr.mk.injEq, and_true] at h1g'
                rw [h1g']
                exact hcl j hlt
              clear hcl h1g
              generalize ids[j] = X at *
              have hg1 := HEq.out.get (by omega) X (by omega)
              go_wp2_with fail
              refine hg1.mono ?_
              clear hg1 q1
              rintro e w4 ⟨a4, m4, c4, rfl, hG, hb4⟩
              have q2 := HCQ.out w4 hG.end8
              have hg2 := hG.get2 (by omega) X (by omega)
              have HB4 : Hid (Below w.heap.size w w4) := hbq.trans (hb4 hbq.size)
              clear hG hb4 HEq hbq
              generalize getE n R X = E1 at *
              go_wp2_with fail
              refine hg2.mono ?_
              clear hg2 q2
              rintro e w5 ⟨a5, m5, c5, rfl, hx5, hy5, hE5, hb5⟩
              have hsm := same7 _ _ _ _ w5 hy5 hx5
              rw [decide_eq_true rfl] at hsm
              have HE5 : Hid (End8 w.heap.size w5 (.pointer (some ⟨ga, 0, none⟩)) (.pointer (some ⟨gb, 0, none⟩)) n R (8 + 8 * k + n + n + 2 * (j + 1)) (.slice (some ⟨g1, 0, none⟩) ids.length c1) ids) := hE5.le (by omega)
              have HB5 : Hid (Below w.heap.size w w5) := HB4.out.trans (hb5 HB4.out.size)
              clear hx5 hy5 hE5 hb5 HB4 HCQ
              go_wp2_with (go_at_call 17; refine hsm.mono ?_; clear hsm; rintro e wx ⟨rfl, hwx⟩; rw [hwx]; clear hwx wx)
              go_roundw
              case rel => exact ⟨j + 1, by omega, by first | go_num | (congr 1; omega), HE5.out, HB5.out⟩
              case measure => simp [intOf]; omega
            · have tj : decide ((j : Int) < (ids.length : Int)) = false := by simpa using hlt
              go_wp2_with fail
              go_ret
              exact ⟨rfl, hbq⟩
      --KEE
end Go.Proofs.Ytmhmmnojmcngfaa

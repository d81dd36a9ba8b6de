/- The walk of the law DiskSafe. -/
import Derived.Test.YtdpcjpdmmkibpaaD5S
import Derived.Deep.CutBlock
import Derived.Deep.DeepCutAuto
namespace Go.Proofs.Ytdpcjpdmmkibpaa
open Go.RowKit Go.Maps
set_option linter.unusedVariables false
set_option linter.unusedSimpArgs false

set_option maxRecDepth 100000 in
set_option maxHeartbeats 4000000 in
theorem diskSafe_law (M : Nat) (v va vk : Value) (rs ls : List OpV) (ks : List Bool) (w : World) (hv : OpsAt w v rs) (hok : ∀ x ∈ rs, OpOk M w x) (hva : OpsAt w va ls) (hoka : ∀ x ∈ ls, OpOk M w x) (hk : Bools w vk ks) (hl : rs.length ≤ 4398046511104) (hla : ls.length ≤ 4398046511104) :
    Calls Try.prog 4 #[v, va, vk] w fun e w' => e = .returned (.bool true) ∧ Below w.heap.size w w' := by
  obtain ⟨ao, cap, rfl, hcap, hcl⟩ := hv
  obtain ⟨al, capl, rfl, hcapl, hcll⟩ := hva
  go_enter Try.func4, Try.ntmps4
  go_wp2_with fail
  refine (new_any 8 w (by omega)).mono ?_
  rintro e w1 ⟨g0, rfl, hD1, hb1⟩
  go_wp2_with fail
  refine (alive_any w1).mono ?_
  rintro e w2 ⟨rfl, hb2⟩
  have hP2 : Play w w2 (.pointer (some ⟨g0, 0, none⟩)) 0 ⟨8, fun _ => zsec, fun _ => zsec, [], 0⟩ := ⟨⟨_, hD1.keepB hb2⟩, ⟨rfl⟩, rfl, Nat.le_refl _, hb1.trans (hb2.mono hb1.size)⟩
  have HOK : Hid (∀ x ∈ rs, OpOk M w x) := hok
  have HOKA : Hid (∀ x ∈ ls, OpOk M w x) := hoka
  have HK : Hid (Bools w vk ks) := hk
  have HCL : Hid (rs = [] ∨ ∃ g o, ao = some ⟨g, o, none⟩ ∧ ∀ k (h : k < rs.length), w.rangeAt g (o + k * 4) (cellsO rs[k])) := hcl
  have HCLA : Hid (ls = [] ∨ ∃ g o, al = some ⟨g, o, none⟩ ∧ ∀ k (h : k < ls.length), w.rangeAt g (o + k * 4) (cellsO ls[k])) := hcll
  clear hD1 hb2 hb1 hok hk hoka hcl hcll
  go_upto_block 0 with fail
  go_cut [9] (fun u wx => ∃ (k : Nat) (D : DS), k ≤ 100 ∧ Play w wx (.pointer (some ⟨g0, 0, none⟩)) k D)
  case first =>
    go_wp2_with fail
    go_loopw [9] (fun i wr => ∃ (k : Nat) (D : DS), i = .int .i64 k ∧ k ≤ 100 ∧ k ≤ rs.length ∧ Play w wr (.pointer (some ⟨g0, 0, none⟩)) k D) (fun i _ => 100 - (intOf i).toNat)
    case atStart => exact ⟨0, _, rfl, by omega, by omega, hP2⟩
    case round =>
      obtain ⟨k, D, rfl, hk100, hkl, hP⟩ := hrel
      clear hP2
      by_cases h1 : k < rs.length
      · by_cases h2 : k < 100
        · have hcl := HCL.out
          rcases hcl with h0 | ⟨g, o, rfl, hcl⟩
          · rw [h0] at h1; simp at h1
          have r0 := hcl k h1
          have ho := HOK.out _ (List.getElem_mem h1)
          generalize rs[k] = x at *
          clear hcl
          obtain ⟨q0, q1, q2, q3⟩ := cells_op r0
          have hlt : g < w.heap.size := World.block_lt_of_cell? w _ q0
          have d1 := (hP.below.cell (p := ⟨g, o + k * 4 + 1, none⟩) hlt).trans q1
          have d2 := (hP.below.cell (p := ⟨g, o + k * 4 + 2, none⟩) hlt).trans q2
          have hB := ho.b.keep hP.below
          obtain ⟨F, hF⟩ := hP.on
          have hW := write_all (hF.keepB (Below.refl _ wr).drew) x.i x.vb x.b (hB.keep (Below.refl _ wr).drew) (by have := hP.len; omega)
          have HP : Hid (∀ wb, Turned w.heap.size wr.drew F (.pointer (some ⟨g0, 0, none⟩)) 0 (D.write x.i x.b) wb → Play w wb (.pointer (some ⟨g0, 0, none⟩)) (k + 1) (D.write x.i x.b)) := fun wb ht => hP.drew.write (hF.keepB (Below.refl _ wr).drew) ht
          have HC : Hid (∀ wb, Below w.heap.size w wb → wb.cell? ⟨g, o + k * 4 + 1, none⟩ = some (.int .i64 x.i) ∧ wb.cell? ⟨g, o + k * 4 + 2, none⟩ = some x.vb) := fun wb hb => ⟨(hb.cell (p := ⟨g, o + k * 4 + 1, none⟩) hlt).trans q1, (hb.cell (p := ⟨g, o + k * 4 + 2, none⟩) hlt).trans q2⟩
          clear q0 q1 q2 q3 hB hF hP
          go_wp2_with fail
          go_region_held_law (fun w' => w'.cell? ⟨g, o + k * 4 + 1, none⟩ = some (.int .i64 x.i) ∧ w'.cell? ⟨g, o + k * 4 + 2, none⟩ = some x.vb) (first | exact ⟨d1, d2⟩ | exact HC.out _ hPb.below) (first | (go_at_call 9; refine hW.mono ?_; rintro e wb ⟨rfl, ht⟩; have hPb := HP.out _ ht; clear ht))
          go_wp2
          go_roundw
          case rel => exact ⟨k + 1, _, by go_num, by omega, by omega, hPb⟩
          case measure => simp [intOf]; omega
        · go_wp2
          go_meet
          exact ⟨k, D, hk100, hP⟩
      · go_wp2
        go_meet
        exact ⟨k, D, hk100, hP⟩
  case rest =>
  obtain ⟨k, D, hk100, hP⟩ := hcut
  rename World => wa
  obtain ⟨F, hF⟩ := hP.on
  go_wp2_with fail
  refine (sync_all hF).mono ?_
  rintro e w3 ⟨rfl, ht⟩
  have hP3 := hP.sync hF ht
  clear hP hF ht HOK HCL hP2
  have HW1 : Hid (Whole { D with safe := D.ws.length }) := hP3.whole
  have hL1 : D.ws.length ≤ k + 1 := hP3.len
  have hsz : D.size = 8 := hP3.size
  obtain ⟨F3, hD3⟩ := hP3.on
  have hb3 := hP3.below
  have HD3 : Hid (DiskAt w.heap.size w3 F3 (.pointer (some ⟨g0, 0, none⟩)) 0 { D with safe := D.ws.length }) := hD3
  have HLn : Hid (∀ i, (D.now i).length = 128) := by
    obtain ⟨g, b1, b2, v, _, h⟩ := hD3
    exact h.m2.len
  have hW0 : Was (w3.alloc (.cells #[.slice none 0 0, .slice none 0 0, .slice none 0 0, .slice none 0 0, .slice none 0 0, .slice none 0 0, .slice none 0 0, .slice none 0 0] 46)) w3.heap.size (w3.heap.size + 1) 0 (fun _ => .slice none 0 0) D.now :=
    ⟨heap_alloc_new w3 _, fun i hi => by omega, by omega⟩
  clear hP3 hD3
  go_upto_block 2 with fail
  go_cut [11, 12, 13] (fun _ _ _ wx => ∃ wv, Was wx w3.heap.size wx.heap.size 8 wv D.now ∧ Below w3.heap.size w3 wx)
  case first =>
    go_wp2_with fail
    go_loopw [11] (fun iv wr => ∃ (j : Nat) (wv : Nat → Value), iv = .int .i64 j ∧ j ≤ 8 ∧ Was wr w3.heap.size wr.heap.size j wv D.now ∧ Below w3.heap.size w3 wr) (fun iv _ => 8 - (intOf iv).toNat)
    case atStart => exact ⟨0, _, rfl, Nat.zero_le _, by simpa using hW0, (Below.refl _ _).alloc (Nat.le_refl _) _⟩
    case round =>
      obtain ⟨j, wv, rfl, hj8, hWas, hbr⟩ := hrel
      by_cases h1 : j < 8
      · have hrd := read_any (HD3.out.keepB hbr) (j : Int) (by simp [hsz]; omega)
        go_wp2_with fail
        refine hrd.mono ?_
        rintro e wA ⟨kA, hkA, rfl, rA, bA⟩
        have hWA := hWas.keep (Fr.of_below (F := fun _ => False) bA) (fun _ => False.elim)
        have cA := hWA.cell j h1
        have fA := frozen_row hWA.hB j
        have HPut : Hid (Was (wA.setCell ⟨w3.heap.size, j, none⟩ (sl kA)) w3.heap.size wA.heap.size (j + 1) (upd8 wv j (sl kA)) D.now) := hWA.put h1 kA rA (by have := hWas.BT; omega) _ bA.size rA.lt
        have hbA := hbr.trans (bA.mono hbr.size)
        clear hrd rA bA hWas hWA hbr
        go_wp2
        go_roundw
        case rel => exact ⟨j + 1, _, by go_num, by omega, by simpa [World.setCell] using HPut.out, hbA.trans ((fr_set _ _ _ _).below hbA.size (fun k hk => by omega))⟩
        case measure => simp [intOf]; omega
      · obtain rfl : j = 8 := by omega
        go_wp2
        go_meet
        exact ⟨wv, hWas, hbr⟩
  case rest =>
  obtain ⟨wv, hWas, hb4⟩ := hcut
  rename World => w4
  have hBT := hWas.BT
  have a5 : Below w4.heap.size w4 (w4.alloc (.cells #[.slice none 0 0, .slice none 0 0, .slice none 0 0, .slice none 0 0, .slice none 0 0, .slice none 0 0, .slice none 0 0, .slice none 0 0] 48)) := (Below.refl _ _).alloc (Nat.le_refl _) _
  have hb5 : Below w3.heap.size w3 _ := hb4.trans (a5.mono hb4.size)
  have hM0 : Mid3 w (w4.alloc (.cells #[.slice none 0 0, .slice none 0 0, .slice none 0 0, .slice none 0 0, .slice none 0 0, .slice none 0 0, .slice none 0 0, .slice none 0 0] 48)) (.pointer (some ⟨g0, 0, none⟩)) w3.heap.size w4.heap.size wv { D with safe := D.ws.length } { D with safe := D.ws.length } [] 0 :=
    ⟨⟨F3, _, _, HD3.out.keepB hb5, May.new (heap_alloc_new w4 _) (by have := hb4.size; have := hb3.size; omega), (fun k hk e => by have := (HD3.out.lo k hk).2; omega), (fun k hk => Or.inl (HD3.out.lo k hk).2), (fun k hk => by omega)⟩,
      hWas.keep (Fr.of_below (F := fun _ => False) a5) (fun _ => False.elim), by simp, rfl, hsz, rfl, hb3.trans (hb5.mono hb3.size), Nat.le_refl _⟩
  generalize hT : w4.heap.size = T at *
  have hD1n : Hid (∃ D1 : DS, D1 = { D with safe := D.ws.length } ∧ D1.ws.length ≤ 101) := ⟨_, rfl, by simp; omega⟩
  obtain ⟨D1, hD1, hD1l⟩ := hD1n.out
  rw [← hD1] at HW1 hM0
  have hnow : D.now = D1.now := by rw [hD1]
  clear hD1n HD3 hW0 hWas hb4 a5 hb5 hb3
  go_upto_block 4 with fail
  go_cut [15] (fun u wx => ∃ (k : Nat) (D2 : DS) (later : List W3), k ≤ 100 ∧ T < wx.heap.size ∧ Mid3 w wx (.pointer (some ⟨g0, 0, none⟩)) w3.heap.size T wv D1 D2 later k)
  case first =>
    go_wp2_with fail
    go_loopw [15] (fun i wr => ∃ (k : Nat) (D2 : DS) (later : List W3), i = .int .i64 k ∧ k ≤ 100 ∧ k ≤ ls.length ∧ T < wr.heap.size ∧ Mid3 w wr (.pointer (some ⟨g0, 0, none⟩)) w3.heap.size T wv D1 D2 later k) (fun i _ => 100 - (intOf i).toNat)
    case atStart => exact ⟨0, _, _, rfl, by omega, by omega, by simp; omega, hM0⟩
    case round =>
      obtain ⟨k, D2, later, rfl, hk100, hkl, hTs, hP⟩ := hrel
      clear hM0
      by_cases h1 : k < ls.length
      · by_cases h2 : k < 100
        · have hcl := HCLA.out
          rcases hcl with h0 | ⟨g, o, rfl, hcl⟩
          · rw [h0] at h1; simp at h1
          have r0 := hcl k h1
          have ho := HOKA.out _ (List.getElem_mem h1)
          generalize ls[k] = x at *
          clear hcl
          obtain ⟨q0, q1, q2, q3⟩ := cells_op r0
          have hlt : g < w.heap.size := World.block_lt_of_cell? w _ q0
          have d1 := (hP.below.cell (p := ⟨g, o + k * 4 + 1, none⟩) hlt).trans q1
          have d2 := (hP.below.cell (p := ⟨g, o + k * 4 + 2, none⟩) hlt).trans q2
          have hB := ho.b.keep hP.below
          have HB : Hid (Bytes w x.vb x.b) := ho.b
          obtain ⟨F, G, vs, hF, hMay, hdis, hFB, hG⟩ := hP.ex
          have hlen2 : 0 + D2.ws.length < 100000 := by have := hP.len; rw [hP.ws]; simp; omega
          have hW := write_all (hF.keepB (Below.refl _ wr).drew) x.i x.vb x.b (hB.keep (Below.refl _ wr).drew) hlen2
          have HC : Hid (∀ wb, Below w.heap.size w wb → wb.cell? ⟨g, o + k * 4 + 1, none⟩ = some (.int .i64 x.i) ∧ wb.cell? ⟨g, o + k * 4 + 2, none⟩ = some x.vb) := fun wb hb => ⟨(hb.cell (p := ⟨g, o + k * 4 + 1, none⟩) hlt).trans q1, (hb.cell (p := ⟨g, o + k * 4 + 2, none⟩) hlt).trans q2⟩
          have HBW : Hid (∀ wb D', Turned w.heap.size wr.drew F (.pointer (some ⟨g0, 0, none⟩)) 0 D' wb → Below w.heap.size w wb ∧ wr.heap.size ≤ wb.heap.size) := fun wb D' ht => ⟨ht.below hP.below.drew (fun k hk => (hF.lo k hk).1) hP.below.size, by obtain ⟨_, _, hf, _⟩ := ht; exact hf.size⟩
          by_cases h3 : writeE D2.size x.i x.b = 0
          · have hi := writeE_zero h3
            have hs8 := hP.size
            rw [hs8] at hi
            obtain ⟨i0, hi0⟩ : ∃ i0 : Nat, x.i = (i0 : Int) := ⟨x.i.toNat, by omega⟩
            have hi08 : i0 < 8 := by omega
            have hx128 := hi.2
            have HP : Hid (∀ wb, Turned w.heap.size wr.drew F (.pointer (some ⟨g0, 0, none⟩)) 0 (D2.write x.i x.b) wb → ∃ F', Mid3b w wb (.pointer (some ⟨g0, 0, none⟩)) w3.heap.size T wv D1 (D2.write x.i x.b) later ⟨(i0 : Int), full x.b, D2.safe⟩ k F' G vs) := fun wb ht => by
              obtain ⟨F', t1, t2, t3⟩ := ht
              have := hP.wrote hF hMay hdis hFB hG (i := x.i) (xs := x.b) (by rw [hs8]; exact hi) ⟨F', t1, (Fr.drew wr F).trans t2 (fun i hi => Or.inl hi), t3⟩ (by omega)
              rw [hi0] at this ⊢
              exact this
            have t3 : (writeE D2.size x.i x.b == 0) = true := by simpa using h3
            rw [h3] at hW
            generalize D2.write x.i x.b = D3 at *
            rw [hi0] at hW d1 HC
            clear q0 q1 q2 q3 hB hF hP hMay hdis hFB hG hi t3 h3
            go_wp2_with fail
            go_region_held_law (fun w' => w'.cell? ⟨g, o + k * 4 + 1, none⟩ = some (.int .i64 (i0 : Int)) ∧ w'.cell? ⟨g, o + k * 4 + 2, none⟩ = some x.vb) (first | exact ⟨d1, d2⟩ | exact HC.out _ hbw) (first | (go_at_call 9; refine hW.mono ?_; rintro e wb ⟨rfl, ht⟩; obtain ⟨F', hPb⟩ := HP.out _ ht; have hs5 := (HBW.out _ _ ht).2; have hbw := (HBW.out _ _ ht).1; clear ht))
            have hPb' := hPb
            obtain ⟨kr, hrow, hkr, hkr3⟩ := hPb.may.rows i0 hi08
            have m0 := hPb.may.cell i0 hi08
            have hTl := (hPb.may.lo T hPb.may.gB).2
            have hTw := (hPb.may.lo T hPb.may.gB).1
            have HM : Hid (May wb T w.heap.size G vs (secsOf later)) := hPb.may
            have HPB : Hid _ := hPb'
            have HROW : Hid (wb.ownsRow w.heap.size 32 1 (vs i0) (secsOf later i0).length (kr.map sl)) := hrow
            have HKR3 : Hid (∀ j (h : j < kr.length) (h' : j < (secsOf later i0).length), RowB wb kr[j] (secsOf later i0)[j] ∧ G kr[j] ∧ ((secsOf later i0)[j]).length = 128) := hkr3
            have hll : (secsOf later i0).length ≤ 100 := by
              have h5 := hPb.len
              have h6 : (secsOf later i0).length ≤ later.length := by simp only [secsOf, List.length_map]; exact List.length_filter_le _ _
              omega
            have c1 := (HC.out _ hbw).1
            have c2 := (HC.out _ hbw).2
            have hFull : Calls Try.prog 21 #[x.vb] wb.drew fun e w' => e = .returned (sl wb.heap.size) ∧ RowB w' wb.heap.size (full x.b) ∧ Below wb.heap.size wb w' :=
              (full_any x.vb x.b wb.drew ((HB.out.keep hbw).keep (Below.refl _ wb).drew)).mono (fun e w' h => ⟨h.1, h.2.1, ⟨h.2.2.os, h.2.2.tape, h.2.2.output, h.2.2.size, h.2.2.block⟩⟩)
            have hbs := hbw.size
            clear hPb hPb' hkr3 hrow HP HBW hW d1 d2
            go_wp2_with fail
            refine wp_region_held_drew (S := fun w' => w'.cell? ⟨g, o + k * 4 + 1, none⟩ = some (.int .i64 (i0 : Int)) ∧ w'.cell? ⟨g, o + k * 4 + 2, none⟩ = some x.vb) (by kernel_rfl) ⟨c1, c2⟩ (fun hHeld => ?_)
            refine wpAnyH_take (i := 0) (v := .slice (some ⟨g, o, none⟩) ls.length capl) rfl (by kernel_rfl) (by kernel_rfl) (by kernel_rfl) (fun _ _ _ h => h) (Or.inl ⟨by rfl, ?_⟩) hHeld ?_
            · intro wq hSw; obtain ⟨hA_, hB_⟩ := hSw; go_simp
            simp only [List.getElem_toArray, List.getElem_cons_zero, List.getElem_cons_succ, Act.put, List.setIfInBounds_toArray, List.set_cons_zero, List.set_cons_succ]
            refine wpAnyH_take (i := 1) (v := .int .i64 (k : Int)) rfl (by kernel_rfl) (by kernel_rfl) (by kernel_rfl) (fun _ _ _ h => h) (Or.inl ⟨by rfl, ?_⟩) hHeld ?_
            · intro wq hSw; obtain ⟨hA_, hB_⟩ := hSw; go_simp
            simp only [List.getElem_toArray, List.getElem_cons_zero, List.getElem_cons_succ, Act.put, List.setIfInBounds_toArray, List.set_cons_zero, List.set_cons_succ]
            refine wpAnyH_take (i := 2) (v := .pointer (some ⟨g, o + k * 4, none⟩)) rfl (by kernel_rfl) (by kernel_rfl) (by kernel_rfl) (fun _ _ _ h => h) (Or.inl ⟨by rfl, ?_⟩) hHeld ?_
            · intro wq hSw; obtain ⟨hA_, hB_⟩ := hSw; go_simp
            simp only [List.getElem_toArray, List.getElem_cons_zero, List.getElem_cons_succ, Act.put, List.setIfInBounds_toArray, List.set_cons_zero, List.set_cons_succ]
            refine wpAnyH_take (i := 3) (v := .pointer (some ⟨g, o + k * 4 + 1, none⟩)) rfl (by kernel_rfl) (by kernel_rfl) (by kernel_rfl) (fun _ _ _ h => h) (Or.inl ⟨by rfl, ?_⟩) hHeld ?_
            · intro wq hSw; obtain ⟨hA_, hB_⟩ := hSw; go_simp
            simp only [List.getElem_toArray, List.getElem_cons_zero, List.getElem_cons_succ, Act.put, List.setIfInBounds_toArray, List.set_cons_zero, List.set_cons_succ]
            refine wpAnyH_take (i := 4) (v := .int .i64 (i0 : Int)) rfl (by kernel_rfl) (by kernel_rfl) (by kernel_rfl) (fun _ _ _ h => h) (Or.inl ⟨by rfl, ?_⟩) hHeld ?_
            · intro wq hSw; obtain ⟨hA_, hB_⟩ := hSw; go_simp
            simp only [List.getElem_toArray, List.getElem_cons_zero, List.getElem_cons_succ, Act.put, List.setIfInBounds_toArray, List.set_cons_zero, List.set_cons_succ]
            refine wpAnyH_take (i := 5) (v := .slice (some ⟨g, o, none⟩) ls.length capl) rfl (by kernel_rfl) (by kernel_rfl) (by kernel_rfl) (fun _ _ _ h => h) (Or.inl ⟨by rfl, ?_⟩) hHeld ?_
            · intro wq hSw; obtain ⟨hA_, hB_⟩ := hSw; go_simp
            simp only [List.getElem_toArray, List.getElem_cons_zero, List.getElem_cons_succ, Act.put, List.setIfInBounds_toArray, List.set_cons_zero, List.set_cons_succ]
            refine wpAnyH_take (i := 6) (v := .int .i64 (k : Int)) rfl (by kernel_rfl) (by kernel_rfl) (by kernel_rfl) (fun _ _ _ h => h) (Or.inl ⟨by rfl, ?_⟩) hHeld ?_
            · intro wq hSw; obtain ⟨hA_, hB_⟩ := hSw; go_simp
            simp only [List.getElem_toArray, List.getElem_cons_zero, List.getElem_cons_succ, Act.put, List.setIfInBounds_toArray, List.set_cons_zero, List.set_cons_succ]
            refine wpAnyH_take (i := 7) (v := .pointer (some ⟨g, o + k * 4, none⟩)) rfl (by kernel_rfl) (by kernel_rfl) (by kernel_rfl) (fun _ _ _ h => h) (Or.inl ⟨by rfl, ?_⟩) hHeld ?_
            · intro wq hSw; obtain ⟨hA_, hB_⟩ := hSw; go_simp
            simp only [List.getElem_toArray, List.getElem_cons_zero, List.getElem_cons_succ, Act.put, List.setIfInBounds_toArray, List.set_cons_zero, List.set_cons_succ]
            refine wpAnyH_take (i := 8) (v := .pointer (some ⟨g, o + k * 4 + 1, none⟩)) rfl (by kernel_rfl) (by kernel_rfl) (by kernel_rfl) (fun _ _ _ h => h) (Or.inl ⟨by rfl, ?_⟩) hHeld ?_
            · intro wq hSw; obtain ⟨hA_, hB_⟩ := hSw; go_simp
            simp only [List.getElem_toArray, List.getElem_cons_zero, List.getElem_cons_succ, Act.put, List.setIfInBounds_toArray, List.set_cons_zero, List.set_cons_succ]
            refine wpAnyH_take (i := 9) (v := .int .i64 (i0 : Int)) rfl (by kernel_rfl) (by kernel_rfl) (by kernel_rfl) (fun _ _ _ h => h) (Or.inl ⟨by rfl, ?_⟩) hHeld ?_
            · intro wq hSw; obtain ⟨hA_, hB_⟩ := hSw; go_simp
            simp only [List.getElem_toArray, List.getElem_cons_zero, List.getElem_cons_succ, Act.put, List.setIfInBounds_toArray, List.set_cons_zero, List.set_cons_succ]
            refine wpAnyH_take (i := 10) (v := .pointer (some ⟨T, i0, none⟩)) rfl (by kernel_rfl) (by kernel_rfl) (by kernel_rfl) (fun _ _ _ h => h) (Or.inl ⟨by rfl, ?_⟩) hHeld ?_
            · intro wq hSw; obtain ⟨hA_, hB_⟩ := hSw; go_simp; intro hh8; omega
            simp only [List.getElem_toArray, List.getElem_cons_zero, List.getElem_cons_succ, Act.put, List.setIfInBounds_toArray, List.set_cons_zero, List.set_cons_succ]
            refine wpAnyH_take (i := 12) (v := .slice (some ⟨g, o, none⟩) ls.length capl) rfl (by kernel_rfl) (by kernel_rfl) (by kernel_rfl) (fun _ _ _ h => h) (Or.inl ⟨by rfl, ?_⟩) hHeld ?_
            · intro wq hSw; obtain ⟨hA_, hB_⟩ := hSw; go_simp
            simp only [List.getElem_toArray, List.getElem_cons_zero, List.getElem_cons_succ, Act.put, List.setIfInBounds_toArray, List.set_cons_zero, List.set_cons_succ]
            refine wpAnyH_take (i := 13) (v := .int .i64 (k : Int)) rfl (by kernel_rfl) (by kernel_rfl) (by kernel_rfl) (fun _ _ _ h => h) (Or.inl ⟨by rfl, ?_⟩) hHeld ?_
            · intro wq hSw; obtain ⟨hA_, hB_⟩ := hSw; go_simp
            simp only [List.getElem_toArray, List.getElem_cons_zero, List.getElem_cons_succ, Act.put, List.setIfInBounds_toArray, List.set_cons_zero, List.set_cons_succ]
            refine wpAnyH_take (i := 14) (v := .pointer (some ⟨g, o + k * 4, none⟩)) rfl (by kernel_rfl) (by kernel_rfl) (by kernel_rfl) (fun _ _ _ h => h) (Or.inl ⟨by rfl, ?_⟩) hHeld ?_
            · intro wq hSw; obtain ⟨hA_, hB_⟩ := hSw; go_simp
            simp only [List.getElem_toArray, List.getElem_cons_zero, List.getElem_cons_succ, Act.put, List.setIfInBounds_toArray, List.set_cons_zero, List.set_cons_succ]
            refine wpAnyH_take (i := 15) (v := .pointer (some ⟨g, o + k * 4 + 2, none⟩)) rfl (by kernel_rfl) (by kernel_rfl) (by kernel_rfl) (fun _ _ _ h => h) (Or.inl ⟨by rfl, ?_⟩) hHeld ?_
            · intro wq hSw; obtain ⟨hA_, hB_⟩ := hSw; go_simp
            simp only [List.getElem_toArray, List.getElem_cons_zero, List.getElem_cons_succ, Act.put, List.setIfInBounds_toArray, List.set_cons_zero, List.set_cons_succ]
            refine wpAnyH_take (i := 16) (v := x.vb) rfl (by kernel_rfl) (by kernel_rfl) (by kernel_rfl) (fun _ _ _ h => h) (Or.inl ⟨by rfl, ?_⟩) hHeld ?_
            · intro wq hSw; obtain ⟨hA_, hB_⟩ := hSw; go_simp
            simp only [List.getElem_toArray, List.getElem_cons_zero, List.getElem_cons_succ, Act.put, List.setIfInBounds_toArray, List.set_cons_zero, List.set_cons_succ]
            refine wpAnyH_ready (rs := [11, 17]) (by kernel_rfl) (by simp) ?_
            refine AllReadyH.cons rfl (fun K hK => ?_) (AllReadyH.cons rfl (fun K hK => ?_) AllReadyH.nil)
            · go_simp
              refine hK.out _ _ ⟨c1, c2⟩ (fun hHeld => ?_)
              clear hK K
              refine wpAnyH_ready (rs := [17]) (by kernel_rfl) (by simp) ?_
              refine AllReadyH.cons rfl (fun K hK => ?_) AllReadyH.nil
              rw [if_pos (by rfl)]
              go_wp2_with (go_at_call 21; refine hFull.mono ?_; rintro e wF ⟨rfl, hrF, hbF⟩)
              have mF : wF.cell? ⟨T, i0, none⟩ = some (vs i0) := cell_keep hbF m0
              have sF := hbF.size
              have mA : ∀ ob, (wF.alloc ob).cell? ⟨T, i0, none⟩ = some (vs i0) := fun ob => (World.cell?_alloc_lt _ _ _ (by simp; omega)).trans mF
              have bF : Below w.heap.size w wF := hbw.trans (hbF.mono hbs)
              have hA : Below wF.heap.size wF (wF.alloc (.cells #[sl wb.heap.size] 32)) := (Below.refl _ _).alloc (Nat.le_refl _) _
              have hownA : Hid ((wF.alloc (.cells #[sl wb.heap.size] 32)).ownsRow w.heap.size 32 1 (vs i0) (secsOf later i0).length (kr.map sl)) := own_of_block HROW.out (fun b hb => by
                have hbl := (HM.out.lo b (HM.out.gv i0 hi08 b hb)).2
                exact (hA.block b (by omega)).trans (hbF.block b hbl))
              have cellA : (wF.alloc (.cells #[sl wb.heap.size] 32)).cell? ⟨wF.heap.size, 0, none⟩ = some (sl wb.heap.size) := by rw [cell_of_row _ _ 0 _ _ _ (heap_alloc_new wF _)]; rfl
              have HRF : Hid (RowB wF wb.heap.size (full x.b)) := hrF
              clear hrF
              refine hK.out _ _ (HC.out _ bF) (fun hHeld => ?_)
              clear hK K
              refine wpAnyH_ready (rs := [18]) (by kernel_rfl) (by simp) ?_
              refine AllReadyH.cons rfl (fun K hK => ?_) AllReadyH.nil
              go_simp
              refine hK.out _ _ (HC.out _ (bF.alloc (by omega) _)) (fun hHeld => ?_)
              clear hK K
              refine wpAnyH_ready (rs := [19]) (by kernel_rfl) (by simp) ?_
              refine AllReadyH.cons rfl (fun K hK => ?_) AllReadyH.nil
              refine step_appS _ rfl _ _ rfl w.heap.size (vs i0) (secsOf later i0).length (kr.map sl) rfl hownA.out (sl wb.heap.size) rfl wF.heap.size rfl cellA (by omega) (by simp; omega) ?_
              intro gk cap' w4' hown' hg4 hk4
              have put := HM.out.put hi08 (full_len x.b) hbF HRF.out (Nat.le_refl _) hA hg4 hkr HKR3.out hown' hk4 hbs
              have nT : some T ≠ (vs i0).ownBlock := fun e => HM.out.nB i0 hi08 e.symm
              have hA1 : (wF.alloc (.cells #[sl wb.heap.size] 32)).heap.size = wF.heap.size + 1 := by simp
              have m4 : w4'.cell? ⟨T, i0, none⟩ = some (vs i0) := (hg4.cell_far ⟨T, i0, none⟩ (by simp; omega) nT).trans (mA _)
              have f4 : w4'.frozen? ⟨T, i0, none⟩ = false := by
                rw [hg4.frozen_far ⟨T, i0, none⟩ (by simp; omega) nT]
                exact frozen_row ((hA.block T (by omega)).trans ((hbF.block T (by omega)).trans HM.out.hB)) i0
              have b4 : Below w.heap.size w w4' := (bF.alloc (by omega) _).grown hg4 (by simp; omega) (fun b hb => (HM.out.lo b (HM.out.gv i0 hi08 b hb)).1)
              have HS5 : Hid ((w4'.setCell ⟨T, i0, none⟩ (.slice (some ⟨gk, 0, none⟩) ((secsOf later i0).length + 1) cap')).cell? ⟨g, o + k * 4 + 1, none⟩ = some (.int .i64 (i0 : Int)) ∧ (w4'.setCell ⟨T, i0, none⟩ (.slice (some ⟨gk, 0, none⟩) ((secsOf later i0).length + 1) cap')).cell? ⟨g, o + k * 4 + 2, none⟩ = some x.vb) := by
                have hh := HC.out _ b4
                have hTg : T ≠ g := by omega
                exact ⟨by rw [World.cell?_setCell_other _ _ _ _ (by simp [hTg])]; exact hh.1, by rw [World.cell?_setCell_other _ _ _ _ (by simp [hTg])]; exact hh.2⟩
              have s4 := hg4.size
              have HPut : Hid _ := put
              have HNew : Hid (Mid3 w (w4'.setCell ⟨T, i0, none⟩ (.slice (some ⟨gk, 0, none⟩) ((secsOf later i0).length + 1) cap')) (.pointer (some ⟨g0, 0, none⟩)) w3.heap.size T wv D1 D3 (later ++ [⟨(i0 : Int), full x.b, D2.safe⟩]) (k + 1)) := HPB.out.noted put.1 put.2 (fun b hb => hb.imp id (fun h => h.1)) (by omega)
              have hTs' : T < (w4'.setCell ⟨T, i0, none⟩ (.slice (some ⟨gk, 0, none⟩) ((secsOf later i0).length + 1) cap')).heap.size := by simp [World.setCell]; omega
              clear put hown' hg4 hk4
              simp only [List.getElem_toArray, List.getElem_cons_zero, List.getElem_cons_succ, Act.put, List.setIfInBounds_toArray, List.set_cons_zero, List.set_cons_succ]
              refine hK.out _ _ (HC.out _ b4) (fun hHeld => ?_)
              clear hK K
              refine wpAnyH_take (i := 20) (v := .pointer (some ⟨T, i0, none⟩)) rfl (by kernel_rfl) (by kernel_rfl) (by kernel_rfl) (fun _ _ _ h => h) (Or.inl ⟨by rfl, ?_⟩) hHeld ?_
              · intro wq hSw; obtain ⟨hA_, hB_⟩ := hSw; go_simp; intro hh8; omega
              simp only [List.getElem_toArray, List.getElem_cons_zero, List.getElem_cons_succ, Act.put, List.setIfInBounds_toArray, List.set_cons_zero, List.set_cons_succ]
              refine wpAnyH_ready (rs := [21]) (by kernel_rfl) (by simp) ?_
              refine AllReadyH.cons rfl (fun K hK => ?_) AllReadyH.nil
              go_simp
              refine hK.out _ _ HS5.out (fun hHeld => ?_)
              clear hK K
              refine wpAnyH_done (by kernel_rfl) ?_ _
              go_wp2
              go_roundw
              case rel => exact ⟨k + 1, _, _, by go_num, by omega, by omega, hTs', HNew.out⟩
              case measure => simp [intOf]; omega
            · rw [if_pos (by rfl)]
              go_wp2_with (go_at_call 21; refine hFull.mono ?_; rintro e wF ⟨rfl, hrF, hbF⟩)
              have mF : wF.cell? ⟨T, i0, none⟩ = some (vs i0) := cell_keep hbF m0
              have sF := hbF.size
              have mA : ∀ ob, (wF.alloc ob).cell? ⟨T, i0, none⟩ = some (vs i0) := fun ob => (World.cell?_alloc_lt _ _ _ (by simp; omega)).trans mF
              have bF : Below w.heap.size w wF := hbw.trans (hbF.mono hbs)
              have hA : Below wF.heap.size wF (wF.alloc (.cells #[sl wb.heap.size] 32)) := (Below.refl _ _).alloc (Nat.le_refl _) _
              have hownA : Hid ((wF.alloc (.cells #[sl wb.heap.size] 32)).ownsRow w.heap.size 32 1 (vs i0) (secsOf later i0).length (kr.map sl)) := own_of_block HROW.out (fun b hb => by
                have hbl := (HM.out.lo b (HM.out.gv i0 hi08 b hb)).2
                exact (hA.block b (by omega)).trans (hbF.block b hbl))
              have cellA : (wF.alloc (.cells #[sl wb.heap.size] 32)).cell? ⟨wF.heap.size, 0, none⟩ = some (sl wb.heap.size) := by rw [cell_of_row _ _ 0 _ _ _ (heap_alloc_new wF _)]; rfl
              have HRF : Hid (RowB wF wb.heap.size (full x.b)) := hrF
              clear hrF
              refine hK.out _ _ (HC.out _ bF) (fun hHeld => ?_)
              clear hK K
              refine wpAnyH_ready (rs := [11, 18]) (by kernel_rfl) (by simp) ?_
              refine AllReadyH.cons rfl (fun K hK => ?_) (AllReadyH.cons rfl (fun K hK => ?_) AllReadyH.nil)
              · go_simp
                refine hK.out _ _ (HC.out _ bF) (fun hHeld => ?_)
                clear hK K
                refine wpAnyH_ready (rs := [18]) (by kernel_rfl) (by simp) ?_
                refine AllReadyH.cons rfl (fun K hK => ?_) AllReadyH.nil
                go_simp
                refine hK.out _ _ (HC.out _ (bF.alloc (by omega) _)) (fun hHeld => ?_)
                clear hK K
                refine wpAnyH_ready (rs := [19]) (by kernel_rfl) (by simp) ?_
                refine AllReadyH.cons rfl (fun K hK => ?_) AllReadyH.nil
                refine step_appS _ rfl _ _ rfl w.heap.size (vs i0) (secsOf later i0).length (kr.map sl) rfl hownA.out (sl wb.heap.size) rfl wF.heap.size rfl cellA (by omega) (by simp; omega) ?_
                intro gk cap' w4' hown' hg4 hk4
                have put := HM.out.put hi08 (full_len x.b) hbF HRF.out (Nat.le_refl _) hA hg4 hkr HKR3.out hown' hk4 hbs
                have nT : some T ≠ (vs i0).ownBlock := fun e => HM.out.nB i0 hi08 e.symm
                have hA1 : (wF.alloc (.cells #[sl wb.heap.size] 32)).heap.size = wF.heap.size + 1 := by simp
                have m4 : w4'.cell? ⟨T, i0, none⟩ = some (vs i0) := (hg4.cell_far ⟨T, i0, none⟩ (by simp; omega) nT).trans (mA _)
                have f4 : w4'.frozen? ⟨T, i0, none⟩ = false := by
                  rw [hg4.frozen_far ⟨T, i0, none⟩ (by simp; omega) nT]
                  exact frozen_row ((hA.block T (by omega)).trans ((hbF.block T (by omega)).trans HM.out.hB)) i0
                have b4 : Below w.heap.size w w4' := (bF.alloc (by omega) _).grown hg4 (by simp; omega) (fun b hb => (HM.out.lo b (HM.out.gv i0 hi08 b hb)).1)
                have HS5 : Hid ((w4'.setCell ⟨T, i0, none⟩ (.slice (some ⟨gk, 0, none⟩) ((secsOf later i0).length + 1) cap')).cell? ⟨g, o + k * 4 + 1, none⟩ = some (.int .i64 (i0 : Int)) ∧ (w4'.setCell ⟨T, i0, none⟩ (.slice (some ⟨gk, 0, none⟩) ((secsOf later i0).length + 1) cap')).cell? ⟨g, o + k * 4 + 2, none⟩ = some x.vb) := by
                  have hh := HC.out _ b4
                  have hTg : T ≠ g := by omega
                  exact ⟨by rw [World.cell?_setCell_other _ _ _ _ (by simp [hTg])]; exact hh.1, by rw [World.cell?_setCell_other _ _ _ _ (by simp [hTg])]; exact hh.2⟩
                have s4 := hg4.size
                have HPut : Hid _ := put
                have HNew : Hid (Mid3 w (w4'.setCell ⟨T, i0, none⟩ (.slice (some ⟨gk, 0, none⟩) ((secsOf later i0).length + 1) cap')) (.pointer (some ⟨g0, 0, none⟩)) w3.heap.size T wv D1 D3 (later ++ [⟨(i0 : Int), full x.b, D2.safe⟩]) (k + 1)) := HPB.out.noted put.1 put.2 (fun b hb => hb.imp id (fun h => h.1)) (by omega)
                have hTs' : T < (w4'.setCell ⟨T, i0, none⟩ (.slice (some ⟨gk, 0, none⟩) ((secsOf later i0).length + 1) cap')).heap.size := by simp [World.setCell]; omega
                clear put hown' hg4 hk4
                simp only [List.getElem_toArray, List.getElem_cons_zero, List.getElem_cons_succ, Act.put, List.setIfInBounds_toArray, List.set_cons_zero, List.set_cons_succ]
                refine hK.out _ _ (HC.out _ b4) (fun hHeld => ?_)
                clear hK K
                refine wpAnyH_take (i := 20) (v := .pointer (some ⟨T, i0, none⟩)) rfl (by kernel_rfl) (by kernel_rfl) (by kernel_rfl) (fun _ _ _ h => h) (Or.inl ⟨by rfl, ?_⟩) hHeld ?_
                · intro wq hSw; obtain ⟨hA_, hB_⟩ := hSw; go_simp; intro hh8; omega
                simp only [List.getElem_toArray, List.getElem_cons_zero, List.getElem_cons_succ, Act.put, List.setIfInBounds_toArray, List.set_cons_zero, List.set_cons_succ]
                refine wpAnyH_ready (rs := [21]) (by kernel_rfl) (by simp) ?_
                refine AllReadyH.cons rfl (fun K hK => ?_) AllReadyH.nil
                go_simp
                refine hK.out _ _ HS5.out (fun hHeld => ?_)
                clear hK K
                refine wpAnyH_done (by kernel_rfl) ?_ _
                go_wp2
                go_roundw
                case rel => exact ⟨k + 1, _, _, by go_num, by omega, by omega, hTs', HNew.out⟩
                case measure => simp [intOf]; omega
              · go_simp
                refine hK.out _ _ (HC.out _ (bF.alloc (by omega) _)) (fun hHeld => ?_)
                clear hK K
                refine wpAnyH_ready (rs := [11]) (by kernel_rfl) (by simp) ?_
                refine AllReadyH.cons rfl (fun K hK => ?_) AllReadyH.nil
                go_simp
                refine hK.out _ _ (HC.out _ (bF.alloc (by omega) _)) (fun hHeld => ?_)
                clear hK K
                refine wpAnyH_ready (rs := [19]) (by kernel_rfl) (by simp) ?_
                refine AllReadyH.cons rfl (fun K hK => ?_) AllReadyH.nil
                refine step_appS _ rfl _ _ rfl w.heap.size (vs i0) (secsOf later i0).length (kr.map sl) rfl hownA.out (sl wb.heap.size) rfl wF.heap.size rfl cellA (by omega) (by simp; omega) ?_
                intro gk cap' w4' hown' hg4 hk4
                have put := HM.out.put hi08 (full_len x.b) hbF HRF.out (Nat.le_refl _) hA hg4 hkr HKR3.out hown' hk4 hbs
                have nT : some T ≠ (vs i0).ownBlock := fun e => HM.out.nB i0 hi08 e.symm
                have hA1 : (wF.alloc (.cells #[sl wb.heap.size] 32)).heap.size = wF.heap.size + 1 := by simp
                have m4 : w4'.cell? ⟨T, i0, none⟩ = some (vs i0) := (hg4.cell_far ⟨T, i0, none⟩ (by simp; omega) nT).trans (mA _)
                have f4 : w4'.frozen? ⟨T, i0, none⟩ = false := by
                  rw [hg4.frozen_far ⟨T, i0, none⟩ (by simp; omega) nT]
                  exact frozen_row ((hA.block T (by omega)).trans ((hbF.block T (by omega)).trans HM.out.hB)) i0
                have b4 : Below w.heap.size w w4' := (bF.alloc (by omega) _).grown hg4 (by simp; omega) (fun b hb => (HM.out.lo b (HM.out.gv i0 hi08 b hb)).1)
                have HS5 : Hid ((w4'.setCell ⟨T, i0, none⟩ (.slice (some ⟨gk, 0, none⟩) ((secsOf later i0).length + 1) cap')).cell? ⟨g, o + k * 4 + 1, none⟩ = some (.int .i64 (i0 : Int)) ∧ (w4'.setCell ⟨T, i0, none⟩ (.slice (some ⟨gk, 0, none⟩) ((secsOf later i0).length + 1) cap')).cell? ⟨g, o + k * 4 + 2, none⟩ = some x.vb) := by
                  have hh := HC.out _ b4
                  have hTg : T ≠ g := by omega
                  exact ⟨by rw [World.cell?_setCell_other _ _ _ _ (by simp [hTg])]; exact hh.1, by rw [World.cell?_setCell_other _ _ _ _ (by simp [hTg])]; exact hh.2⟩
                have s4 := hg4.size
                have HPut : Hid _ := put
                have HNew : Hid (Mid3 w (w4'.setCell ⟨T, i0, none⟩ (.slice (some ⟨gk, 0, none⟩) ((secsOf later i0).length + 1) cap')) (.pointer (some ⟨g0, 0, none⟩)) w3.heap.size T wv D1 D3 (later ++ [⟨(i0 : Int), full x.b, D2.safe⟩]) (k + 1)) := HPB.out.noted put.1 put.2 (fun b hb => hb.imp id (fun h => h.1)) (by omega)
                have hTs' : T < (w4'.setCell ⟨T, i0, none⟩ (.slice (some ⟨gk, 0, none⟩) ((secsOf later i0).length + 1) cap')).heap.size := by simp [World.setCell]; omega
                clear put hown' hg4 hk4
                simp only [List.getElem_toArray, List.getElem_cons_zero, List.getElem_cons_succ, Act.put, List.setIfInBounds_toArray, List.set_cons_zero, List.set_cons_succ]
                refine hK.out _ _ (HC.out _ b4) (fun hHeld => ?_)
                clear hK K
                refine wpAnyH_take (i := 20) (v := .pointer (some ⟨T, i0, none⟩)) rfl (by kernel_rfl) (by kernel_rfl) (by kernel_rfl) (fun _ _ _ h => h) (Or.inl ⟨by rfl, ?_⟩) hHeld ?_
                · intro wq hSw; obtain ⟨hA_, hB_⟩ := hSw; go_simp; intro hh8; omega
                simp only [List.getElem_toArray, List.getElem_cons_zero, List.getElem_cons_succ, Act.put, List.setIfInBounds_toArray, List.set_cons_zero, List.set_cons_succ]
                refine wpAnyH_ready (rs := [21]) (by kernel_rfl) (by simp) ?_
                refine AllReadyH.cons rfl (fun K hK => ?_) AllReadyH.nil
                go_simp
                refine hK.out _ _ HS5.out (fun hHeld => ?_)
                clear hK K
                refine wpAnyH_done (by kernel_rfl) ?_ _
                go_wp2
                go_roundw
                case rel => exact ⟨k + 1, _, _, by go_num, by omega, by omega, hTs', HNew.out⟩
                case measure => simp [intOf]; omega
          · have HP : Hid (∀ wb, Turned w.heap.size wr.drew F (.pointer (some ⟨g0, 0, none⟩)) 0 (D2.write x.i x.b) wb → Mid3 w wb (.pointer (some ⟨g0, 0, none⟩)) w3.heap.size T wv D1 D2 later (k + 1)) := fun wb ht => by
              rw [write_not h3] at ht
              obtain ⟨F', t1, t2, t3⟩ := ht
              exact hP.refused hF hMay hdis hFB hG ⟨F', t1, (Fr.drew wr F).trans t2 (fun i hi => Or.inl hi), t3⟩ (by omega)
            have t3 : (writeE D2.size x.i x.b == 0) = false := by simpa using h3
            generalize writeE D2.size x.i x.b = E at *
            clear q0 q1 q2 q3 hB hF hP hMay hdis hFB hG
            go_wp2_with fail
            go_region_held_law (fun w' => w'.cell? ⟨g, o + k * 4 + 1, none⟩ = some (.int .i64 x.i) ∧ w'.cell? ⟨g, o + k * 4 + 2, none⟩ = some x.vb) (first | exact ⟨d1, d2⟩ | exact HC.out _ hPb.below) (first | (go_at_call 9; refine hW.mono ?_; rintro e wb ⟨rfl, ht⟩; have hPb := HP.out _ ht; have hs5 := (HBW.out _ _ ht).2; clear ht))
            go_wp2
            go_roundw
            case rel => exact ⟨k + 1, _, _, by go_num, by omega, by omega, by omega, hPb⟩
            case measure => simp [intOf]; omega
        · go_wp2
          go_meet
          exact ⟨k, D2, later, hk100, hTs, hP⟩
      · go_wp2
        go_meet
        exact ⟨k, D2, later, hk100, hTs, hP⟩
  case rest =>
  obtain ⟨k6, D2, later, hk6, hTs, hP⟩ := hcut
  rename World => w6
  obtain ⟨F, G, vs, hF, hMay, hdis, hFB, hG⟩ := hP.ex
  have hb6 := hP.below
  have hlater := hP.len
  have hC := Cut_any hF vk ks (HK.out.keep hb6)
  go_wp2_with fail
  refine hC.mono ?_
  clear hC
  rintro e w7 ⟨c7, F7, rfl, hD7, hb7⟩
  have hpend : Calls Try.prog 22 #[.pointer (some ⟨c7, 0, none⟩)] w7 fun e w' => e = .returned (.int .i64 0) ∧ Below w7.heap.size w7 w' := pending_any hD7
  go_wp2_with fail
  refine hpend.mono ?_
  clear hpend
  rintro e w8 ⟨rfl, hb8⟩
  have hf : (D2.left D2.ws.length D2.safe ks).now = cutF ks D1.ws.length D1.first (D1.ws ++ later) := by rw [left_now, List.take_length, hP.ws, hP.first, hP.safe]
  have HR : Hid (Reads w8 (.pointer (some ⟨c7, 0, none⟩)) (cutF ks D1.ws.length D1.first (D1.ws ++ later))) := (reads_of (hD7.keepB hb8) hP.size).eq hf
  have HMay : Hid (May w8 T w.heap.size G vs (secsOf later)) := (hMay.keep (Fr.of_below (F := fun _ => False) hb7) (fun _ _ => id)).keep (Fr.of_below (F := fun _ => False) hb8) (fun _ _ => id)
  have HWas : Hid (Was w8 w3.heap.size T 8 wv D1.now) := (hP.was.keep (Fr.of_below (F := fun _ => False) hb7) (fun _ => False.elim)).keep (Fr.of_below (F := fun _ => False) hb8) (fun _ => False.elim)
  have hb8' : Below w.heap.size w w8 := (hb6.trans (hb7.mono hb6.size)).trans (hb8.mono (by have := hb7.size; have := hb6.size; omega))
  have HLen : Hid (∀ i, (D1.now i).length = 128) := by
    refine (?_ : ∀ i, (D1.now i).length = 128)
    intro i
    rw [← hnow]
    exact HLn.out i
  have HSAFE : Hid (∀ j : Nat, cutF ks D1.ws.length D1.first (D1.ws ++ later) j = D1.now j ∨ cutF ks D1.ws.length D1.first (D1.ws ++ later) j ∈ secsOf later j) := fun j => cut_safe HW1.out ks later j
  generalize cutF ks D1.ws.length D1.first (D1.ws ++ later) = f at *
  clear hD7 hb7 hb8 hP hF hMay hdis hFB hG hb6 hf HOKA HCLA hM0
  go_wp2_with fail
  go_loopw [17] (fun iv wr => ∃ j : Nat, iv = .int .i64 j ∧ j ≤ 8 ∧ Below w8.heap.size w8 wr) (fun iv _ => 8 - (intOf iv).toNat)
  case atStart => exact ⟨0, rfl, Nat.zero_le _, Below.refl _ _⟩
  case round =>
    obtain ⟨j, rfl, hj8, hbr⟩ := hrel
    by_cases h1 : j < 8
    · have hrd := HR.out _ j hbr h1
      go_wp2_with fail
      refine hrd.mono ?_
      clear hrd
      rintro e wA ⟨kA, rfl, rA, lA, bA⟩
      have hbA := hbr.trans (bA.mono hbr.size)
      clear bA hbr
      have hWasA := HWas.out.keep (Fr.of_below (F := fun _ => False) hbA) (fun _ => False.elim)
      have hMayA := HMay.out.keep (Fr.of_below (F := fun _ => False) hbA) (fun _ _ => id)
      obtain ⟨kW, hkW, rW, _, _⟩ := hWasA.rows j h1
      have cW := hWasA.cell j h1
      rw [hkW] at cW
      have yA := bytes_row rA lA
      have yW := bytes_row rW (HLen.out _)
      have s1 := same_any _ _ _ _ wA yA yW
      obtain ⟨ao', cap', hvj, hcapj, hcellj⟩ := hMayA.row j h1
      have cM := hMayA.cell j h1
      rw [hvj] at cM
      have hsafe := HSAFE.out j
      have HY : Hid (Bytes wA (sl kA) (f j)) := yA
      have HCJ : Hid (∀ q (hq : q < (secsOf later j).length), ∃ gq kq, ao' = some ⟨gq, 0, none⟩ ∧ wA.cell? ⟨gq, q, none⟩ = some (sl kq) ∧ RowB wA kq (secsOf later j)[q] ∧ ((secsOf later j)[q]).length = 128) := hcellj
      have hll : (secsOf later j).length ≤ 100000 := by
        have h6 : (secsOf later j).length ≤ later.length := by simp only [secsOf, List.length_map]; exact List.length_filter_le _ _
        omega
      clear hWasA hMayA rW rA yA yW hcellj
      generalize f j = S at *
      generalize D1.now j = N at *
      generalize secsOf later j = Lj at *
      go_wp2_with fail
      refine s1.mono ?_
      clear s1
      rintro e wx ⟨rfl, hwx⟩
      subst hwx
      go_upto_block 8 with fail
      go_cut [20, 21, 22] (fun okv _ _ wx' => okv = .bool true ∧ wx' = wx)
      case first =>
        go_wp2_with fail
        go_loopw [20, 21, 22] (fun okv qv _ wr' => ∃ q : Nat, qv = .int .i64 q ∧ q ≤ Lj.length ∧ okv = .bool (decide (S = N) || anyQ Lj S q) ∧ wr' = wx) (fun _ qv _ _ => Lj.length - (intOf qv).toNat)
        case atStart => exact ⟨0, rfl, Nat.zero_le _, by simp [anyQ], rfl⟩
        case round =>
          obtain ⟨q, rfl, hq, rfl, rfl⟩ := hrel
          by_cases h5 : q < Lj.length
          · obtain ⟨gq, kq, rfl, cq, rq, lq⟩ := HCJ.out q h5
            have s2 := same_any _ _ _ _ _ HY.out (bytes_row rq lq)
            have hs := anyQ_succ Lj S q h5
            generalize Lj[q] = Z at *
            clear rq
            generalize hb : (decide (S = N) || anyQ Lj S q) = b at *
            cases b
            · go_wp2_with (first
                | (go_at_call 15; refine s2.mono ?_; rintro e wy ⟨rfl, hwy⟩; rw [hwy]; clear hwy wy))
              go_roundw
              case rel =>
                refine ⟨q + 1, by go_num, by omega, ?_, by first | rfl | trivial⟩
                rw [hs, ← Bool.or_assoc, hb]
                simp
              case measure => simp [intOf]; omega
            · go_wp2_with (first
                | (go_at_call 15; refine s2.mono ?_; rintro e wy ⟨rfl, hwy⟩; rw [hwy]; clear hwy wy))
              go_roundw
              case rel =>
                refine ⟨q + 1, by go_num, by omega, ?_, by first | rfl | trivial⟩
                rw [hs, ← Bool.or_assoc, hb]
                simp
              case measure => simp [intOf]; omega
          · obtain rfl : q = Lj.length := by omega
            have ht : (decide (S = N) || anyQ Lj S Lj.length) = true := by
              rcases hsafe with h7 | h7
              · simp [h7]
              · rw [anyQ_all h7]; simp
            rw [ht]
            go_wp2
            go_meet
            exact ⟨rfl, rfl⟩
      case rest =>
      obtain ⟨rfl, rfl⟩ := hcut
      go_wp2
      go_roundw
      case rel => exact ⟨j + 1, by go_num, by omega, hbA⟩
      case measure => simp [intOf]; omega
    · go_wp2
      go_ret
      exact ⟨rfl, hb8'.trans (hbr.mono hb8'.size)⟩
end Go.Proofs.Ytdpcjpdmmkibpaa

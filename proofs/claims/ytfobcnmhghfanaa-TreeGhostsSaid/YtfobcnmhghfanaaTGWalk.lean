/- The walk of the law TreeGhosts. -/
import Derived.Test.YtfobcnmhghfanaaB9ZI
import Derived.Test.YtfobcnmhghfanaaB9Open
import Derived.Deep.CutBlock
import Derived.Deep.DeepCutAuto
namespace Go.Proofs.Ytfobcnmhghfanaa
open Go.RowKit Go.Shelf
set_option linter.unusedVariables false
set_option linter.unusedSimpArgs false

/-- The three trees, k keys in. -/
def GA (w wr : World) (a b c : Nat) (k : Nat) : Prop := ∃ L, T3 w wr (pt a) (pt b) (pt c) L L L ∧ NoG L ∧ Short L ∧ L.length ≤ k
/-- The three trees on the way. -/
def GW (w wr : World) (a b c : Nat) (L : List E) (x : E) : Prop := T3 w wr (pt a) (pt b) (pt c) L (setL L x) (setL L x)
set_option maxRecDepth 100000 in
set_option maxHeartbeats 4000000 in
theorem ghosts_law (v : Value) (ss : List ByteArray) (which n : Int) (w : World) (hv : RowS w v ss) (hwh : -9223372036854775808 ≤ which ∧ which ≤ 9223372036854775807) :
    Calls Try.prog 7 #[v, .int .i64 which, .int .i64 n] w fun e w' => e = .returned (.bool true) ∧ Below w.heap.size w w' := by
  obtain ⟨ao, cap, rfl, hcap, hcl⟩ := hv
  have HCL : Hid (ss = [] ∨ ∃ g o, ao = some ⟨g, o, none⟩ ∧ ∀ k (h : k < ss.length), w.cell? ⟨g, o + k, none⟩ = some (.string ss[k])) := hcl
  clear hcl
  have hn1 := tb_new w w (Below.refl _ _)
  go_enter Try.func7, Try.ntmps7
  go_wp2_with fail
  refine hn1.mono ?_
  clear hn1
  rintro e w1 ⟨ra, a, rfl, ta, _, _⟩
  have hn2 := t2_new ta
  clear ta
  go_wp2_with fail
  refine hn2.mono ?_
  clear hn2
  rintro e w2 ⟨b, rfl, t2⟩
  have hn3 := t3_new t2
  clear t2
  go_wp2_with fail
  refine hn3.mono ?_
  clear hn3
  rintro e w3 ⟨c, rfl, t3⟩
  have hal := alive_any w3
  have T3' : Hid (T3 w w3 (pt a) (pt b) (pt c) [] [] []) := t3
  clear t3
  go_wp2_with fail
  refine hal.mono ?_
  clear hal
  rintro e w4 ⟨rfl, hb4⟩
  have H0 : Hid (GA w w4 a b c 0) := ⟨[], T3'.out.below hb4, (by intro e he; cases he), (by intro e he; cases he), Nat.le_refl _⟩
  clear T3' hb4
  obtain ⟨M, hM⟩ : ∃ M, min ss.length 150 = M := ⟨_, rfl⟩
  have hM1 : M ≤ 150 := by omega
  have hM2 : M ≤ ss.length := by omega
  have hmin : (if (150 : Int) < (ss.length : Int) then (150 : Int) else (ss.length : Int)) = (M : Int) := by split <;> omega
  clear hM
  go_wp2_with fail
  go_loopw [11] (fun i wr => ∃ k : Nat, i = .int .i64 k ∧ k ≤ M ∧ Hid (GA w wr a b c k)) (fun i _ => M - (intOf i).toNat)
  case atStart => exact ⟨0, rfl, by omega, H0⟩
  case round =>
    obtain ⟨k, rfl, hkM, H⟩ := hrel
    clear H0
    by_cases h1 : k < M
    · rcases HCL.out with h0 | ⟨g, o, rfl, hcl⟩
      · rw [h0] at hM2; simp at hM2; omega
      have hks : k < ss.length := by omega
      have q := hcl k hks
      have hlt := World.block_lt_of_cell? w _ q
      obtain ⟨L, t, hG, hS, hl⟩ := H.out
      have d1 := (t.bl.cell hlt).trans q
      have HC : Hid (∀ wb, Below w.heap.size w wb → wb.cell? ⟨g, o + k, none⟩ = some (.string ss[k])) := fun wb hb => (hb.cell hlt).trans q
      clear hcl q H
      generalize ss[k] = x at *
      have i1 := t.insA (by omega) x k
      have HG : Hid _ := hG.ins x k
      have HS : Hid _ := hS.ins x k
      have hl' := len_ins L x k
      clear t hG hS
      go_wp2_with fail
      refine i1.mono ?_
      clear i1 d1
      rintro e wa ⟨rfl, t⟩
      have i2 := t.rot.insA (by omega) x k
      have d1 := HC.out wa t.bl
      clear t
      simp only
      go_wp2_with fail
      refine i2.mono ?_
      clear i2 d1
      rintro e wb ⟨rfl, t⟩
      have i3 := t.rot.insA (by omega) x k
      have d1 := HC.out wb t.bl
      clear t
      simp only
      go_wp2_with fail
      refine i3.mono ?_
      clear i3 d1
      rintro e wd ⟨rfl, t⟩
      have HR : Hid (GA w wd a b c (k + 1)) := ⟨_, t.rot, HG.out, HS.out, by omega⟩
      clear t HG HS
      simp only
      go_wp2_with fail
      go_roundw
      case rel => exact ⟨k + 1, by go_num, by omega, HR⟩
      case measure => simp [intOf]; omega
    · obtain rfl : k = M := by omega
      obtain ⟨L, t, hG, hS, hl⟩ := H.out
      clear H
      by_cases hk0 : k = 0
      · subst hk0
        have HB : Hid _ := t.bl
        clear t
        go_wp2_with fail
        go_ret
        exact ⟨rfl, HB.out⟩
      rcases HCL.out with h0 | ⟨g, o, rfl, hcl⟩
      · rw [h0] at hM2; simp at hM2; omega
      have hz : ¬ ((k : Int) = 0) := by omega
      have hp := pick9 which k wr hwh (by omega) (by omega)
      have hpl := pickN_lt which k (by omega)
      generalize pickN which k = j at *
      have hjs : j < ss.length := by omega
      have q := hcl j hjs
      have hlt := World.block_lt_of_cell? w _ q
      have d1 := (t.bl.cell hlt).trans q
      have T : Hid (T3 w wr (pt a) (pt b) (pt c) L L L) := t
      clear hcl q t
      generalize ss[j] = x at *
      go_wp2_with (go_at_call 18; refine hp.mono ?_; clear hp; rintro e wx ⟨rfl, hwx⟩; rw [hwx]; clear hwx wx)
      have hg := T.out.getA x
      have hline := T.out.line
      clear T d1
      cases hget : getL L x with
      | none =>
        rw [hget] at hg
        clear hget hline
        go_wp2_with fail
        refine hg.mono ?_
        clear hg
        rintro e wa ⟨rfl, t⟩
        have HB : Hid _ := t.bl
        clear t
        simp only [getV]
        go_wp2_with fail
        go_ret
        exact ⟨rfl, HB.out⟩
      | some e0 =>
      rw [hget] at hg
      obtain ⟨hm, hk⟩ := getL_mem hget
      obtain ⟨y1, y2, y3, y4⟩ := way_b hline hget (hG e0 hm) (by have := hS e0 hm; rw [hk] at this; exact this) n
      have HG : Hid (NoG L) := hG
      clear hget hline hG hS hm hk
      go_wp2_with fail
      refine hg.mono ?_
      clear hg
      rintro e wa ⟨rfl, t⟩
      have i1 := t.rot.ghoA (by omega) x
      rw [y1] at i1
      clear t
      simp only [getV]
      go_wp2_with fail
      refine i1.mono ?_
      clear i1
      rintro e wb ⟨rfl, t⟩
      have i2 := t.insA (by rw [len_set]; omega) x n
      rw [y2] at i2
      clear t
      simp only
      go_wp2_with fail
      refine i2.mono ?_
      clear i2
      rintro e wd ⟨rfl, t⟩
      have i3 := t.rot.ghoA (by omega) x
      rw [y1] at i3
      clear t
      simp only
      go_wp2_with fail
      refine i3.mono ?_
      clear i3
      rintro e we ⟨rfl, t⟩
      have i4 := t.purA (by rw [len_set]; omega) x
      rw [y3] at i4
      clear t
      simp only
      go_wp2_with fail
      refine i4.mono ?_
      clear i4
      rintro e wf ⟨rfl, t⟩
      have i5 := t.insA (Nat.le_trans (len_del L x) (by omega)) x n
      rw [y4] at i5
      clear t
      simp only
      go_wp2_with fail
      refine i5.mono ?_
      clear i5
      rintro e wg ⟨rfl, t⟩
      have T0 : Hid (GW w wg a b c L ⟨x, n, false⟩) := t.rot
      clear t y1 y2 y3 y4
      simp only
      go_upto_block 2 with fail
      go_cut [18] (fun _ wx => Hid (GW w wx a b c L ⟨x, n, false⟩))
      case first =>
        go_wp2_with fail
        go_loopw [16, 17, 18] (fun kv fv i wr => ∃ (kk : ByteArray) (ff : Bool) (i0 : Nat), kv = .string kk ∧ fv = .bool ff ∧ i = .int .i64 i0 ∧ i0 ≤ k + 1 ∧ Hid (GW w wr a b c L ⟨x, n, false⟩)) (fun _ _ i _ => k + 1 - (intOf i).toNat)
        case atStart => exact ⟨_, _, 0, rfl, rfl, rfl, by omega, T0⟩
        case round =>
          obtain ⟨kk, ff, i0, rfl, rfl, rfl, hi0, T⟩ := hrel
          clear T0
          by_cases hik : i0 ≤ k
          · have hik' : (i0 : Int) ≤ (k : Int) := by omega
            have n1 := T3.nextA T.out kk ff
            have hns := next_set L ⟨x, n, false⟩ kk ff
            cases hnx : nextL L kk ff with
            | none =>
              rw [hnx] at n1 hns
              simp only [Option.map_none] at hns
              clear T hnx
              go_wp2_with fail
              refine n1.mono ?_
              clear n1
              rintro e wa ⟨rfl, t⟩
              have n2 := t.rot.nextA kk ff
              rw [hns] at n2
              clear t
              simp only [nextV]
              go_wp2_with fail
              refine n2.mono ?_
              clear n2
              rintro e wb ⟨rfl, t⟩
              have n3 := t.rot.nextA kk ff
              rw [hns] at n3
              clear t
              simp only [nextV]
              go_wp2_with fail
              refine n3.mono ?_
              clear n3
              rintro e wd ⟨rfl, t⟩
              have T1 : Hid (GW w wd a b c L ⟨x, n, false⟩) := t.rot
              clear t
              simp only [nextV]
              go_wp2_with fail
              go_meet
              case rel => exact T1
            | some e1 =>
              have hgf := HG.out e1 (List.mem_of_find?_eq_some hnx)
              rw [hnx] at n1 hns
              obtain ⟨k1, m1, g1⟩ := e1
              simp only at hgf
              subst hgf
              obtain ⟨m2, hm2, hns2⟩ : ∃ m2 : Int, ((k1 = x ∧ m2 = n) ∨ (k1 ≠ x ∧ m2 = m1)) ∧ nextL (setL L ⟨x, n, false⟩) kk ff = some ⟨k1, m2, false⟩ := by
                by_cases h : k1 = x
                · exact ⟨n, Or.inl ⟨h, rfl⟩, by rw [hns]; simp [h]⟩
                · exact ⟨m1, Or.inr ⟨h, rfl⟩, by rw [hns]; simp [h]⟩
              clear T hnx hns
              go_wp2_with fail
              refine n1.mono ?_
              clear n1
              rintro e wa ⟨rfl, t⟩
              have n2 := t.rot.nextA kk ff
              rw [hns2] at n2
              clear t
              simp only [nextV]
              go_wp2_with fail
              refine n2.mono ?_
              clear n2
              rintro e wb ⟨rfl, t⟩
              have n3 := t.rot.nextA kk ff
              rw [hns2] at n3
              clear t
              simp only [nextV]
              go_wp2_with fail
              refine n3.mono ?_
              clear n3
              rintro e wd ⟨rfl, t⟩
              have T1 : Hid (GW w wd a b c L ⟨x, n, false⟩) := t.rot
              clear t hns2
              simp only [nextV]
              rcases hm2 with ⟨rfl, rfl⟩ | ⟨hne, rfl⟩
              · go_wp2_with fail
                go_roundw
                case rel => exact ⟨_, _, i0 + 1, rfl, rfl, by go_num, by omega, T1⟩
                case measure => simp [intOf]; omega
              · have hk2 : (k1.toList == x.toList) = false := by rw [eq_kl]; simp [hne]
                go_wp2_with fail
                go_roundw
                case rel => exact ⟨_, _, i0 + 1, rfl, rfl, by go_num, by omega, T1⟩
                case measure => simp [intOf]; omega
          · have hik' : ¬ ((i0 : Int) ≤ (k : Int)) := by omega
            go_wp2_with fail
            go_meet
            case rel => exact T
      case rest =>
      have n1 := (T3.rot hcut.out).wellA (by rw [len_set]; omega)
      clear hcut T0
      go_wp2_with fail
      refine n1.mono ?_
      clear n1
      rintro e wa ⟨rfl, t⟩
      have n2 := t.rot.wellA (by rw [len_set]; omega)
      clear t
      simp only
      go_wp2_with fail
      refine n2.mono ?_
      clear n2
      rintro e wb ⟨rfl, t⟩
      have HB : Hid _ := t.bl
      clear t
      simp only
      go_wp2_with fail
      go_ret
      exact ⟨rfl, HB.out⟩
end Go.Proofs.Ytfobcnmhghfanaa

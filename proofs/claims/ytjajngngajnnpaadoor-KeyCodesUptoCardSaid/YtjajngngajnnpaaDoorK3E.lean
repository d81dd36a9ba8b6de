/- The walks of keycode's reading of a text and of a value. -/
import Derived.Test.YtjajngngajnnpaaDoorK3D
namespace Go.Proofs.YtjajngngajnnpaaDoor
open Go.RowKit
set_option linter.unusedVariables false

theorem Cur.grow {w w' : World} {p q : Nat} {s : ByteArray} {i : Nat} {u u' : Value} {base : Nat} {xs : List UInt8} (h : Cur w p q s i) (hg : GrowB w u w' u') (hown : OwnB base w u xs) (hp : p < base) (hq : q < base) : Cur w' p q s i :=
  ⟨(hg.grown.block p (lt_of_block h.hp) (fun e => by have := own_ge hown p e.symm; omega)).trans h.hp, (hg.grown.block q (lt_of_block h.hq) (fun e => by have := own_ge hown q e.symm; omega)).trans h.hq, h.le⟩
/-- Behind an append to what the call made: but for p, all that was there is as it was. -/
theorem but_grow {w0 w w' : World} {p : Nat} {u u' : Value} {xs : List UInt8} (h : w0.grownBy w (some p)) (hg : GrowB w u w' u') (hown : OwnB w0.heap.size w u xs) : w0.grownBy w' (some p) :=
  ⟨hg.grown.os.trans h.os, hg.grown.tape.trans h.tape, hg.grown.output.trans h.output, Nat.le_trans h.size hg.grown.size, fun i hi hr => (hg.grown.block i (Nat.lt_of_lt_of_le hi h.size) (fun e => by have := own_ge hown i e.symm; omega)).trans (h.block i hi hr)⟩
theorem OwnB.next {base : Nat} {w w' : World} {u : Value} {xs : List UInt8} {p : Nat} (h : OwnB base w u xs) (hg : w.grownBy w' (some p)) (hp : p < base) : OwnB base w' u xs :=
  World.ownsRow.kept h hg (by
    cases e : u.ownBlock with
    | none => exact Or.inl rfl
    | some k => exact Or.inr (fun e' => by have := own_ge h k e; simp at e'; omega))
def atOf (w : World) (p : Nat) : Nat := (intOf ((w.cell? ⟨p, 0, none⟩).getD undef)).toNat
theorem Cur.at {w : World} {p q : Nat} {s : ByteArray} {i : Nat} (h : Cur w p q s i) : atOf w p = i := by
  unfold atOf
  rw [cell_of_one h.hp]
  simp [intOf]
theorem conv_any {base : Nat} {w : World} {u : Value} {xs : List UInt8} (h : OwnB base w u xs) : (convert 51 9 u).run Tryd.prog w = .ok (.string ⟨xs.toArray⟩) w := by
  rcases h.bytes with ⟨hv, hx⟩ | ⟨g, c, hv, hb⟩
  · rw [hv, hx, run_convert_bytes_string w _ _ _ none 0 0 Tryd.underlying51 Tryd.underlying5 Tryd.underlying9]; rfl
  · rw [hv]
    exact run_convert_bytes_back w 51 9 5 ⟨g, 0, none⟩ c xs Tryd.underlying51 Tryd.underlying5 Tryd.underlying9 hb
theorem esc_snoc_zero (T r : List UInt8) : esc (T ++ [0]) ++ r = esc T ++ 0 :: 255 :: r := by rw [esc_app]; simp [esc]
theorem esc_snoc_other (T r : List UInt8) (c : UInt8) (h : c ≠ 0) : esc (T ++ [c]) ++ r = esc T ++ c :: r := by rw [esc_app]; simp [esc, h]
theorem ends_true {xs : List UInt8} (h : endsBlank ⟨xs.toArray⟩ = true) : trimL xs ≠ xs := by simpa [endsBlank] using h
theorem ends_false {xs : List UInt8} (h : endsBlank ⟨xs.toArray⟩ = false) : trimL xs = xs := by simpa [endsBlank] using h

set_option maxHeartbeats 2000000 in
theorem takeText_any (p q : Nat) (s : ByteArray) (i : Nat) (w : World) (h : Cur w p q s i) (hs : s.size ≤ 1099511627776) :
    Calls Tryd.prog 29 #[nextF p q] w fun e w' =>
      (∃ (T : List UInt8) (j : Nat), e = .returned (.string ⟨T.toArray⟩) ∧ w.grownBy w' (some p) ∧ Cur w' p q s j ∧ i < j ∧ trimL T = T ∧ rest s i = esc T ++ 0 :: 0 :: rest s j) ∨
      (e = .panicked noCodeP ∧ w.grownBy w' (some p) ∧ NoText (rest s i)) := by
  have hp : p < w.heap.size := lt_of_block h.hp
  have hq : q < w.heap.size := lt_of_block h.hq
  go_enter Tryd.func29, Tryd.ntmps29
  go_wp2
  go_loopw [3] (fun u wr => ∃ (j : Nat) (T : List UInt8), i ≤ j ∧ OwnB w.heap.size wr u T ∧ Hid (rest s i = esc T ++ rest s j) ∧ T.length ≤ j ∧ Cur wr p q s j ∧ w.grownBy wr (some p)) (fun _ wr => s.size - atOf wr p)
  case atStart => exact ⟨i, [], Nat.le_refl _, World.ownsRow_nil _ _ _ _, rfl, Nat.zero_le _, h, World.grownBy.refl _ _⟩
  case round =>
    obtain ⟨j, T, hij, hown, HR, hTl, hcur, hgr⟩ := hrel
    have hjs := hcur.le
    go_wp2_with fail
    refine (next_any p q s j _ hcur hs).mono ?_
    rintro e w1 (⟨c, rfl, hg, hc, hr⟩ | ⟨rfl, hg, hr⟩)
    · have hown1 := hown.next hg hp
      have hgr1 := grownBy_trans hgr hg
      have hjs1 := hc.le
      clear hg hown hgr
      cases h0 : ((c.toNat : Int) == 0)
      · go_wp2_with (at_builtin; refine wp_appB _ rfl _ _ rfl w.heap.size _ T rfl (hown1.alloc _) w1.heap.size 1 #[.int .u8 c.toNat] [c] rfl (heap_alloc_new w1 _) rfl rfl (by decide) (by omega) (by have := hgr1.size; simp; omega) ?_)
        intro v' w2 hown2 hgrow
        have hc2 := (hc.alloc (.cells #[.int .u8 c.toNat] 5)).grow hgrow (hown1.alloc _) hp hq
        have hgr2 := but_grow (grownBy_trans hgr1 (World.grownBy_alloc w1 (.cells #[.int .u8 c.toNat] 5) _)) hgrow (hown1.alloc _)
        have HR2 : Hid (rest s i = esc (T ++ [c]) ++ rest s (j + 1)) := by
          show rest s i = _
          rw [HR.out, hr.out, esc_snoc_other _ _ _ (byten0 h0)]
        clear hgrow hown1 hgr1 HR
        go_wp2
        go_roundw
        case rel => exact ⟨j + 1, T ++ [c], by omega, hown2, HR2, by simp; omega, hc2, hgr2⟩
        case measure => rw [hc2.at, hcur.at]; omega
      · have hc0 := byte0 h0
        go_wp2_with fail
        refine (next_any p q s (j + 1) _ hc hs).mono ?_
        rintro e w2 (⟨d, rfl, hg, hc2, hr2⟩ | ⟨rfl, hg, hr2⟩)
        · have hown2 := hown1.next hg hp
          have hgr2 := grownBy_trans hgr1 hg
          have hjs2 := hc2.le
          clear hg hown1 hgr1
          go_wp2_with fail
          refine (endsText_any d _).mono ?_
          rintro e w3 ⟨rfl, ⟨hd, rfl⟩ | ⟨hd, rfl⟩ | ⟨hd0, hd1, rfl⟩⟩
          · have hcv := conv_any hown2
            have HR2 : Hid (rest s i = esc T ++ 0 :: 0 :: rest s (j + 1 + 1)) := by
              show rest s i = _
              rw [HR.out, hr.out, hr2.out, hc0, hd]
            have hsz : (⟨T.toArray⟩ : ByteArray).size ≤ 4398046511104 := by
              show T.toArray.size ≤ _
              simp; omega
            clear hc0 hd HR hr hr2
            go_wp2_with fail
            refine (hasSuffix_any _ _ hsz).mono ?_
            rintro e w4 ⟨rfl, rfl⟩
            cases hb : endsBlank ⟨T.toArray⟩
            · go_wp2
              go_ret
              exact Or.inl ⟨T, j + 1 + 1, rfl, hgr2, hc2, by omega, ends_false hb, HR2⟩
            · go_wp2
              exact ⟨rfl, Or.inr ⟨rfl, hgr2, by rw [HR2.out]; exact no_text_blank _ _ (ends_true hb)⟩⟩
          · have HR2 : Hid (rest s i = esc (T ++ [0]) ++ rest s (j + 1 + 1)) := by
              show rest s i = _
              rw [HR.out, hr.out, hr2.out, hc0, hd, esc_snoc_zero]
            clear hc0 hd HR hr hr2
            go_wp2_with (at_builtin; refine wp_appB _ rfl _ _ rfl w.heap.size _ T rfl (hown2.alloc _) w3.heap.size 1 #[.int .u8 0] [0] rfl (heap_alloc_new w3 _) rfl rfl (by decide) (by omega) (by have := hgr2.size; simp; omega) ?_)
            intro v' w5 hown5 hgrow
            have hc5 := (hc2.alloc (.cells #[.int .u8 0] 5)).grow hgrow (hown2.alloc _) hp hq
            have hgr5 := but_grow (grownBy_trans hgr2 (World.grownBy_alloc w3 (.cells #[.int .u8 0] 5) _)) hgrow (hown2.alloc _)
            clear hgrow hown2 hgr2
            go_wp2
            go_roundw
            case rel => exact ⟨j + 1 + 1, T ++ [0], by omega, hown5, HR2, by simp; omega, hc5, hgr5⟩
            case measure => rw [hc5.at, hcur.at]; omega
          · have HN : Hid (NoText (rest s i)) := by
              show NoText (rest s i)
              rw [HR.out, hr.out, hr2.out, hc0]
              exact no_text_bad _ _ _ hd0 hd1
            clear hc0 HR hr hr2 hd0 hd1
            go_wp2
            exact ⟨rfl, Or.inr ⟨rfl, hgr2, HN⟩⟩
        · have HN : Hid (NoText (rest s i)) := by
            show NoText (rest s i)
            rw [HR.out, hr.out, hr2.out, hc0]
            exact no_text_one _
          have hgr2 := grownBy_trans hgr1 hg
          clear hc0 HR hr hr2
          go_wp2
          exact ⟨rfl, Or.inr ⟨rfl, hgr2, HN⟩⟩
    · have HN : Hid (NoText (rest s i)) := by
        show NoText (rest s i)
        rw [HR.out, hr.out]
        exact no_text_short _
      have hgr2 := grownBy_trans hgr hg
      clear HR hr
      go_wp2
      exact ⟨rfl, Or.inr ⟨rfl, hgr2, HN⟩⟩
end Go.Proofs.YtjajngngajnnpaaDoor

/- The walk of keycode's reading of a value. -/
import Derived.Test.YtjajngngajnnpaaDoorK3E
namespace Go.Proofs.YtjajngngajnnpaaDoor
open Go.RowKit
set_option linter.unusedVariables false

/-- A box that may be written. -/
structure Open4 (w : World) (b : Nat) : Prop where
  f0 : w.frozen? ⟨b, 0, none⟩ = false
  f1 : w.frozen? ⟨b, 1, none⟩ = false
  f2 : w.frozen? ⟨b, 2, none⟩ = false
  f3 : w.frozen? ⟨b, 3, none⟩ = false
theorem Open4.newAt {W : World} {b : Nat} (K N : Int) (S : ByteArray) (B : Bool) (t : Nat) (hb : b = W.heap.size) : Open4 (W.alloc (.cells #[.int .i64 K, .int .i64 N, .string S, .bool B] t)) b := by
  subst hb
  exact ⟨by go_simp, by go_simp, by go_simp, by go_simp⟩
theorem Box.but {W w' : World} {b p : Nat} {K N : Int} {S : ByteArray} {B : Bool} (h : Box W b K N S B) (hg : W.grownBy w' (some p)) (hne : b ≠ p) : Box w' b K N S B :=
  have e : some b ≠ some p := fun e => hne (Option.some.inj e)
  ⟨hg.cell h.c0 e, hg.cell h.c1 e, hg.cell h.c2 e, hg.cell h.c3 e⟩
theorem Open4.but {W w' : World} {b p : Nat} (h : Open4 W b) (hlt : b < W.heap.size) (hg : W.grownBy w' (some p)) (hne : b ≠ p) : Open4 w' b :=
  have e : some b ≠ some p := fun e => hne (Option.some.inj e)
  ⟨(hg.frozen_far ⟨b, 0, none⟩ hlt e).trans h.f0, (hg.frozen_far ⟨b, 1, none⟩ hlt e).trans h.f1, (hg.frozen_far ⟨b, 2, none⟩ hlt e).trans h.f2, (hg.frozen_far ⟨b, 3, none⟩ hlt e).trans h.f3⟩
theorem but_new {w W : World} {p b o : Nat} (h : w.grownBy W (some p)) (hb : w.heap.size ≤ b) (u : Value) : w.grownBy (W.setCell ⟨b, o, none⟩ u) (some p) :=
  ⟨h.os, h.tape, h.output, by simpa [World.setCell] using h.size, fun i hi hr => (Below.heap_setCell _ _ _ _ (show i ≠ b by omega)).trans (h.block i hi hr)⟩
theorem Cur.other {w : World} {p q : Nat} {s : ByteArray} {i b o : Nat} (h : Cur w p q s i) (hp : p ≠ b) (hq : q ≠ b) (u : Value) : Cur (w.setCell ⟨b, o, none⟩ u) p q s i :=
  ⟨(Below.heap_setCell _ _ _ _ hp).trans h.hp, (Below.heap_setCell _ _ _ _ hq).trans h.hq, h.le⟩
theorem but_alloc {w W : World} {p : Nat} (h : w.grownBy W (some p)) (o : Obj) : w.grownBy (W.alloc o) (some p) := grownBy_trans h (World.grownBy_alloc _ _ _)
abbrev valV (x : V4) : Value := val x.1 x.2.1 ⟨x.2.2.1.toArray⟩ x.2.2.2

abbrev set4 (W : World) (p : Nat) (K N : Int) (S : ByteArray) (B : Bool) : World := (((W.setCell ⟨p, 0, none⟩ (.int .i64 K)).setCell ⟨p, 1, none⟩ (.int .i64 N)).setCell ⟨p, 2, none⟩ (.string S)).setCell ⟨p, 3, none⟩ (.bool B)
theorem end4 {w W : World} {p q : Nat} {s : ByteArray} {j : Nat} (g : w.grownBy W (some p)) (hc : Cur W p q s j) (hp : p < w.heap.size) (hq : q < w.heap.size) (K N : Int) (S : ByteArray) (B : Bool) :
    w.grownBy (set4 W w.heap.size K N S B) (some p) ∧ Cur (set4 W w.heap.size K N S B) p q s j := by
  unfold set4
  refine ⟨but_new (but_new (but_new (but_new g (Nat.le_refl _) _) (Nat.le_refl _) _) (Nat.le_refl _) _) (Nat.le_refl _) _, ?_⟩
  exact (((hc.other (by omega) (by omega) _).other (by omega) (by omega) _).other (by omega) (by omega) _).other (by omega) (by omega) _

set_option maxHeartbeats 2000000 in
theorem takeValue_any (p q : Nat) (s : ByteArray) (i : Nat) (w : World) (h : Cur w p q s i) (hs : s.size ≤ 1099511627776) :
    Calls Tryd.prog 20 #[nextF p q] w fun e w' =>
      (∃ (x : V4) (j : Nat), e = .returned (valV x) ∧ w.grownBy w' (some p) ∧ Cur w' p q s j ∧ i < j ∧ NF x ∧ rest s i = code1 x ++ rest s j) ∨
      (e = .panicked noCodeP ∧ w.grownBy w' (some p) ∧ NoVal (rest s i)) := by
  have hp : p < w.heap.size := lt_of_block h.hp
  have hq : q < w.heap.size := lt_of_block h.hq
  have hnp : w.heap.size ≠ p := by omega
  have b0 : Box (w.alloc (.cells #[.int .i64 0, .int .i64 0, .string ⟨#[]⟩, .bool false] 39)) w.heap.size 0 0 ⟨#[]⟩ false := Box.newAt _ _ _ _ _ rfl
  have o0 : Open4 (w.alloc (.cells #[.int .i64 0, .int .i64 0, .string ⟨#[]⟩, .bool false] 39)) w.heap.size := Open4.newAt _ _ _ _ _ rfl
  have g0 := World.grownBy_alloc w (.cells #[.int .i64 0, .int .i64 0, .string ⟨#[]⟩, .bool false] 39) (some p)
  have H0 := h.alloc (.cells #[.int .i64 0, .int .i64 0, .string ⟨#[]⟩, .bool false] 39)
  go_enter Tryd.func20, Tryd.ntmps20
  go_wp2_with fail
  refine (next_any p q s i _ H0 hs).mono ?_
  rintro e w1 (⟨c, rfl, hg, hc, hr⟩ | ⟨rfl, hg, hr⟩)
  · have b1 := b0.but hg hnp
    have o1 := o0.but b0.lt hg hnp
    have g1 := grownBy_trans g0 hg
    have hlt1 := b1.lt
    clear b0 o0 g0 H0 hg h
    cases h1 : ((c.toNat : Int) == 1)
    · cases h2 : ((c.toNat : Int) == 2)
      · cases h3 : ((c.toNat : Int) == 3)
        · cases h4 : ((c.toNat : Int) == 4)
          · have HN : Hid (NoVal (rest s i)) := by
              show NoVal (rest s i)
              rw [hr.out]
              have n1 := not_byte (n := 1) h1
              have n2 := not_byte (n := 2) h2
              have n3 := not_byte (n := 3) h3
              have n4 := not_byte (n := 4) h4
              exact no_val_mark _ _ (by omega)
            clear hr
            go_wp2
            exact ⟨rfl, Or.inr ⟨rfl, g1, HN⟩⟩
          · have hcm : c = 4 := one_byte (n := 4) (by decide) h4
            have HC : Hid (c = 4) := hcm
            clear hcm
            go_wp2_with fail
            refine (takeTruth_any p q s (i + 1) _ hc hs).mono ?_
            rintro e w2 (⟨b, rfl, hg, hc2, hr2⟩ | ⟨rfl, hg, hr2⟩)
            · have b2 := b1.but hg hnp
              have o2 := o1.but hlt1 hg hnp
              have g2 := grownBy_trans g1 hg
              obtain ⟨c0, c1, c2, c3⟩ := b2
              obtain ⟨f0, f1, f2, f3⟩ := o2
              have HR : Hid (rest s i = code1 (3, 0, [], b) ++ rest s (i + 1 + 1)) := by
                show rest s i = _
                rw [hr.out, hr2, HC.out]; rfl
              clear hr2
              clear hr HC b1 o1 g1 hg
              go_wp2
              obtain ⟨g3, hc3⟩ := end4 g2 hc2 hp hq 3 0 ⟨#[]⟩ b
              exact bodyPost_ret (v := val 3 0 ⟨#[]⟩ b) (by simp [results, Tryd.results20, go_sem, c0, c1, c2, c3]) rfl (Or.inl ⟨(3, 0, [], b), (i + 1 + 1), rfl, g3, hc3, by omega, nf_bool b, HR⟩)
            · have HN : Hid (NoVal (rest s i)) := by
                show NoVal (rest s i)
                rw [hr.out, HC.out]
                exact no_val_bool hr2
              have g2 := grownBy_trans g1 hg
              clear hr hr2 HC
              go_wp2
              exact ⟨rfl, Or.inr ⟨rfl, g2, HN⟩⟩
        · have hcm : c = 3 := one_byte (n := 3) (by decide) h3
          have HC : Hid (c = 3) := hcm
          clear hcm
          go_wp2_with fail
          refine (takeText_any p q s (i + 1) _ hc hs).mono ?_
          rintro e w2 (⟨T, j, rfl, hg, hc2, hij, hT, hr2⟩ | ⟨rfl, hg, hr2⟩)
          · have b2 := b1.but hg hnp
            have o2 := o1.but hlt1 hg hnp
            have g2 := grownBy_trans g1 hg
            obtain ⟨c0, c1, c2, c3⟩ := b2
            obtain ⟨f0, f1, f2, f3⟩ := o2
            have HR : Hid (rest s i = code1 (2, 0, T, false) ++ rest s j) := by
              show rest s i = _
              rw [hr.out, hr2, HC.out, code_text (v := (2, 0, T, false)) rfl, hT]; simp
            have HT : Hid (trimL T = T) := hT
            clear hr2 hT
            clear hr HC b1 o1 g1 hg
            go_wp2
            obtain ⟨g3, hc3⟩ := end4 g2 hc2 hp hq 2 0 ⟨T.toArray⟩ false
            exact bodyPost_ret (v := val 2 0 ⟨T.toArray⟩ false) (by simp [results, Tryd.results20, go_sem, c0, c1, c2, c3]) rfl (Or.inl ⟨(2, 0, T, false), j, rfl, g3, hc3, by omega, nf_text HT.out, HR⟩)
          · have HN : Hid (NoVal (rest s i)) := by
              show NoVal (rest s i)
              rw [hr.out, HC.out]
              exact no_val_text hr2
            have g2 := grownBy_trans g1 hg
            clear hr hr2 HC
            go_wp2
            exact ⟨rfl, Or.inr ⟨rfl, g2, HN⟩⟩
      · have hcm : c = 2 := one_byte (n := 2) (by decide) h2
        have HC : Hid (c = 2) := hcm
        clear hcm
        go_wp2_with fail
        refine (takeNum_any p q s (i + 1) _ hc hs).mono ?_
        rintro e w2 (⟨N, rfl, hg, hc2, hN, hr2⟩ | ⟨rfl, hg, hr2⟩)
        · have b2 := b1.but hg hnp
          have o2 := o1.but hlt1 hg hnp
          have g2 := grownBy_trans g1 hg
          obtain ⟨c0, c1, c2, c3⟩ := b2
          obtain ⟨f0, f1, f2, f3⟩ := o2
          have HR : Hid (rest s i = code1 (1, N, [], false) ++ rest s (i + 1 + 8)) := by
            show rest s i = _
            rw [hr.out, hr2, HC.out, code_num (v := (1, N, [], false)) rfl]; rfl
          have HNN : Hid (-9223372036854775808 ≤ N ∧ N ≤ 9223372036854775807) := hN
          clear hr2 hN
          clear hr HC b1 o1 g1 hg
          go_wp2
          obtain ⟨g3, hc3⟩ := end4 g2 hc2 hp hq 1 N ⟨#[]⟩ false
          exact bodyPost_ret (v := val 1 N ⟨#[]⟩ false) (by simp [results, Tryd.results20, go_sem, c0, c1, c2, c3]) rfl (Or.inl ⟨(1, N, [], false), (i + 1 + 8), rfl, g3, hc3, by omega, nf_num HNN.out, HR⟩)
        · have HN : Hid (NoVal (rest s i)) := by
            show NoVal (rest s i)
            rw [hr.out, HC.out]
            exact no_val_num hr2
          have g2 := grownBy_trans g1 hg
          clear hr hr2 HC
          go_wp2
          exact ⟨rfl, Or.inr ⟨rfl, g2, HN⟩⟩
    · have hcm : c = 1 := one_byte (n := 1) (by decide) h1
      have HR : Hid (rest s i = code1 (0, 0, [], false) ++ rest s (i + 1)) := by
        show rest s i = _
        rw [hr.out, hcm]; rfl
      have g2 := g1
      have hc2 := hc
      clear hr hcm
      obtain ⟨c0, c1, c2, c3⟩ := b1
      obtain ⟨f0, f1, f2, f3⟩ := o1
      go_wp2
      obtain ⟨g3, hc3⟩ := end4 g2 hc2 hp hq 0 0 ⟨#[]⟩ false
      exact bodyPost_ret (v := val 0 0 ⟨#[]⟩ false) (by simp [results, Tryd.results20, go_sem, c0, c1, c2, c3]) rfl (Or.inl ⟨(0, 0, [], false), (i + 1), rfl, g3, hc3, by omega, nf_null, HR⟩)
  · have g1 := grownBy_trans g0 hg
    have HN : Hid (NoVal (rest s i)) := by
      show NoVal (rest s i)
      rw [hr.out]; exact no_val_nil
    clear hr
    go_wp2
    exact ⟨rfl, Or.inr ⟨rfl, g1, HN⟩⟩
end Go.Proofs.YtjajngngajnnpaaDoor

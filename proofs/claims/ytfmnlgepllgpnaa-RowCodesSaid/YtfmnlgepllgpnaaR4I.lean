/- The walk of rowcode's reading of a value. -/
import Derived.Test.YtfmnlgepllgpnaaR4H
namespace Go.Proofs.Ytfmnlgepllgpnaa
open Go.RowKit
set_option linter.unusedVariables false

theorem conv_bytes {w : World} {tv : Value} {xs : List UInt8} (h : Bytes w tv xs) : (convert 25 9 tv).run Try.prog w = .ok (.string ⟨xs.toArray⟩) w := by
  rcases h with ⟨rfl, rfl⟩ | ⟨a, cap, rfl, _, hb⟩
  · rw [run_convert_bytes_string w _ _ _ none 0 0 Try.underlying25 Try.underlying5 Try.underlying9]; rfl
  · exact run_convert_bytes_back w 25 9 5 a cap xs Try.underlying25 Try.underlying5 Try.underlying9 hb

set_option maxHeartbeats 2000000 in
theorem takeValue_any (p B : Nat) (sv : Value) (r : List UInt8) (w : World) (h : Cur w p B sv r) (hr : r.length ≤ 200000000000000) :
    Calls Try.prog 23 #[.pointer (some ⟨p, 0, none⟩)] w fun e w' =>
      (∃ x : V4, e = .returned (valV x) ∧ RdV w p B r x w') ∨ (e = .panicked noRowP ∧ NoRd w p r w') := by
  have hp : p < w.heap.size := lt_of_block h.hp
  have hnp : w.heap.size ≠ p := by omega
  have b0 : Box (w.alloc (.cells #[.int .i64 0, .int .i64 0, .string ⟨#[]⟩, .bool false] 40)) w.heap.size 0 0 ⟨#[]⟩ false := Box.newAt _ _ _ _ _ rfl
  have o0 : Open4 (w.alloc (.cells #[.int .i64 0, .int .i64 0, .string ⟨#[]⟩, .bool false] 40)) w.heap.size := Open4.newAt _ _ _ _ _ rfl
  have g0 := World.grownBy_alloc w (.cells #[.int .i64 0, .int .i64 0, .string ⟨#[]⟩, .bool false] 40) (some p)
  have H0 := h.alloc (.cells #[.int .i64 0, .int .i64 0, .string ⟨#[]⟩, .bool false] 40)
  go_enter Try.func23, Try.ntmps23
  go_wp2_with fail
  refine (take_any p B 1 sv r _ H0 hr).mono ?_
  rintro e w1 (⟨tv, sv1, hle, rfl, hB, hO, hC, hg⟩ | ⟨hlt, rfl, rfl⟩)
  · obtain ⟨c, t, rfl⟩ := head_of hle
    obtain ⟨a, cap, rfl, ca⟩ := first_byte hB
    have hC1 : Cur w1 p B sv1 t := hC
    have b1 := b0.but hg hnp
    have o1 := o0.but b0.lt hg hnp
    have g1 := grownBy_trans g0 hg
    have hlt1 := b1.lt
    have ht : t.length ≤ 200000000000000 := by simp only [List.length_cons] at hr; omega
    clear b0 o0 g0 H0 hg h hB hO hC hle hr
    cases h0 : ((c.toNat : Int) == 0)
    · cases h1 : ((c.toNat : Int) == 1)
      · cases h2 : ((c.toNat : Int) == 2)
        · cases h3 : ((c.toNat : Int) == 3)
          · cases h4 : ((c.toNat : Int) == 4)
            · have HN : Hid (NoRd w p (c :: t) w1) := by
                have n0 := not_byte (n := 0) h0
                have n1 := not_byte (n := 1) h1
                have n2 := not_byte (n := 2) h2
                have n3 := not_byte (n := 3) h3
                have n4 := not_byte (n := 4) h4
                exact ⟨noV_mark (by omega), g1⟩
              go_wp2
              exact ⟨rfl, Or.inr ⟨rfl, HN⟩⟩
            · have hcm : c = 4 := one_byte (n := 4) (by decide) h4
              obtain ⟨g3, hc3⟩ := end4 g1 hC1 hp 3 0 ⟨#[]⟩ true
              have HR : Hid (RdV w p B (c :: t) (3, 0, [], true) (set4 w1 w.heap.size 3 0 ⟨#[]⟩ true)) := ⟨⟨sv1, t, hc3, by rw [hcm]; rfl⟩, g3, rv_bool true⟩
              clear hcm g3 hc3
              obtain ⟨c0, c1, c2, c3⟩ := b1
              obtain ⟨f0, f1, f2, f3⟩ := o1
              go_wp2
              exact bodyPost_ret (v := val 3 0 ⟨#[]⟩ true) (by simp [results, Try.results23, go_sem, c0, c1, c2, c3]) rfl (Or.inl ⟨(3, 0, [], true), rfl, HR⟩)
          · have hcm : c = 3 := one_byte (n := 3) (by decide) h3
            obtain ⟨g3, hc3⟩ := end4 g1 hC1 hp 3 0 ⟨#[]⟩ false
            have HR : Hid (RdV w p B (c :: t) (3, 0, [], false) (set4 w1 w.heap.size 3 0 ⟨#[]⟩ false)) := ⟨⟨sv1, t, hc3, by rw [hcm]; rfl⟩, g3, rv_bool false⟩
            clear hcm g3 hc3
            obtain ⟨c0, c1, c2, c3⟩ := b1
            obtain ⟨f0, f1, f2, f3⟩ := o1
            go_wp2
            exact bodyPost_ret (v := val 3 0 ⟨#[]⟩ false) (by simp [results, Try.results23, go_sem, c0, c1, c2, c3]) rfl (Or.inl ⟨(3, 0, [], false), rfl, HR⟩)
        · have hcm : c = 2 := one_byte (n := 2) (by decide) h2
          have HC : Hid (c = 2) := hcm
          clear hcm
          go_wp2_with fail
          refine (takeLength_any p B 2 400 sv1 t _ hC1 ht (by decide) (by decide) (by decide)).mono ?_
          rintro e w2 (⟨rfl, hR, HL⟩ | ⟨rfl, hN⟩)
          · obtain ⟨hle2, ⟨sv2, hC2⟩, hg2⟩ := hR
            have b2 := b1.but hg2 hnp
            have o2 := o1.but hlt1 hg2 hnp
            have g2 := grownBy_trans g1 hg2
            have hlt2 := b2.lt
            have ht2 : (t.drop 2).length ≤ 200000000000000 := by rw [List.length_drop]; omega
            clear b1 o1 g1 hg2 ca
            go_wp2_with fail
            refine (take_any p B (leV (t.take 2)) sv2 (t.drop 2) _ hC2 ht2).mono ?_
            rintro e w3 (⟨tv3, sv3, hle3, rfl, hB3, hO3, hC3, hg3⟩ | ⟨hlt3, rfl, rfl⟩)
            · have hcv := conv_bytes hB3
              have b3 := b2.but hg3 hnp
              have o3 := o2.but hlt2 hg3 hnp
              have g3 := grownBy_trans g2 hg3
              obtain ⟨hr1, hr2⟩ := read_text hle2 HL.out hle3
              obtain ⟨g4, hc4⟩ := end4 g3 hC3 hp 2 0 ⟨((t.drop 2).take (leV (t.take 2))).toArray⟩ false
              have HR : Hid (RdV w p B (c :: t) (2, 0, (t.drop 2).take (leV (t.take 2)), false) (set4 w3 w.heap.size 2 0 ⟨((t.drop 2).take (leV (t.take 2))).toArray⟩ false)) := ⟨⟨sv3, _, hc4, by rw [HC.out]; exact hr1⟩, g4, hr2⟩
              clear hr1 hr2 g4 hc4 hB3 hO3 hC3 hC2 hC1 hle2 hle3 HL
              generalize (t.drop 2).take (leV (t.take 2)) = X at *
              obtain ⟨c0, c1, c2, c3⟩ := b3
              obtain ⟨f0, f1, f2, f3⟩ := o3
              go_wp2
              exact bodyPost_ret (v := val 2 0 ⟨X.toArray⟩ false) (by simp [results, Try.results23, go_sem, c0, c1, c2, c3]) rfl (Or.inl ⟨(2, 0, X, false), rfl, HR⟩)
            · have HN : Hid (NoRd w p (c :: t) w3) := by
                refine ⟨?_, g2⟩
                rw [HC.out]
                exact noV_text (Or.inr ⟨t.take 2, t.drop 2, (List.take_append_drop _ _).symm, by rw [List.length_take]; omega, Or.inr hlt3⟩)
              clear hlt3
              go_wp2
              exact ⟨rfl, Or.inr ⟨rfl, HN⟩⟩
          · have HN : Hid (NoRd w p (c :: t) w2) := by
              refine ⟨?_, grownBy_trans g1 hN.grown⟩
              rw [HC.out]
              rcases hN.why with h | ⟨h, h'⟩
              · exact noV_text (Or.inl h)
              · exact noV_text (Or.inr ⟨t.take 2, t.drop 2, (List.take_append_drop _ _).symm, by rw [List.length_take]; omega, Or.inl h'⟩)
            go_wp2
            exact ⟨rfl, Or.inr ⟨rfl, HN⟩⟩
      · have hcm : c = 1 := one_byte (n := 1) (by decide) h1
        have HC : Hid (c = 1) := hcm
        clear hcm
        go_wp2_with fail
        refine (takeWhole_any p B 8 sv1 t _ hC1 ht (by decide) (by decide)).mono ?_
        rintro e w2 (⟨rfl, hR⟩ | ⟨hlt2, rfl, rfl⟩)
        · obtain ⟨hle2, ⟨sv2, hC2⟩, hg2⟩ := hR
          have b2 := b1.but hg2 hnp
          have o2 := o1.but hlt1 hg2 hnp
          have g2 := grownBy_trans g1 hg2
          obtain ⟨hr1, hr2⟩ := read_num hle2
          have hw := wrap_back (leV_take_lt t 8 hle2)
          obtain ⟨g4, hc4⟩ := end4 g2 hC2 hp 1 (back64 (leV (t.take 8))) ⟨#[]⟩ false
          have HR : Hid (RdV w p B (c :: t) (1, back64 (leV (t.take 8)), [], false) (set4 w2 w.heap.size 1 (back64 (leV (t.take 8))) ⟨#[]⟩ false)) := ⟨⟨sv2, _, hc4, by rw [HC.out]; exact hr1⟩, g4, hr2⟩
          clear hr1 hr2 g4 hc4 hC2 hC1 hle2 b1 o1 g1 hg2 ca
          generalize back64 (leV (t.take 8)) = X at *
          obtain ⟨c0, c1, c2, c3⟩ := b2
          obtain ⟨f0, f1, f2, f3⟩ := o2
          go_wp2
          exact bodyPost_ret (v := val 1 X ⟨#[]⟩ false) (by simp [results, Try.results23, go_sem, c0, c1, c2, c3]) rfl (Or.inl ⟨(1, X, [], false), rfl, HR⟩)
        · have HN : Hid (NoRd w p (c :: t) w2) := by
            refine ⟨?_, g1⟩
            rw [HC.out]
            exact noV_num hlt2
          clear hlt2
          go_wp2
          exact ⟨rfl, Or.inr ⟨rfl, HN⟩⟩
    · have hcm : c = 0 := one_byte (n := 0) (by decide) h0
      obtain ⟨g3, hc3⟩ := end4 g1 hC1 hp 0 0 ⟨#[]⟩ false
      have HR : Hid (RdV w p B (c :: t) (0, 0, [], false) (set4 w1 w.heap.size 0 0 ⟨#[]⟩ false)) := ⟨⟨sv1, t, hc3, by rw [hcm]; rfl⟩, g3, rv_null⟩
      clear hcm g3 hc3
      obtain ⟨c0, c1, c2, c3⟩ := b1
      obtain ⟨f0, f1, f2, f3⟩ := o1
      go_wp2
      exact bodyPost_ret (v := val 0 0 ⟨#[]⟩ false) (by simp [results, Try.results23, go_sem, c0, c1, c2, c3]) rfl (Or.inl ⟨(0, 0, [], false), rfl, HR⟩)
  · have HN : Hid (NoRd w p r (w.alloc (.cells #[.int .i64 0, .int .i64 0, .string ⟨#[]⟩, .bool false] 40))) := by
      refine ⟨?_, g0⟩
      have : r = [] := List.eq_nil_of_length_eq_zero (by omega)
      rw [this]; exact noV_nil
    clear hlt
    go_wp2
    exact ⟨rfl, Or.inr ⟨rfl, HN⟩⟩
end Go.Proofs.Ytfmnlgepllgpnaa

/- The walk of the law RowCut: a row that is cut short, or has bytes behind it, is none. -/
import Derived.Test.YtfmnlgepllgpnaaRBWalk
import Derived.Test.YtfmnlgepllgpnaaR4Big
namespace Go.Proofs.Ytfmnlgepllgpnaa
open Go.RowKit
set_option linter.unusedVariables false

theorem dec_none {bs : List UInt8} {v : Value} {w : World} (hb : Bytes w v bs) (hl : bs.length ≤ 200000000000000) (h : NoForm bs) :
    Calls Try.prog 11 #[v] w fun e w' => e = .returned (.tuple #[.slice none 0 0, .int .i64 41]) ∧ Below w.heap.size w w' := by
  refine (decode_any v bs w hb hl).mono ?_
  rintro e w' ⟨⟨m, rv, he, hok, hf, hr⟩ | ⟨he, _⟩, hw⟩
  · exact absurd hf (h m hok)
  · exact ⟨he, hw⟩
theorem form_pos (l : List V4) : 0 < (form l).length := by simp [form]
theorem Bytes.take {w : World} {a : Addr} {n cap : Nat} {xs : List UInt8} (h : Bytes w (.slice (some a) n cap) xs) (k : Nat) (hk : k ≤ xs.length) : Bytes w (.slice (some a) k cap) (xs.take k) := by
  have hlen : (xs.take k).length = k := by rw [List.length_take]; omega
  rcases h with ⟨h, _⟩ | ⟨b, c, hv, hc, h⟩
  · cases h
  · cases hv
    refine Or.inr ⟨a, cap, by rw [hlen], by omega, fun j hj => ?_⟩
    rw [h j (by omega), List.getElem_take]
theorem ownB_empty (base : Nat) (w : World) (h : base ≤ w.heap.size) : OwnB base (w.alloc (.cells #[] 5)) (.slice (some ⟨w.heap.size, 0, none⟩) 0 0) [] := by
  unfold OwnB
  refine ⟨rfl, Or.inr ⟨w.heap.size, 0, #[], rfl, h, heap_alloc_new _ _, Nat.le_refl 0, ?_, ?_, ?_⟩⟩
  all_goals first | rfl | (simp; done) | decide
theorem cut_at {l : List V4} (h : OkR l) {k : Nat} (hk : k < (form l).length) : NoForm ((form l).take k) :=
  noForm_cut h (List.take_append_drop k (form l)).symm (fun e => by
    have := congrArg List.length e
    rw [List.length_drop] at this
    simp at this; omega)
theorem form_slice {base : Nat} {w : World} {v : Value} {l : List V4} (h : OwnB base w v (form l)) : ∃ g cap, v = .slice (some ⟨g, 0, none⟩) (form l).length cap ∧ (form l).length ≤ cap := by
  rcases h.at with ⟨_, hx⟩ | ⟨a, cap', hv', hc', _⟩
  · have := form_pos l; rw [hx] at this; simp at this
  rcases h.bytes with ⟨_, hx⟩ | ⟨g, cap, hv, _⟩
  · have := form_pos l; rw [hx] at this; simp at this
  · rw [hv] at hv'
    cases hv'
    exact ⟨g, _, hv, hc'⟩
theorem own_cells {base : Nat} {w : World} {g cap n : Nat} {xs : List UInt8} (h : OwnB base w (.slice (some ⟨g, 0, none⟩) n cap) xs) : ∀ j (hj : j < xs.length), w.cell? ((⟨g, 0, none⟩ : Addr).add j) = some (bv xs[j]) := by
  rcases h.bytes with ⟨hv, _⟩ | ⟨g', cap', hv, hb⟩
  · cases hv
  · cases hv
    exact hb
set_option maxHeartbeats 2000000 in
theorem rowCut_law (u : Value) (at_ : Int) (v : Value) (a : List V4) (bs : List UInt8) (w : World) (hu : RowAt w u a) (hv : Bytes w v bs) (ha : ∀ x ∈ a, RawOk 140737488355328 x) (la : a.length ≤ 1099511627776000) (hat : -9223372036854775808 ≤ at_ ∧ at_ ≤ 9223372036854775807) (lb : bs.length ≤ 140737488355328) :
    Calls Try.prog 5 #[u, .int .i64 at_, v] w fun e w' => e = .returned (.bool true) ∧ Below w.heap.size w w' := by
  obtain ⟨k0, hk0, HK⟩ : ∃ k0 : Int, (0 ≤ k0 ∧ k0 ≤ 9223372036854775807) ∧ Hid ((at_ < 0 → k0 = -(at_ + 1)) ∧ (0 ≤ at_ → k0 = at_)) := by
    by_cases h : at_ < 0
    · exact ⟨-(at_ + 1), by omega, fun _ => rfl, fun h' => by omega⟩
    · exact ⟨at_, by omega, fun h' => by omega, fun _ => rfl⟩
  have hvs : ∃ vo vc, v = .slice vo bs.length vc := by
    rcases hv with ⟨h1, h2⟩ | ⟨b, c, h1, _⟩
    · exact ⟨none, 0, by rw [h1, h2]; rfl⟩
    · exact ⟨_, _, h1⟩
  obtain ⟨vo, vc, rfl⟩ := hvs
  have hv0 := hv
  go_enter Try.func5, Try.ntmps5
  go_wp2_with fail
  refine (row_any 140737488355328 u a _ hu ha (by omega)).mono ?_
  rintro e w1 ⟨x, l, rfl, ox, okx, h1⟩
  have hv1 := hv.keep h1
  have rx := ox.row
  clear hu hv ha ox
  go_wp2_with fail
  refine (enc_row rx okx).mono ?_
  rintro e w2 ⟨hE, h2⟩
  have hv2 := hv1.keep h2
  have H2 := keepA h1 h2
  clear rx hv1 h1
  rcases hE with ⟨_, rfl⟩ | ⟨okl, p, rfl, op⟩
  · go_wp2_with fail
    refine (alive_any _).mono ?_
    rintro e w3 ⟨rfl, h3⟩
    have H3 := keepA H2 h3
    go_wp2
    go_ret
    exact ⟨rfl, H3⟩
  · obtain ⟨g, cap, rfl, hcap⟩ := form_slice op
    have hfl := form_len okl.out
    have hfp := form_pos l
    have hfz : (((form l).length : Int) == 0) = false := by rw [beq_eq_false_iff_ne]; omega
    have bp := op.at
    have hkm : 0 ≤ k0.tmod (form l).length ∧ k0.tmod (form l).length < (form l).length := by
      rw [Int.tmod_eq_emod_of_nonneg hk0.1]
      exact ⟨Int.emod_nonneg _ (by omega), Int.emod_lt_of_pos _ (by omega)⟩
    obtain ⟨kk, hkk⟩ := Int.eq_ofNat_of_zero_le hkm.1
    have hkl : kk < (form l).length := by omega
    have bcut := bp.take kk (by omega)
    have HC : Hid (NoForm ((form l).take kk)) := cut_at okl.out hkl
    clear op
    by_cases hneg : at_ < 0
    · obtain rfl := HK.out.1 hneg
      go_wp2_with fail
      refine (dec_none bcut (by rw [List.length_take]; omega) HC.out).mono ?_
      rintro e w3 ⟨rfl, h3⟩
      have hv3 := hv2.keep h3
      have H3 := keepA H2 h3
      have op3 := bp.keep h3
      clear hv2 bp bcut HC
      have hcell : ∀ j (hj : j < (form l).length), w3.cell? ((⟨g, 0, none⟩ : Addr).add j) = some (bv (form l)[j]) := by
        rcases op3 with ⟨hv, _⟩ | ⟨b, c, hv, _, hb⟩
        · cases hv
        · cases hv; exact hb
      have hnew := ownB_empty w.heap.size w3 H3.size
      have hcell2 : ∀ j (hj : j < (form l).length), (w3.alloc (.cells #[] 5)).cell? ((⟨g, 0, none⟩ : Addr).add j) = some (bv (form l)[j]) := fun j hj => by
        have h1 := hcell j hj
        exact (((Below.refl _ _).alloc (Nat.le_refl _) _).cell (p := (⟨g, 0, none⟩ : Addr).add j) (World.block_lt_of_cell? w3 _ h1)).trans h1
      have H3a := H3.alloc H3.size (.cells #[] 5)
      have hv3a := hv3.keep ((Below.refl _ _).alloc (Nat.le_refl _) (.cells #[] 5))
      have hs3 := H3a.size
      clear hcell op3 hv3
      go_wp2_with (at_builtin; refine wp_appL _ rfl _ _ rfl w.heap.size _ [] rfl hnew ⟨g, 0, none⟩ (form l).length cap (form l) rfl hcell2 rfl hfp (by simp; omega) hs3 ?_)
      intro v4 w4 o4 b4
      have o4' : OwnB w.heap.size w4 v4 (form l) := by simpa using o4
      obtain ⟨g4, cap4, rfl, hcap4⟩ := form_slice o4'
      have H4 := H3a.trans b4
      have hs4 := H4.size
      have hv4 : Bytes w4 (.slice vo bs.length vc) bs := hv0.keep H4
      clear o4 hnew hcell2 H3 H3a hv3a b4
      by_cases hbe : bs = []
      · subst hbe
        have HS : Hid (((0 : Int) == 0) = true) := rfl
        go_wp2_with (at_builtin; refine wp_app0 _ rfl _ _ rfl w.heap.size g4 _ cap4 (form l) rfl o4' vo vc rfl hs4 ?_)
        intro v5 w5 o5 b5
        have H5 := H4.trans b5
        have b5b := o5.at
        go_wp2_with fail
        refine (dec_form b5b okl.out).mono ?_
        rintro e w6 ⟨⟨rv, rfl, _⟩, h6⟩
        have H6 := keepA H5 h6
        go_wp2_with fail
        refine (alive_any _).mono ?_
        rintro e w7 ⟨rfl, h7⟩
        have H7 := keepA H6 h7
        go_wp2
        go_ret
        exact ⟨rfl, H7⟩
      · have hbp : 0 < bs.length := List.length_pos_iff.2 hbe
        have hbz : ((bs.length : Int) == 0) = false := by rw [beq_eq_false_iff_ne]; omega
        have HN : Hid (NoForm (form l ++ bs)) := noForm_app okl.out hbe
        obtain ⟨va, rfl, hvc⟩ : ∃ va, vo = some va ∧ ∀ j (hj : j < bs.length), w4.cell? (va.add j) = some (bv bs[j]) := by
          rcases hv4 with ⟨_, h⟩ | ⟨va, c, hv, _, h⟩
          · exact absurd h hbe
          · cases hv; exact ⟨va, rfl, h⟩
        clear hv4
        go_wp2_with (at_builtin; refine wp_appL _ rfl _ _ rfl w.heap.size _ (form l) rfl o4' va bs.length vc bs rfl hvc rfl hbp (by omega) hs4 ?_)
        intro v5 w5 o5 b5
        have H5 := H4.trans b5
        have b5b := o5.at
        go_wp2_with fail
        refine (dec_none b5b (by rw [List.length_append]; omega) HN.out).mono ?_
        rintro e w6 ⟨rfl, h6⟩
        have H6 := keepA H5 h6
        go_wp2_with fail
        refine (alive_any _).mono ?_
        rintro e w7 ⟨rfl, h7⟩
        have H7 := keepA H6 h7
        go_wp2
        go_ret
        exact ⟨rfl, H7⟩
    · obtain rfl := HK.out.2 (by omega)
      go_wp2_with fail
      refine (dec_none bcut (by rw [List.length_take]; omega) HC.out).mono ?_
      rintro e w3 ⟨rfl, h3⟩
      have hv3 := hv2.keep h3
      have H3 := keepA H2 h3
      have op3 := bp.keep h3
      clear hv2 bp bcut HC
      have hcell : ∀ j (hj : j < (form l).length), w3.cell? ((⟨g, 0, none⟩ : Addr).add j) = some (bv (form l)[j]) := by
        rcases op3 with ⟨hv, _⟩ | ⟨b, c, hv, _, hb⟩
        · cases hv
        · cases hv; exact hb
      have hnew := ownB_empty w.heap.size w3 H3.size
      have hcell2 : ∀ j (hj : j < (form l).length), (w3.alloc (.cells #[] 5)).cell? ((⟨g, 0, none⟩ : Addr).add j) = some (bv (form l)[j]) := fun j hj => by
        have h1 := hcell j hj
        exact (((Below.refl _ _).alloc (Nat.le_refl _) _).cell (p := (⟨g, 0, none⟩ : Addr).add j) (World.block_lt_of_cell? w3 _ h1)).trans h1
      have H3a := H3.alloc H3.size (.cells #[] 5)
      have hv3a := hv3.keep ((Below.refl _ _).alloc (Nat.le_refl _) (.cells #[] 5))
      have hs3 := H3a.size
      clear hcell op3 hv3
      go_wp2_with (at_builtin; refine wp_appL _ rfl _ _ rfl w.heap.size _ [] rfl hnew ⟨g, 0, none⟩ (form l).length cap (form l) rfl hcell2 rfl hfp (by simp; omega) hs3 ?_)
      intro v4 w4 o4 b4
      have o4' : OwnB w.heap.size w4 v4 (form l) := by simpa using o4
      obtain ⟨g4, cap4, rfl, hcap4⟩ := form_slice o4'
      have H4 := H3a.trans b4
      have hs4 := H4.size
      have hv4 : Bytes w4 (.slice vo bs.length vc) bs := hv0.keep H4
      clear o4 hnew hcell2 H3 H3a hv3a b4
      by_cases hbe : bs = []
      · subst hbe
        have HS : Hid (((0 : Int) == 0) = true) := rfl
        go_wp2_with (at_builtin; refine wp_app0 _ rfl _ _ rfl w.heap.size g4 _ cap4 (form l) rfl o4' vo vc rfl hs4 ?_)
        intro v5 w5 o5 b5
        have H5 := H4.trans b5
        have b5b := o5.at
        go_wp2_with fail
        refine (dec_form b5b okl.out).mono ?_
        rintro e w6 ⟨⟨rv, rfl, _⟩, h6⟩
        have H6 := keepA H5 h6
        go_wp2_with fail
        refine (alive_any _).mono ?_
        rintro e w7 ⟨rfl, h7⟩
        have H7 := keepA H6 h7
        go_wp2
        go_ret
        exact ⟨rfl, H7⟩
      · have hbp : 0 < bs.length := List.length_pos_iff.2 hbe
        have hbz : ((bs.length : Int) == 0) = false := by rw [beq_eq_false_iff_ne]; omega
        have HN : Hid (NoForm (form l ++ bs)) := noForm_app okl.out hbe
        obtain ⟨va, rfl, hvc⟩ : ∃ va, vo = some va ∧ ∀ j (hj : j < bs.length), w4.cell? (va.add j) = some (bv bs[j]) := by
          rcases hv4 with ⟨_, h⟩ | ⟨va, c, hv, _, h⟩
          · exact absurd h hbe
          · cases hv; exact ⟨va, rfl, h⟩
        clear hv4
        go_wp2_with (at_builtin; refine wp_appL _ rfl _ _ rfl w.heap.size _ (form l) rfl o4' va bs.length vc bs rfl hvc rfl hbp (by omega) hs4 ?_)
        intro v5 w5 o5 b5
        have H5 := H4.trans b5
        have b5b := o5.at
        go_wp2_with fail
        refine (dec_none b5b (by rw [List.length_append]; omega) HN.out).mono ?_
        rintro e w6 ⟨rfl, h6⟩
        have H6 := keepA H5 h6
        go_wp2_with fail
        refine (alive_any _).mono ?_
        rintro e w7 ⟨rfl, h7⟩
        have H7 := keepA H6 h7
        go_wp2
        go_ret
        exact ⟨rfl, H7⟩
end Go.Proofs.Ytfmnlgepllgpnaa

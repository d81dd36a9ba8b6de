/- The walk of the law KeyAbove: all that begin with a key lie between it and what is above it, and nothing else does. -/
import Derived.Test.YtjajngngajnnpaaDoorKJWalk
namespace Go.Proofs.YtjajngngajnnpaaDoor
open Go.RowKit
set_option linter.unusedVariables false

theorem above_any (s : List UInt8) (w : World) (hs : s.length ≤ 1000000000) : Calls Tryd.prog 15 #[.string ⟨s.toArray⟩] w fun e w' => e = .returned (.string ⟨(s ++ [255]).toArray⟩) ∧ w' = w := by
  have hsz : (⟨s.toArray⟩ : ByteArray).size + (⟨#[255]⟩ : ByteArray).size ≤ 9223372036854775807 := by rw [size_arr]; show s.length + 1 ≤ _; omega
  have HJ : Hid ((⟨s.toArray⟩ ++ ⟨#[255]⟩ : ByteArray) = ⟨(s ++ [255]).toArray⟩) := by
    show _ = _
    apply ByteArray.ext
    apply Array.ext'
    rw [app_list]
  go_enter Tryd.func15, Tryd.ntmps15
  go_wp2
  go_ret
  exact ⟨by rw [← HJ.out]; rfl, rfl⟩

theorem rowIs_take {w : World} {ao : Option Addr} {n cap : Nat} {l : List V4} (h : RowIs w (.slice ao n cap) l) (k : Nat) (hk : k ≤ l.length) : RowIs w (.slice ao k cap) (l.take k) := by
  obtain ⟨ao', cap', hv, hc, h⟩ := h
  injection hv with q1 q2 q3
  subst q1 q3
  have hl : (l.take k).length = k := by rw [List.length_take]; omega
  refine ⟨ao, cap, by rw [hl], by omega, ?_⟩
  rcases h with h | ⟨g, hg, h⟩
  · left; rw [h]; simp
  · refine Or.inr ⟨g, hg, fun j hj => ?_⟩
    have := h j (by omega)
    simpa using this
theorem rowOk_take {M : Nat} {l : List V4} (h : RowOk M l) (k : Nat) : RowOk M (l.take k) :=
  ⟨fun x hx => h.rights x (List.mem_of_mem_take hx), fun x hx => h.texts x (List.mem_of_mem_take hx), by have := h.len; rw [List.length_take]; omega⟩

theorem le_of {a b : List UInt8} (h : Op.bytesLess b a = false) : (Op.bytesLess a b || a == b) = true := by
  rcases bl_tri a b with h' | rfl | h'
  · simp [h']
  · simp
  · rw [h'] at h; cases h

set_option maxHeartbeats 1000000 in
theorem keyAbove_law (u v z : Value) (a b c : List V4) (w : World) (hu : RawsAt w u a) (hv : RawsAt w v b) (hz : RawsAt w z c) (ha : ∀ x ∈ a, RawOk 1048576 x) (hb : ∀ x ∈ b, RawOk 1048576 x) (hc : ∀ x ∈ c, RawOk 1048576 x) (la : a.length ≤ 1048576) (lb : b.length ≤ 1048576) (lc : c.length ≤ 1048576) :
    Calls Tryd.prog 6 #[u, v, z] w fun e w' => e = .returned (.bool true) ∧ Below w.heap.size w w' := by
  go_enter Tryd.func6, Tryd.ntmps6
  go_wp2_with fail
  refine (row_any 1048576 u a _ hu ha (by omega)).mono ?_
  rintro e w1 ⟨x, l, rfl, ox, okx, h1⟩
  have hv1 := hv.keep h1
  have hz1 := hz.keep h1
  have rx1 := ox.row
  clear hu hv hz ha
  have hl40 := okx.len
  go_wp2_with (at_builtin; refine wp_appRow _ rfl (.tmp 16) _ rfl w1.heap.size _ [] rfl (ownR_new w1 (Nat.le_refl _)) _ _ l rfl (ox.alloc _) (by simp; omega) (by simp) ?_)
  intro v2 w2 o2 g2 h2
  have b12 : Below w1.heap.size w1 w2 := (below_alloc (Below.refl _ _) _).trans h2
  have hv2 := hv1.keep b12
  have H2 : Below w.heap.size w w2 := keepA h1 b12
  have H0 := h1
  have hs12 := b12.size
  clear h1 h2 g2 hv1 ox
  go_wp2_with fail
  refine (row_any 1048576 v b _ hv2 hb (by omega)).mono ?_
  rintro e w3 ⟨y, m, rfl, oy, oky, h3⟩
  have o3 := o2.keepB h3
  have H3 := keepA H2 h3
  have hs13 := h3.size
  have b13 : Below w1.heap.size w1 w3 := keepA b12 h3
  clear h3 H2 o2 hv2 b12 hb
  have hm40 := oky.len
  go_wp2_with (at_builtin; refine wp_appRow _ rfl (.tmp 18) _ rfl w1.heap.size _ l rfl o3 _ _ m rfl oy (by omega) (by omega) ?_)
  intro v4 w4 o4 g4 h4
  have b14 : Below w1.heap.size w1 w4 := b13.trans h4
  have rx4 := rx1.keep b14
  have hz4 := hz1.keep b14
  have ry4 := o4.row
  have H4 : Below w.heap.size w w4 := H0.trans (b14.mono H0.size)
  clear g4 h4 o3 o4 oy b13 b14 H3 rx1 hz1 hs12 hs13 H0
  go_wp2_with fail
  refine (row_any 1048576 z c _ hz4 hc (by omega)).mono ?_
  rintro e w5 ⟨q, n, rfl, oq, okq, h5⟩
  have rx5 := rx4.keep h5
  have ry5 := ry4.keep h5
  have rq5 := oq.row
  have H5 := keepA H4 h5
  clear h5 H4 rx4 ry4 oq hz4 hc
  go_wp2_with fail
  refine (enc_ok rx5 okx).mono ?_
  rintro e w6 ⟨rfl, h6⟩
  have rx6 := rx5.keep h6
  have ry6 := ry5.keep h6
  have rq6 := rq5.keep h6
  have H6 := keepA H5 h6
  clear h6 H5 rx5 ry5 rq5
  go_wp2_with fail
  refine (enc_both ry6 okx oky).mono ?_
  rintro e w7 ⟨rfl, h7⟩
  have rx7 := rx6.keep h7
  have rq7 := rq6.keep h7
  have H7 := keepA H6 h7
  clear h7 H6 rx6 ry6 rq6
  go_wp2_with fail
  refine (enc_ok rq7 okq).mono ?_
  rintro e w8 ⟨rfl, h8⟩
  have rx8 := rx7.keep h8
  have rq8 := rq7.keep h8
  have H8 := keepA H7 h8
  clear h8 H7 rx7 rq7
  have hq40 := okq.len
  have hcl : (codeL l).length ≤ 1000000000 := by have := rowOk_code okx; omega
  have k1 := above_in (codeL l) (codeL m) (codeL_small oky.rights)
  rw [← codeL_app] at k1
  obtain ⟨k1, k2'⟩ := k1
  have k2 := le_of k2'
  clear k2'
  obtain ⟨ao, cap, rfl, hcap⟩ := rx8.cap
  obtain ⟨bo, cap2, rfl, hcap2⟩ := rq8.cap
  rcases above_out okq.rights okx.rights with ⟨hle, ho⟩ | ⟨hno, hor⟩
  · have rt := rowIs_take rq8 l.length hle
    have okt := rowOk_take okq l.length
    have hsplit : codeL n = codeL l ++ codeL (n.drop l.length) := by
      rw [← ordL_eq okt.rights ho, ← codeL_app, List.take_append_drop]
    have k3 := above_in (codeL l) (codeL (n.drop l.length)) (codeL_small (fun x hx => okq.rights x (List.mem_of_mem_drop hx)))
    rw [← hsplit] at k3
    obtain ⟨k3, k4'⟩ := k3
    have k4 := le_of k4'
    clear k4'
    have HO : Hid (ordL (n.take l.length) l = 0) := ho
    clear hsplit ho
    go_wp2_with fail
    refine (ord_ok rt rx8 okt okx).mono ?_
    rintro e w9 ⟨rfl, h9⟩
    rw [HO.out]
    have H9 := keepA H8 h9
    clear h9 H8 rt rx8 rq8
    go_wp2_with fail
    refine (alive_any _).mono ?_
    rintro e w10 ⟨rfl, h10⟩
    have H10 := keepA H9 h10
    clear h10 H9
    go_wp2_with (go_at_call 15; refine (above_any (codeL l) _ hcl).mono ?_; rintro e w' ⟨rfl, rfl⟩)
    go_ret
    exact ⟨rfl, H10⟩
  · have hb : (Op.bytesLess (codeL n) (codeL l) = true) ∨ (Op.bytesLess (codeL n) (codeL l) = false ∧ Op.bytesLess (codeL n) (codeL l ++ [255]) = false ∧ (codeL n == codeL l ++ [255]) = false) := by
      rcases hor with h | h
      · exact Or.inl h
      · have := h []
        rw [List.append_nil] at this
        exact Or.inr ⟨bl_asymm this, bl_asymm (h [255]), bl_ne (h [255])⟩
    clear hor
    by_cases hle : l.length ≤ n.length
    · have rt := rowIs_take rq8 l.length hle
      have okt := rowOk_take okq l.length
      have HO : Hid (ordL (n.take l.length) l ≠ 0) := fun e => hno ⟨hle, e⟩
      clear hno
      go_wp2_with fail
      refine (ord_ok rt rx8 okt okx).mono ?_
      rintro e w9 ⟨rfl, h9⟩
      have H9 := keepA H8 h9
      have hz : (ordL (n.take l.length) l == 0) = false := by simpa using HO.out
      clear h9 H8 rt rx8 rq8 HO
      rcases hb with k3 | ⟨k3, k4, k5⟩
      · go_wp2_with fail
        refine (alive_any _).mono ?_
        rintro e w10 ⟨rfl, h10⟩
        have H10 := keepA H9 h10
        clear h10 H9
        go_wp2_with (go_at_call 15; refine (above_any (codeL l) _ hcl).mono ?_; rintro e w' ⟨rfl, rfl⟩)
        go_ret
        exact ⟨rfl, H10⟩
      · go_wp2_with fail
        refine (alive_any _).mono ?_
        rintro e w10 ⟨rfl, h10⟩
        have H10 := keepA H9 h10
        clear h10 H9
        go_wp2_with (go_at_call 15; refine (above_any (codeL l) _ hcl).mono ?_; rintro e w' ⟨rfl, rfl⟩)
        go_ret
        exact ⟨rfl, H10⟩
    · have H9 := H8
      clear hno rx8 rq8
      rcases hb with k3 | ⟨k3, k4, k5⟩
      · go_wp2_with fail
        refine (alive_any _).mono ?_
        rintro e w10 ⟨rfl, h10⟩
        have H10 := keepA H9 h10
        clear h10 H9
        go_wp2_with (go_at_call 15; refine (above_any (codeL l) _ hcl).mono ?_; rintro e w' ⟨rfl, rfl⟩)
        go_ret
        exact ⟨rfl, H10⟩
      · go_wp2_with fail
        refine (alive_any _).mono ?_
        rintro e w10 ⟨rfl, h10⟩
        have H10 := keepA H9 h10
        clear h10 H9
        go_wp2_with (go_at_call 15; refine (above_any (codeL l) _ hcl).mono ?_; rintro e w' ⟨rfl, rfl⟩)
        go_ret
        exact ⟨rfl, H10⟩
end Go.Proofs.YtjajngngajnnpaaDoor

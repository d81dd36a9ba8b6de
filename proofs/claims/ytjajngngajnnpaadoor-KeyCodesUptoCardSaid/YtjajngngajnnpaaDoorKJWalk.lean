/- The walk of the law KeyJoined: codes stand one behind the other. -/
import Derived.Test.YtjajngngajnnpaaDoorKBWalk
import Derived.Laws.AppendOwnNone
namespace Go.Proofs.YtjajngngajnnpaaDoor
open Go.RowKit
set_option linter.unusedVariables false

/-- append(row, other...): whatever the other row is. -/
theorem wp_appRow (w : World) {ops : Array Oper} {rest : List Oper} {o : Oper} {a : Act} {Q : Exit → Act → World → Prop} (hgd : o.guard = none) (s x : Operand)
    (ho : o.op = .call { callee := .builtin .append, args := #[s, x], argTypes := #[24, 24] })
    (base : Nat) (v : Value) (l : List V4) (hs : a.eval s = v) (hown : OwnR base w v l)
    (b2 : Nat) (v2 : Value) (l2 : List V4) (hx : a.eval x = v2) (h2 : OwnR b2 w v2 l2)
    (hl : l.length + l2.length ≤ 3000000000000) (hbase : base ≤ w.heap.size)
    (h : ∀ v' w', OwnR base w' v' (l ++ l2) → w.grownBy w' v.ownBlock → Below base w w' → wpList Tryd.prog ops Q rest (a.put o.dst v') w') : wpList Tryd.prog ops Q (o :: rest) a w := by
  obtain ⟨i0, hi, hz0, hz1, hz2⟩ := info_parts infoR
  have hrow := h2.row
  rcases h2.2 with ⟨hv, hn⟩ | ⟨g, cap, cur, hv, _⟩
  · have e : l2 = [] := List.eq_nil_of_length_eq_zero hn
    refine wpList_append_own_none hgd s x 24 ho base 39 i0 4 Tryd.underlying24 hi v l.length (l.flatMap cellsV) hs hown (hx.trans hv) ?_
    refine h v w ?_ (World.grownBy.refl _ _) (Below.refl _ _)
    rw [e, List.append_nil]; exact hown
  · have hcells : ∀ k (h : k < l2.length), w.rangeAt g (k * 4) (cellsV l2[k]) := by
      obtain ⟨ao, c, hv2, _, hc⟩ := hrow
      rw [hv] at hv2
      rcases hc with e | ⟨g', e', hc⟩
      · intro k hk; rw [e] at hk; simp at hk
      · rw [e'] at hv2
        injection hv2 with q1 q2 q3
        injection q1 with q1
        injection q1 with q1
        rw [q1]; exact hc
    refine wpList_append_own w hgd s x 24 ho base 39 i0 (val 0 0 ⟨#[]⟩ false) 4 40 Tryd.underlying24 hi hz0 hz1 hz2 rfl (by decide) v l.length (l.flatMap cellsV) hs hown ⟨g, 0, none⟩ l2.length cap (l2.flatMap cellsV) (hx.trans hv) (by rw [flat_len]) (flat_cells hcells) (one_cells l2) (by unfold maxLen; omega) (by omega) hbase ?_
    intro v' w' k1 k2 _
    refine h v' w' ?_ k2 ((Below.refl _ _).grown k2 hbase hown.ge)
    unfold OwnR
    rw [List.length_append, List.flatMap_append]
    exact k1
theorem ownR_new (w : World) {base : Nat} (hb : base ≤ w.heap.size) : OwnR base (w.alloc (.cells #[] 39)) (.slice (some ⟨w.heap.size, 0, none⟩) 0 0) [] :=
  World.ownsRow_made w #[] 0 hb (by unfold maxLen; omega) (by simp)
theorem OwnR.grow {base b2 : Nat} {w w' : World} {v : Value} {l : List V4} {r : Option Nat} (h : OwnR base w v l) (hg : w.grownBy w' r) (hr : ∀ k, r = some k → b2 ≤ k) (hlt : ∀ k, v.ownBlock = some k → k < b2) : OwnR base w' v l :=
  World.ownsRow.kept h hg (by
    cases e : v.ownBlock with
    | none => exact Or.inl rfl
    | some k => exact Or.inr (fun e' => by have := hlt k e; have := hr k e'.symm; omega))
theorem OwnR.lt {base : Nat} {w : World} {v : Value} {l : List V4} (h : OwnR base w v l) : ∀ k, v.ownBlock = some k → k < w.heap.size := fun k hk => (World.ownsRow.lt h k hk).2

theorem app_list (a b : ByteArray) : (a ++ b).data.toList = a.data.toList ++ b.data.toList := by simp
theorem join_arr (l m : List V4) : (⟨(codeL l).toArray⟩ ++ ⟨(codeL m).toArray⟩ : ByteArray) = ⟨(codeL (l ++ m)).toArray⟩ := by
  apply ByteArray.ext
  apply Array.ext'
  rw [app_list]
  simp [codeL_app]
theorem both_texts {l m : List V4} (h : RowOk 1048576 l) (k : RowOk 1048576 m) : ∀ x ∈ l ++ m, x.2.2.1.length ≤ 1048576 := fun x hx => by
  rcases List.mem_append.1 hx with hx | hx
  · exact h.texts x hx
  · exact k.texts x hx
theorem both_len {l m : List V4} (h : RowOk 1048576 l) (k : RowOk 1048576 m) : (codeL (l ++ m)).length ≤ 1000000000 := by
  have := rowOk_code h
  have := rowOk_code k
  rw [codeL_app, List.length_append]; omega
/-- Both rows, one behind the other, coded. -/
theorem enc_both {l m : List V4} {v : Value} {w : World} (hr : RowIs w v (l ++ m)) (h : RowOk 1048576 l) (k : RowOk 1048576 m) :
    Calls Tryd.prog 13 #[v] w fun e w' => e = .returned (.string ⟨(codeL (l ++ m)).toArray⟩) ∧ Below w.heap.size w w' :=
  encode_any v (l ++ m) w hr (rights_app.2 ⟨h.rights, k.rights⟩) (by have := both_len h k; omega) (fun x hx => by have := both_texts h k x hx; omega) (by have := h.len; have := k.len; rw [List.length_append]; omega)
theorem ord_both {n l m : List V4} {u v : Value} {w : World} (hu : RowIs w u n) (hv : RowIs w v (l ++ m)) (hn : NFs n) (hc : (codeL n).length ≤ 1099511626000) (h : RowOk 1048576 l) (k : RowOk 1048576 m) :
    Calls Tryd.prog 16 #[u, v] w fun e w' => e = .returned (.int .i64 (ordL n (l ++ m))) ∧ Below w.heap.size w w' :=
  order_any u v n (l ++ m) w hu hv hn.rights (fun x hx => by have := nfs_texts hn x hx; omega) (fun x hx => by have := both_texts h k x hx; omega) (by have := nfs_len hn; omega) (by have := h.len; have := k.len; rw [List.length_append]; omega)

set_option maxHeartbeats 1000000 in
theorem keyJoined_law (u v : Value) (a b : List V4) (w : World) (hu : RawsAt w u a) (hv : RawsAt w v b) (ha : ∀ x ∈ a, RawOk 1048576 x) (hb : ∀ x ∈ b, RawOk 1048576 x) (la : a.length ≤ 1048576) (lb : b.length ≤ 1048576) :
    Calls Tryd.prog 7 #[u, v] w fun e w' => e = .returned (.bool true) ∧ Below w.heap.size w w' := by
  go_enter Tryd.func7, Tryd.ntmps7
  go_wp2_with fail
  refine (row_any 1048576 u a _ hu ha (by omega)).mono ?_
  rintro e w1 ⟨x, l, rfl, ox, okx, h1⟩
  have hv1 := hv.keep h1
  clear hu hv ha
  go_wp2_with fail
  refine (row_any 1048576 v b _ hv1 hb (by omega)).mono ?_
  rintro e w2 ⟨y, m, rfl, oy, oky, h2⟩
  have ox2 := ox.keepB h2
  have H2 := keepA h1 h2
  clear hv1 hb h1 h2 ox
  have hl40 := okx.len
  have hm40 := oky.len
  go_wp2_with (at_builtin; refine wp_appRow _ rfl (.tmp 15) _ rfl w2.heap.size _ [] rfl (ownR_new w2 (Nat.le_refl _)) _ _ l rfl (ox2.alloc _) (by simp; omega) (by simp) ?_)
  intro v3 w3 o3 g3 h3
  have b23 : Below w2.heap.size w2 w3 := (below_alloc (Below.refl _ _) _).trans h3
  have oy3 := oy.keepB b23
  have hs3 := b23.size
  clear g3 h3
  go_wp2_with (at_builtin; refine wp_appRow _ rfl _ _ rfl w2.heap.size _ l rfl o3 _ _ m rfl oy3 (by omega) hs3 ?_)
  intro v4 w4 o4 g4 h4
  have b24 : Below w2.heap.size w2 w4 := b23.trans h4
  have rx := (ox2.keepB b24).row
  have ry := (oy.keepB b24).row
  have rb := o4.row
  have H4 : Below w.heap.size w w4 := keepA H2 b24
  clear g4 h4 oy3 o3 o4 b23 b24 ox2 oy H2 hs3
  go_wp2_with fail
  refine (enc_ok rx okx).mono ?_
  rintro e w5 ⟨rfl, h5⟩
  have ry5 := ry.keep h5
  have rb5 := rb.keep h5
  have H5 := keepA H4 h5
  clear h5 H4 rx ry rb
  go_wp2_with fail
  refine (enc_ok ry5 oky).mono ?_
  rintro e w6 ⟨rfl, h6⟩
  have rb6 := rb5.keep h6
  have H6 := keepA H5 h6
  clear h6 H5 ry5 rb5
  have cl := rowOk_code okx
  have cm := rowOk_code oky
  have hsum : ((⟨(codeL l).toArray⟩ : ByteArray).size + (⟨(codeL m).toArray⟩ : ByteArray).size) ≤ 9223372036854775807 := by rw [size_arr, size_arr]; omega
  have HS : Hid ((⟨(codeL l).toArray⟩ ++ ⟨(codeL m).toArray⟩ : ByteArray) = ⟨(codeL (l ++ m)).toArray⟩) := join_arr l m
  go_wp2_with fail
  rw [HS.out]
  have hR : Rights (l ++ m) := rights_app.2 ⟨okx.rights, oky.rights⟩
  have hbl := both_len okx oky
  have EB : ∀ (v : Value) (w : World), RowIs w v (l ++ m) → Calls Tryd.prog 13 #[v] w fun e w' => e = .returned (.string ⟨(codeL (l ++ m)).toArray⟩) ∧ Below w.heap.size w w' := fun v w h => enc_both h okx oky
  have OB : ∀ (n : List V4) (u v : Value) (w : World), RowIs w u n → RowIs w v (l ++ m) → NFs n → (codeL n).length ≤ 1099511626000 → Calls Tryd.prog 16 #[u, v] w fun e w' => e = .returned (.int .i64 (ordL n (l ++ m))) ∧ Below w.heap.size w w' := fun n u v w h1 h2 h3 h4 => ord_both h1 h2 h3 h4 okx oky
  have hbb : (l ++ m).length ≤ 80 := by rw [List.length_append]; omega
  clear HS hsum
  generalize l ++ m = bb at *
  refine (dec_code hR (by omega) _).mono ?_
  rintro e w7 ⟨⟨r, n, rfl, rr, hn, hc⟩, h7⟩
  have rb7 := rb6.keep h7
  have H7 := keepA H6 h7
  have HO : Hid (ordL n bb = 0) := ordL_of_code hn.rights hR hc
  have hlen : n.length = bb.length := ordL_len HO.out
  have hcn : (codeL n).length ≤ 1099511626000 := by rw [hc]; omega
  clear h7 H6 rb6 hc cl cm hR
  obtain ⟨ao, cap, rfl, hcap⟩ := rr.cap
  obtain ⟨bo, cap2, rfl, hcap2⟩ := rb7.cap
  rw [hlen] at rr hcap ⊢
  go_wp2_with fail
  refine (alive_any _).mono ?_
  rintro e w8 ⟨rfl, h8⟩
  have rr8 := rr.keep h8
  have rb8 := rb7.keep h8
  have H8 := keepA H7 h8
  clear h8 H7 rr rb7
  go_wp2_with fail
  refine (EB _ _ rb8).mono ?_
  rintro e w9 ⟨rfl, h9⟩
  have rr9 := rr8.keep h9
  have rb9 := rb8.keep h9
  have H9 := keepA H8 h9
  clear h9 H8 rr8 rb8
  go_wp2_with fail
  refine (OB n _ _ _ rr9 rb9 hn hcn).mono ?_
  rintro e w10 ⟨rfl, h10⟩
  rw [HO.out]
  have H10 := keepA H9 h10
  clear h10 H9 rr9 rb9
  go_wp2
  go_ret
  exact ⟨rfl, H10⟩
end Go.Proofs.YtjajngngajnnpaaDoor

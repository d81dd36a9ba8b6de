/- The walk of the law KeyBack: what was coded is read. -/
import Derived.Test.YtjajngngajnnpaaDoorKOWalk
namespace Go.Proofs.YtjajngngajnnpaaDoor
open Go.RowKit
set_option linter.unusedVariables false

theorem esc_ge (l : List UInt8) : l.length ≤ (esc l).length := by
  induction l with
  | nil => simp
  | cons c l ih => rw [esc_cons, List.length_append, List.length_cons]; split <;> simp <;> omega
theorem nf_text_len {x : V4} (h : NF x) : x.2.2.1.length ≤ (code1 x).length := by
  rcases h.1 with e | e | e | e
  · rw [e.2.2.1]; simp
  · rw [e.2.2.1]; simp
  · rw [code_text e.1, h.2]
    have := esc_ge x.2.2.1
    simp; omega
  · rw [e.2.2]; simp
theorem nfs_texts : ∀ {l : List V4}, NFs l → ∀ x ∈ l, x.2.2.1.length ≤ (codeL l).length
  | [], _, _, hx => by cases hx
  | y :: l, h, x, hx => by
    rw [codeL_cons, List.length_append]
    rcases List.mem_cons.1 hx with rfl | hx
    · have := nf_text_len (nfs_cons.1 h).1; omega
    · have := nfs_texts (nfs_cons.1 h).2 x hx; omega
theorem nfs_len : ∀ {l : List V4}, NFs l → l.length ≤ (codeL l).length
  | [], _ => by simp
  | y :: l, h => by
    rw [codeL_cons, List.length_append, List.length_cons]
    have := code_one (nfs_cons.1 h).1
    have := nfs_len (nfs_cons.1 h).2
    omega
theorem size_arr (l : List UInt8) : (⟨l.toArray⟩ : ByteArray).size = l.length := by
  show l.toArray.size = _
  simp
/-- What was coded is read. -/
theorem dec_code {l : List V4} (h : Rights l) (hl : (codeL l).length ≤ 1099511627776) (w : World) :
    Calls Tryd.prog 9 #[.string ⟨(codeL l).toArray⟩] w fun e w' => (∃ (rv : Value) (l' : List V4), e = .returned (.tuple #[rv, .int .i64 0]) ∧ RowIs w' rv l' ∧ NFs l' ∧ codeL l' = codeL l) ∧ Below w.heap.size w w' := by
  refine (decode_any ⟨(codeL l).toArray⟩ w (by rw [size_arr]; exact hl)).mono fun e w' hh => ?_
  obtain ⟨hh | ⟨_, hh⟩, hb⟩ := hh
  · obtain ⟨l', rv, he, hn, hc, hr⟩ := hh
    exact ⟨⟨rv, l', he, hr, hn, hc⟩, hb⟩
  · exact absurd (norm_codes l) (hh _ (norm_nfs h))
theorem enc_nf {l : List V4} {v : Value} {w : World} (hr : RowIs w v l) (h : NFs l) (hl : (codeL l).length ≤ 1099511626000) :
    Calls Tryd.prog 13 #[v] w fun e w' => e = .returned (.string ⟨(codeL l).toArray⟩) ∧ Below w.heap.size w w' :=
  encode_any v l w hr h.rights hl (fun x hx => by have := nfs_texts h x hx; omega) (by have := nfs_len h; omega)
theorem ord_nf {l m : List V4} {u v : Value} {w : World} (hu : RowIs w u l) (hv : RowIs w v m) (h : NFs l) (hl : (codeL l).length ≤ 1099511626000) (k : RowOk 1048576 m) :
    Calls Tryd.prog 16 #[u, v] w fun e w' => e = .returned (.int .i64 (ordL l m)) ∧ Below w.heap.size w w' :=
  order_any u v l m w hu hv h.rights (fun x hx => by have := nfs_texts h x hx; omega) (fun x hx => by have := k.texts x hx; omega) (by have := nfs_len h; omega) (by have := k.len; omega)

set_option maxHeartbeats 1000000 in
theorem keyBack_law (u : Value) (s : ByteArray) (a : List V4) (w : World) (hu : RawsAt w u a) (ha : ∀ x ∈ a, RawOk 1048576 x) (la : a.length ≤ 1048576) (hs : s.size ≤ 1048576) :
    Calls Tryd.prog 5 #[u, .string s] w fun e w' => e = .returned (.bool true) ∧ Below w.heap.size w w' := by
  go_enter Tryd.func5, Tryd.ntmps5
  go_wp2_with fail
  refine (row_any 1048576 u a _ hu ha (by omega)).mono ?_
  rintro e w1 ⟨x, l, rfl, ox, okx, h1⟩
  have rx := ox.row
  clear hu ha ox
  have hcl : (codeL l).length ≤ 1099511626000 := by have := rowOk_code okx; omega
  go_wp2_with fail
  refine (enc_ok rx okx).mono ?_
  rintro e w2 ⟨rfl, h2⟩
  have rx2 := rx.keep h2
  have H2 := keepA h1 h2
  clear h1 h2 rx
  go_wp2_with fail
  refine (dec_code okx.rights (by omega) _).mono ?_
  rintro e w3 ⟨⟨y, l', rfl, ry, hn, hc⟩, h3⟩
  have rx3 := rx2.keep h3
  have H3 := keepA H2 h3
  have HO : Hid (ordL l' l = 0) := ordL_of_code hn.rights okx.rights hc
  have hlen : l'.length = l.length := ordL_len HO.out
  have HC : Hid (codeL l' = codeL l) := hc
  have hcl' : (codeL l').length ≤ 1099511626000 := by rw [hc]; exact hcl
  obtain ⟨ao, cap, rfl, hcap⟩ := ry.cap
  obtain ⟨bo, cap2, rfl, hcap2⟩ := rx3.cap
  rw [hlen] at ry hcap ⊢
  clear h3 H2 rx2 hc
  go_wp2_with fail
  refine (ord_nf ry rx3 hn hcl' okx).mono ?_
  rintro e w4 ⟨rfl, h4⟩
  rw [HO.out]
  have H4 := keepA H3 h4
  clear h4 H3 ry rx3
  go_wp2_with fail
  refine (decode_any s _ (by omega)).mono ?_
  rintro e w5 ⟨⟨l2, rv, rfl, hn2, hc2, hr2⟩ | ⟨rfl, _⟩, h5⟩
  · have H5 := keepA H4 h5
    clear h5 H4
    go_wp2_with fail
    refine (alive_any _).mono ?_
    rintro e w6 ⟨rfl, h6⟩
    have r6 := hr2.keep h6
    have H6 := keepA H5 h6
    have hcs : (codeL l2).length ≤ 1048576 := by rw [hc2]; simpa using hs
    clear h6 H5 hr2
    go_wp2_with fail
    refine (enc_nf r6 hn2 (by omega)).mono ?_
    rintro e w7 ⟨rfl, h7⟩
    have H7 := keepA H6 h7
    have HE : Hid ((codeL l2 == s.toList) = true) := by
      show (codeL l2 == s.toList) = true
      rw [Lib.toList_data, hc2]; simp
    clear h7 H6 hc2
    go_wp2
    go_ret
    exact ⟨ret_true HE.out, H7⟩
  · have H5 := keepA H4 h5
    clear h5 H4
    go_wp2_with fail
    refine (alive_any _).mono ?_
    rintro e w6 ⟨rfl, h6⟩
    have H6 := keepA H5 h6
    go_wp2
    go_ret
    exact ⟨rfl, H6⟩
end Go.Proofs.YtjajngngajnnpaaDoor

/- The walk of the law KeyCodes: values have the code that the document says, and any text is a code's, or refused, as it says. -/
import Derived.Test.YtjajngngajnnpaaDoorK3V
namespace Go.Proofs.YtjajngngajnnpaaDoor
open Go.RowKit
set_option linter.unusedVariables false

theorem told_len {s : ByteArray} {l : List V4} (h : NFs l) (hc : codeL l = s.data.toList) : l.length ≤ s.size := by
  have := nfs_len h
  rw [hc, len_str] at this
  exact this
theorem aboveS_any (s : ByteArray) (w : World) (hs : s.size ≤ 1000000000) : Calls Tryd.prog 15 #[.string s] w fun e w' => e = .returned (.string (s ++ ⟨#[255]⟩)) ∧ w' = w := by
  have h := above_any s.data.toList w (by simpa using hs)
  rw [str_back] at h
  refine h.mono fun e w' ⟨he, hw⟩ => ⟨?_, hw⟩
  rw [he]
  congr 2
theorem refEnc_ok {l : List V4} {v : Value} {w : World} (hr : RowIs w v l) (h : RowOk 1048576 l) :
    Calls Tryd.prog 14 #[v] w fun e w' => (∃ T : ByteArray, e = .returned (.string T) ∧ T.data.toList = codeL l) ∧ Below w.heap.size w w' :=
  refEncode_any v l w hr h.rights (by have := rowOk_code h; omega) (fun x hx => by have := h.texts x hx; omega) (by have := h.len; omega)

set_option maxHeartbeats 2000000 in
theorem keyCodes_law (u : Value) (s : ByteArray) (a : List V4) (w : World) (hu : RawsAt w u a) (ha : ∀ x ∈ a, RawOk 1048576 x) (la : a.length ≤ 1048576) (hs : s.size ≤ 1048576) :
    Calls Tryd.prog 3 #[u, .string s] w fun e w' => e = .returned (.bool true) ∧ Below w.heap.size w w' := by
  go_enter Tryd.func3, Tryd.ntmps3
  go_wp2_with fail
  refine (row_any 1048576 u a _ hu ha (by omega)).mono ?_
  rintro e w1 ⟨x, l, rfl, ox, okx, h1⟩
  have rx1 := ox.row
  clear hu ha ox
  go_wp2_with fail
  refine (decode_any s _ (by omega)).mono ?_
  rintro e w2 ⟨⟨d, rv, rfl, hn, hc, rd2⟩ | ⟨rfl, hf⟩, h2⟩
  · have rx2 := rx1.keep h2
    have H2 := keepA h1 h2
    clear h1 h2 rx1
    go_wp2_with fail
    refine (refDecode_any s _ (by omega)).mono ?_
    rintro e w3 ⟨⟨d', rv', rfl, hn', hc', rd3'⟩ | ⟨rfl, hf⟩, h3⟩
    · obtain rfl : d' = d := parse_all hn' hn (hc'.trans hc.symm)
      have rx3 := rx2.keep h3
      have rd3 := rd2.keep h3
      have H3 := keepA H2 h3
      have hdl := told_len hn hc
      clear h3 H2 rx2 rd2 hc hc' hn hn'
      go_wp2_with fail
      refine (sameRow_any _ _ _ _ rd3 rd3' (by omega)).mono ?_
      rintro e w4 ⟨rfl, h4⟩
      have rx4 := rx3.keep h4
      have H4 := keepA H3 h4
      clear h4 H3 rx3 rd3 rd3'
      go_wp2_with fail
      refine (alive_any _).mono ?_
      rintro e w5 ⟨rfl, h5⟩
      have rx5 := rx4.keep h5
      have H5 := keepA H4 h5
      clear h5 H4 rx4
      go_wp2_with fail
      refine (enc_ok rx5 okx).mono ?_
      rintro e w6 ⟨rfl, h6⟩
      have rx6 := rx5.keep h6
      have H6 := keepA H5 h6
      clear h6 H5 rx5
      go_wp2_with fail
      refine (refEnc_ok rx6 okx).mono ?_
      rintro e w7 ⟨⟨T, rfl, hT⟩, h7⟩
      have H7 := keepA H6 h7
      have hq : (codeL l == T.toList) = true := by rw [Lib.toList_data, hT]; simp
      have hsum : s.size + (⟨#[255]⟩ : ByteArray).size ≤ 9223372036854775807 := by show s.size + 1 ≤ _; omega
      clear h7 H6 hT rx6
      go_wp2_with (go_at_call 15; refine (aboveS_any s _ (by omega)).mono ?_; rintro e w' ⟨rfl, rfl⟩)
      go_ret
      exact ⟨rfl, H7⟩
    · exact absurd hc (hf d hn)
  · have rx2 := rx1.keep h2
    have H2 := keepA h1 h2
    clear h1 h2 rx1
    go_wp2_with fail
    refine (refDecode_any s _ (by omega)).mono ?_
    rintro e w3 ⟨⟨d', rv', rfl, hn', hc', rd3'⟩ | ⟨rfl, hf'⟩, h3⟩
    · exact absurd hc' (hf d' hn')
    · have rx3 := rx2.keep h3
      have H3 := keepA H2 h3
      have rn : RowIs w3 (.slice none 0 0) [] := ⟨none, 0, rfl, Nat.le_refl _, Or.inl rfl⟩
      clear h3 H2 rx2 hf hf'
      go_wp2_with fail
      refine (sameRow_any _ _ _ _ rn rn (by simp)).mono ?_
      rintro e w4 ⟨rfl, h4⟩
      have rx4 := rx3.keep h4
      have H4 := keepA H3 h4
      clear h4 H3 rx3 rn
      go_wp2_with fail
      refine (alive_any _).mono ?_
      rintro e w5 ⟨rfl, h5⟩
      have rx5 := rx4.keep h5
      have H5 := keepA H4 h5
      clear h5 H4 rx4
      go_wp2_with fail
      refine (enc_ok rx5 okx).mono ?_
      rintro e w6 ⟨rfl, h6⟩
      have rx6 := rx5.keep h6
      have H6 := keepA H5 h6
      clear h6 H5 rx5
      go_wp2_with fail
      refine (refEnc_ok rx6 okx).mono ?_
      rintro e w7 ⟨⟨T, rfl, hT⟩, h7⟩
      have H7 := keepA H6 h7
      have hq : (codeL l == T.toList) = true := by rw [Lib.toList_data, hT]; simp
      have hsum : s.size + (⟨#[255]⟩ : ByteArray).size ≤ 9223372036854775807 := by show s.size + 1 ≤ _; omega
      clear h7 H6 hT rx6
      go_wp2_with (go_at_call 15; refine (aboveS_any s _ (by omega)).mono ?_; rintro e w' ⟨rfl, rfl⟩)
      go_ret
      exact ⟨rfl, H7⟩
end Go.Proofs.YtjajngngajnnpaaDoor

/- The walk of the law RowBack: a row is read as it was, and bytes that are a row's are written again. -/
import Derived.Test.YtfmnlgepllgpnaaRAWalk
namespace Go.Proofs.Ytfmnlgepllgpnaa
open Go.RowKit
set_option linter.unusedVariables false

/-- What was written is read. -/
theorem dec_form {l : List V4} {v : Value} {w : World} (hb : Bytes w v (form l)) (h : OkR l) :
    Calls Try.prog 11 #[v] w fun e w' => (∃ rv, e = .returned (.tuple #[rv, .int .i64 0]) ∧ RowAt w' rv l) ∧ Below w.heap.size w w' := by
  refine (decode_any v (form l) w hb (by have := form_len h; omega)).mono ?_
  rintro e w' ⟨⟨m, rv, he, hok, hf, hr⟩ | ⟨_, hn⟩, hw⟩
  · have := form_inj hok h hf
    subst this
    exact ⟨⟨rv, he, hr⟩, hw⟩
  · exact absurd rfl (hn l h)


set_option maxHeartbeats 2000000 in
theorem rowBack_law (u v : Value) (a : List V4) (bs : List UInt8) (w : World) (hu : RowAt w u a) (hv : Bytes w v bs) (ha : ∀ x ∈ a, RawOk 140737488355328 x) (la : a.length ≤ 1099511627776000) (lb : bs.length ≤ 140737488355328) :
    Calls Try.prog 4 #[u, v] w fun e w' => e = .returned (.bool true) ∧ Below w.heap.size w w' := by
  go_enter Try.func4, Try.ntmps4
  go_wp2_with fail
  refine (row_any 140737488355328 u a _ hu ha (by omega)).mono ?_
  rintro e w1 ⟨x, l, rfl, ox, okx, h1⟩
  have hv1 := hv.keep h1
  have rx := ox.row
  have hll := okx.len
  clear hu hv ha ox
  go_wp2_with fail
  refine (enc_row rx okx).mono ?_
  rintro e w2 ⟨hE, h2⟩
  have rx2 := rx.keep h2
  have hv2 := hv1.keep h2
  have H2 := keepA h1 h2
  clear rx hv1 h1
  rcases hE with ⟨_, rfl⟩ | ⟨okl, p, rfl, op⟩
  · go_wp2_with fail
    refine (decode_any v bs _ hv2 (by omega)).mono ?_
    rintro e w3 ⟨hD, h3⟩
    have hv3 := hv2.keep h3
    have H3 := keepA H2 h3
    clear hv2 H2
    rcases hD with ⟨m, rv, rfl, okm, hf, rm⟩ | ⟨rfl, _⟩
    · obtain ⟨ao, cap, rfl, hcap⟩ := rm.cap
      go_wp2_with fail
      refine (encode_ok _ m _ rm okm).mono ?_
      rintro e w4 ⟨⟨q, rfl, oq⟩, h4⟩
      have bq := oq.at
      have hv4 := hv3.keep h4
      have H4 := keepA H3 h4
      clear oq hv3 H3 rm
      go_wp2_with fail
      refine (alive_any _).mono ?_
      rintro e w5 ⟨rfl, h5⟩
      have bq5 := bq.keep h5
      have hv5 := hv4.keep h5
      have H5 := keepA H4 h5
      clear bq hv4 H4
      have HS : Hid ((form m == bs) = true) := by rw [hf]; show (bs == bs) = true; simp
      clear hf
      go_wp2_with fail
      refine (same_any q v (form m) bs _ bq5 hv5).mono ?_
      rintro e w6 ⟨rfl, rfl⟩
      rw [HS.out]
      go_wp2
      go_ret
      exact ⟨rfl, H5⟩
    · go_wp2_with fail
      refine (alive_any _).mono ?_
      rintro e w5 ⟨rfl, h5⟩
      have H5 := keepA H3 h5
      go_wp2
      go_ret
      exact ⟨rfl, H5⟩
  · have bp := op.at
    clear op
    go_wp2_with fail
    refine (dec_form bp okl.out).mono ?_
    rintro e w3 ⟨⟨rv, rfl, rr⟩, h3⟩
    have rx3 := rx2.keep h3
    have hv3 := hv2.keep h3
    have H3 := keepA H2 h3
    clear rx2 hv2 H2 bp
    go_wp2_with fail
    refine (sameRow_any rv x l l _ rr rx3 (by omega) (by omega)).mono ?_
    rw [show decide (l = l) = true by simp]
    rintro e w4 ⟨rfl, h4⟩
    have hv4 := hv3.keep h4
    have H4 := keepA H3 h4
    clear hv3 H3 rx3 rr
    go_wp2_with fail
    refine (decode_any v bs _ hv4 (by omega)).mono ?_
    rintro e w5 ⟨hD, h5⟩
    have hv5 := hv4.keep h5
    have H5 := keepA H4 h5
    clear hv4 H4
    rcases hD with ⟨m, rm, rfl, okm, hf, rmat⟩ | ⟨rfl, _⟩
    · obtain ⟨ao, cap, rfl, hcap⟩ := rmat.cap
      go_wp2_with fail
      refine (encode_ok _ m _ rmat okm).mono ?_
      rintro e w6 ⟨⟨q, rfl, oq⟩, h6⟩
      have bq := oq.at
      have hv6 := hv5.keep h6
      have H6 := keepA H5 h6
      clear oq hv5 H5 rmat
      go_wp2_with fail
      refine (alive_any _).mono ?_
      rintro e w7 ⟨rfl, h7⟩
      have bq7 := bq.keep h7
      have hv7 := hv6.keep h7
      have H7 := keepA H6 h7
      clear bq hv6 H6
      have HS : Hid ((form m == bs) = true) := by rw [hf]; show (bs == bs) = true; simp
      clear hf
      go_wp2_with fail
      refine (same_any q v (form m) bs _ bq7 hv7).mono ?_
      rintro e w8 ⟨rfl, rfl⟩
      rw [HS.out]
      go_wp2
      go_ret
      exact ⟨rfl, H7⟩
    · go_wp2_with fail
      refine (alive_any _).mono ?_
      rintro e w7 ⟨rfl, h7⟩
      have H7 := keepA H5 h7
      go_wp2
      go_ret
      exact ⟨rfl, H7⟩
end Go.Proofs.Ytfmnlgepllgpnaa

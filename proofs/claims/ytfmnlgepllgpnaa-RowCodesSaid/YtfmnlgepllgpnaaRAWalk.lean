/- The walk of the law RowApart: unlike rows have unlike bytes. -/
import Derived.Test.YtfmnlgepllgpnaaR4L
namespace Go.Proofs.Ytfmnlgepllgpnaa
open Go.RowKit
set_option linter.unusedVariables false

theorem ok_of_row {M : Nat} {l : List V4} (h : RowOk M l) (hl : longR l = false) : OkR l :=
  okR_of hl (List.all_eq_true.2 fun v hv => (rightV_iff (right_in (h.rights v hv))).2 (h.rights v hv)) (fun v hv => right_in (h.rights v hv))
/-- What Encode tells of a row of right values. -/
theorem enc_row {l : List V4} {v : Value} {w : World} (hr : RowAt w v l) (h : RowOk 140737488355328 l) :
    Calls Try.prog 9 #[v] w fun e w' => ((Hid (longR l = true) ∧ e = .returned (.tuple #[.slice none 0 0, .int .i64 42])) ∨ (Hid (OkR l) ∧ ∃ v', e = .returned (.tuple #[v', .int .i64 0]) ∧ OwnB w.heap.size w' v' (form l))) ∧ Below w.heap.size w w' := by
  cases hl : longR l
  · have hok := ok_of_row h hl
    exact (encode_ok v l w hr hok).mono fun e w' ⟨he, hb⟩ => ⟨Or.inr ⟨hok, he⟩, hb⟩
  · exact (encode_long v l w hr h.texts (by have := h.len; omega) hl).mono fun e w' ⟨he, hb⟩ => ⟨Or.inl ⟨rfl, he⟩, hb⟩
theorem same_forms {l m : List V4} (hl : OkR l) (hm : OkR m) : (decide (l = m) == (form l == form m)) = true := by
  by_cases h : l = m
  · subst h; simp
  · have : form l ≠ form m := fun e => h (form_inj hl hm e)
    simp [h, this]
theorem OwnB.slice {base : Nat} {w : World} {v : Value} {xs : List UInt8} (h : OwnB base w v xs) : ∃ ao cap, v = .slice ao xs.length cap := by
  rcases h.bytes with ⟨hv, hx⟩ | ⟨g, cap, hv, _⟩
  · exact ⟨none, 0, by rw [hv, hx]; rfl⟩
  · exact ⟨_, _, hv⟩

set_option maxHeartbeats 1000000 in
theorem rowApart_law (u v : Value) (a b : List V4) (w : World) (hu : RowAt w u a) (hv : RowAt w v b) (ha : ∀ x ∈ a, RawOk 140737488355328 x) (hb : ∀ x ∈ b, RawOk 140737488355328 x) (la : a.length ≤ 1099511627776000) (lb : b.length ≤ 1099511627776000) :
    Calls Try.prog 7 #[u, v] w fun e w' => e = .returned (.bool true) ∧ Below w.heap.size w w' := by
  go_enter Try.func7, Try.ntmps7
  go_wp2_with fail
  refine (row_any 140737488355328 u a _ hu ha (by omega)).mono ?_
  rintro e w1 ⟨x, l, rfl, ox, okx, h1⟩
  have hv1 := hv.keep h1
  have rx := ox.row
  clear hu hv ha ox
  go_wp2_with fail
  refine (row_any 140737488355328 v b _ hv1 hb (by omega)).mono ?_
  rintro e w2 ⟨y, m, rfl, oy, oky, h2⟩
  have rx2 := rx.keep h2
  have ry2 := oy.row
  have H2 := keepA h1 h2
  have hll := okx.len
  have hml := oky.len
  clear hv1 hb oy h1 h2 rx
  go_wp2_with fail
  refine (enc_row rx2 okx).mono ?_
  rintro e w3 ⟨hE, h3⟩
  have rx3 := rx2.keep h3
  have ry3 := ry2.keep h3
  have H3 := keepA H2 h3
  clear rx2 ry2 H2
  rcases hE with ⟨_, rfl⟩ | ⟨okl, p, rfl, op⟩
  · go_wp2_with fail
    refine (enc_row ry3 oky).mono ?_
    rintro e w4 ⟨hF, h4⟩
    have H4 := keepA H3 h4
    rcases hF with ⟨_, rfl⟩ | ⟨okm, q, rfl, oq⟩
    all_goals
      go_wp2_with fail
      refine (alive_any _).mono ?_
      rintro e w5 ⟨rfl, h5⟩
      have H5 := keepA H4 h5
      go_wp2
      go_ret
      exact ⟨rfl, H5⟩
  · have bp := op.at
    clear op
    go_wp2_with fail
    refine (enc_row ry3 oky).mono ?_
    rintro e w4 ⟨hF, h4⟩
    have H4 := keepA H3 h4
    have rx4 := rx3.keep h4
    have ry4 := ry3.keep h4
    have bp4 := bp.keep h4
    clear rx3 ry3 bp H3
    rcases hF with ⟨_, rfl⟩ | ⟨okm, q, rfl, oq⟩
    · go_wp2_with fail
      refine (alive_any _).mono ?_
      rintro e w5 ⟨rfl, h5⟩
      have H5 := keepA H4 h5
      go_wp2
      go_ret
      exact ⟨rfl, H5⟩
    · have bq4 := oq.at
      clear oq
      have HS : Hid ((decide (l = m) == (form l == form m)) = true) := same_forms okl.out okm.out
      go_wp2_with fail
      refine (sameRow_any x y l m _ rx4 ry4 (by omega) (by omega)).mono ?_
      rintro e w5 ⟨rfl, h5⟩
      have H5 := keepA H4 h5
      have bp5 := bp4.keep h5
      have bq5 := bq4.keep h5
      clear rx4 ry4 bp4 bq4 H4
      generalize decide (l = m) = d1 at *
      go_wp2_with fail
      refine (same_any p q (form l) (form m) _ bp5 bq5).mono ?_
      rintro e w6 ⟨rfl, rfl⟩
      generalize (form l == form m) = d2 at *
      clear bp5 bq5
      go_wp2_with fail
      refine (alive_any _).mono ?_
      rintro e w7 ⟨rfl, h7⟩
      have H7 := keepA H5 h7
      go_wp2
      go_ret
      exact ⟨ret_true HS.out, H7⟩
end Go.Proofs.Ytfmnlgepllgpnaa

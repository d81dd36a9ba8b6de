/- The walk of the law's live question. -/
import Derived.Test.YtjajngngajnnpaaDoorK3R
namespace Go.Proofs.YtjajngngajnnpaaDoor
open Go.RowKit
set_option linter.unusedVariables false

theorem live_code : codeL [(2, 0, [97], false), (0, 0, [], false)] = [3, 97, 0, 0, 1] := by decide
theorem live_nfs : NFs [(2, 0, [97], false), (0, 0, [], false)] := by
  intro v hv
  simp at hv
  rcases hv with rfl | rfl
  · exact nf_text (by decide)
  · exact nf_null
theorem live_one (w : World) : Calls Tryd.prog 9 #[.string ⟨#[3, 97, 0, 0, 1]⟩] w fun e w' => (∃ rv, e = .returned (.tuple #[rv, .int .i64 0]) ∧ RowIs w' rv [(2, 0, [97], false), (0, 0, [], false)]) ∧ Below w.heap.size w w' := by
  refine (decode_any ⟨#[3, 97, 0, 0, 1]⟩ w (by decide)).mono fun e w' h => ?_
  obtain ⟨h | ⟨_, h⟩, hb⟩ := h
  · obtain ⟨l, rv, he, hn, hc, hr⟩ := h
    have : l = [(2, 0, [97], false), (0, 0, [], false)] := parse_all hn live_nfs (hc.trans live_code.symm)
    rw [this] at hr
    exact ⟨⟨rv, he, hr⟩, hb⟩
  · exact absurd live_code (h _ live_nfs)
theorem live_two (w : World) : Calls Tryd.prog 9 #[.string ⟨#[3, 97, 0]⟩] w fun e w' => e = .returned (.tuple #[.slice none 0 0, .int .i64 31]) ∧ Below w.heap.size w w' := by
  refine (decode_any ⟨#[3, 97, 0]⟩ w (by decide)).mono fun e w' h => ?_
  obtain ⟨h | ⟨he, h⟩, hb⟩ := h
  · obtain ⟨l, rv, he, hn, hc, hr⟩ := h
    have hv : NoVal [3, 97, 0] := no_val_text (no_text_one [97])
    exact absurd hc (no_code (l := []) (fun v hv => by cases hv) (by simp) hv l hn)
  · exact ⟨he, hb⟩
theorem live_enc : codeL [(2, 0, [97, 32], false)] = [3, 97, 0, 0] := by decide

theorem live_row (w : World) : RowIs (w.alloc (.cells #[.int .i64 2, .int .i64 0, .string ⟨#[97, 32]⟩, .bool false] 39)) (.slice (some ⟨w.heap.size, 0, none⟩) 1 1) [(2, 0, [97, 32], false)] :=
  ⟨_, 1, rfl, by decide, Or.inr ⟨_, rfl, row_new w 2 0 ⟨#[97, 32]⟩ false⟩⟩
theorem live_encode (w : World) : Calls Tryd.prog 13 #[.slice (some ⟨w.heap.size, 0, none⟩) 1 1] (w.alloc (.cells #[.int .i64 2, .int .i64 0, .string ⟨#[97, 32]⟩, .bool false] 39)) fun e w' => e = .returned (.string ⟨#[3, 97, 0, 0]⟩) ∧ Below w.heap.size w w' := by
  refine (encode_any _ _ _ (live_row w) ?_ (by rw [live_enc]; decide) ?_ (by decide)).mono ?_
  · intro v hv
    rw [List.mem_singleton.1 hv]
    exact Or.inr (Or.inr (Or.inl ⟨rfl, rfl, rfl⟩))
  · intro v hv
    rw [List.mem_singleton.1 hv]; decide
  · rintro e w' ⟨rfl, hb⟩
    exact ⟨by rw [live_enc], keepA (below_alloc (Below.refl _ _) _) hb⟩
theorem first_ok {W w1 w' : World} (h : Below W.heap.size W w1) (hb : Below w1.heap.size w1 w') : Below W.heap.size W w' := keepA h hb
theorem keepL {W w' : World} {g : Nat} (r0 : W.rangeAt g (0 * 4) (cellsV (2, 0, [97], false))) (h : Below W.heap.size W w') : Below W.heap.size W w' ∧ w'.cell? ⟨g, 0, none⟩ = some (.int .i64 2) ∧ w'.cell? ⟨g, 1, none⟩ = some (.int .i64 0) ∧ w'.cell? ⟨g, 2, none⟩ = some (.string ⟨#[97]⟩) ∧ w'.cell? ⟨g, 3, none⟩ = some (.bool false) := by
  have k := rangeAt_keep h r0
  exact ⟨h, k 0 _ rfl, k 1 _ rfl, k 2 _ rfl, k 3 _ rfl⟩

set_option maxHeartbeats 1000000 in
theorem alive_any (w : World) : Calls Tryd.prog 12 #[] w fun e w' => e = .returned (.bool true) ∧ Below w.heap.size w w' := by
  go_enter Tryd.func12, Tryd.ntmps12
  go_wp2_with fail
  refine (live_one _).mono ?_
  rintro e w1 ⟨⟨rv, rfl, hrow⟩, h1⟩
  go_wp2_with fail
  refine (live_two _).mono ?_
  rintro e w2 ⟨rfl, hb⟩
  have hrow2 := hrow.keep hb
  have h2 : Below w.heap.size w w2 := keepA h1 hb
  clear hb hrow h1
  obtain ⟨ao, cap, rfl, hcap, hc⟩ := hrow2
  rcases hc with h0 | ⟨g, rfl, hc⟩
  · simp at h0
  have r0 := hc 0 (by simp)
  clear hc
  go_wp2_with fail
  go_region_held3 (fun w' => Below w2.heap.size w2 w' ∧ w'.cell? ⟨g, 0, none⟩ = some (.int .i64 2) ∧ w'.cell? ⟨g, 1, none⟩ = some (.int .i64 0) ∧ w'.cell? ⟨g, 2, none⟩ = some (.string ⟨#[97]⟩) ∧ w'.cell? ⟨g, 3, none⟩ = some (.bool false)) (first | exact keepL r0 (by assumption) | exact keepL r0 (below_alloc (by assumption) _) | exact keepL r0 (Below.refl _ _).drew | exact keepL r0 (Below.refl _ _))
    ((first
      | (go_at_call 13; refine (live_encode _).mono ?_; rintro e w' ⟨rfl, hb⟩; have hk : Below w2.heap.size w2 w' := keepA (by assumption) hb; clear hb)
      | (go_at_call 22; refine (text_any _ _).mono ?_; rintro e w' ⟨rfl, hb⟩; have hk : Below w2.heap.size w2 w' := first_ok (by first | assumption | exact (Below.refl _ _).drew) hb; clear hb)))
  go_wp2
  go_ret
  exact ⟨rfl, keepA h2 (by assumption)⟩
end Go.Proofs.YtjajngngajnnpaaDoor

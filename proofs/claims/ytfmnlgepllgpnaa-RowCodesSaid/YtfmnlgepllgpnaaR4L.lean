/- The walk of the law's live question; bytes that the call made, as bytes that are read. -/
import Derived.Test.YtfmnlgepllgpnaaR4K
namespace Go.Proofs.Ytfmnlgepllgpnaa
open Go.RowKit
set_option linter.unusedVariables false

theorem OwnB.at {base : Nat} {w : World} {v : Value} {xs : List UInt8} (h : OwnB base w v xs) : Bytes w v xs := by
  have h0 := h
  obtain ⟨h1, h2⟩ := h
  rcases h2 with ⟨hv, hn⟩ | ⟨g, cap, cur, hv, hg, hh, hc, hm, hs, hx⟩
  · exact Or.inl ⟨hv, List.eq_nil_of_length_eq_zero hn⟩
  · rcases h0.bytes with ⟨hv', hx'⟩ | ⟨g', cap', hv', hb⟩
    · exact Or.inl ⟨hv', hx'⟩
    · rw [hv] at hv'
      cases hv'
      exact Or.inr ⟨_, cap, hv, hc, fun j hj => hb j hj⟩
theorem live_form : form [(1, 1, [], false), (0, 0, [], false)] = [2, 1, 1, 0, 0, 0, 0, 0, 0, 0, 0] := by decide
theorem live_ok : OkR [(1, 1, [], false), (0, 0, [], false)] := by
  refine ⟨by decide, ?_⟩
  rw [rvs_cons, rvs_cons]
  exact ⟨rv_num (by decide), rv_null, rvs_nil⟩
theorem live_row (w : World) : RowAt (w.alloc (.cells #[.int .i64 1, .int .i64 1, .string ⟨#[]⟩, .bool false, .int .i64 0, .int .i64 0, .string ⟨#[]⟩, .bool false] 40)) (.slice (some ⟨w.heap.size, 0, none⟩) 2 2) [(1, 1, [], false), (0, 0, [], false)] := by
  refine ⟨_, 2, rfl, by decide, Or.inr ⟨_, 0, rfl, fun k hk j u hu => ?_⟩⟩
  rw [cell_of_row _ _ _ _ _ _ (heap_alloc_new w _)]
  have hk2 : k = 0 ∨ k = 1 := by simp at hk; omega
  have hj : j < 4 := by
    have := (List.getElem?_eq_some_iff.1 hu).1
    rwa [cellsV_len] at this
  have hj4 : j = 0 ∨ j = 1 ∨ j = 2 ∨ j = 3 := by omega
  rcases hk2 with rfl | rfl <;> rcases hj4 with rfl | rfl | rfl | rfl <;> simpa [cellsV] using hu
theorem live_encode (w : World) : Calls Try.prog 9 #[.slice (some ⟨w.heap.size, 0, none⟩) 2 2] (w.alloc (.cells #[.int .i64 1, .int .i64 1, .string ⟨#[]⟩, .bool false, .int .i64 0, .int .i64 0, .string ⟨#[]⟩, .bool false] 40)) fun e w' =>
    (∃ g cap, e = .returned (.tuple #[.slice (some ⟨g, 0, none⟩) 11 cap, .int .i64 0]) ∧ 11 ≤ cap ∧ w'.cell? ⟨g, 0, none⟩ = some (.int .u8 2) ∧ w'.cell? ⟨g, 2, none⟩ = some (.int .u8 1)) ∧ Below w.heap.size w w' := by
  refine (encode_ok _ _ _ (live_row w) live_ok).mono ?_
  rintro e w' ⟨⟨v', rfl, hown⟩, hb⟩
  refine ⟨?_, keepA (below_alloc (Below.refl _ _) _) hb⟩
  rw [live_form] at hown
  obtain ⟨h1, h2⟩ := id hown
  rcases h2 with ⟨hv, hn⟩ | ⟨g0, cap0, cur, hv0, _, _, hc0, _⟩
  · simp at hn
  rcases hown.bytes with ⟨_, hx⟩ | ⟨g, cap, hv, hc⟩
  · cases hx
  · rw [hv] at hv0
    cases hv0
    refine ⟨g0, cap0, by rw [hv]; rfl, hc0, ?_, ?_⟩
    · have := hc 0 (by decide)
      simpa [Addr.add] using this
    · have := hc 2 (by decide)
      simpa [Addr.add] using this
theorem live_bytes (w : World) : Bytes (w.alloc (.cells #[.int .u8 1, .int .u8 5] 5)) (.slice (some ⟨w.heap.size, 0, none⟩) 2 2) [1, 5] := by
  refine Or.inr ⟨_, 2, rfl, by decide, fun j hj => ?_⟩
  have hj2 : j = 0 ∨ j = 1 := by simp at hj; omega
  rw [Addr.add_mid, cell_of_row _ _ _ _ _ _ (heap_alloc_new w _)]
  rcases hj2 with rfl | rfl <;> rfl
theorem live_none : NoForm [1, 5] := by
  have h := noForm_val (c := 1) (l := []) (r := [5]) rvs_nil (by decide) (noV_mark (by decide))
  exact h
theorem live_decode (w : World) : Calls Try.prog 11 #[.slice (some ⟨w.heap.size, 0, none⟩) 2 2] (w.alloc (.cells #[.int .u8 1, .int .u8 5] 5)) fun e w' => e = .returned (.tuple #[.slice none 0 0, .int .i64 41]) ∧ Below w.heap.size w w' := by
  refine (decode_any _ [1, 5] _ (live_bytes w) (by decide)).mono ?_
  rintro e w' ⟨⟨l, rv, _, hok, hf, _⟩ | ⟨he, _⟩, hb⟩
  · exact absurd hf (live_none l hok)
  · exact ⟨he, keepA (below_alloc (Below.refl _ _) _) hb⟩

set_option maxHeartbeats 1000000 in
theorem alive_any (w : World) : Calls Try.prog 15 #[] w fun e w' => e = .returned (.bool true) ∧ Below w.heap.size w w' := by
  go_enter Try.func15, Try.ntmps15
  go_wp2_with fail
  refine (num_any _ _).mono ?_
  rintro e w1 ⟨rfl, h1⟩
  go_wp2_with fail
  refine (live_encode _).mono ?_
  rintro e w2 ⟨⟨g, cap, rfl, hc, c0, c2⟩, hb⟩
  have h2 := keepA h1 hb
  clear hb h1
  go_wp2_with fail
  refine (live_decode _).mono ?_
  rintro e w3 ⟨rfl, hb⟩
  have h3 := keepA h2 hb
  have d0 := cell_keep hb c0
  have d2 := cell_keep hb c2
  clear hb h2 c0 c2
  go_wp2
  go_ret
  exact ⟨rfl, h3⟩
end Go.Proofs.Ytfmnlgepllgpnaa

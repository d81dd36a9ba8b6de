/- The walks of the document's own reading of a code, and of whether two rows are the same. -/
import Derived.Test.YtjajngngajnnpaaDoorK3U
namespace Go.Proofs.YtjajngngajnnpaaDoor
open Go.RowKit
set_option linter.unusedVariables false

theorem ext_rest (U : ByteArray) (n : Nat) (h : n ≤ U.size) : (U.extract n U.size).data.toList = rest U n := by
  rw [Lib.extract_data]
  have h1 : U.data.toList.drop n = rest U n := rfl
  simp [h1]
  exact List.take_of_length_le (by rw [rest_len]; omega)

theorem row_two (w : World) (x : V4) : ∀ k (h : k < [x].length), ((w.alloc (.cells #[.int .i64 x.1, .int .i64 x.2.1, .string ⟨x.2.2.1.toArray⟩, .bool x.2.2.2] 39)).alloc (.cells #[.int .i64 x.1, .int .i64 x.2.1, .string ⟨x.2.2.1.toArray⟩, .bool x.2.2.2] 39)).rangeAt (w.heap.size + 1) (k * 4) (cellsV [x][k]) := by
  have h := row_one (w.alloc (.cells #[.int .i64 x.1, .int .i64 x.2.1, .string ⟨x.2.2.1.toArray⟩, .bool x.2.2.2] 39)) x
  simpa using h
set_option maxHeartbeats 1000000 in
theorem refDecode_any (s : ByteArray) (w : World) (hs : s.size ≤ 1099511627776) :
    Calls Tryd.prog 10 #[.string s] w (Told w s) := by
  go_enter Tryd.func10, Tryd.ntmps10
  go_wp2
  go_loopw [0, 4] (fun t u wr => ∃ (U : ByteArray) (l : List V4), t = .string U ∧ OwnR w.heap.size wr u l ∧ Hid (s.data.toList = codeL l ++ U.data.toList) ∧ Hid (NFs l) ∧ l.length + U.size ≤ s.size ∧ Below w.heap.size w wr) (fun t _ _ => sizeV t)
  case atStart => exact ⟨s, [], rfl, World.ownsRow_nil _ _ _ _, rfl, (fun v hv => by cases hv), by simp, Below.refl _ _⟩
  case round =>
    obtain ⟨U, l, rfl, hown, HC, HN, hlen, hnx⟩ := hrel
    by_cases hU : 0 < U.size
    · go_wp2_with fail
      refine (first_any U _ hU (by omega)).mono ?_
      rintro e w1 ⟨⟨x, n, rfl, hn0, hnU, hx, hxr⟩ | ⟨rfl, hn⟩, hb⟩
      · have hown1 := hown.keepB hb
        have hn1 := keepA hnx hb
        have hs1 := hn1.size
        have hnz : ((n : Int) == 0) = false := by simp; omega
        clear hb hown hnx
        have HC2 : Hid (s.data.toList = codeL (l ++ [x]) ++ (U.extract n U.size).data.toList) := by
          show _ = _
          rw [HC.out, hxr, ext_rest U n hnU, codeL_app, List.append_assoc]
          simp [codeL]
        have HN2 : Hid (NFs (l ++ [x])) := nfs_snoc HN.out hx
        have hes : (U.extract n U.size).size = U.size - n := by rw [← len_str, ext_rest U n hnU, rest_len]
        clear HC HN hx hxr
        go_wp2_with (at_builtin; refine wp_appR _ rfl _ _ rfl w.heap.size _ l rfl ((hown1.alloc _).alloc _) (w1.heap.size + 1) 1 1 [x] rfl (row_two w1 x) rfl (by decide) (by omega) (by simp; omega) ?_)
        intro v' w2 hown2 hgrow
        have hn2 := (below_alloc (below_alloc hn1 _) _).trans (hgrow.belowR ((hown1.alloc _).alloc _) (by simp; omega))
        clear hgrow hown1 hn1
        go_wp2
        go_roundw
        case rel => exact ⟨_, l ++ [x], rfl, hown2, HC2, HN2, by rw [hes, List.length_append]; simp; omega, hn2⟩
        case measure => rw [sizeV_str, sizeV_str, hes]; omega
      · have HF : Hid (∀ l', NFs l' → codeL l' ≠ s.data.toList) := by
          show ∀ l', NFs l' → codeL l' ≠ s.data.toList
          rw [HC.out]
          refine no_code HN.out (fun e => ?_) hn
          have h1 := len_str U
          rw [e] at h1
          simp at h1; omega
        have hn1 := keepA hnx hb
        clear hn hb
        go_wp2
        exact bodyPost_ret (v := .tuple #[.slice none 0 0, .int .i64 31]) (by simp [results, Tryd.results10, go_sem]) rfl ⟨Or.inr ⟨rfl, HF⟩, below_alloc hn1 _⟩
    · have hU0 : U.data.toList = [] := by
        have h1 := len_str U
        exact List.eq_nil_of_length_eq_zero (by omega)
      have HC2 : Hid (codeL l = s.data.toList) := by
        show _ = _
        rw [HC.out, hU0, List.append_nil]
      clear HC hU0
      go_wp2
      exact bodyPost_ret (v := .tuple #[u4, .int .i64 0]) (by simp [results, Tryd.results10, go_sem]) rfl ⟨Or.inl ⟨l, _, rfl, HN, HC2, hown.row⟩, hnx⟩

/-- Two rows of the same values are the same. -/
theorem sameRow_any (u v : Value) (l : List V4) (w : World) (hu : RowIs w u l) (hv : RowIs w v l) (hl : l.length ≤ 1099511627776) :
    Calls Tryd.prog 11 #[u, v] w fun e w' => e = .returned (.bool true) ∧ Below w.heap.size w w' := by
  obtain ⟨ao, cap, rfl, hcap, hcl⟩ := hu
  obtain ⟨bo, cap2, rfl, hcap2, hcm⟩ := hv
  go_enter Tryd.func11, Tryd.ntmps11
  go_wp2
  go_loopw [5] (fun i wr => ∃ k : Nat, k ≤ l.length ∧ i = .int .i64 k ∧ Below w.heap.size w wr) (fun i _ => l.length - (intOf i).toNat)
  case atStart => exact ⟨0, Nat.zero_le _, rfl, Below.refl _ _⟩
  case round =>
    obtain ⟨k, hk, rfl, hnx⟩ := hrel
    by_cases h1 : k < l.length
    · rcases hcl with h0 | ⟨g, rfl, hcl⟩
      · rw [h0] at h1; simp at h1
      rcases hcm with h0 | ⟨g2, rfl, hcm⟩
      · rw [h0] at h1; simp at h1
      have r1 := rangeAt_keep hnx (hcl k h1)
      have r2 := rangeAt_keep hnx (hcm k h1)
      generalize l[k] = x at *
      clear hcl hcm
      go_wp2_with fail
      go_region_held3 (fun w' => Below wr.heap.size wr w' ∧ w'.cell? ⟨g, k * 4, none⟩ = some (.int .i64 x.1) ∧ w'.cell? ⟨g, k * 4 + 1, none⟩ = some (.int .i64 x.2.1) ∧ w'.cell? ⟨g, k * 4 + 2, none⟩ = some (.string ⟨x.2.2.1.toArray⟩) ∧ w'.cell? ⟨g, k * 4 + 3, none⟩ = some (.bool x.2.2.2) ∧ w'.cell? ⟨g2, k * 4, none⟩ = some (.int .i64 x.1) ∧ w'.cell? ⟨g2, k * 4 + 1, none⟩ = some (.int .i64 x.2.1) ∧ w'.cell? ⟨g2, k * 4 + 2, none⟩ = some (.string ⟨x.2.2.1.toArray⟩) ∧ w'.cell? ⟨g2, k * 4 + 3, none⟩ = some (.bool x.2.2.2)) (first | exact held_rows r1 r2 (by assumption) | exact held_rows r1 r2 (Below.refl _ _).drew | exact held_rows r1 r2 (Below.refl _ _)) (fail)
      clear r1 r2
      go_wp2
      go_roundw
      case rel => exact ⟨k + 1, by omega, by go_num, hnx.drew⟩
      case measure => simp [intOf]; omega
    · go_wp2
      go_ret
      exact ⟨rfl, hnx⟩
end Go.Proofs.YtjajngngajnnpaaDoor

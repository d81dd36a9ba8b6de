/- The walk of the document's own Encode at every row. -/
import Derived.Test.YtfmnlgepllgpnaaRBWalk
namespace Go.Proofs.Ytfmnlgepllgpnaa
open Go.RowKit
set_option linter.unusedVariables false

/-- What Encode tells of any row. -/
def EncP (base : Nat) (l : List V4) (e : Ending) (w' : World) : Prop :=
  (longR l = true ∧ e = .returned (.tuple #[.slice none 0 0, .int .i64 42])) ∨ (longR l = false ∧ rightR l = false ∧ e = .returned (.tuple #[.slice none 0 0, .int .i64 41])) ∨ (longR l = false ∧ rightR l = true ∧ ∃ v', e = .returned (.tuple #[v', .int .i64 0]) ∧ OwnB base w' v' (form l))
theorem long_found {l : List V4} {k : Nat} (h : k < l.length) (hp : longV l[k] = true) : longR l = true := by
  unfold longR
  rw [any_found longV l k h hp]; simp
theorem long_none {l : List V4} (h12 : ¬ 12 < l.length) (h : l.any longV = false) : longR l = false := by
  unfold longR
  simp [h12, h]
/-- The first look: is it long, is it right? -/
theorem refByte (u k : Nat) : (u / 256 ^ k) % 256 = (UInt8.ofNat (u / 256 ^ k)).toNat := by
  rw [UInt8.toNat_ofNat']

theorem bv_mod (n : Nat) : Value.int .u8 ((n : Int) % 256) = bv (UInt8.ofNat n) := by
  unfold bv
  rw [UInt8.toNat_ofNat']
  congr 1
theorem bv_div {n : Nat} (h : n ≤ 400) : Value.int .u8 ((n : Int) / 256) = bv (UInt8.ofNat (n / 256)) := by
  unfold bv
  rw [UInt8.toNat_ofNat']
  congr 1
  omega
set_option maxHeartbeats 4000000 in
set_option maxRecDepth 100000 in
theorem refEncode_any (v : Value) (l : List V4) (w : World) (hrow : RowAt w v l) (hs : ∀ x ∈ l, x.2.2.1.length ≤ 140737488355328) (hn : ∀ x ∈ l, In64 x) (hl : l.length ≤ 140737488355328) :
    Calls Try.prog 10 #[v] w fun e w' => EncP w.heap.size l e w' ∧ Below w.heap.size w w' := by
  have hrow0 := hrow
  obtain ⟨ao, cap, rfl, hcap⟩ := hrow.cap
  clear hrow
  by_cases h12 : 12 < l.length
  · have HL : Hid (longR l = true) := by show _ = _; simp [longR, h12]
    go_enter Try.func10, Try.ntmps10
    go_wp2
    exact bodyPost_ret (v := .tuple #[.slice none 0 0, .int .i64 42]) (by simp [results, Try.results10, go_sem]) rfl ⟨Or.inl ⟨HL.out, rfl⟩, Below.refl _ _⟩
  go_enter Try.func10, Try.ntmps10
  go_wp2
  go_loopw [4, 5] (fun g i wr => ∃ k : Nat, k ≤ l.length ∧ i = .int .i64 k ∧ g = .bool ((l.take k).all rightV) ∧ Hid ((l.take k).any longV = false) ∧ Below w.heap.size w wr) (fun _ i _ => l.length - (intOf i).toNat)
  case atStart => exact ⟨0, Nat.zero_le _, rfl, rfl, rfl, Below.refl _ _⟩
  case round =>
    obtain ⟨k, hk, rfl, rfl, HN, hnx⟩ := hrel
    obtain ⟨ao', cap', hv', _, hcells⟩ := hrow0.keep hnx
    cases hv'
    by_cases hlt : k < l.length
    · obtain ⟨g, o, K, N, S, B, rfl, hx, hr⟩ := row_cell hlt hcells
      have HA : Hid ((l.take (k + 1)).all rightV = ((l.take k).all rightV && rightV (K, N, S.data.toList, B))) := by
        have := all_take_succ rightV l k hlt
        rwa [hx] at this
      have HT : Hid ((l.take (k + 1)).any longV = ((l.take k).any longV || longV (K, N, S.data.toList, B))) := by
        have := any_take_succ longV l k hlt
        rwa [hx] at this
      have HF : Hid (longV (K, N, S.data.toList, B) = true → longR l = true) := fun h => long_found hlt (by rw [hx]; exact h)
      have hsz : S.size ≤ 140737488355328 := by
        have := hs _ (List.getElem_mem hlt)
        rw [hx] at this
        simpa using this
      have hbs := hnx.size
      clear hcells hx
      generalize (l.take k).all rightV = rr at *
      go_wp2_with (refine wpList_load_mid rfl _ _ rfl g (o + k * 4) (by rfl) [.int .i64 K, .int .i64 N, .string S, .bool B] _ hr Try.underlying40 rfl infoV ?_)
      refine (refRight_is K N S B _ (r := rightV (K, N, S.data.toList, B)) rfl).mono ?_
      rintro e w2 ⟨rfl, hb2⟩
      have h2 := keepA hnx hb2
      have hr2 : w2.rangeAt g (o + k * 4) [.int .i64 K, .int .i64 N, .string S, .bool B] := rangeAt_keep hb2 hr
      have c0 : w2.cell? ⟨g, o + k * 4, none⟩ = some (.int .i64 K) := hr2 0 _ rfl
      have c2 : w2.cell? ⟨g, o + k * 4 + 2, none⟩ = some (.string S) := hr2 2 _ rfl
      generalize rightV (K, N, S.data.toList, B) = rv at *
      clear hr hr2 hb2 hnx
      by_cases hK : K = 2
      · subst hK
        by_cases h400 : 400 < S.size
        · have HL : Hid (longR l = true) := HF.out (by simp [longV, h400])
          clear HF HT HN HA
          cases rr
          all_goals
            go_wp2
            exact bodyPost_ret (v := .tuple #[.slice none 0 0, .int .i64 42]) (by simp [results, Try.results10, go_sem]) rfl ⟨Or.inl ⟨HL.out, rfl⟩, h2⟩
        · have HX : Hid ((l.take (k + 1)).any longV = false) := by
            show _ = _
            rw [HT.out, HN.out]
            simp [longV]; omega
          clear HF HT HN
          cases rr
          all_goals
            go_wp2
            go_roundw
            case rel => exact ⟨k + 1, by omega, by go_num, by rw [HA.out]; rfl, HX, h2⟩
            case measure => simp [intOf]; omega
      · have hK2 : (K == 2) = false := by simp [hK]
        have HX : Hid ((l.take (k + 1)).any longV = false) := by
          show _ = _
          rw [HT.out, HN.out]
          simp [longV, hK2]
        clear HF HT HN hK
        cases rr
        all_goals
          go_wp2
          go_roundw
          case rel => exact ⟨k + 1, by omega, by go_num, by rw [HA.out]; rfl, HX, h2⟩
          case measure => simp [intOf]; omega
    · obtain rfl : k = l.length := by omega
      rw [List.take_length]
      have HL : Hid (longR l = false) := by
        have := HN.out
        rw [List.take_length] at this
        exact long_none h12 this
      clear HN hcells
      cases hrr : l.all rightV
      · have HR : Hid (rightR l = false) := hrr
        clear hrr
        go_wp2
        exact bodyPost_ret (v := .tuple #[.slice none 0 0, .int .i64 41]) (by simp [results, Try.results10, go_sem]) rfl ⟨Or.inr (Or.inl ⟨HL.out, HR.out, rfl⟩), hnx⟩
      · have HR : Hid (rightR l = true) := hrr
        have HOK : Hid (OkR l) := okR_of HL.out hrr hn
        clear hrr
        have hw := count_byte l.length (by omega)
        have O2 := ownB_new w.heap.size wr (UInt8.ofNat l.length) hnx.size
        have h3 := hnx.alloc hnx.size (.cells #[.int .u8 (UInt8.ofNat l.length).toNat] 5)
        rw [hw] at O2 h3
        clear hw hnx
        go_wp2
        generalize (wr.alloc (.cells #[.int .u8 (l.length : Int)] 5)) = w3 at *
        go_loopw [7, 8] (fun u i wr => ∃ k : Nat, k ≤ l.length ∧ i = .int .i64 k ∧ OwnB w.heap.size wr u (UInt8.ofNat l.length :: rcL (l.take k)) ∧ Below w.heap.size w wr) (fun _ i _ => l.length - (intOf i).toNat)
        case atStart => exact ⟨0, Nat.zero_le _, rfl, O2, h3⟩
        case round =>
          obtain ⟨k, hk, rfl, hown, hnx⟩ := hrel
          obtain ⟨ao', cap', hv', _, hcells⟩ := hrow0.keep hnx
          cases hv'
          by_cases hlt : k < l.length
          · obtain ⟨g, o, K, N, S, B, rfl, hx, hr⟩ := row_cell hlt hcells
            have hlen : (UInt8.ofNat l.length :: rcL (l.take k)).length ≤ 4900 := by
              have := rcL_len (rvs_take HOK.out.2 k)
              rw [List.length_take] at this
              simp only [List.length_cons]; omega
            have hv := HOK.out.2 _ (List.getElem_mem hlt)
            have HT : Hid (UInt8.ofNat l.length :: rcL (l.take (k + 1)) = (UInt8.ofNat l.length :: rcL (l.take k)) ++ rc l[k]) := by
              show _ = _
              rw [rcL_take_succ l k hlt]; rfl
            rw [hx] at hv HT
            have hsz : S.size ≤ 400 := by
              have := hv.2
              simpa using this
            have hkd := right_kind hv.1
            have hbs := hnx.size
            have hnb := hnx.alloc hbs (.cells #[.int .i64 K, .int .i64 N, .string S, .bool B] 40)
            clear hcells hx hv O2 h3
            generalize UInt8.ofNat l.length :: rcL (l.take k) = X at *
            have HO := hown.alloc (.cells #[.int .i64 K, .int .i64 N, .string S, .bool B] 40)
            have bx := Box.new wr K N S B 40
            simp only at hkd
            rcases hkd with rfl | rfl | rfl | rfl
            · rw [rc_null'] at HT
              go_wp2_with (first
                | (refine wpList_load_mid rfl _ _ rfl g (o + k * 4) (by rfl) [.int .i64 0, .int .i64 N, .string S, .bool B] _ hr Try.underlying40 rfl infoV ?_)
                | (at_builtin; refine wp_appB _ rfl _ _ rfl w.heap.size _ X rfl (HO.alloc _) (wr.heap.size + 1) 1 #[.int .u8 0] [0] rfl (new_at _ _ (by simp)) rfl rfl (by decide) (by omega) (by simp; omega) ?_))
              intro v1 w1 hown1 hgrow
              have h4 := (hnb.alloc hnb.size _).trans (hgrow.below (HO.alloc _) (by simp; omega))
              clear hgrow
              go_wp2
              go_roundw
              case rel => exact ⟨k + 1, by omega, by go_num, by rw [HT.out]; exact hown1, h4⟩
              case measure => simp [intOf]; omega
            · rw [rc_num'] at HT
              have HW := wrap_bits N
              have hU := bits64_small N
              generalize bits64 N = U at *
              go_wp2_with (first
                | (refine wpList_load_mid rfl _ _ rfl g (o + k * 4) (by rfl) [.int .i64 1, .int .i64 N, .string S, .bool B] _ hr Try.underlying40 rfl infoV ?_)
                | (at_builtin; refine wp_appB _ rfl _ _ rfl w.heap.size _ X rfl (HO.alloc _) (wr.heap.size + 1) 1 #[.int .u8 1] [1] rfl (new_at _ _ (by simp)) rfl rfl (by decide) (by omega) (by simp; omega) ?_))
              intro v1 w1 hown1 hgrow
              have h4 := (hnb.alloc hnb.size _).trans (hgrow.below (HO.alloc _) (by simp; omega))
              have c1 : w1.cell? ⟨wr.heap.size, 1, none⟩ = some (.int .i64 N) := keep_cell hgrow hown (Nat.le_refl _) (by simp; omega) (((Box.new wr 1 N S B 40).alloc _).c1)
              have hl1 : (X ++ [1]).length ≤ 4901 := by rw [List.length_append]; simp; omega
              clear hgrow HO bx hr hown hnx hnb
              go_wp2
              go_loopw [7, 10, 11] (fun u q i wr => ∃ j : Nat, j ≤ 8 ∧ i = .int .i64 j ∧ q = .int .u64 ((U / 256 ^ j : Nat) : Int) ∧ OwnB w.heap.size wr u (X ++ [1] ++ (leN 8 U).take j) ∧ Below w.heap.size w wr) (fun _ _ i _ => 8 - (intOf i).toNat)
              case atStart => exact ⟨0, Nat.zero_le _, rfl, by simp, by rw [List.take_zero, List.append_nil]; exact hown1, h4⟩
              case round =>
                obtain ⟨j, hj, rfl, rfl, hown, hnx⟩ := hrel
                have hlen2 : (X ++ [1] ++ (leN 8 U).take j).length ≤ 4909 := by
                  rw [List.length_append, List.length_take]; omega
                have hbs2 := hnx.size
                by_cases hj8 : j < 8
                · have HL8 : Hid (X ++ [1] ++ (leN 8 U).take (j + 1) = X ++ [1] ++ (leN 8 U).take j ++ [UInt8.ofNat (U / 256 ^ j)]) := by
                    show _ = _
                    rw [leN_take 8 U j hj8, List.append_assoc (X ++ [1])]
                  have HQ : Hid (U / 256 ^ (j + 1) = U / 256 ^ j / 256) := by
                    show _ = _
                    rw [Nat.div_div_eq_div_mul, Nat.pow_succ]
                  have hV : U / 256 ^ j < 18446744073709551616 := Nat.lt_of_le_of_lt (Nat.div_le_self _ _) hU
                  generalize U / 256 ^ j = V at *
                  have hbyte : ((UInt8.ofNat V).toNat : Int) = (V : Int) % 256 := by rw [UInt8.toNat_ofNat']; omega
                  go_wp2_with (at_builtin; refine wp_appB _ rfl _ _ rfl w.heap.size _ (X ++ [1] ++ (leN 8 U).take j) rfl (hown.alloc _) wr.heap.size 1 _ [UInt8.ofNat V] rfl (heap_alloc_new wr _) ?hy rfl (by decide) (by omega) (by simp; omega) ?_)
                  case hy => unfold bv; rw [hbyte]
                  intro v2 w2 hown2 hgrow2
                  have h5 := (hnx.alloc hbs2 _).trans (hgrow2.below (hown.alloc _) (by simp; omega))
                  have hown3 : OwnB w.heap.size w2 v2 (X ++ [1] ++ (leN 8 U).take (j + 1)) := by rw [HL8.out]; simpa using hown2
                  clear hgrow2 hown2
                  go_wp2
                  go_roundw
                  case rel => exact ⟨j + 1, by omega, by go_num, by rw [HQ.out]; rfl, hown3, h5⟩
                  case measure => simp [intOf]; omega
                · obtain rfl : j = 8 := by omega
                  rw [List.take_of_length_le (by rw [leN_len]; omega)] at hown
                  go_wp2
                  go_roundw
                  case rel => exact ⟨k + 1, by omega, by go_num, by rw [HT.out]; simpa using hown, hnx⟩
                  case measure => simp [intOf]; omega
            · rw [rc_text'] at HT
              go_wp2_with (first
                | (refine wpList_load_mid rfl _ _ rfl g (o + k * 4) (by rfl) [.int .i64 2, .int .i64 N, .string S, .bool B] _ hr Try.underlying40 rfl infoV ?_)
                | (at_builtin; refine wp_appB _ rfl _ _ rfl w.heap.size _ X rfl (HO.alloc _) (wr.heap.size + 1) 3 _ [2, UInt8.ofNat S.size, UInt8.ofNat (S.size / 256)] rfl (new_at _ _ (by simp)) ?hz rfl (by decide) (by omega) (by simp; omega) ?_))
              case hz => exact ⟨rfl, bv_mod _, bv_div hsz⟩
              intro v1 w1 hown1 hgrow
              have h4 := (hnb.alloc hnb.size _).trans (hgrow.below (HO.alloc _) (by simp; omega))
              have c1 : w1.cell? ⟨wr.heap.size, 2, none⟩ = some (.string S) := keep_cell hgrow hown (Nat.le_refl _) (by simp; omega) (((Box.new wr 2 N S B 40).alloc _).c2)
              have hs4 := h4.size
              have hl1 : (X ++ [2, UInt8.ofNat S.size, UInt8.ofNat (S.size / 256)]).length ≤ 4903 := by rw [List.length_append]; simp; omega
              clear hgrow HO bx hr hown hnx hnb
              go_wp2_with (at_builtin; refine wp_appS _ rfl _ _ rfl w.heap.size _ (X ++ [2, UInt8.ofNat S.size, UInt8.ofNat (S.size / 256)]) rfl hown1 S rfl (by omega) hs4 ?_)
              intro v2 w2 hown2 hb2
              have h5 := h4.trans hb2
              clear hb2
              go_wp2
              go_roundw
              case rel => exact ⟨k + 1, by omega, by go_num, by rw [HT.out, len_str]; simpa [leN] using hown2, h5⟩
              case measure => simp [intOf]; omega
            · rw [rc_bool'] at HT
              cases B
              · go_wp2_with (first
                  | (refine wpList_load_mid rfl _ _ rfl g (o + k * 4) (by rfl) [.int .i64 3, .int .i64 N, .string S, .bool false] _ hr Try.underlying40 rfl infoV ?_)
                  | (at_builtin; refine wp_appB _ rfl _ _ rfl w.heap.size _ X rfl (HO.alloc _) (wr.heap.size + 1) 1 #[.int .u8 3] [3] rfl (new_at _ _ (by simp)) rfl rfl (by decide) (by omega) (by simp; omega) ?_))
                intro v1 w1 hown1 hgrow
                have h4 := (hnb.alloc hnb.size _).trans (hgrow.below (HO.alloc _) (by simp; omega))
                clear hgrow
                go_wp2
                go_roundw
                case rel => exact ⟨k + 1, by omega, by go_num, by rw [HT.out]; exact hown1, h4⟩
                case measure => simp [intOf]; omega
              · go_wp2_with (first
                  | (refine wpList_load_mid rfl _ _ rfl g (o + k * 4) (by rfl) [.int .i64 3, .int .i64 N, .string S, .bool true] _ hr Try.underlying40 rfl infoV ?_)
                  | (at_builtin; refine wp_appB _ rfl _ _ rfl w.heap.size _ X rfl (HO.alloc _) (wr.heap.size + 1) 1 #[.int .u8 4] [4] rfl (new_at _ _ (by simp)) rfl rfl (by decide) (by omega) (by simp; omega) ?_))
                intro v1 w1 hown1 hgrow
                have h4 := (hnb.alloc hnb.size _).trans (hgrow.below (HO.alloc _) (by simp; omega))
                clear hgrow
                go_wp2
                go_roundw
                case rel => exact ⟨k + 1, by omega, by go_num, by rw [HT.out]; exact hown1, h4⟩
                case measure => simp [intOf]; omega
          · obtain rfl : k = l.length := by omega
            rw [List.take_length] at hown
            go_wp2
            exact bodyPost_ret (v := .tuple #[u7, .int .i64 0]) (by simp [results, Try.results10, go_sem]) rfl ⟨Or.inr (Or.inr ⟨HL.out, HR.out, _, rfl, hown⟩), hnx⟩
end Go.Proofs.Ytfmnlgepllgpnaa

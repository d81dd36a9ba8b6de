/- The document's Scan. -/
import Derived.Test.YtbkeaajnhalekaaGreatDoorL13Y
import Derived.Test.YtbkeaajnhalekaaGreatDoorS13
namespace Go.Proofs.YtbkeaajnhalekaaGreatDoor
open Go.RowKit
set_option linter.unusedVariables false
set_option linter.unusedSimpArgs false

/-- Where the document's Scan stands. -/
structure DSt (w W : World) (s : ByteArray) (q : Nat) (v : Value) (L : List Tok) : Prop where
  row : TRow w.heap.size W v L
  bl : Below w.heap.size w W
  rs : Rst s q L
  no : L.length ≤ 600
theorem Rst.bl {s : ByteArray} {q : Nat} {L : List Tok} (h : Rst s q L) (hn : 0 < blN (rest s q)) : Rst s (q + blN (rest s q)) L := by
  unfold Rst at h ⊢
  rw [← scA_bl s L.length rfl hn]
  exact h
theorem stp_of {s : ByteArray} {q : Nat} (hq : q < s.size) (h : ¬ 0 < blN (rest s q)) : stp (rest s q) = if isLt s[q] then wdS (rest s q) else if isDg s[q] then nmS (rest s q) else if s[q] == 39 then txS (rest s (q + 1)) else sgS (rest s q) := by
  unfold stp
  rw [if_neg h]
  rw [rest_at s hq]
theorem DTo.cases {st : Stp} {i : Nat} {e : Ending} (h : DTo st i e) : (∃ er, st = .no er ∧ e = .returned (.tuple #[.agg #[.int .i64 0, .string ⟨#[]⟩, .int .i64 0, .int .i64 0], .int .i64 0, .string (stB er)])) ∨ (∃ k t v n, st = .tk k t v n ∧ e = .returned (.tuple #[.agg #[.int .i64 k, .string ⟨t.toArray⟩, .int .i64 v, .int .i64 i], .int .i64 (n : Nat), .string ⟨#[48, 48, 48, 48, 48]⟩])) := by
  cases st with
  | bl n => exact h.elim
  | no er => exact Or.inl ⟨er, rfl, h⟩
  | tk k t v n => exact Or.inr ⟨k, t, v, n, rfl, h⟩
set_option maxHeartbeats 8000000 in
set_option maxRecDepth 100000 in
theorem scan_ref (s : ByteArray) (w : World) : Calls Tryz.prog 14 #[.string s] w fun e w' => ScTo w s e w' := by
  by_cases hbig : 2000 < s.size
  · have hb' : (s.size : Int) > 2000 := by omega
    have HG : Hid (ScTo w s (.returned (.tuple #[.slice none 0 0, .string ⟨#[53, 52, 48, 48, 48]⟩])) w) := .no 4 (scF_big hbig) rfl (Below.refl _ _)
    clear hbig
    go_enter Tryz.func14, Tryz.ntmps14
    go_wp2_with fail
    go_ret2
    exact HG.out
  · have hb' : ¬ (s.size : Int) > 2000 := by omega
    have hs : s.size ≤ 10000 := by omega
    have HSF := Go.Proofs.YtbkeaajnhalekaaGreatDoor.Hid.mk' (scF_A (s := s) (by omega))
    clear hbig
    go_enter Tryz.func14, Tryz.ntmps14
    go_wp2_with fail
    go_loopw [4, 5] (fun x4 x5 wr => ∃ (q cap : Nat) (ao : Option Addr) (L : List Tok), x4 = .slice ao L.length cap ∧ x5 = .int .i64 q ∧ q ≤ s.size ∧ Hid (DSt w wr s q (.slice ao L.length cap) L)) (fun _ x5 _ => s.size - (intOf x5).toNat)
    case atStart => exact ⟨0, 0, none, [], rfl, rfl, Nat.zero_le _, ⟨Row.nil_ _ _ _ _ _, Below.refl _ _, by unfold Rst; simp only [List.length_nil]; cases scA s 0 0 <;> simp, by simp⟩⟩
    case round =>
      rename World => wr
      obtain ⟨q, cap, ao, L, rfl, rfl, hq, HD⟩ := hrel
      have hL6 := HD.out.no
      by_cases hlt : q < s.size
      · have tl : (q : Int) < (s.size : Int) := by omega
        have hbk := blank_ref s hs hlt wr
        by_cases hbl : 0 < blN (rest s q)
        · have hle := blN_le (rest s q)
          rw [rest_len] at hle
          have HD2 : Hid (DSt w wr s (q + blN (rest s q)) (.slice ao L.length cap) L) := ⟨HD.out.row, HD.out.bl, HD.out.rs.bl hbl, HD.out.no⟩
          generalize blN (rest s q) = n at *
          have tn : (n : Int) > 0 := by omega
          clear HD
          go_wp2_with fail
          refine hbk.mono ?_
          rintro e w1 ⟨rfl, rfl⟩
          clear hbk
          go_wp2_with fail
          go_roundw
          case rel => exact ⟨q + n, cap, ao, L, rfl, by go_num, by omega, HD2⟩
          case measure => simp [intOf]; omega
        · have hst := stp_of hlt hbl
          have h0 : blN (rest s q) = 0 := by omega
          rw [h0] at hbk
          have hle := letter_ref (s[q].toNat : Int)
          have hdi := digit_ref (s[q].toNat : Int)
          rw [ltI_of] at hle
          rw [dgI_of] at hdi
          have HNO : Hid (∀ er, stp (rest s q) = .no er → ∀ W, Below w.heap.size w W → ScTo w s (.returned (.tuple #[.slice none 0 0, .string (stB er)])) W) := fun er ho W hW => .no er (HSF.out.trans (HD.out.rs.no hlt ho)) rfl hW
          have HTK : Hid (∀ k t v n, stp (rest s q) = .tk k t v n → 1 ≤ n ∧ n ≤ s.size - q ∧ (L.length = 600 → ∀ W, Below w.heap.size w W → ScTo w s (.returned (.tuple #[.slice none 0 0, .string ⟨#[53, 52, 48, 48, 48]⟩])) W) ∧ (L.length < 600 → Rst s (q + n) (L ++ [⟨k, t, v, q⟩]))) := fun k t v n ho => by
            have h1 := stp_tk ho
            rw [rest_len] at h1
            obtain ⟨h6, hrs⟩ := HD.out.rs.tk hlt ho
            exact ⟨h1.1, h1.2, fun h W hW => .no 4 (HSF.out.trans (h6 h)) rfl hW, hrs⟩
          have HROW := Go.Proofs.YtbkeaajnhalekaaGreatDoor.Hid.mk' HD.out.row
          have HBL := Go.Proofs.YtbkeaajnhalekaaGreatDoor.Hid.mk' HD.out.bl
          have hwsz : w.heap.size ≤ wr.heap.size := HD.out.bl.size
          have HBX := Go.Proofs.YtbkeaajnhalekaaGreatDoor.Hid.mk' (tok_box0 wr)
          clear HD hbl h0
          have hcl : (isLt s[q] = true ∧ stp (rest s q) = wdS (rest s q)) ∨ (isLt s[q] = false ∧ isDg s[q] = true ∧ stp (rest s q) = nmS (rest s q)) ∨ (isLt s[q] = false ∧ isDg s[q] = false ∧ (s[q].toNat : Int) = 39 ∧ stp (rest s q) = txS (rest s (q + 1))) ∨ (isLt s[q] = false ∧ isDg s[q] = false ∧ ((s[q].toNat : Int) == 39) = false ∧ stp (rest s q) = sgS (rest s q)) := by
            cases c1 : isLt s[q] with
            | true => exact Or.inl ⟨rfl, by rw [hst, c1]; rfl⟩
            | false =>
              cases c2 : isDg s[q] with
              | true => exact Or.inr (Or.inl ⟨rfl, rfl, by rw [hst, c1, c2]; rfl⟩)
              | false =>
                by_cases c3 : (s[q].toNat : Int) = 39
                · have e39 : s[q] = 39 := (u8_eq (n := 39) (by omega)).1 c3
                  exact Or.inr (Or.inr (Or.inl ⟨rfl, rfl, c3, by rw [hst, c1, c2, e39]; rfl⟩))
                · have e39 : (s[q] == 39) = false := by
                    rw [beq_eq_false_iff_ne]
                    exact fun e => c3 (by rw [e]; rfl)
                  exact Or.inr (Or.inr (Or.inr ⟨rfl, rfl, by simpa using c3, by rw [hst, c1, c2, e39]; rfl⟩))
          clear hst
          go_wp2_with fail
          refine hbk.mono ?_
          rintro e w1 ⟨rfl, hw1⟩
          obtain rfl := hw1.symm
          clear hbk
          go_wp2_with fail
          refine (hle _).mono ?_
          rintro e w2 ⟨rfl, hw2⟩
          subst hw2
          clear hle
          go_wp2_with fail
          refine (hdi _).mono ?_
          rintro e w3 ⟨rfl, hw3⟩
          subst hw3
          clear hdi
          rcases hcl with ⟨c1, hst⟩ | ⟨c1, c2, hst⟩ | ⟨c1, c2, c3, hst⟩ | ⟨c1, c2, c3, hst⟩
          · rw [c1]
            have hcall := word_ref s hs hlt (wr.alloc (.cells #[.int .i64 0, .string ⟨#[]⟩, .int .i64 0, .int .i64 0] 41))
            go_wp2_with fail
            refine hcall.mono ?_
            rintro e w4 ⟨hd, hb4⟩
            have hd := hd.d
            rw [← hst] at hd
            obtain ⟨z0, z1, z2, z3, zf⟩ := HBX.out w4 hb4
            have hsz4 : wr.heap.size + 1 ≤ w4.heap.size := by have := hb4.size; simpa using this
            have HB4 : Hid (Below wr.heap.size wr w4) := ((Below.refl _ _).alloc (Nat.le_refl _) _).trans (hb4.mono (by simp))
            have HB5 : Hid (∀ a0 a1 a2 a3, Below wr.heap.size wr ((((w4.setCell ⟨wr.heap.size, 0, none⟩ a0).setCell ⟨wr.heap.size, 1, none⟩ a1).setCell ⟨wr.heap.size, 2, none⟩ a2).setCell ⟨wr.heap.size, 3, none⟩ a3)) := fun a0 a1 a2 a3 => (((HB4.out.setCell (p := ⟨wr.heap.size, 0, none⟩) (Nat.le_refl _) _).setCell (p := ⟨wr.heap.size, 1, none⟩) (Nat.le_refl _) _).setCell (p := ⟨wr.heap.size, 2, none⟩) (Nat.le_refl _) _).setCell (p := ⟨wr.heap.size, 3, none⟩) (Nat.le_refl _) _
            have HB6 : Hid (∀ W, Below wr.heap.size wr W → Below w.heap.size w W) := fun W hW => HBL.out.trans (hW.mono HBL.out.size)
            clear HBX hb4 hcall hst
            rcases hd.cases with ⟨er, ho, rfl⟩ | ⟨k, t, v, n, ho, rfl⟩
            · have HG := Go.Proofs.YtbkeaajnhalekaaGreatDoor.Hid.mk' (HNO.out er ho)
              have hse := st_ne er
              generalize stB er = sb at *
              clear HNO HTK ho hd
              rcases hse with rfl | rfl | rfl | rfl
              all_goals
                go_wp2_with fail
                go_ret2
                exact HG.out _ (HB6.out _ (HB5.out _ _ _ _))
            · obtain ⟨hn1, hn2, h6, hrs⟩ := HTK.out k t v n ho
              by_cases h600 : L.length = 600
              · have HG := Go.Proofs.YtbkeaajnhalekaaGreatDoor.Hid.mk' (h6 h600)
                have h6' : (L.length : Int) ≥ 600 := by omega
                clear HNO HTK ho hd h6 hrs h600
                generalize (⟨t.toArray⟩ : ByteArray) = tb at *
                go_wp2_with fail
                go_ret2
                exact HG.out _ (HB6.out _ (HB5.out _ _ _ _))
              · have h6' : ¬ (L.length : Int) ≥ 600 := by omega
                have HR := Go.Proofs.YtbkeaajnhalekaaGreatDoor.Hid.mk' (hrs (by omega))
                have hl10 : L.length ≤ 100000 := by omega
                have HRW : Hid (∀ W, Below wr.heap.size wr W → TRow w.heap.size W (.slice ao L.length cap) L) := fun W hW => Row.of_block HROW.out (fun c hc => hW.block c (HROW.out.lo c hc).2)
                have HB7 : Hid (∀ a0 a1 a2 a3 o, Below wr.heap.size wr (((((w4.setCell ⟨wr.heap.size, 0, none⟩ a0).setCell ⟨wr.heap.size, 1, none⟩ a1).setCell ⟨wr.heap.size, 2, none⟩ a2).setCell ⟨wr.heap.size, 3, none⟩ a3).alloc o)) := fun a0 a1 a2 a3 o => (HB5.out a0 a1 a2 a3).alloc (HB5.out a0 a1 a2 a3).size o
                clear HNO HTK ho hd h6 hrs h600
                go_wp2_with (at_builtin; refine wp_appT _ rfl _ _ rfl w.heap.size _ L rfl (HRW.out _ (HB7.out _ _ _ _ _)) w4.heap.size ⟨k, t, v, q⟩ rfl (new_atT _ _ (by simp)) hl10 (by simp; omega) ?_)
                intro g cap5 w5 hrow5 hb5
                have HD5 : Hid (DSt w w5 s (q + n) (.slice (some ⟨g, 0, none⟩) (L.length + 1) cap5) (L ++ [⟨k, t, v, q⟩])) := ⟨hrow5, (HB6.out _ (HB7.out _ _ _ _ _)).trans hb5, HR.out, by simp; omega⟩
                have hlen : (L ++ [(⟨k, t, v, q⟩ : Tok)]).length = L.length + 1 := by simp
                rw [← hlen] at HD5
                have HLEN := Go.Proofs.YtbkeaajnhalekaaGreatDoor.Hid.mk' hlen
                clear hrow5 hb5 HR HRW HB7 HB6 HB5 HB4 hlen HROW HBL
                generalize L ++ [(⟨k, t, v, q⟩ : Tok)] = L5 at *
                go_wp2_with fail
                go_roundw
                case rel => exact ⟨q + n, cap5, _, L5, by rw [HLEN.out], by go_num, by omega, HD5⟩
                case measure => simp [intOf]; omega
          · rw [c1, c2]
            have hcall := number_ref s hs hlt (wr.alloc (.cells #[.int .i64 0, .string ⟨#[]⟩, .int .i64 0, .int .i64 0] 41))
            go_wp2_with fail
            refine hcall.mono ?_
            rintro e w4 ⟨hd, hb4⟩
            have hd := hd.d
            rw [← hst] at hd
            obtain ⟨z0, z1, z2, z3, zf⟩ := HBX.out w4 hb4
            have hsz4 : wr.heap.size + 1 ≤ w4.heap.size := by have := hb4.size; simpa using this
            have HB4 : Hid (Below wr.heap.size wr w4) := ((Below.refl _ _).alloc (Nat.le_refl _) _).trans (hb4.mono (by simp))
            have HB5 : Hid (∀ a0 a1 a2 a3, Below wr.heap.size wr ((((w4.setCell ⟨wr.heap.size, 0, none⟩ a0).setCell ⟨wr.heap.size, 1, none⟩ a1).setCell ⟨wr.heap.size, 2, none⟩ a2).setCell ⟨wr.heap.size, 3, none⟩ a3)) := fun a0 a1 a2 a3 => (((HB4.out.setCell (p := ⟨wr.heap.size, 0, none⟩) (Nat.le_refl _) _).setCell (p := ⟨wr.heap.size, 1, none⟩) (Nat.le_refl _) _).setCell (p := ⟨wr.heap.size, 2, none⟩) (Nat.le_refl _) _).setCell (p := ⟨wr.heap.size, 3, none⟩) (Nat.le_refl _) _
            have HB6 : Hid (∀ W, Below wr.heap.size wr W → Below w.heap.size w W) := fun W hW => HBL.out.trans (hW.mono HBL.out.size)
            clear HBX hb4 hcall hst
            rcases hd.cases with ⟨er, ho, rfl⟩ | ⟨k, t, v, n, ho, rfl⟩
            · have HG := Go.Proofs.YtbkeaajnhalekaaGreatDoor.Hid.mk' (HNO.out er ho)
              have hse := st_ne er
              generalize stB er = sb at *
              clear HNO HTK ho hd
              rcases hse with rfl | rfl | rfl | rfl
              all_goals
                go_wp2_with fail
                go_ret2
                exact HG.out _ (HB6.out _ (HB5.out _ _ _ _))
            · obtain ⟨hn1, hn2, h6, hrs⟩ := HTK.out k t v n ho
              by_cases h600 : L.length = 600
              · have HG := Go.Proofs.YtbkeaajnhalekaaGreatDoor.Hid.mk' (h6 h600)
                have h6' : (L.length : Int) ≥ 600 := by omega
                clear HNO HTK ho hd h6 hrs h600
                generalize (⟨t.toArray⟩ : ByteArray) = tb at *
                go_wp2_with fail
                go_ret2
                exact HG.out _ (HB6.out _ (HB5.out _ _ _ _))
              · have h6' : ¬ (L.length : Int) ≥ 600 := by omega
                have HR := Go.Proofs.YtbkeaajnhalekaaGreatDoor.Hid.mk' (hrs (by omega))
                have hl10 : L.length ≤ 100000 := by omega
                have HRW : Hid (∀ W, Below wr.heap.size wr W → TRow w.heap.size W (.slice ao L.length cap) L) := fun W hW => Row.of_block HROW.out (fun c hc => hW.block c (HROW.out.lo c hc).2)
                have HB7 : Hid (∀ a0 a1 a2 a3 o, Below wr.heap.size wr (((((w4.setCell ⟨wr.heap.size, 0, none⟩ a0).setCell ⟨wr.heap.size, 1, none⟩ a1).setCell ⟨wr.heap.size, 2, none⟩ a2).setCell ⟨wr.heap.size, 3, none⟩ a3).alloc o)) := fun a0 a1 a2 a3 o => (HB5.out a0 a1 a2 a3).alloc (HB5.out a0 a1 a2 a3).size o
                clear HNO HTK ho hd h6 hrs h600
                go_wp2_with (at_builtin; refine wp_appT _ rfl _ _ rfl w.heap.size _ L rfl (HRW.out _ (HB7.out _ _ _ _ _)) w4.heap.size ⟨k, t, v, q⟩ rfl (new_atT _ _ (by simp)) hl10 (by simp; omega) ?_)
                intro g cap5 w5 hrow5 hb5
                have HD5 : Hid (DSt w w5 s (q + n) (.slice (some ⟨g, 0, none⟩) (L.length + 1) cap5) (L ++ [⟨k, t, v, q⟩])) := ⟨hrow5, (HB6.out _ (HB7.out _ _ _ _ _)).trans hb5, HR.out, by simp; omega⟩
                have hlen : (L ++ [(⟨k, t, v, q⟩ : Tok)]).length = L.length + 1 := by simp
                rw [← hlen] at HD5
                have HLEN := Go.Proofs.YtbkeaajnhalekaaGreatDoor.Hid.mk' hlen
                clear hrow5 hb5 HR HRW HB7 HB6 HB5 HB4 hlen HROW HBL
                generalize L ++ [(⟨k, t, v, q⟩ : Tok)] = L5 at *
                go_wp2_with fail
                go_roundw
                case rel => exact ⟨q + n, cap5, _, L5, by rw [HLEN.out], by go_num, by omega, HD5⟩
                case measure => simp [intOf]; omega
          · rw [c1, c2]
            have hcall := text_ref s hs hlt (wr.alloc (.cells #[.int .i64 0, .string ⟨#[]⟩, .int .i64 0, .int .i64 0] 41))
            go_wp2_with fail
            refine hcall.mono ?_
            rintro e w4 ⟨hd, hb4⟩
            have hd := hd
            rw [← hst] at hd
            obtain ⟨z0, z1, z2, z3, zf⟩ := HBX.out w4 hb4
            have hsz4 : wr.heap.size + 1 ≤ w4.heap.size := by have := hb4.size; simpa using this
            have HB4 : Hid (Below wr.heap.size wr w4) := ((Below.refl _ _).alloc (Nat.le_refl _) _).trans (hb4.mono (by simp))
            have HB5 : Hid (∀ a0 a1 a2 a3, Below wr.heap.size wr ((((w4.setCell ⟨wr.heap.size, 0, none⟩ a0).setCell ⟨wr.heap.size, 1, none⟩ a1).setCell ⟨wr.heap.size, 2, none⟩ a2).setCell ⟨wr.heap.size, 3, none⟩ a3)) := fun a0 a1 a2 a3 => (((HB4.out.setCell (p := ⟨wr.heap.size, 0, none⟩) (Nat.le_refl _) _).setCell (p := ⟨wr.heap.size, 1, none⟩) (Nat.le_refl _) _).setCell (p := ⟨wr.heap.size, 2, none⟩) (Nat.le_refl _) _).setCell (p := ⟨wr.heap.size, 3, none⟩) (Nat.le_refl _) _
            have HB6 : Hid (∀ W, Below wr.heap.size wr W → Below w.heap.size w W) := fun W hW => HBL.out.trans (hW.mono HBL.out.size)
            clear HBX hb4 hcall hst
            rcases hd.cases with ⟨er, ho, rfl⟩ | ⟨k, t, v, n, ho, rfl⟩
            · have HG := Go.Proofs.YtbkeaajnhalekaaGreatDoor.Hid.mk' (HNO.out er ho)
              have hse := st_ne er
              generalize stB er = sb at *
              clear HNO HTK ho hd
              rcases hse with rfl | rfl | rfl | rfl
              all_goals
                go_wp2_with fail
                go_ret2
                exact HG.out _ (HB6.out _ (HB5.out _ _ _ _))
            · obtain ⟨hn1, hn2, h6, hrs⟩ := HTK.out k t v n ho
              by_cases h600 : L.length = 600
              · have HG := Go.Proofs.YtbkeaajnhalekaaGreatDoor.Hid.mk' (h6 h600)
                have h6' : (L.length : Int) ≥ 600 := by omega
                clear HNO HTK ho hd h6 hrs h600
                generalize (⟨t.toArray⟩ : ByteArray) = tb at *
                go_wp2_with fail
                go_ret2
                exact HG.out _ (HB6.out _ (HB5.out _ _ _ _))
              · have h6' : ¬ (L.length : Int) ≥ 600 := by omega
                have HR := Go.Proofs.YtbkeaajnhalekaaGreatDoor.Hid.mk' (hrs (by omega))
                have hl10 : L.length ≤ 100000 := by omega
                have HRW : Hid (∀ W, Below wr.heap.size wr W → TRow w.heap.size W (.slice ao L.length cap) L) := fun W hW => Row.of_block HROW.out (fun c hc => hW.block c (HROW.out.lo c hc).2)
                have HB7 : Hid (∀ a0 a1 a2 a3 o, Below wr.heap.size wr (((((w4.setCell ⟨wr.heap.size, 0, none⟩ a0).setCell ⟨wr.heap.size, 1, none⟩ a1).setCell ⟨wr.heap.size, 2, none⟩ a2).setCell ⟨wr.heap.size, 3, none⟩ a3).alloc o)) := fun a0 a1 a2 a3 o => (HB5.out a0 a1 a2 a3).alloc (HB5.out a0 a1 a2 a3).size o
                clear HNO HTK ho hd h6 hrs h600
                go_wp2_with (at_builtin; refine wp_appT _ rfl _ _ rfl w.heap.size _ L rfl (HRW.out _ (HB7.out _ _ _ _ _)) w4.heap.size ⟨k, t, v, q⟩ rfl (new_atT _ _ (by simp)) hl10 (by simp; omega) ?_)
                intro g cap5 w5 hrow5 hb5
                have HD5 : Hid (DSt w w5 s (q + n) (.slice (some ⟨g, 0, none⟩) (L.length + 1) cap5) (L ++ [⟨k, t, v, q⟩])) := ⟨hrow5, (HB6.out _ (HB7.out _ _ _ _ _)).trans hb5, HR.out, by simp; omega⟩
                have hlen : (L ++ [(⟨k, t, v, q⟩ : Tok)]).length = L.length + 1 := by simp
                rw [← hlen] at HD5
                have HLEN := Go.Proofs.YtbkeaajnhalekaaGreatDoor.Hid.mk' hlen
                clear hrow5 hb5 HR HRW HB7 HB6 HB5 HB4 hlen HROW HBL
                generalize L ++ [(⟨k, t, v, q⟩ : Tok)] = L5 at *
                go_wp2_with fail
                go_roundw
                case rel => exact ⟨q + n, cap5, _, L5, by rw [HLEN.out], by go_num, by omega, HD5⟩
                case measure => simp [intOf]; omega
          · rw [c1, c2]
            have hcall := sign_ref s hs hlt (wr.alloc (.cells #[.int .i64 0, .string ⟨#[]⟩, .int .i64 0, .int .i64 0] 41))
            go_wp2_with fail
            refine hcall.mono ?_
            rintro e w4 ⟨hd, hb4⟩
            have hd := hd
            rw [← hst] at hd
            obtain ⟨z0, z1, z2, z3, zf⟩ := HBX.out w4 hb4
            have hsz4 : wr.heap.size + 1 ≤ w4.heap.size := by have := hb4.size; simpa using this
            have HB4 : Hid (Below wr.heap.size wr w4) := ((Below.refl _ _).alloc (Nat.le_refl _) _).trans (hb4.mono (by simp))
            have HB5 : Hid (∀ a0 a1 a2 a3, Below wr.heap.size wr ((((w4.setCell ⟨wr.heap.size, 0, none⟩ a0).setCell ⟨wr.heap.size, 1, none⟩ a1).setCell ⟨wr.heap.size, 2, none⟩ a2).setCell ⟨wr.heap.size, 3, none⟩ a3)) := fun a0 a1 a2 a3 => (((HB4.out.setCell (p := ⟨wr.heap.size, 0, none⟩) (Nat.le_refl _) _).setCell (p := ⟨wr.heap.size, 1, none⟩) (Nat.le_refl _) _).setCell (p := ⟨wr.heap.size, 2, none⟩) (Nat.le_refl _) _).setCell (p := ⟨wr.heap.size, 3, none⟩) (Nat.le_refl _) _
            have HB6 : Hid (∀ W, Below wr.heap.size wr W → Below w.heap.size w W) := fun W hW => HBL.out.trans (hW.mono HBL.out.size)
            clear HBX hb4 hcall hst
            rcases hd.cases with ⟨er, ho, rfl⟩ | ⟨k, t, v, n, ho, rfl⟩
            · have HG := Go.Proofs.YtbkeaajnhalekaaGreatDoor.Hid.mk' (HNO.out er ho)
              have hse := st_ne er
              generalize stB er = sb at *
              clear HNO HTK ho hd
              rcases hse with rfl | rfl | rfl | rfl
              all_goals
                go_wp2_with fail
                go_ret2
                exact HG.out _ (HB6.out _ (HB5.out _ _ _ _))
            · obtain ⟨hn1, hn2, h6, hrs⟩ := HTK.out k t v n ho
              by_cases h600 : L.length = 600
              · have HG := Go.Proofs.YtbkeaajnhalekaaGreatDoor.Hid.mk' (h6 h600)
                have h6' : (L.length : Int) ≥ 600 := by omega
                clear HNO HTK ho hd h6 hrs h600
                generalize (⟨t.toArray⟩ : ByteArray) = tb at *
                go_wp2_with fail
                go_ret2
                exact HG.out _ (HB6.out _ (HB5.out _ _ _ _))
              · have h6' : ¬ (L.length : Int) ≥ 600 := by omega
                have HR := Go.Proofs.YtbkeaajnhalekaaGreatDoor.Hid.mk' (hrs (by omega))
                have hl10 : L.length ≤ 100000 := by omega
                have HRW : Hid (∀ W, Below wr.heap.size wr W → TRow w.heap.size W (.slice ao L.length cap) L) := fun W hW => Row.of_block HROW.out (fun c hc => hW.block c (HROW.out.lo c hc).2)
                have HB7 : Hid (∀ a0 a1 a2 a3 o, Below wr.heap.size wr (((((w4.setCell ⟨wr.heap.size, 0, none⟩ a0).setCell ⟨wr.heap.size, 1, none⟩ a1).setCell ⟨wr.heap.size, 2, none⟩ a2).setCell ⟨wr.heap.size, 3, none⟩ a3).alloc o)) := fun a0 a1 a2 a3 o => (HB5.out a0 a1 a2 a3).alloc (HB5.out a0 a1 a2 a3).size o
                clear HNO HTK ho hd h6 hrs h600
                go_wp2_with (at_builtin; refine wp_appT _ rfl _ _ rfl w.heap.size _ L rfl (HRW.out _ (HB7.out _ _ _ _ _)) w4.heap.size ⟨k, t, v, q⟩ rfl (new_atT _ _ (by simp)) hl10 (by simp; omega) ?_)
                intro g cap5 w5 hrow5 hb5
                have HD5 : Hid (DSt w w5 s (q + n) (.slice (some ⟨g, 0, none⟩) (L.length + 1) cap5) (L ++ [⟨k, t, v, q⟩])) := ⟨hrow5, (HB6.out _ (HB7.out _ _ _ _ _)).trans hb5, HR.out, by simp; omega⟩
                have hlen : (L ++ [(⟨k, t, v, q⟩ : Tok)]).length = L.length + 1 := by simp
                rw [← hlen] at HD5
                have HLEN := Go.Proofs.YtbkeaajnhalekaaGreatDoor.Hid.mk' hlen
                clear hrow5 hb5 HR HRW HB7 HB6 HB5 HB4 hlen HROW HBL
                generalize L ++ [(⟨k, t, v, q⟩ : Tok)] = L5 at *
                go_wp2_with fail
                go_roundw
                case rel => exact ⟨q + n, cap5, _, L5, by rw [HLEN.out], by go_num, by omega, HD5⟩
                case measure => simp [intOf]; omega
      · have tl : ¬ (q : Int) < (s.size : Int) := by omega
        have HG : Hid (ScTo w s (.returned (.tuple #[.slice ao L.length cap, .string ⟨#[48, 48, 48, 48, 48]⟩])) wr) := .ok L _ (HSF.out.trans (HD.out.rs.done (by omega))) rfl HD.out.row HD.out.bl
        clear HD HSF
        go_wp2_with fail
        go_ret2
        exact HG.out
end Go.Proofs.YtbkeaajnhalekaaGreatDoor

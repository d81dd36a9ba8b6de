/- The walk of the law WalGoes. -/
import Derived.Test.YtcommmgelmbhbaaW6P
namespace Go.Proofs.Ytcommmgelmbhbaa
open Go.RowKit Go.Maps
set_option linter.unusedVariables false
set_option linter.unusedSimpArgs false

/-- Lists of records that came in. -/
def InParts (B : Nat) (w : World) (v : Value) (parts : List (List (List UInt8))) : Prop :=
  ∃ ao cap, v = .slice ao parts.length cap ∧ parts.length ≤ cap ∧ ∀ k (hk : k < parts.length), ∃ g o a n c, ao = some ⟨g, o, none⟩ ∧ g < B ∧ w.cell? ⟨g, o + k, none⟩ = some (.slice a n c) ∧ InRecs B w (.slice a n c) parts[k] ∧ parts[k].length ≤ 140737488355328
theorem OwnV.form' {base : Nat} {w : World} {ao : Option Addr} {vn vc : Nat} {vs : List Value} (h : OwnV base w (.slice ao vn vc) vs) : vn = vs.length := by
  rcases h with ⟨h1, ⟨hv, hn⟩ | ⟨g, cap, cur, hv, hg, hh, hc, _⟩⟩
  · cases hv; exact hn.symm
  · cases hv; rfl
theorem cell_low {B : Nat} {w w' : World} (hb : Below B w w') {g o : Nat} {x : Value} (hg : g < B) (h : w.cell? ⟨g, o, none⟩ = some x) : w'.cell? ⟨g, o, none⟩ = some x := (hb.cell (p := ⟨g, o, none⟩) hg).trans h
theorem Out.grow {w w' : World} {F G S : Nat → Prop} (h : Out w w' F S) : Out w w' (Both F G) S :=
  ⟨h.f.mono (fun k hk => Or.inl hk), fun k hk => by
    rcases h.o k hk with h1 | h1
    · exact Or.inl (Or.inl h1)
    · exact Or.inr h1⟩
set_option maxRecDepth 100000 in
set_option maxHeartbeats 16000000 in
theorem walGoes_law (v : Value) (parts : List (List (List UInt8))) (w : World) (h : InParts w.heap.size w v parts) (hpl : parts.length ≤ 140737488355328) :
    Calls Try.prog 7 #[v] w fun e w' => e = .returned (.bool true) ∧ Below w.heap.size w w' := by
  obtain ⟨iao, icap, rfl, hic, hin⟩ := h
  have HIN : Hid (∀ k (hk : k < parts.length), ∃ g o a n c, iao = some ⟨g, o, none⟩ ∧ g < w.heap.size ∧ w.cell? ⟨g, o + k, none⟩ = some (.slice a n c) ∧ InRecs w.heap.size w (.slice a n c) parts[k] ∧ parts[k].length ≤ 140737488355328) := hin
  clear hin
  go_enter Try.func7, Try.ntmps7
  go_wp2_with fail
  refine (new_any 60 w (by omega)).mono ?_
  rintro e w2 ⟨gd, rfl, hD2, hb2⟩
  go_wp2_with fail
  refine (duo_format hD2 rfl 2 50 (by omega) (by show (2 : Int) + 50 ≤ 60; omega) (by show 0 + 0 + 50 + 1 < 100000; omega)).mono ?_
  rintro e w3 ⟨gl0, F0, G0, rfl, hU3, hO3⟩
  have hb3 : Below w.heap.size w w3 := hb2.trans (hO3.below hb2.size (fun k hk => hk.1))
  have HR3 : Hid (Run w.heap.size w w3 F0 G0 _ _ 0 _ 2 50 [] 0 (.slice none 0 0) [] []) := Run.start hU3 hb3 rfl
  clear hD2 hb2 hU3 hO3 hb3
  go_wp2_with fail
  refine (alive_any w3).mono ?_
  rintro e w4 ⟨rfl, hb4⟩
  have hdl : ((⟨60, fun _ => zsec, fun _ => zsec, [], 0⟩ : DS).settle (2 : Nat) 50 []).ws.length = 50 := DS.settle_len _ _ _ _ (by simp)
  obtain ⟨D0, hD⟩ : ∃ D, (⟨60, fun _ => zsec, fun _ => zsec, [], 0⟩ : DS).settle (2 : Nat) 50 [] = D := ⟨_, rfl⟩
  rw [hD] at hdl
  have HRUN0 := HR3.out.keepB hb4
  rw [hD] at HRUN0
  have HRUN : Hid (Run w.heap.size w w4 F0 G0 (.pointer (some ⟨gd, 0, none⟩)) (.pointer (some ⟨gl0, 0, none⟩)) 0 D0 2 50 [] ([] : List (List UInt8)).length (.slice none 0 0) [] []) := HRUN0
  clear HRUN0 HR3 hb4 hD
  go_wp2
  go_loopw [5, 6, 7, 8] (fun l e v i wr => ∃ (k : Nat) (ao : Option Addr) (vn vc gl : Nat) (F G : Nat → Prop) (D : DS) (recs : List (List UInt8)) (vs : List Value), k ≤ parts.length ∧ k ≤ 8 ∧ i = .int .i64 k ∧ l = .pointer (some ⟨gl, 0, none⟩) ∧ e = .int .i64 0 ∧ v = .slice ao vn vc ∧ D.ws.length ≤ 50 + 200 * k ∧ Hid (Run w.heap.size w wr F G (.pointer (some ⟨gd, 0, none⟩)) (.pointer (some ⟨gl, 0, none⟩)) 0 D 2 50 recs recs.length (.slice ao vn vc) vs recs)) (fun _ _ _ i _ => 8 - (intOf i).toNat)
  case atStart => exact ⟨0, _, _, _, gl0, _, _, D0, [], _, Nat.zero_le _, Nat.zero_le _, rfl, rfl, rfl, rfl, by omega, HRUN⟩
  case round =>
    obtain ⟨k, ao, vn, vc, gl, F, G, D, recs0, vs, hk, hk8, rfl, rfl, rfl, rfl, hDl, HR⟩ := hrel
    by_cases hlt : k < parts.length
    · have t1 : decide ((k : Int) < (parts.length : Int)) = true := by simpa using hlt
      by_cases hlt8 : k < 8
      · have t2 : decide ((k : Int) < 8) = true := by simp; omega
        obtain ⟨g, o, pa, pn, pc, rfl, hgB, hcell, hIR, hpk⟩ := HIN.out k hlt
        have HIR : Hid (InRecs w.heap.size w (.slice pa pn pc) parts[k]) := hIR
        have hpn : pn = parts[k].length := by
          obtain ⟨_, _, hv, _⟩ := hIR.at
          cases hv; rfl
        subst hpn
        clear hIR
        generalize parts[k] = part at *
        have HRI : Hid (Run w.heap.size w wr F G (.pointer (some ⟨gd, 0, none⟩)) (.pointer (some ⟨gl, 0, none⟩)) 0 D 2 50 recs0 recs0.length (.slice ao vn vc) vs recs0) := HR
        go_wp2
        go_loopw [7, 9] (fun v i wr => ∃ (j : Nat) (ao : Option Addr) (vn vc : Nat) (G : Nat → Prop) (recs : List (List UInt8)) (vs : List Value), j ≤ part.length ∧ j ≤ 20 ∧ i = .int .i64 j ∧ v = .slice ao vn vc ∧ Hid (Run w.heap.size w wr F G (.pointer (some ⟨gd, 0, none⟩)) (.pointer (some ⟨gl, 0, none⟩)) 0 D 2 50 recs recs0.length (.slice ao vn vc) vs recs)) (fun _ i _ => 20 - (intOf i).toNat)
        case atStart => exact ⟨0, ao, vn, vc, G, recs0, vs, Nat.zero_le _, Nat.zero_le _, rfl, rfl, HRI⟩
        case round =>
          clear HR HRI
          obtain ⟨j, ao, vn, vc, G, recs, vs, hj, hj20, rfl, rfl, HR⟩ := hrel
          have hcw := cell_low HR.out.b hgB hcell
          by_cases hjl : j < part.length
          · have t3 : decide ((j : Int) < (part.length : Int)) = true := by simpa using hjl
            by_cases hj2 : j < 20
            · have t4 : decide ((j : Int) < 20) = true := by simp; omega
              obtain ⟨ao1, cap1, hv1, hc1, hat⟩ := (HIR.out.keep HR.out.b).at
              cases hv1
              obtain ⟨g2, o2, a, en, ec, rfl, hg2, hc2, hBy, hlow, hlen⟩ := hat j hjl
              clear hat
              generalize part[j] = r at *
              have hof : OkR r → OffF G (.slice a en ec) := fun hok a' n' c' e hg => by have := hlow a' n' c' e (by intro e0; rw [e0] at hok; exact absurd hok.1 (by simp)); have := (HR.out.u.l.lo _ hg).1; omega
              have hap := duo_append_any HR.out.u (.slice a en ec) r hBy hof hlen
              have HAP : Hid (Calls Try.prog 15 #[.pointer (some ⟨gl, 0, none⟩), .slice a en ec] wr fun e w' => (OkR r ∧ e = .returned (.int .i64 0) ∧ ∃ G', Run w.heap.size w w' F G' (.pointer (some ⟨gd, 0, none⟩)) (.pointer (some ⟨gl, 0, none⟩)) 0 D 2 50 (recs ++ [r]) recs0.length (.slice ao vn vc) vs recs ∧ w'.cell? ⟨g2, o2 + j, none⟩ = some (.slice a en ec) ∧ w'.cell? ⟨g, o + k, none⟩ = some (.slice (some ⟨g2, o2, none⟩) part.length pc) ∧ Bytes w' (.slice a en ec) r) ∨ ((e = .returned (.int .i64 62) ∨ e = .returned (.int .i64 61)) ∧ Run w.heap.size w w' F G (.pointer (some ⟨gd, 0, none⟩)) (.pointer (some ⟨gl, 0, none⟩)) 0 D 2 50 recs recs0.length (.slice ao vn vc) vs recs)) := by
                refine hap.mono ?_
                rintro e w' (⟨hok, _, he, G', hu, hO⟩ | ⟨hbad, hb⟩)
                · have hR' := HR.out.turn hu hO
                  have hbb : Below w.heap.size wr w' := hO.below HR.out.sz (fun k hk => (HR.out.u.lo k hk).1)
                  refine Or.inl ⟨hok, he, G', hR', cell_low hbb hg2 hc2, cell_low hbb hgB hcw, ?_⟩
                  rcases hBy with hBy | ⟨a', cap', hv', hc', hBy⟩
                  · exact Or.inl hBy
                  · exact Or.inr ⟨a', cap', hv', hc', fun j hj => (hbb.cell (p := a'.add j) (by rw [add_block]; exact hlow a' _ _ hv' (by intro e0; rw [e0] at hj; simp at hj))).trans (hBy j hj)⟩
                · refine Or.inr ⟨?_, HR.out.keepB hb⟩
                  rcases hbad with ⟨_, h⟩ | ⟨_, _, h⟩
                  · exact Or.inl h
                  · exact Or.inr h
              clear hap hof hBy hlow
              go_wp2_with fail
              refine HAP.out.mono ?_
              rintro e w5 (⟨hok5, rfl, G5, hR5, hc5, hcw5, hB5⟩ | ⟨he, hR5⟩)
              · have HR5 : Hid (Run w.heap.size w w5 F G5 (.pointer (some ⟨gd, 0, none⟩)) (.pointer (some ⟨gl, 0, none⟩)) 0 D 2 50 (recs ++ [r]) recs0.length (.slice ao vn vc) vs recs) := hR5
                have hvl : vs.length ≤ 10000 := by
                  have := hR5.o.len
                  have h16 := sizeL_len recs HR.out.u.oks
                  have := HR.out.u.le
                  omega
                have hsz5 := hR5.sz
                have ha5 : Below w5.heap.size w5 (w5.alloc (.cells #[] 5)) := (Below.refl _ _).alloc (Nat.le_refl _) _
                have hrl : 0 < r.length ∧ r.length ≤ 8192 := ⟨hok5.1, hok5.2⟩
                obtain ⟨ao5, cap5, hv5, hcc5, hx5⟩ := hB5.form
                cases hv5
                obtain ⟨ad, rfl, _⟩ := hx5 hrl.1
                have HC5 : Hid (∀ i (hi : i < r.length), (w5.alloc (.cells #[] 5)).cell? (ad.add i) = some (bv r[i])) := by
                  rcases hB5.keep ha5 with ⟨h, _⟩ | ⟨a', cap', h, _, h2⟩
                  · cases h
                  · cases h; exact h2
                have HO5 : Hid (OwnB w5.heap.size (w5.alloc (.cells #[] 5)) (.slice (some ⟨w5.heap.size, 0, none⟩) 0 0) []) := own_empty w5.heap.size w5 (Nat.le_refl _)
                have q5 := cell_keep ha5 hc5
                have qw5 := cell_keep ha5 hcw5
                have hbe := build_empty w5
                clear hc2 hcw hR5 hB5 HAP hx5 hc5 hcw5
                go_wp2_with (first
                  | (at_builtin; refine wp_appA _ rfl _ _ rfl w5.heap.size _ [] rfl HO5.out ad r.length ec r rfl HC5.out rfl hrl.1 (by simp; omega) (by simp) ?_; intro v6 w6 ho6 hg6
                     have hb6 : Below w5.heap.size w5 w6 := ha5.grown hg6.grown (by simp) (own_ge HO5.out)
                     have hn6 : ∀ q, v6.ownBlock = some q → w5.heap.size ≤ q ∧ q < w6.heap.size := fun q hq => World.ownsRow.lt ho6 q hq
                     have hB6 : Bytes w6 v6 r := OwnB.toBytes ho6
                     obtain ⟨ao6, c6, hv6, _⟩ := hB6.form
                     subst hv6
                     have HR6 : Hid (Run w.heap.size w w6 F G5 (.pointer (some ⟨gd, 0, none⟩)) (.pointer (some ⟨gl, 0, none⟩)) 0 D 2 50 (recs ++ [r]) recs0.length (.slice ao vn vc) vs recs) := HR5.out.keepB hb6
                     have HB6 : Hid (Bytes w6 (.slice ao6 r.length c6) r) := hB6
                     have hs6 := hb6.size
                     clear ho6 hg6 hB6)
                  | (at_builtin; refine wp_appV _ rfl _ _ rfl w.heap.size (.slice ao vn vc) vs rfl (World.ownsRow.alloc HR6.out.o.own _) w6.heap.size (.slice ao6 r.length c6) rfl (heap_alloc_new w6 _) rfl (by omega) (by simp; omega) ?_; intro v7 w7 hv7 hown7 hg7))
                obtain ⟨ao7, vn7, vc7, hv7⟩ := hv7
                subst hv7
                have hR7 := (HR6.out.keepB ((Below.refl _ _).alloc (Nat.le_refl _) (.cells #[.slice ao6 r.length c6] 36))).snoc hown7 hg7 (HB6.out.keep ((Below.refl _ _).alloc (Nat.le_refl _) _)) (fun a' n' c' e => by
                  cases e
                  have hl := hn6 a'.block rfl
                  refine ⟨⟨by simp; omega, fun hb => ?_⟩, fun hb => ?_⟩
                  · have := (HR5.out.u.lo _ hb).2; omega
                  · have := (World.ownsRow.lt HR5.out.o.own _ hb).2; omega)
                have HR7 : Hid (Run w.heap.size w w7 F G5 (.pointer (some ⟨gd, 0, none⟩)) (.pointer (some ⟨gl, 0, none⟩)) 0 D 2 50 (recs ++ [r]) recs0.length (.slice ao7 vn7 vc7) (vs ++ [.slice ao6 r.length c6]) (recs ++ [r])) := hR7
                clear hR7 hown7 hg7 HR6 HB6 HR5 hn6
                go_wp2
                go_roundw
                case rel => exact ⟨j + 1, ao7, vn7, vc7, G5, recs ++ [r], _, by omega, by omega, by go_num, rfl, HR7⟩
                case measure => simp [intOf]; omega
              · have HR5 : Hid (Run w.heap.size w w5 F G (.pointer (some ⟨gd, 0, none⟩)) (.pointer (some ⟨gl, 0, none⟩)) 0 D 2 50 recs recs0.length (.slice ao vn vc) vs recs) := hR5
                clear hR5 HAP hc2 hcw
                rcases he with rfl | rfl
                all_goals
                  go_wp2
                  go_roundw
                  case rel => exact ⟨j + 1, ao, vn, vc, G, recs, vs, by omega, by omega, by go_num, rfl, HR5⟩
                  case measure => simp [intOf]; omega
            · have t4 : decide ((j : Int) < 20) = false := by simp; omega
              have hvn : vn = recs.length := by rw [HR.out.o.own.form', HR.out.o.len]
              have hvnI : (vn : Int) = (recs.length : Int) := by omega
              clear hvn
              go_wp2_with fail
              refine (duo_flush HR.out.u (by omega)).mono ?_
              rintro e w6 ⟨rfl, F6, hU6, hO6⟩
              have hR6 := HR.out.turn hU6 hO6
              have hln := flushD_len D 2 50 recs recs0.length HR.out.u.le
              obtain ⟨D6, hD6⟩ : ∃ D6, flushD D 2 recs recs0.length = D6 := ⟨_, rfl⟩
              rw [hD6] at hR6 hln
              have HR6 : Hid (Run w.heap.size w w6 F6 G (.pointer (some ⟨gd, 0, none⟩)) (.pointer (some ⟨gl, 0, none⟩)) 0 D6 2 50 recs recs.length (.slice ao vn vc) vs recs) := hR6
              clear hR6 hU6 hO6 hD6 HR hcw
              have h16 := HR6.out.u.ok
              have hle6 := HR6.out.u.le
              have HP6 : Hid (Parses (reg D6.now 2 50) recs) := (HR6.out.u.clean rfl).parses (now_len HR6.out.u.d) HR6.out.u.oks HR6.out.u.le
              have hsz6 := HR6.out.u.sz
              go_wp2_with fail
              refine (Cut_any HR6.out.u.d (.slice none 0 0) [] (Or.inl ⟨rfl, rfl⟩)).mono ?_
              rintro e w7 ⟨c7, F7, rfl, hD7, hb7⟩
              have hnow : (D6.left D6.ws.length D6.safe []).now = D6.now := by
                show cutF [] D6.safe D6.first (D6.ws.take D6.ws.length) = D6.now
                rw [List.take_length]; exact HR6.out.u.st.cut []
              have hop := duo_open hD7 rfl 2 50 (by omega) hsz6 (by show 0 + D6.ws.length + 0 + 50 + 1 < 100000; omega)
              rw [hnow] at hop
              have HOP : Hid (Calls Try.prog 13 #[.pointer (some ⟨c7, 0, none⟩), .int .i64 2, .int .i64 50] w7 fun e w' => ∃ (g : Nat) (F' G' : Nat → Prop) (nn : Nat) (DD : DS), e = .returned (.tuple #[.pointer (some ⟨g, 0, none⟩), .int .i64 0]) ∧ Duo w6.heap.size w' F' G' (.pointer (some ⟨c7, 0, none⟩)) (.pointer (some ⟨g, 0, none⟩)) nn DD 2 50 recs recs.length ∧ Below w6.heap.size w6 w') := by
                refine hop.mono ?_
                rintro e w' ⟨recsM, g, F', G', he, hp, hU, hO, _, _⟩
                obtain rfl := parses_unique hp HP6.out
                exact ⟨g, F', G', _, _, he, hU, hb7.trans (hO.below hb7.size (fun k hk => (hD7.lo k hk).1))⟩
              clear hop hD7 hnow
              go_wp2_with fail
              refine HOP.out.mono ?_
              rintro e w8 ⟨gm, F8, G8, nn, DD, rfl, hU8, hb8⟩
              have HU8 : Hid (Duo w6.heap.size w8 F8 G8 (.pointer (some ⟨c7, 0, none⟩)) (.pointer (some ⟨gm, 0, none⟩)) nn DD 2 50 recs recs.length) := hU8
              clear hU8 HOP hb7
              go_wp2_with fail
              refine (records_any HU8.out.l HU8.out.oks).mono ?_
              rintro e w9 ⟨v9, rfl, ⟨vs9, hN9⟩, hb9⟩
              have hb9' : Below w6.heap.size w6 w9 := hb8.trans (hb9.mono hb8.size)
              go_wp2_with fail
              refine (same_any hN9.recs (HR6.out.o.recs.keepB hb9') (by omega)).mono ?_
              rintro e w10 ⟨rfl, hb10⟩
              have hdt : decide (recs = recs) = true := decide_eq_true rfl
              rw [hdt]
              clear hdt
              have hb10' : Below w6.heap.size w6 w10 := hb9'.trans (hb10.mono hb9'.size)
              have hb810 : Below w8.heap.size w8 w10 := hb9.trans (hb10.mono hb9.size)
              have HU10 : Hid (Duo w6.heap.size w10 F8 G8 (.pointer (some ⟨c7, 0, none⟩)) (.pointer (some ⟨gm, 0, none⟩)) nn DD 2 50 recs recs.length) := HU8.out.keepB hb810
              have HR10 : Hid (Run w.heap.size w w10 F6 G (.pointer (some ⟨gd, 0, none⟩)) (.pointer (some ⟨gl, 0, none⟩)) 0 D6 2 50 recs recs.length (.slice ao vn vc) vs recs) := HR6.out.keepB hb10'
              clear hN9 hb9 hb9' hb10 hb810 hb8 HU8 HR6 hb10'
              have HFL : Hid (∀ wz, Below w10.heap.size w10 wz → Calls Try.prog 25 #[.pointer (some ⟨gl, 0, none⟩)] wz fun e w' => e = .returned (.int .i64 (128 * 50 - sizeL recs : Nat)) ∧ Below w10.heap.size w10 w') := fun wz hz => (duo_free (HR10.out.u.keepB hz)).mono fun e w' ⟨h1, h2⟩ => ⟨h1, hz.trans (h2.mono hz.size)⟩
              have HFM : Hid (∀ wz, Below w10.heap.size w10 wz → Calls Try.prog 25 #[.pointer (some ⟨gm, 0, none⟩)] wz fun e w' => e = .returned (.int .i64 (128 * 50 - sizeL recs : Nat)) ∧ Below w10.heap.size w10 w') := fun wz hz => (duo_free (HU10.out.keepB hz)).mono fun e w' ⟨h1, h2⟩ => ⟨h1, hz.trans (h2.mono hz.size)⟩
              have HFD : Hid (∀ wz, Below w10.heap.size w10 wz → Calls Try.prog 24 #[.pointer (some ⟨gm, 0, none⟩)] wz fun e w' => e = .returned (.int .i64 recs.length) ∧ w' = wz) := fun wz hz => duo_flushed (HU10.out.keepB hz)
              go_wp2_with (first
                | (go_at_call_of 25 (Value.pointer (some ⟨gm, 0, none⟩)); refine (HFM.out _ (Below.refl _ _)).mono ?_; rintro e w11 ⟨rfl, hb11⟩)
                | (go_at_call 25; refine (HFL.out _ hb11).mono ?_; rintro e w12 ⟨rfl, hb12⟩)
                | (go_at_call 24; refine (HFD.out _ hb12).mono ?_; rintro e wx ⟨rfl, hwx⟩; subst hwx))
              have hop2 := duo_open (HR10.out.u.keepB hb12).d HR10.out.u.st.1 2 50 (by omega) hsz6 (by omega)
              have HOP2 : Hid (Calls Try.prog 13 #[.pointer (some ⟨gd, 0, none⟩), .int .i64 2, .int .i64 50] wx fun e w' => ∃ (gl' : Nat) (F' G' : Nat → Prop) (D' : DS), e = .returned (.tuple #[.pointer (some ⟨gl', 0, none⟩), .int .i64 0]) ∧ D'.ws.length ≤ D6.ws.length + 50 ∧ Run w.heap.size w w' F' G' (.pointer (some ⟨gd, 0, none⟩)) (.pointer (some ⟨gl', 0, none⟩)) 0 D' 2 50 recs recs.length (.slice ao vn vc) vs recs) := by
                refine hop2.mono ?_
                rintro e w' ⟨recsM, g', F', G', he, hp, hU, hO, _, hO'⟩
                obtain rfl := parses_unique hp HP6.out
                refine ⟨g', F', G', _, he, ?_, (HR10.out.keepB hb12).turn hU hO'.grow⟩
                rw [DS.settle_len _ _ _ _ hle6]
                omega
              clear hop2 HFL HFM HFD HU10 HR10 hb11
              go_wp2_with fail
              refine HOP2.out.mono ?_
              rintro e w13 ⟨gl13, F13, G13, D13, rfl, hD13, hR13⟩
              have HR13 : Hid (Run w.heap.size w w13 F13 G13 (.pointer (some ⟨gd, 0, none⟩)) (.pointer (some ⟨gl13, 0, none⟩)) 0 D13 2 50 recs recs.length (.slice ao vn vc) vs recs) := hR13
              clear hR13 HOP2
              go_wp2
              go_roundw
              case rel => exact ⟨k + 1, ao, vn, vc, gl13, F13, G13, D13, recs, vs, by omega, by omega, by go_num, rfl, rfl, rfl, by omega, HR13⟩
              case measure => simp [intOf]; omega
          · have t3 : decide ((j : Int) < (part.length : Int)) = false := by simpa using hjl
            have hvn : vn = recs.length := by rw [HR.out.o.own.form', HR.out.o.len]
            have hvnI : (vn : Int) = (recs.length : Int) := by omega
            clear hvn
            go_wp2_with fail
            refine (duo_flush HR.out.u (by omega)).mono ?_
            rintro e w6 ⟨rfl, F6, hU6, hO6⟩
            have hR6 := HR.out.turn hU6 hO6
            have hln := flushD_len D 2 50 recs recs0.length HR.out.u.le
            obtain ⟨D6, hD6⟩ : ∃ D6, flushD D 2 recs recs0.length = D6 := ⟨_, rfl⟩
            rw [hD6] at hR6 hln
            have HR6 : Hid (Run w.heap.size w w6 F6 G (.pointer (some ⟨gd, 0, none⟩)) (.pointer (some ⟨gl, 0, none⟩)) 0 D6 2 50 recs recs.length (.slice ao vn vc) vs recs) := hR6
            clear hR6 hU6 hO6 hD6 HR hcw
            have h16 := HR6.out.u.ok
            have hle6 := HR6.out.u.le
            have HP6 : Hid (Parses (reg D6.now 2 50) recs) := (HR6.out.u.clean rfl).parses (now_len HR6.out.u.d) HR6.out.u.oks HR6.out.u.le
            have hsz6 := HR6.out.u.sz
            go_wp2_with fail
            refine (Cut_any HR6.out.u.d (.slice none 0 0) [] (Or.inl ⟨rfl, rfl⟩)).mono ?_
            rintro e w7 ⟨c7, F7, rfl, hD7, hb7⟩
            have hnow : (D6.left D6.ws.length D6.safe []).now = D6.now := by
              show cutF [] D6.safe D6.first (D6.ws.take D6.ws.length) = D6.now
              rw [List.take_length]; exact HR6.out.u.st.cut []
            have hop := duo_open hD7 rfl 2 50 (by omega) hsz6 (by show 0 + D6.ws.length + 0 + 50 + 1 < 100000; omega)
            rw [hnow] at hop
            have HOP : Hid (Calls Try.prog 13 #[.pointer (some ⟨c7, 0, none⟩), .int .i64 2, .int .i64 50] w7 fun e w' => ∃ (g : Nat) (F' G' : Nat → Prop) (nn : Nat) (DD : DS), e = .returned (.tuple #[.pointer (some ⟨g, 0, none⟩), .int .i64 0]) ∧ Duo w6.heap.size w' F' G' (.pointer (some ⟨c7, 0, none⟩)) (.pointer (some ⟨g, 0, none⟩)) nn DD 2 50 recs recs.length ∧ Below w6.heap.size w6 w') := by
              refine hop.mono ?_
              rintro e w' ⟨recsM, g, F', G', he, hp, hU, hO, _, _⟩
              obtain rfl := parses_unique hp HP6.out
              exact ⟨g, F', G', _, _, he, hU, hb7.trans (hO.below hb7.size (fun k hk => (hD7.lo k hk).1))⟩
            clear hop hD7 hnow
            go_wp2_with fail
            refine HOP.out.mono ?_
            rintro e w8 ⟨gm, F8, G8, nn, DD, rfl, hU8, hb8⟩
            have HU8 : Hid (Duo w6.heap.size w8 F8 G8 (.pointer (some ⟨c7, 0, none⟩)) (.pointer (some ⟨gm, 0, none⟩)) nn DD 2 50 recs recs.length) := hU8
            clear hU8 HOP hb7
            go_wp2_with fail
            refine (records_any HU8.out.l HU8.out.oks).mono ?_
            rintro e w9 ⟨v9, rfl, ⟨vs9, hN9⟩, hb9⟩
            have hb9' : Below w6.heap.size w6 w9 := hb8.trans (hb9.mono hb8.size)
            go_wp2_with fail
            refine (same_any hN9.recs (HR6.out.o.recs.keepB hb9') (by omega)).mono ?_
            rintro e w10 ⟨rfl, hb10⟩
            have hdt : decide (recs = recs) = true := decide_eq_true rfl
            rw [hdt]
            clear hdt
            have hb10' : Below w6.heap.size w6 w10 := hb9'.trans (hb10.mono hb9'.size)
            have hb810 : Below w8.heap.size w8 w10 := hb9.trans (hb10.mono hb9.size)
            have HU10 : Hid (Duo w6.heap.size w10 F8 G8 (.pointer (some ⟨c7, 0, none⟩)) (.pointer (some ⟨gm, 0, none⟩)) nn DD 2 50 recs recs.length) := HU8.out.keepB hb810
            have HR10 : Hid (Run w.heap.size w w10 F6 G (.pointer (some ⟨gd, 0, none⟩)) (.pointer (some ⟨gl, 0, none⟩)) 0 D6 2 50 recs recs.length (.slice ao vn vc) vs recs) := HR6.out.keepB hb10'
            clear hN9 hb9 hb9' hb10 hb810 hb8 HU8 HR6 hb10'
            have HFL : Hid (∀ wz, Below w10.heap.size w10 wz → Calls Try.prog 25 #[.pointer (some ⟨gl, 0, none⟩)] wz fun e w' => e = .returned (.int .i64 (128 * 50 - sizeL recs : Nat)) ∧ Below w10.heap.size w10 w') := fun wz hz => (duo_free (HR10.out.u.keepB hz)).mono fun e w' ⟨h1, h2⟩ => ⟨h1, hz.trans (h2.mono hz.size)⟩
            have HFM : Hid (∀ wz, Below w10.heap.size w10 wz → Calls Try.prog 25 #[.pointer (some ⟨gm, 0, none⟩)] wz fun e w' => e = .returned (.int .i64 (128 * 50 - sizeL recs : Nat)) ∧ Below w10.heap.size w10 w') := fun wz hz => (duo_free (HU10.out.keepB hz)).mono fun e w' ⟨h1, h2⟩ => ⟨h1, hz.trans (h2.mono hz.size)⟩
            have HFD : Hid (∀ wz, Below w10.heap.size w10 wz → Calls Try.prog 24 #[.pointer (some ⟨gm, 0, none⟩)] wz fun e w' => e = .returned (.int .i64 recs.length) ∧ w' = wz) := fun wz hz => duo_flushed (HU10.out.keepB hz)
            go_wp2_with (first
              | (go_at_call_of 25 (Value.pointer (some ⟨gm, 0, none⟩)); refine (HFM.out _ (Below.refl _ _)).mono ?_; rintro e w11 ⟨rfl, hb11⟩)
              | (go_at_call 25; refine (HFL.out _ hb11).mono ?_; rintro e w12 ⟨rfl, hb12⟩)
              | (go_at_call 24; refine (HFD.out _ hb12).mono ?_; rintro e wx ⟨rfl, hwx⟩; subst hwx))
            have hop2 := duo_open (HR10.out.u.keepB hb12).d HR10.out.u.st.1 2 50 (by omega) hsz6 (by omega)
            have HOP2 : Hid (Calls Try.prog 13 #[.pointer (some ⟨gd, 0, none⟩), .int .i64 2, .int .i64 50] wx fun e w' => ∃ (gl' : Nat) (F' G' : Nat → Prop) (D' : DS), e = .returned (.tuple #[.pointer (some ⟨gl', 0, none⟩), .int .i64 0]) ∧ D'.ws.length ≤ D6.ws.length + 50 ∧ Run w.heap.size w w' F' G' (.pointer (some ⟨gd, 0, none⟩)) (.pointer (some ⟨gl', 0, none⟩)) 0 D' 2 50 recs recs.length (.slice ao vn vc) vs recs) := by
              refine hop2.mono ?_
              rintro e w' ⟨recsM, g', F', G', he, hp, hU, hO, _, hO'⟩
              obtain rfl := parses_unique hp HP6.out
              refine ⟨g', F', G', _, he, ?_, (HR10.out.keepB hb12).turn hU hO'.grow⟩
              rw [DS.settle_len _ _ _ _ hle6]
              omega
            clear hop2 HFL HFM HFD HU10 HR10 hb11
            go_wp2_with fail
            refine HOP2.out.mono ?_
            rintro e w13 ⟨gl13, F13, G13, D13, rfl, hD13, hR13⟩
            have HR13 : Hid (Run w.heap.size w w13 F13 G13 (.pointer (some ⟨gd, 0, none⟩)) (.pointer (some ⟨gl13, 0, none⟩)) 0 D13 2 50 recs recs.length (.slice ao vn vc) vs recs) := hR13
            clear hR13 HOP2
            go_wp2
            go_roundw
            case rel => exact ⟨k + 1, ao, vn, vc, gl13, F13, G13, D13, recs, vs, by omega, by omega, by go_num, rfl, rfl, rfl, by omega, HR13⟩
            case measure => simp [intOf]; omega
      · have t2 : decide ((k : Int) < 8) = false := by simp; omega
        go_wp2
        go_ret
        exact ⟨rfl, HR.out.b⟩
    · have t1 : decide ((k : Int) < (parts.length : Int)) = false := by simpa using hlt
      go_wp2
      go_ret
      exact ⟨rfl, HR.out.b⟩
end Go.Proofs.Ytcommmgelmbhbaa

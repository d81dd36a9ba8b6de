/- The walk of the law WalWhole. -/
import Derived.Test.YtcommmgelmbhbaaW6P
namespace Go.Proofs.Ytcommmgelmbhbaa
open Go.RowKit Go.Maps
set_option linter.unusedVariables false
set_option linter.unusedSimpArgs false

theorem InRecs.wide {B B' : Nat} {w w' : World} {v : Value} {recs : List (List UInt8)} (h : InRecs B w v recs) (hb : Below B w w') (hB : B ≤ B') : InRecs B' w' v recs :=
  ⟨(h.keep hb).r.mono (fun k hk => Nat.lt_of_lt_of_le hk hB), h.l⟩
theorem OwnV.form {base : Nat} {w : World} {ao : Option Addr} {vn vc : Nat} {vs : List Value} (h : OwnV base w (.slice ao vn vc) vs) : vn = vs.length ∧ vn ≤ vc := by
  rcases h with ⟨h1, ⟨hv, hn⟩ | ⟨g, cap, cur, hv, hg, hh, hc, _⟩⟩
  · cases hv; exact ⟨hn.symm, Nat.le_refl _⟩
  · cases hv; exact ⟨rfl, hc⟩
theorem RecsIn.take {w : World} {H : Nat → Prop} {ao : Option Addr} {vn vc : Nat} {recs : List (List UInt8)} (h : RecsIn w H (.slice ao vn vc) recs) (n : Nat) (hn : n ≤ recs.length) : RecsIn w H (.slice ao n vc) (recs.take n) := by
  obtain ⟨ao', cap, hv, hc, hr⟩ := h
  cases hv
  have hl : (recs.take n).length = n := by rw [List.length_take]; omega
  refine ⟨ao, vc, by rw [hl], by rw [hl]; omega, ?_⟩
  rcases hr with hr | ⟨g, o, ha, hg, hr⟩
  · exact Or.inl (by rw [hr]; simp)
  · refine Or.inr ⟨g, o, ha, hg, fun k hk => ?_⟩
    obtain ⟨u, h1, h2, h3⟩ := hr k (by rw [hl] at hk; omega)
    exact ⟨u, h1, by rw [List.getElem_take]; exact h2, fun a n' c e hne => h3 a n' c e (by rw [List.getElem_take] at hne; exact hne)⟩
theorem Duo.first_len0 {B : Nat} {w : World} {F G : Nat → Prop} {p pl : Value} {n : Nat} {D : DS} {first : Int} {m : Nat} {recs : List (List UInt8)} {fl : Nat} (h : Duo B w F G p pl n D first m recs fl) : (∀ i, (D.first i).length = 128) ∧ ∀ x ∈ D.ws, x.sec.length = 128 := h.d.first_len
set_option maxRecDepth 100000 in
set_option maxHeartbeats 16000000 in
theorem walWhole_law (v1 v2 vk : Value) (x y : List (List UInt8)) (cat : Int) (ks : List Bool) (w : World) (h1 : InRecs w.heap.size w v1 x) (h2 : InRecs w.heap.size w v2 y) (hk : Bools w vk ks) (hat : -9223372036854775808 ≤ cat ∧ cat ≤ 9223372036854775807) (hxl : x.length ≤ 140737488355328) (hyl : y.length ≤ 140737488355328) :
    Calls Try.prog 4 #[v1, v2, .agg #[.int .i64 cat, vk]] w fun e w' => e = .returned (.bool true) ∧ Below w.heap.size w w' := by
  have ha1 : Below w.heap.size w (w.alloc (.cells #[.int .i64 cat, vk] 52)) := (Below.refl _ _).alloc (Nat.le_refl _) _
  have k0 : (w.alloc (.cells #[.int .i64 cat, vk] 52)).cell? ⟨w.heap.size, 0, none⟩ = some (.int .i64 cat) := by rw [cell_of_row _ _ 0 _ _ _ (heap_alloc_new w _)]; rfl
  have k1 : (w.alloc (.cells #[.int .i64 cat, vk] 52)).cell? ⟨w.heap.size, 1, none⟩ = some vk := by rw [cell_of_row _ _ 1 _ _ _ (heap_alloc_new w _)]; rfl
  have hs1 : (w.alloc (.cells #[.int .i64 cat, vk] 52)).heap.size = w.heap.size + 1 := by simp
  have HX : Hid (InRecs (w.heap.size + 1) (w.alloc (.cells #[.int .i64 cat, vk] 52)) v1 x) := h1.wide ha1 (by omega)
  have HY : Hid (InRecs (w.heap.size + 1) (w.alloc (.cells #[.int .i64 cat, vk] 52)) v2 y) := h2.wide ha1 (by omega)
  have HK : Hid (Bools (w.alloc (.cells #[.int .i64 cat, vk] 52)) vk ks) := hk.keep ha1
  have hvk : ∃ ao n c, vk = .slice ao n c := by
    rcases hk with ⟨h, _⟩ | ⟨a, cap, h, _⟩
    · exact ⟨_, _, _, h⟩
    · exact ⟨_, _, _, h⟩
  obtain ⟨kao, kn, kc, rfl⟩ := hvk
  obtain ⟨iaoX, icapX, hvX, hcX, _⟩ := h1.at
  obtain ⟨iaoY, icapY, hvY, hcY, _⟩ := h2.at
  subst hvX hvY
  clear h1 h2 hk
  go_enter Try.func4, Try.ntmps4
  go_wp2_with fail
  generalize hw1 : (w.alloc (.cells #[.int .i64 cat, .slice kao kn kc] 52)) = w1 at *
  rw [← hs1] at HX HY
  clear hw1
  refine (new_any 40 w1 (by omega)).mono ?_
  rintro e w2 ⟨gd, rfl, hD2, hb2⟩
  go_wp2_with fail
  refine (duo_format hD2 rfl 0 40 (by omega) (by show (0 : Int) + 40 ≤ 40; omega) (by show 0 + 0 + 40 + 1 < 100000; omega)).mono ?_
  rintro e w3 ⟨gl, F, G3, rfl, hU3, hO3⟩
  have hb3 : Below w1.heap.size w1 w3 := hb2.trans (hO3.below hb2.size (fun k hk => hk.1))
  have HR3 : Hid (Run w1.heap.size w1 w3 F G3 _ _ 0 _ 0 40 [] 0 (.slice none 0 0) [] []) := Run.start hU3 hb3 rfl
  clear hD2 hb2 hU3 hO3 hb3
  go_wp2_with fail
  refine (alive_any w3).mono ?_
  rintro e w4 ⟨rfl, hb4⟩
  have hdl : ((⟨40, fun _ => zsec, fun _ => zsec, [], 0⟩ : DS).settle (0 : Nat) 40 []).ws.length = 40 := DS.settle_len _ _ _ _ (by simp)
  obtain ⟨D, hD⟩ : ∃ D, (⟨40, fun _ => zsec, fun _ => zsec, [], 0⟩ : DS).settle (0 : Nat) 40 [] = D := ⟨_, rfl⟩
  rw [hD] at hdl
  have HRUNX0 := HR3.out.keepB hb4
  rw [hD] at HRUNX0
  have HRUNX : Hid (Run w1.heap.size w1 w4 F G3 (.pointer (some ⟨gd, 0, none⟩)) (.pointer (some ⟨gl, 0, none⟩)) 0 D 0 40 [] 0 (.slice none 0 0) [] []) := HRUNX0
  clear HRUNX0 HR3 hb4 hD
  go_wp2
  go_loopw [11, 12] (fun v i wr => ∃ (k : Nat) (ao : Option Addr) (vn vc : Nat) (G : Nat → Prop) (recs1 : List (List UInt8)) (vs : List Value), k ≤ x.length ∧ i = .int .i64 k ∧ v = .slice ao vn vc ∧ Hid (Run w1.heap.size w1 wr F G (.pointer (some ⟨gd, 0, none⟩)) (.pointer (some ⟨gl, 0, none⟩)) 0 D 0 40 recs1 0 (.slice ao vn vc) vs recs1)) (fun _ i _ => x.length - (intOf i).toNat)
  case atStart => exact ⟨0, _, _, _, _, [], _, Nat.zero_le _, rfl, rfl, HRUNX⟩
  case round =>
    obtain ⟨k, ao, vn, vc, G, recs1, vs, hk, rfl, rfl, HR⟩ := hrel
    by_cases hlt : k < x.length
    · obtain ⟨ao1, cap1, hv1, hc1, hat⟩ := (HX.out.keep HR.out.b).at
      have hv1' : (Value.slice iaoX x.length icapX) = .slice ao1 x.length cap1 := hv1
      cases hv1'
      clear hv1
      obtain ⟨g, o, a, en, ec, rfl, hgB, hcell, hBy, hlow, hlen⟩ := hat k hlt
      clear hat
      generalize x[k] = r at *
      have hof : OkR r → OffF G (.slice a en ec) := fun hok a' n' c' e hg => by have := hlow a' n' c' e (by intro e0; rw [e0] at hok; exact absurd hok.1 (by simp)); have := (HR.out.u.l.lo _ hg).1; omega
      have hap := duo_append_any HR.out.u (.slice a en ec) r hBy hof hlen
      have HAP : Hid (Calls Try.prog 15 #[(.pointer (some ⟨gl, 0, none⟩)), .slice a en ec] wr fun e w' => (OkR r ∧ e = .returned (.int .i64 0) ∧ ∃ G', Run w1.heap.size w1 w' F G' (.pointer (some ⟨gd, 0, none⟩)) (.pointer (some ⟨gl, 0, none⟩)) 0 D 0 40 (recs1 ++ [r]) 0 (.slice ao vn vc) vs recs1 ∧ w'.cell? ⟨g, o + k, none⟩ = some (.slice a en ec) ∧ Bytes w' (.slice a en ec) r) ∨ ((e = .returned (.int .i64 62) ∨ e = .returned (.int .i64 61)) ∧ Run w1.heap.size w1 w' F G (.pointer (some ⟨gd, 0, none⟩)) (.pointer (some ⟨gl, 0, none⟩)) 0 D 0 40 recs1 0 (.slice ao vn vc) vs recs1)) := by
        refine hap.mono ?_
        rintro e w' (⟨hok, _, he, G', hu, hO⟩ | ⟨hbad, hb⟩)
        · have hR' := HR.out.turn hu hO
          have hbb : Below w1.heap.size wr w' := hO.below HR.out.sz (fun k hk => (HR.out.u.lo k hk).1)
          refine Or.inl ⟨hok, he, G', hR', (hbb.cell (p := ⟨g, o + k, none⟩) hgB).trans hcell, ?_⟩
          rcases hBy with hBy | ⟨a', cap', hv', hc', hBy⟩
          · exact Or.inl hBy
          · exact Or.inr ⟨a', cap', hv', hc', fun j hj => (hbb.cell (p := a'.add j) (by rw [add_block]; exact hlow a' _ _ hv' (by intro e0; rw [e0] at hj; simp at hj))).trans (hBy j hj)⟩
        · refine Or.inr ⟨?_, HR.out.keepB hb⟩
          rcases hbad with ⟨_, h⟩ | ⟨_, _, h⟩
          · exact Or.inl h
          · exact Or.inr h
      have HLOW : Hid (∀ a' n' c', Value.slice a en ec = .slice (some a') n' c' → r ≠ [] → a'.block < w1.heap.size) := hlow
      clear hap hof hBy hlow
      go_wp2_with fail
      refine HAP.out.mono ?_
      rintro e w5 (⟨hok5, rfl, G5, hR5, hc5, hB5⟩ | ⟨he, hR5⟩)
      · have HR5 : Hid (Run w1.heap.size w1 w5 F G5 (.pointer (some ⟨gd, 0, none⟩)) (.pointer (some ⟨gl, 0, none⟩)) 0 D 0 40 (recs1 ++ [r]) 0 (.slice ao vn vc) vs recs1) := hR5
        have HB5 : Hid (Bytes w5 (.slice a en ec) r) := hB5
        have hvl : vs.length ≤ 10000 := by
          have := hR5.o.len
          have h16 := sizeL_len recs1 HR.out.u.oks
          have := HR.out.u.le
          omega
        have hsz5 := hR5.sz
        clear hcell hR5 hB5 HAP
        go_wp2_with (first | (at_builtin; refine wp_appV _ rfl _ _ rfl w1.heap.size (.slice ao vn vc) vs rfl (World.ownsRow.alloc HR5.out.o.own _) w5.heap.size (.slice a en ec) rfl (heap_alloc_new w5 _) rfl (by omega) (by simp; omega) ?_; intro v6 w6 hv6 hown6 hg6))
        obtain ⟨ao6, vn6, vc6, hv6⟩ := hv6
        subst hv6
        have hR6 := (HR5.out.keepB ((Below.refl _ _).alloc (Nat.le_refl _) (.cells #[.slice a en ec] 36))).snoc hown6 hg6 (HB5.out.keep ((Below.refl _ _).alloc (Nat.le_refl _) _)) (fun a' n' c' e => by
          have hl := HLOW.out a' n' c' e (by intro e0; rw [e0] at hok5; exact absurd hok5.1 (by simp))
          refine ⟨⟨by simp; omega, fun hb => ?_⟩, fun hb => ?_⟩
          · have := (HR5.out.u.lo _ hb).1; omega
          · have := (World.ownsRow.lt HR5.out.o.own _ hb).1; omega)
        have HR6 : Hid (Run w1.heap.size w1 w6 F G5 (.pointer (some ⟨gd, 0, none⟩)) (.pointer (some ⟨gl, 0, none⟩)) 0 D 0 40 (recs1 ++ [r]) 0 (.slice ao6 vn6 vc6) (vs ++ [.slice a en ec]) (recs1 ++ [r])) := by
          show Run _ _ _ _ _ _ _ _ _ _ _ _ _ _ _ _
          exact hR6
        clear hR6 hown6 hg6 HR5 HB5
        go_wp2
        go_roundw
        case rel => exact ⟨k + 1, ao6, vn6, vc6, G5, recs1 ++ [r], _, by omega, by go_num, rfl, HR6⟩
        case measure => simp [intOf]; omega
      · have HR5 : Hid (Run w1.heap.size w1 w5 F G (.pointer (some ⟨gd, 0, none⟩)) (.pointer (some ⟨gl, 0, none⟩)) 0 D 0 40 recs1 0 (.slice ao vn vc) vs recs1) := hR5
        clear hcell hR5 HAP
        rcases he with rfl | rfl
        all_goals
          go_wp2
          go_roundw
          case rel => exact ⟨k + 1, ao, vn, vc, G, recs1, vs, by omega, by go_num, rfl, HR5⟩
          case measure => simp [intOf]; omega
    · obtain ⟨hvn, hvc⟩ := HR.out.o.own.form
      have hvl := HR.out.o.len
      obtain rfl : vn = recs1.length := by omega
      clear hvn hvl hvc
      go_wp2_with fail
      refine (duo_flush HR.out.u (by omega)).mono ?_
      rintro e w7 ⟨rfl, F7, hU7, hO7⟩
      have hR7 := HR.out.turn hU7 hO7
      have hln := flushD_len D 0 40 recs1 0 HR.out.u.le
      obtain ⟨D1, hD1⟩ : ∃ D1, flushD D 0 recs1 0 = D1 := ⟨_, rfl⟩
      rw [hD1] at hR7 hln
      have HR7 : Hid (Run w1.heap.size w1 w7 F7 G (.pointer (some ⟨gd, 0, none⟩)) (.pointer (some ⟨gl, 0, none⟩)) 0 D1 0 40 recs1 recs1.length (.slice ao recs1.length vc) vs recs1) := hR7
      have HRUNY : Hid (Run w1.heap.size w1 w7 F7 G (.pointer (some ⟨gd, 0, none⟩)) (.pointer (some ⟨gl, 0, none⟩)) 0 D1 0 40 (recs1 ++ []) recs1.length (.slice ao recs1.length vc) vs (recs1 ++ [])) := by rw [List.append_nil]; exact hR7
      have hwr : Hid (Calls Try.prog 26 #[.pointer (some ⟨gd, 0, none⟩)] w7 fun e w' => e = .returned (.int .i64 D1.ws.length) ∧ w' = w7) := writes_any HR7.out.u.d
      clear hR7 hU7 hO7 HR hD1 HRUNX
      go_wp2_with (first | (go_at_call 26; refine hwr.out.mono ?_; rintro e wx ⟨rfl, hwx⟩; subst hwx))
      go_loopw [11, 15] (fun v i wr => ∃ (k : Nat) (ao : Option Addr) (vn vc : Nat) (G : Nat → Prop) (more : List (List UInt8)) (vs : List Value), k ≤ y.length ∧ i = .int .i64 k ∧ v = .slice ao vn vc ∧ Hid (Run w1.heap.size w1 wr F7 G (.pointer (some ⟨gd, 0, none⟩)) (.pointer (some ⟨gl, 0, none⟩)) 0 D1 0 40 (recs1 ++ more) recs1.length (.slice ao vn vc) vs (recs1 ++ more))) (fun _ i _ => y.length - (intOf i).toNat)
      case atStart => exact ⟨0, _, _, _, _, [], _, Nat.zero_le _, rfl, rfl, HRUNY⟩
      case round =>
        obtain ⟨k, ao, vn, vc, G, more, vs, hk, rfl, rfl, HR⟩ := hrel
        by_cases hlt : k < y.length
        · obtain ⟨ao1, cap1, hv1, hc1, hat⟩ := (HY.out.keep HR.out.b).at
          have hv1' : (Value.slice iaoY y.length icapY) = .slice ao1 y.length cap1 := hv1
          cases hv1'
          clear hv1
          obtain ⟨g, o, a, en, ec, rfl, hgB, hcell, hBy, hlow, hlen⟩ := hat k hlt
          clear hat
          generalize y[k] = r at *
          have hof : OkR r → OffF G (.slice a en ec) := fun hok a' n' c' e hg => by have := hlow a' n' c' e (by intro e0; rw [e0] at hok; exact absurd hok.1 (by simp)); have := (HR.out.u.l.lo _ hg).1; omega
          have hap := duo_append_any HR.out.u (.slice a en ec) r hBy hof hlen
          have HAP : Hid (Calls Try.prog 15 #[(.pointer (some ⟨gl, 0, none⟩)), .slice a en ec] wr fun e w' => (OkR r ∧ e = .returned (.int .i64 0) ∧ ∃ G', Run w1.heap.size w1 w' F7 G' (.pointer (some ⟨gd, 0, none⟩)) (.pointer (some ⟨gl, 0, none⟩)) 0 D1 0 40 ((recs1 ++ more) ++ [r]) recs1.length (.slice ao vn vc) vs (recs1 ++ more) ∧ w'.cell? ⟨g, o + k, none⟩ = some (.slice a en ec) ∧ Bytes w' (.slice a en ec) r) ∨ ((e = .returned (.int .i64 62) ∨ e = .returned (.int .i64 61)) ∧ Run w1.heap.size w1 w' F7 G (.pointer (some ⟨gd, 0, none⟩)) (.pointer (some ⟨gl, 0, none⟩)) 0 D1 0 40 (recs1 ++ more) recs1.length (.slice ao vn vc) vs (recs1 ++ more))) := by
            refine hap.mono ?_
            rintro e w' (⟨hok, _, he, G', hu, hO⟩ | ⟨hbad, hb⟩)
            · have hR' := HR.out.turn hu hO
              have hbb : Below w1.heap.size wr w' := hO.below HR.out.sz (fun k hk => (HR.out.u.lo k hk).1)
              refine Or.inl ⟨hok, he, G', hR', (hbb.cell (p := ⟨g, o + k, none⟩) hgB).trans hcell, ?_⟩
              rcases hBy with hBy | ⟨a', cap', hv', hc', hBy⟩
              · exact Or.inl hBy
              · exact Or.inr ⟨a', cap', hv', hc', fun j hj => (hbb.cell (p := a'.add j) (by rw [add_block]; exact hlow a' _ _ hv' (by intro e0; rw [e0] at hj; simp at hj))).trans (hBy j hj)⟩
            · refine Or.inr ⟨?_, HR.out.keepB hb⟩
              rcases hbad with ⟨_, h⟩ | ⟨_, _, h⟩
              · exact Or.inl h
              · exact Or.inr h
          have HLOW : Hid (∀ a' n' c', Value.slice a en ec = .slice (some a') n' c' → r ≠ [] → a'.block < w1.heap.size) := hlow
          clear hap hof hBy hlow
          go_wp2_with fail
          refine HAP.out.mono ?_
          rintro e w5 (⟨hok5, rfl, G5, hR5, hc5, hB5⟩ | ⟨he, hR5⟩)
          · have HR5 : Hid (Run w1.heap.size w1 w5 F7 G5 (.pointer (some ⟨gd, 0, none⟩)) (.pointer (some ⟨gl, 0, none⟩)) 0 D1 0 40 ((recs1 ++ more) ++ [r]) recs1.length (.slice ao vn vc) vs (recs1 ++ more)) := hR5
            have HB5 : Hid (Bytes w5 (.slice a en ec) r) := hB5
            have hvl : vs.length ≤ 10000 := by
              have := hR5.o.len
              have h16 := sizeL_len (recs1 ++ more) HR.out.u.oks
              have := HR.out.u.le
              omega
            have hsz5 := hR5.sz
            clear hcell hR5 hB5 HAP
            go_wp2_with (first | (at_builtin; refine wp_appV _ rfl _ _ rfl w1.heap.size (.slice ao vn vc) vs rfl (World.ownsRow.alloc HR5.out.o.own _) w5.heap.size (.slice a en ec) rfl (heap_alloc_new w5 _) rfl (by omega) (by simp; omega) ?_; intro v6 w6 hv6 hown6 hg6))
            obtain ⟨ao6, vn6, vc6, hv6⟩ := hv6
            subst hv6
            have hR6 := (HR5.out.keepB ((Below.refl _ _).alloc (Nat.le_refl _) (.cells #[.slice a en ec] 36))).snoc hown6 hg6 (HB5.out.keep ((Below.refl _ _).alloc (Nat.le_refl _) _)) (fun a' n' c' e => by
              have hl := HLOW.out a' n' c' e (by intro e0; rw [e0] at hok5; exact absurd hok5.1 (by simp))
              refine ⟨⟨by simp; omega, fun hb => ?_⟩, fun hb => ?_⟩
              · have := (HR5.out.u.lo _ hb).1; omega
              · have := (World.ownsRow.lt HR5.out.o.own _ hb).1; omega)
            have HR6 : Hid (Run w1.heap.size w1 w6 F7 G5 (.pointer (some ⟨gd, 0, none⟩)) (.pointer (some ⟨gl, 0, none⟩)) 0 D1 0 40 (recs1 ++ (more ++ [r])) recs1.length (.slice ao6 vn6 vc6) (vs ++ [.slice a en ec]) (recs1 ++ (more ++ [r]))) := by
              show Run _ _ _ _ _ _ _ _ _ _ _ _ _ _ _ _
              rw [← List.append_assoc]; exact hR6
            clear hR6 hown6 hg6 HR5 HB5
            go_wp2
            go_roundw
            case rel => exact ⟨k + 1, ao6, vn6, vc6, G5, more ++ [r], _, by omega, by go_num, rfl, HR6⟩
            case measure => simp [intOf]; omega
          · have HR5 : Hid (Run w1.heap.size w1 w5 F7 G (.pointer (some ⟨gd, 0, none⟩)) (.pointer (some ⟨gl, 0, none⟩)) 0 D1 0 40 (recs1 ++ more) recs1.length (.slice ao vn vc) vs (recs1 ++ more)) := hR5
            clear hcell hR5 HAP
            rcases he with rfl | rfl
            all_goals
              go_wp2
              go_roundw
              case rel => exact ⟨k + 1, ao, vn, vc, G, more, vs, by omega, by go_num, rfl, HR5⟩
              case measure => simp [intOf]; omega
        · obtain ⟨hvn, hvc⟩ := HR.out.o.own.form
          have hvl := HR.out.o.len
          rw [List.length_append] at hvl
          have hvcn : recs1.length ≤ vc := by omega
          clear hvn hvl hvc
          go_wp2_with fail
          refine (duo_flush HR.out.u (by omega)).mono ?_
          rintro e w8 ⟨rfl, F8, hU8, hO8⟩
          have HR8 : Hid (Run w1.heap.size w1 w8 F8 G (.pointer (some ⟨gd, 0, none⟩)) (.pointer (some ⟨gl, 0, none⟩)) 0 (flushD D1 0 (recs1 ++ more) recs1.length) 0 40 (recs1 ++ more) (recs1 ++ more).length (.slice ao vn vc) vs (recs1 ++ more)) := HR.out.turn hU8 hO8
          have kk0 := (HR8.out.b.cell (p := ⟨w.heap.size, 0, none⟩) (by show w.heap.size < w1.heap.size; omega)).trans k0
          have kk1 := (HR8.out.b.cell (p := ⟨w.heap.size, 1, none⟩) (by show w.heap.size < w1.heap.size; omega)).trans k1
          have HK8 : Hid (Bools w8 (.slice kao kn kc) ks) := HK.out.keep HR8.out.b
          have hln2 := flushD_len D1 0 40 (recs1 ++ more) recs1.length HR.out.u.le
          have hfl2 := HR7.out.u.first_len0
          have HC1 : Hid (Clean D1.now 0 40 (frames recs1)) := HR7.out.u.clean rfl
          have HST : Hid D1.still := HR7.out.u.st
          have hsz8 := HR8.out.u.sz
          clear hU8 hO8
          go_wp2_with fail
          refine (Cut_any HR8.out.u.d _ ks HK8.out).mono ?_
          rintro e w9 ⟨c9, F9, rfl, hD9, hb9⟩
          have k90 := cell_keep hb9 kk0
          have k91 := cell_keep hb9 kk1
          have HU9 : Hid (Duo _ w9 F8 G _ _ _ _ _ 40 _ _) := HR8.out.u.keepB hb9
          have HK9 : Hid (Bools w9 (.slice kao kn kc) ks) := HK8.out.keep hb9
          by_cases hmore : more = []
          · have hD2 : flushD D1 0 (recs1 ++ more) recs1.length = D1 := by unfold flushD; rw [if_pos (by rw [hmore]; simp)]
            clear hmore
            rw [hD2] at HU9 hD9
            have hw : Hid (∀ wz, wz = w9 → Calls Try.prog 26 #[.pointer (some ⟨gd, 0, none⟩)] wz fun e w' => e = .returned (.int .i64 D1.ws.length) ∧ w' = wz) := fun wz hz => by subst hz; exact writes_any HU9.out.d
            have hDL := hD9
            have hstL : (D1.left D1.ws.length D1.safe ks).sound := rfl
            have hszL : ((0 : Nat) : Int) + (40 : Nat) ≤ (D1.left D1.ws.length D1.safe ks).size := by have := HR7.out.u.sz; exact this
            have hcntL : 0 + D1.ws.length + (D1.left D1.ws.length D1.safe ks).ws.length + 40 + 1 < 100000 := by show 0 + D1.ws.length + 0 + 40 + 1 < 100000; omega
            have hPL : Parses (reg (D1.left D1.ws.length D1.safe ks).now ((0 : Nat) : Int) 40) recs1 ∨ Parses (reg (D1.left D1.ws.length D1.safe ks).now ((0 : Nat) : Int) 40) (recs1 ++ more) := by
              left
              have e1 : (D1.left D1.ws.length D1.safe ks).now = D1.now := by
                show cutF ks D1.safe D1.first (D1.ws.take D1.ws.length) = D1.now
                rw [List.take_length]; exact HST.out.cut ks
              rw [e1]
              exact HC1.out.parses (now_len HR7.out.u.d) HR7.out.u.oks HR7.out.u.le
            have hbL := hb9
            have hbase : w8.heap.size ≤ w8.heap.size := Nat.le_refl _
            have hb1x : True := trivial
            clear hD9 hD2
            go_wp2_with (first | (go_at_call 26; refine (hw.out _ rfl).mono ?_; rintro e wx ⟨rfl, hwx⟩; subst hwx))
            go_wp2_with fail
            refine (duo_open hDL hstL 0 40 (by omega) hszL hcntL).mono ?_
            rintro e w11 ⟨recsM, gm, F11, G11, rfl, hp11, hU11, hO11, _, hO11'⟩
            have hrec : recsM = recs1 ∨ recsM = recs1 ++ more := by
              rcases hPL with h | h
              · exact Or.inl (parses_unique hp11 h)
              · exact Or.inr (parses_unique hp11 h)
            have hb11 : Below w8.heap.size w8 w11 := hbL.trans (hO11.below hbL.size (fun k hk => Nat.le_trans hbase (hDL.lo k hk).1))
            have HU11 : Hid (Duo _ w11 F11 G11 _ _ _ _ _ 40 recsM recsM.length) := hU11
            have hRA : RecsIn w11 (Rest F8 G w8) (.slice ao vn vc) (recs1 ++ more) := HR8.out.o.recs.keepB hb11
            have HRA : Hid (RecsIn w11 (Rest F8 G w8) (.slice ao vn vc) (recs1 ++ more)) := hRA
            have hRT : RecsIn w11 (Rest F8 G w8) (.slice ao recs1.length vc) recs1 := by
              have := hRA.take recs1.length (by rw [List.length_append]; omega)
              rwa [List.take_left' rfl] at this
            have HRT : Hid (RecsIn w11 (Rest F8 G w8) (.slice ao recs1.length vc) recs1) := hRT
            have hml := HU11.out.ok
            have hmle := HU11.out.le
            clear hDL hstL hszL hcntL hPL hbL hp11 hU11 hO11 hO11' hRA hRT hb1x
            have hbase' : True := trivial
            go_wp2
            go_region_held_law (fun _ => True) (trivial) (first
              | (go_at_call 23; refine (records_any (HU11.out.keepB ((Below.refl _ _).drew)).l HU11.out.oks).mono ?_; rintro e w12 ⟨v12, rfl, hN12, hb12⟩
                 have hb12' : Below w11.heap.size w11 w12 := ⟨hb12.os, hb12.tape, hb12.output, hb12.size, hb12.block⟩)
              | (go_at_call 20; refine (same_any (hN12.choose_spec).recs (HRT.out.keepB hb12') (by omega)).mono ?_; rintro e w13 ⟨rfl, hb13⟩))
            have hb13' : Below w11.heap.size w11 w13 := hb12'.trans (hb13.mono hb12'.size)
            clear hb12 hb13 hN12 hb12'
            go_wp2_with fail
            refine (records_any (HU11.out.keepB hb13').l HU11.out.oks).mono ?_
            rintro e w14 ⟨v14, rfl, hN14, hb14⟩
            have hb14' : Below w11.heap.size w11 w14 := hb13'.trans (hb14.mono hb13'.size)
            obtain ⟨vs14, hN14⟩ := hN14
            go_wp2_with fail
            refine (same_any hN14.recs (HRA.out.keepB hb14') (by omega)).mono ?_
            rintro e w15 ⟨rfl, hb15⟩
            have hb15' : Below w11.heap.size w11 w15 := hb14'.trans (hb15.mono hb14'.size)
            have hfin : Below w.heap.size w w15 := by
              have q1 := HR8.out.b
              have q2 : Below w.heap.size w w8 := ha1.trans (q1.mono (by omega))
              have q3 := q2.trans (hb11.mono q2.size)
              exact q3.trans (hb15'.mono q3.size)
            have hor : (decide (recsM = recs1) || decide (recsM = recs1 ++ more)) = true := by
              rcases hrec with h | h
              · rw [decide_eq_true h]; rfl
              · rw [decide_eq_true (p := recsM = recs1 ++ more) h]; simp
            clear hb15 hb15' hb14 hb14' hN14 hb13' hrec
            generalize decide (recsM = recs1) = b1 at *
            generalize decide (recsM = recs1 ++ more) = b2 at *
            cases b1
            · obtain rfl : b2 = true := by simpa using hor
              go_wp2
              go_ret
              exact ⟨rfl, hfin⟩
            · go_wp2
              go_ret
              exact ⟨rfl, hfin⟩
          · have hm0 : 0 < more.length := by
              rcases more with _ | ⟨r, l⟩
              · exact absurd rfl hmore
              · simp
            have hD2 : flushD D1 0 (recs1 ++ more) recs1.length = D1.flush 0 (sizeL recs1) (frames (recs1 ++ more)) := by
              unfold flushD
              rw [if_neg (by rw [List.length_append]; omega), List.take_left' rfl]
            have hWl : D1.ws.length < (flushD D1 0 (recs1 ++ more) recs1.length).ws.length := by rw [hD2, DS.flush_len]; omega
            have HLE : Hid (sizeL (recs1 ++ more) ≤ 128 * 40) := HR.out.u.le
            have HOK : Hid (∀ r ∈ recs1 ++ more, OkR r) := HR.out.u.oks
            obtain ⟨q0, hq0⟩ : ∃ q0, (flushD D1 0 (recs1 ++ more) recs1.length).ws.length - D1.ws.length = q0 := ⟨_, rfl⟩
            have hq01 : 0 < q0 := by omega
            have hq02 : q0 ≤ 1000 := by omega
            have HCA : Hid (∀ q wz, q < q0 → Below w9.heap.size w9 wz → Calls Try.prog 27 #[.pointer (some ⟨gd, 0, none⟩), .int .i64 ((D1.ws.length : Int) + 1 + (q : Nat)), .slice kao kn kc] wz fun e w' => ∃ (c : Nat) (FL : Nat → Prop) (DL : DS) (nL : Nat), e = .returned (.pointer (some ⟨c, 0, none⟩)) ∧ DiskAt w8.heap.size w' FL (.pointer (some ⟨c, 0, none⟩)) nL DL ∧ DL.sound ∧ ((0 : Nat) : Int) + (40 : Nat) ≤ DL.size ∧ nL + DL.ws.length + 40 + 1 < 100000 ∧ (Parses (reg DL.now ((0 : Nat) : Int) 40) recs1 ∨ Parses (reg DL.now ((0 : Nat) : Int) 40) (recs1 ++ more)) ∧ Below w9.heap.size w9 w') := by
              intro q wz hq hbz
              have hUz := HU9.out.keepB hbz
              refine (CutAt_any hUz.d _ (D1.ws.length + 1 + q) (by omega) _ ks (HK9.out.keep hbz)).mono ?_
              rintro e w' ⟨c, FL, he, hDL, hbL⟩
              have hlens := hUz.d.first_len
              refine ⟨c, FL, _, _, he, hDL.base_le (Nat.le_trans hb9.size hbz.size), rfl, hsz8, by show 0 + _ + 0 + 40 + 1 < 100000; omega, ?_, hbz.trans (hbL.mono hbz.size)⟩
              have hG := left_len (D := flushD D1 0 (recs1 ++ more) recs1.length) (m := D1.ws.length + 1 + q) (s := (flushD D1 0 (recs1 ++ more) recs1.length).safeAt (D1.ws.length + 1 + q)) (ks := ks) hlens.1 hlens.2
              have hWq : D1.ws.length + 1 + q ≤ (flushD D1 0 (recs1 ++ more) recs1.length).ws.length := by omega
              rw [hD2] at hG hWq ⊢
              exact flush_crash D1 HST.out 0 40 recs1 more HC1.out HOK.out hm0 HLE.out (D1.ws.length + 1 + q) (by omega) hWq ks hG
            have HWR : Hid (∀ wz, Below w9.heap.size w9 wz → Calls Try.prog 26 #[.pointer (some ⟨gd, 0, none⟩)] wz fun e w' => e = .returned (.int .i64 (flushD D1 0 (recs1 ++ more) recs1.length).ws.length) ∧ w' = wz) := fun wz hz => writes_any (HU9.out.keepB hz).d
            have hsub : ((flushD D1 0 (recs1 ++ more) recs1.length).ws.length : Int) - (D1.ws.length : Int) = (q0 : Int) := by omega
            have hW64 : (flushD D1 0 (recs1 ++ more) recs1.length).ws.length ≤ 100000 := by omega
            have hD64 : D1.ws.length ≤ 100000 := by omega
            have hwq : IntKind.i64.wrap (q0 : Int) = (q0 : Int) := by rw [IntKind.wrap_i64]; omega
            have hw1 : IntKind.i64.wrap ((D1.ws.length : Int) + 1) = (D1.ws.length : Int) + 1 := by rw [IntKind.wrap_i64]; omega
            have hwj : ∀ q : Nat, q < q0 → IntKind.i64.wrap ((D1.ws.length : Int) + 1 + (q : Int)) = (D1.ws.length : Int) + 1 + (q : Int) := fun q hq => by rw [IntKind.wrap_i64]; omega
            have h9b := hb9
            clear hD9 hD2 hq0 hmore hm0 hln2 hln
            generalize (flushD D1 0 (recs1 ++ more) recs1.length).ws.length = W2 at *
            go_wp2_with (first | (go_at_call 26; refine (HWR.out _ (Below.refl _ _)).mono ?_; rintro e wx ⟨rfl, hwx⟩; subst hwx))
            go_region_held_law (fun w' => w'.cell? ⟨w.heap.size, 0, none⟩ = some (.int .i64 cat) ∧ w'.cell? ⟨w.heap.size, 1, none⟩ = some (.slice kao kn kc)) (first | exact ⟨k90, k91⟩ | exact ⟨cell_keep hbLL k90, cell_keep hbLL k91⟩) (first
              | (go_at_call 26; refine (HWR.out _ (Below.refl _ _).drew).mono ?_; rintro e wy ⟨rfl, hwy⟩; subst hwy)
              | (go_at_call 9; refine (pick_any cat q0 _ hat hq01 (by omega)).mono ?_; rintro e wy ⟨⟨q, hq, rfl⟩, hwy⟩; subst hwy; have hwjq := hwj q hq)
              | (go_at_call 27; refine (HCA.out q _ hq (Below.refl _ _).drew).mono ?_; rintro e wL ⟨cL, FL, DL, nL, rfl, hDL, hstL, hszL, hcntL, hPL, hbLL⟩))
            have hb9w : Below w8.heap.size w8 wx := hb9
            have hbL : Below w8.heap.size w8 wL := hb9w.trans (hbLL.mono hb9w.size)
            have hbase : w8.heap.size ≤ w8.heap.size := Nat.le_refl _
            have hb1x : True := trivial
            clear hbLL HCA HWR k90 k91
            go_wp2_with fail
            refine (duo_open hDL hstL 0 40 (by omega) hszL hcntL).mono ?_
            rintro e w11 ⟨recsM, gm, F11, G11, rfl, hp11, hU11, hO11, _, hO11'⟩
            have hrec : recsM = recs1 ∨ recsM = recs1 ++ more := by
              rcases hPL with h | h
              · exact Or.inl (parses_unique hp11 h)
              · exact Or.inr (parses_unique hp11 h)
            have hb11 : Below w8.heap.size w8 w11 := hbL.trans (hO11.below hbL.size (fun k hk => Nat.le_trans hbase (hDL.lo k hk).1))
            have HU11 : Hid (Duo _ w11 F11 G11 _ _ _ _ _ 40 recsM recsM.length) := hU11
            have hRA : RecsIn w11 (Rest F8 G w8) (.slice ao vn vc) (recs1 ++ more) := HR8.out.o.recs.keepB hb11
            have HRA : Hid (RecsIn w11 (Rest F8 G w8) (.slice ao vn vc) (recs1 ++ more)) := hRA
            have hRT : RecsIn w11 (Rest F8 G w8) (.slice ao recs1.length vc) recs1 := by
              have := hRA.take recs1.length (by rw [List.length_append]; omega)
              rwa [List.take_left' rfl] at this
            have HRT : Hid (RecsIn w11 (Rest F8 G w8) (.slice ao recs1.length vc) recs1) := hRT
            have hml := HU11.out.ok
            have hmle := HU11.out.le
            clear hDL hstL hszL hcntL hPL hbL hp11 hU11 hO11 hO11' hRA hRT hb1x
            have hbase' : True := trivial
            go_wp2
            go_region_held_law (fun _ => True) (trivial) (first
              | (go_at_call 23; refine (records_any (HU11.out.keepB ((Below.refl _ _).drew)).l HU11.out.oks).mono ?_; rintro e w12 ⟨v12, rfl, hN12, hb12⟩
                 have hb12' : Below w11.heap.size w11 w12 := ⟨hb12.os, hb12.tape, hb12.output, hb12.size, hb12.block⟩)
              | (go_at_call 20; refine (same_any (hN12.choose_spec).recs (HRT.out.keepB hb12') (by omega)).mono ?_; rintro e w13 ⟨rfl, hb13⟩))
            have hb13' : Below w11.heap.size w11 w13 := hb12'.trans (hb13.mono hb12'.size)
            clear hb12 hb13 hN12 hb12'
            go_wp2_with fail
            refine (records_any (HU11.out.keepB hb13').l HU11.out.oks).mono ?_
            rintro e w14 ⟨v14, rfl, hN14, hb14⟩
            have hb14' : Below w11.heap.size w11 w14 := hb13'.trans (hb14.mono hb13'.size)
            obtain ⟨vs14, hN14⟩ := hN14
            go_wp2_with fail
            refine (same_any hN14.recs (HRA.out.keepB hb14') (by omega)).mono ?_
            rintro e w15 ⟨rfl, hb15⟩
            have hb15' : Below w11.heap.size w11 w15 := hb14'.trans (hb15.mono hb14'.size)
            have hfin : Below w.heap.size w w15 := by
              have q1 := HR8.out.b
              have q2 : Below w.heap.size w w8 := ha1.trans (q1.mono (by omega))
              have q3 := q2.trans (hb11.mono q2.size)
              exact q3.trans (hb15'.mono q3.size)
            have hor : (decide (recsM = recs1) || decide (recsM = recs1 ++ more)) = true := by
              rcases hrec with h | h
              · rw [decide_eq_true h]; rfl
              · rw [decide_eq_true (p := recsM = recs1 ++ more) h]; simp
            clear hb15 hb15' hb14 hb14' hN14 hb13' hrec
            generalize decide (recsM = recs1) = b1 at *
            generalize decide (recsM = recs1 ++ more) = b2 at *
            cases b1
            · obtain rfl : b2 = true := by simpa using hor
              go_wp2
              go_ret
              exact ⟨rfl, hfin⟩
            · go_wp2
              go_ret
              exact ⟨rfl, hfin⟩


end Go.Proofs.Ytcommmgelmbhbaa

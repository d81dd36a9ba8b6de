/- The walk of the law WalPlays. -/
import Derived.Test.YtcjoolmlobjpbaaW6V
import Derived.Test.YtcjoolmlobjpbaaW6Open5
import Derived.Deep.CutBlock
import Derived.Deep.DeepCutAuto
namespace Go.Proofs.Ytcjoolmlobjpbaa
open Go.RowKit Go.Maps
set_option linter.unusedVariables false
set_option linter.unusedSimpArgs false

theorem infoOp6 : (Try.prog.info? 39).map (·.size) = some 3 := by kernel_rfl
set_option maxRecDepth 100000 in
set_option maxHeartbeats 20000000 in
theorem walPlays_law (sz first m : Int) (v : Value) (rs : List Op6) (w : World) (hsz : -9223372036854775808 ≤ sz ∧ sz ≤ 9223372036854775807) (hfi : -9223372036854775808 ≤ first ∧ first ≤ 9223372036854775807) (hm : -9223372036854775808 ≤ m ∧ m ≤ 9223372036854775807) (hv : Ops6 w v rs) (hok : ∀ x ∈ rs, Op6Ok 140737488351232 w x) (hl : rs.length ≤ 4398046511104) :
    Calls Try.prog 3 #[.agg #[.int .i64 sz, .int .i64 first, .int .i64 m], v] w fun e w' => e = .returned (.bool true) ∧ Below w.heap.size w w' := by
  obtain ⟨ao, cap, rfl, hcap, hcl⟩ := hv
  have HOK : Hid (∀ x ∈ rs, Op6Ok 140737488351232 w x) := hok
  have HCL : Hid (rs = [] ∨ ∃ g o, ao = some ⟨g, o, none⟩ ∧ ∀ k (h : k < rs.length), w.rangeAt g (o + k * 3) (cellsO6 rs[k])) := hcl
  clear hok hcl
  go_enter Try.func3, Try.ntmps3
  have h0 : Below w.heap.size w (w.alloc (.cells #[.int .i64 sz, .int .i64 first, .int .i64 m] 23)) := (Below.refl _ _).alloc (Nat.le_refl _) _
  have hob := heap_alloc_new w (.cells #[.int .i64 sz, .int .i64 first, .int .i64 m] 23)
  go_wp2_with fail
  refine (pick_any sz 60 _ hsz (by omega) (by omega)).mono ?_
  rintro e w1 ⟨⟨q, hq, rfl⟩, hw1⟩
  have hb1 : Below w.heap.size w w1 := by rw [hw1]; exact h0
  have hs1 : w1.heap.size = w.heap.size + 1 := by rw [hw1]; simp
  have HX : Hid (w1.heap[w.heap.size]? = some (.cells #[.int .i64 sz, .int .i64 first, .int .i64 m] 23 (0, 0))) := by rw [hw1]; exact hob
  clear hw1 h0 hob
  go_wp2_with fail
  refine (new_any (1 + q) w1 (by omega)).mono ?_
  rintro e w2 ⟨gd, rfl, hD2, hb2⟩
  have hs2 := hb2.size
  have HD2 : Hid (DiskAt w1.heap.size w2 (fun k => w1.heap.size ≤ k ∧ k < w2.heap.size) (.pointer (some ⟨gd, 0, none⟩)) 0 ⟨1 + q, fun _ => zsec, fun _ => zsec, [], 0⟩) := hD2
  clear hD2
  go_wp2_with fail
  refine (alive_any w2).mono ?_
  rintro e w3 ⟨rfl, hb3⟩
  have HD3 : Hid (DiskAt w1.heap.size w3 (fun k => w1.heap.size ≤ k ∧ k < w2.heap.size) (.pointer (some ⟨gd, 0, none⟩)) 0 ⟨1 + q, fun _ => zsec, fun _ => zsec, [], 0⟩) := HD2.out.keepB hb3
  have hs3 := hb3.size
  have hb13 : Below w1.heap.size w1 w3 := hb2.trans (hb3.mono hs2)
  have HX3 : Hid (w3.heap[w.heap.size]? = some (.cells #[.int .i64 sz, .int .i64 first, .int .i64 m] 23 (0, 0))) := (hb13.block _ (by omega)).trans HX.out
  have hbl := HX3.out
  have b1 : w3.cell? ⟨w.heap.size, 1, none⟩ = some (.int .i64 first) := by rw [cell_of_row w3 _ 1 _ _ _ hbl]; rfl
  have b2 : w3.cell? ⟨w.heap.size, 2, none⟩ = some (.int .i64 m) := by rw [cell_of_row w3 _ 2 _ _ _ hbl]; rfl
  have HX1 := HX
  clear hbl HD2 HX hb2 hb3
  have hbw3 : Below w.heap.size w w3 := hb1.trans (hb13.mono (by omega))
  obtain ⟨z, hz⟩ : ∃ z : Int, 1 + (q : Int) = z := ⟨_, rfl⟩
  rw [hz] at HD3
  have HSZ : Hid (∀ wz, Below w3.heap.size w3 wz → Calls Try.prog 12 #[.pointer (some ⟨gd, 0, none⟩)] wz fun e w' => e = .returned (.int .i64 z) ∧ w' = wz) := fun wz hwz => size_any (HD3.out.keepB hwz)
  by_cases hA : first < 0 ∨ m < 1 ∨ 1024 < m
  · have hck := check_arg ⟨gd, 0, none⟩ first m w3 hA
    have hfm := format_refused _ first m 1 (Or.inl rfl) w3 hck
    have hop := open_refused _ first m 1 (Or.inl rfl) w3 hck
    have ht : (decide (first < 0) = true) ∨ (decide (first < 0) = false ∧ decide (m < 1) = true) ∨ (decide (first < 0) = false ∧ decide (m < 1) = false ∧ decide (m > 1024) = true) := by
      by_cases a1 : first < 0
      · exact Or.inl (by simpa using a1)
      · by_cases a2 : m < 1
        · exact Or.inr (Or.inl ⟨by simpa using a1, by simpa using a2⟩)
        · exact Or.inr (Or.inr ⟨by simpa using a1, by simpa using a2, by simp; omega⟩)
    clear hA hck
    rcases ht with t1 | ⟨t1, t2⟩ | ⟨t1, t2, t3⟩
    all_goals
      go_wp2_with (first
        | (go_at_call 11; refine hfm.mono ?_; rintro e wx ⟨rfl, hwx⟩; rw [hwx]; clear hwx wx)
        | (go_at_call 13; refine hop.mono ?_; rintro e wx ⟨rfl, hwx⟩; rw [hwx]; clear hwx wx))
      go_ret
      exact ⟨rfl, hbw3⟩
  · have t1 : decide (first < 0) = false := by simp; omega
    have t2 : decide (m < 1) = false := by simp; omega
    have t3 : decide (m > 1024) = false := by simp; omega
    have hck : ∀ wz, Below w3.heap.size w3 wz → Calls Try.prog 29 #[.pointer (some ⟨gd, 0, none⟩), .int .i64 first, .int .i64 m] wz fun e w' => e = .returned (.int .i64 (if z - m < first then 64 else 0)) ∧ w' = wz := fun wz hwz => check_fit (HD3.out.keepB hwz) first m (by omega) (by omega) (by omega) (by omega)
    have hw4 : IntKind.i64.wrap (z - m) = z - m := by rw [IntKind.wrap_i64]; omega
    by_cases hB : z - m < first
    · simp only [if_pos hB] at hck
      have hfm := format_refused _ first m 64 (Or.inr rfl) w3 (hck w3 (Below.refl _ _))
      have HOP : Hid (∀ wz, Below w3.heap.size w3 wz → Calls Try.prog 13 #[.pointer (some ⟨gd, 0, none⟩), .int .i64 first, .int .i64 m] wz fun e w' => e = .returned (.tuple #[.pointer none, .int .i64 64]) ∧ w' = wz) := fun wz hwz => open_refused _ first m 64 (Or.inr rfl) wz (hck wz hwz)
      have t4 : decide (first > z - m) = true := by simpa using hB
      have t5 : decide (z - m < first) = true := by simpa using hB
      clear hck
      go_wp2_with (first
        | (go_at_call 11; refine hfm.mono ?_; rintro e wx ⟨rfl, hwx⟩; rw [hwx]; clear hwx wx))
      go_quiet ((go_at_call 12; exact Calls.quiet_of_same (HSZ.out _ (below_drewN (Below.refl _ _) _))))
      go_wp2_with (first
        | (go_at_call 13; refine (HOP.out _ (below_drewN (Below.refl _ _) _)).mono ?_; rintro e wx ⟨rfl, hwx⟩; rw [hwx]; clear hwx wx))
      go_ret
      exact ⟨rfl, below_drewN hbw3 _⟩
    · clear hck
      obtain ⟨fn, rfl⟩ : ∃ fn : Nat, first = fn := ⟨first.toNat, by omega⟩
      obtain ⟨mn, rfl⟩ : ∃ mn : Nat, m = mn := ⟨m.toNat, by omega⟩
      have t4 : decide ((fn : Int) > z - mn) = false := by simpa using hB
      have t5 : decide (z - (mn : Int) < fn) = false := by simpa using hB
      have hmn : mn ≤ 60 := by omega
      have hfm := duo_format HD3.out rfl fn mn (by omega) (by show (fn : Int) + mn ≤ z; omega) (by show 0 + 0 + mn + 1 < 100000; omega)
      go_wp2_with fail
      refine hfm.mono ?_
      rintro e w4 ⟨gl, F4, G4, rfl, hU4, hO4⟩
      have hdl : ((⟨z, fun _ => zsec, fun _ => zsec, [], 0⟩ : DS).settle fn mn []).ws.length = mn := by rw [DS.settle_len _ _ _ _ (by simp)]; simp
      have hds : ((⟨z, fun _ => zsec, fun _ => zsec, [], 0⟩ : DS).settle fn mn []).size = z := rfl
      obtain ⟨D4, hD4⟩ : ∃ D4, (⟨z, fun _ => zsec, fun _ => zsec, [], 0⟩ : DS).settle fn mn [] = D4 := ⟨_, rfl⟩
      rw [hD4] at hdl hU4 hds
      have hb14 : Below w1.heap.size w1 w4 := hb13.trans (hO4.below (by omega) (fun k hk => hk.1))
      have HU4 : Hid (Duo w1.heap.size w4 F4 G4 (.pointer (some ⟨gd, 0, none⟩)) (.pointer (some ⟨gl, 0, none⟩)) 0 D4 fn mn [] 0) := hU4
      have hbl := (hb14.block _ (by omega)).trans HX1.out
      have e1 : w4.cell? ⟨w.heap.size, 1, none⟩ = some (.int .i64 fn) := by rw [cell_of_row _ _ 1 _ _ _ hbl]; rfl
      have e2 : w4.cell? ⟨w.heap.size, 2, none⟩ = some (.int .i64 mn) := by rw [cell_of_row _ _ 2 _ _ _ hbl]; rfl
      have HSZ4 : Hid (∀ wz, Below w4.heap.size w4 wz → Calls Try.prog 12 #[.pointer (some ⟨gd, 0, none⟩)] wz fun e w' => e = .returned (.int .i64 z) ∧ w' = wz) := fun wz hwz => by
        have := size_any (HU4.out.d.keepB hwz)
        rw [hds] at this
        exact this
      clear hD4 hU4 hO4 hfm HSZ HD3 b1 b2 hbl hb13 hbw3 HX3
      go_wp2_with fail
      go_quiet ((go_at_call 12; exact Calls.quiet_of_same (HSZ4.out _ (below_drewN (Below.refl _ _) _))))
      have HOP : Hid (∀ wz, Below w4.heap.size w4 wz → Calls Try.prog 13 #[.pointer (some ⟨gd, 0, none⟩), .int .i64 fn, .int .i64 mn] wz fun e w' => ∃ (g : Nat) (F' : Nat → Prop) (D' : DS), e = .returned (.tuple #[.pointer (some ⟨g, 0, none⟩), .int .i64 0]) ∧ D'.size = z ∧ D'.ws.length ≤ 120 ∧ Run w1.heap.size w1 w' F' G4 (.pointer (some ⟨gd, 0, none⟩)) (.pointer (some ⟨gl, 0, none⟩)) 0 D' fn mn [] 0 (.slice none 0 0) [] []) := fun wz hwz => by
        have hU := HU4.out.keepB hwz
        refine (duo_open hU.d hU.st.1 fn mn (by omega) (by rw [hds]; omega) (by omega)).mono ?_
        rintro e w' ⟨recs, g, F', G', he, hp, hU', hO', hG', _⟩
        have hp0 : Parses (reg D4.now fn mn) [] := (HU4.out.clean rfl).parses (now_len HU4.out.d) (by simp) (by simp [sizeL, frames])
        obtain rfl := parses_unique hp hp0
        refine ⟨g, F', D4.settle fn mn (frames []), he, hds, ?_, Run.start ⟨hU'.d, hU.l.keep hO'.f (fun k hk hf => hU.a k hf hk), fun k hk hg => ?_, hU'.st, by simp, hU'.cl, hU'.sz, by simp [sizeL, frames], Nat.le_refl _⟩ ?_ rfl⟩
        · rw [DS.settle_len _ _ _ _ (by simp [frames])]; omega
        · rcases hO'.o k hk with h1 | h1
          · exact hU.a k h1 hg
          · have := (hU.l.lo k hg).2; omega
        · exact hb14.trans ((hwz.mono hb14.size).trans (hO'.below (Nat.le_trans hb14.size hwz.size) (fun k hk => (hU.d.lo k hk).1)))
      clear HSZ4
      go_wp2_with (first
        | (go_at_call 13; refine (HOP.out _ (below_drewN (Below.refl _ _) _)).mono ?_; rintro e w5 ⟨gm, F5, D5, rfl, hds5, hdl5, hR5⟩; have HR5 : Hid (Run w1.heap.size w1 w5 F5 G4 (.pointer (some ⟨gd, 0, none⟩)) (.pointer (some ⟨gl, 0, none⟩)) 0 D5 fn mn [] 0 (.slice none 0 0) [] []) := hR5; clear hR5 HOP e1 e2 HU4))
      go_loopw [5, 7, 8, 12, 13, 14] (fun d l e v f i wr => ∃ (k : Nat) (ao : Option Addr) (vn vc gd gl n fl : Nat) (F G : Nat → Prop) (D : DS) (recs : List (List UInt8)) (vs : List Value), k ≤ rs.length ∧ k ≤ 60 ∧ d = .pointer (some ⟨gd, 0, none⟩) ∧ i = .int .i64 k ∧ l = .pointer (some ⟨gl, 0, none⟩) ∧ e = .int .i64 0 ∧ v = .slice ao vn vc ∧ f = .int .i64 fl ∧ n + D.ws.length ≤ 120 + 200 * k ∧ D.size = z ∧ Hid (Run w1.heap.size w1 wr F G (.pointer (some ⟨gd, 0, none⟩)) (.pointer (some ⟨gl, 0, none⟩)) n D fn mn recs fl (.slice ao vn vc) vs recs)) (fun _ _ _ _ _ i _ => 60 - (intOf i).toNat)
      case atStart => exact ⟨0, none, 0, 0, gd, gl, 0, 0, F5, G4, D5, [], [], Nat.zero_le _, Nat.zero_le _, rfl, rfl, rfl, rfl, rfl, rfl, by omega, hds5, HR5⟩
      case round =>
        obtain ⟨k, ao7, vn, vc, gd7, gl7, n, fl, F, G, D, recs, vs, hk, hk60, rfl, rfl, rfl, rfl, rfl, rfl, hcnt, hDs, HR⟩ := hrel
        clear HR5 hdl5 hds5
        have hbr : Below w1.heap.size w1 wr := HR.out.b
        have hbw : Below w.heap.size w wr := hb1.trans (hbr.mono (by omega))
        have hszr := hbr.size
        by_cases h1 : k < rs.length
        · by_cases h2 : k < 60
          · have t6 : decide ((k : Int) < (rs.length : Int)) = true := by simpa using h1
            have t7 : decide ((k : Int) < 60) = true := by simp; omega
            rcases HCL.out with h0 | ⟨g, o, rfl, hcl⟩
            · rw [h0] at h1; simp at h1
            have r0 := hcl k h1
            have ho := HOK.out _ (List.getElem_mem h1)
            generalize rs[k] = x at *
            obtain ⟨K, vb, vk, bs, ks⟩ := x
            obtain ⟨hxk, hxb, hxs, hxl⟩ := ho
            simp only at hxk hxb hxs hxl
            clear hcl
            obtain ⟨ba, bc, rfl, hbc, _⟩ := hxb.form
            obtain ⟨ka, kc, rfl⟩ : ∃ ka kc, vk = .slice ka ks.length kc := by
              rcases hxs with ⟨h, h'⟩ | ⟨a, c, h, _⟩
              · exact ⟨none, 0, by rw [h, h']; rfl⟩
              · exact ⟨some a, c, h⟩
            have hrb : wr.rangeAt g (o + k * 3) [.int .i64 K, .slice ba bs.length bc, .slice ka ks.length kc] := fun j u hu => by
              have := r0 j u hu
              exact (hbw.cell (World.block_lt_of_cell? w _ this)).trans this
            clear r0
            obtain ⟨wo, hwo⟩ : ∃ wo, wo = wr.alloc (.cells #[.int .i64 K, .slice ba bs.length bc, .slice ka ks.length kc] 39) := ⟨_, rfl⟩
            have hwb : Below wr.heap.size wr wo := by rw [hwo]; exact (Below.refl _ _).alloc (Nat.le_refl _) _
            have HRo : Hid (Run w1.heap.size w1 wo F G (.pointer (some ⟨gd7, 0, none⟩)) (.pointer (some ⟨gl7, 0, none⟩)) n D fn mn recs fl (.slice ao7 vn vc) vs recs) := HR.out.keepB hwb
            have Hob : Hid (wo.heap[wr.heap.size]? = some (.cells #[.int .i64 K, .slice ba bs.length bc, .slice ka ks.length kc] 39 (0, 0))) := by rw [hwo]; exact heap_alloc_new wr _
            have hoR : ¬ Both F G wr.heap.size := fun h => by have := (HR.out.u.lo _ h).2; omega
            have hoL : ∀ q, (Value.slice ao7 vn vc).ownBlock = some q → q < wr.heap.size := fun q hq => (World.ownsRow.lt HR.out.o.own q hq).2
            have HBo : Hid (Bytes wo (.slice ba bs.length bc) bs) := hxb.keep (hbw.trans (hwb.mono hbw.size))
            have HKo : Hid (Bools wo (.slice ka ks.length kc) ks) := hxs.keep (hbw.trans (hwb.mono hbw.size))
            have HBw : Hid (Bytes w (.slice ba bs.length bc) bs) := hxb
            have hso : wr.heap.size < wo.heap.size := by rw [hwo]; simp
            have hbo : Below w1.heap.size w1 wo := HRo.out.b
            clear hxb hxs HR hbr hbw
            go_upto_block 2 with (guard_target = wpList _ _ _ (Oper.mk _ (Op.load 39 _) _ _ _ _ :: _) _ _; refine wpList_load_mid rfl 39 _ rfl g (o + k * 3) (by rfl) [.int .i64 K, .slice ba bs.length bc, .slice ka ks.length kc] _ hrb Try.underlying39 rfl infoOp6 ?_)
            rw [← hwo]
            generalize hB0 : wr.heap.size = B0 at *
            clear hwo hrb hwb
            go_cut [5, 7, 8, 12, 13] (fun d l e v f wx => ∃ (ao : Option Addr) (vn vc gd gl n fl : Nat) (F G : Nat → Prop) (D : DS) (recs : List (List UInt8)) (vs : List Value), d = .pointer (some ⟨gd, 0, none⟩) ∧ l = .pointer (some ⟨gl, 0, none⟩) ∧ e = .int .i64 0 ∧ v = .slice ao vn vc ∧ f = .int .i64 fl ∧ n + D.ws.length ≤ 120 + 200 * (k + 1) ∧ D.size = z ∧ Hid (Run w1.heap.size w1 wx F G (.pointer (some ⟨gd, 0, none⟩)) (.pointer (some ⟨gl, 0, none⟩)) n D fn mn recs fl (.slice ao vn vc) vs recs))
            case first =>
              have o0 : wo.cell? ⟨B0, 0, none⟩ = some (.int .i64 K) := by rw [cell_of_row _ _ 0 _ _ _ Hob.out]; rfl
              have o1 : wo.cell? ⟨B0, 1, none⟩ = some (.slice ba bs.length bc) := by rw [cell_of_row _ _ 1 _ _ _ Hob.out]; rfl
              have o2 : wo.cell? ⟨B0, 2, none⟩ = some (.slice ka ks.length kc) := by rw [cell_of_row _ _ 2 _ _ _ Hob.out]; rfl
              have hxw := (hbo.block _ (by omega)).trans HX1.out
              have x1 : wo.cell? ⟨w.heap.size, 1, none⟩ = some (.int .i64 fn) := by rw [cell_of_row _ _ 1 _ _ _ hxw]; rfl
              have x2 : wo.cell? ⟨w.heap.size, 2, none⟩ = some (.int .i64 mn) := by rw [cell_of_row _ _ 2 _ _ _ hxw]; rfl
              clear hxw
              by_cases hK1 : K = 1
              · subst hK1
                as_aux_lemma =>
                  have h16 := HRo.out.u.ok
                  have hle := HRo.out.u.le
                  have hoF : OkR bs → OffF G (.slice ba bs.length bc) := fun hok a' n' c' e hg => by
                    have := bytes_low HBw.out (by intro e0; rw [e0] at hok; exact absurd hok.1 (by simp)) e
                    have := (HRo.out.u.l.lo _ hg).1
                    omega
                  have hkeep : ∀ nq, Below wo.heap.size wo (wo.drewN nq) := fun nq => below_drewN (Below.refl _ _) nq
                  obtain ⟨S, hS⟩ : ∃ S : Nat, sizeL recs = S := ⟨_, rfl⟩
                  have HS : Hid (sizeL recs = S) := hS
                  have HAP : Hid (∀ nq, Calls Try.prog 15 #[.pointer (some ⟨gl7, 0, none⟩), .slice ba bs.length bc] (wo.drewN nq) fun e w' => (OkR bs ∧ S + 8 + rnd bs.length ≤ 128 * mn ∧ e = .returned (.int .i64 0) ∧ ∃ G', Run w1.heap.size w1 w' F G' (.pointer (some ⟨gd7, 0, none⟩)) (.pointer (some ⟨gl7, 0, none⟩)) n D fn mn (recs ++ [bs]) fl (.slice ao7 vn vc) vs recs ∧ w'.cell? ⟨B0, 1, none⟩ = some (.slice ba bs.length bc) ∧ Bytes w' (.slice ba bs.length bc) bs ∧ B0 < w'.heap.size) ∨ (((¬ OkR bs ∧ e = .returned (.int .i64 62)) ∨ (OkR bs ∧ 128 * mn < S + 8 + rnd bs.length ∧ e = .returned (.int .i64 61))) ∧ Run w1.heap.size w1 w' F G (.pointer (some ⟨gd7, 0, none⟩)) (.pointer (some ⟨gl7, 0, none⟩)) n D fn mn recs fl (.slice ao7 vn vc) vs recs)) := fun nq => by
                    have hR := HRo.out.keepB (hkeep nq)
                    refine (duo_append_any hR.u (.slice ba bs.length bc) bs (HBo.out.keep (hkeep nq)) hoF (by omega)).mono ?_
                    rintro e w' (⟨hok, hfit, he, G', hu, hO⟩ | ⟨hbad, hb⟩)
                    · have hbb : Below w1.heap.size w1 w' := hR.b.trans (hO.below hR.sz (fun k hk => (hR.u.lo k hk).1))
                      refine Or.inl ⟨hok, by rw [← hS]; exact hfit, he, G', hR.turn hu hO, ?_, HBw.out.keep (hb1.trans (hbb.mono (by omega))), ?_⟩
                      · exact fr_cell hO.f hoR (cell_keep (hkeep nq) o1)
                      · have h1 := hO.f.size; have h2 := (hkeep nq).size; omega
                    · refine Or.inr ⟨?_, hR.keepB hb⟩
                      rw [← hS]
                      exact hbad
                  clear hS
                  by_cases hL0 : bs.length = 0
                  · have tl : decide ((bs.length : Int) = 0) = true := decide_eq_true (by omega)
                    have hb0 : ((bs.length : Int) == 0) = true := by rw [beq_iff_eq]; omega
                    have HAP0 : Hid (Calls Try.prog 15 #[.pointer (some ⟨gl7, 0, none⟩), .slice ba bs.length bc] wo fun e w' => e = .returned (.int .i64 62) ∧ Run w1.heap.size w1 w' F G (.pointer (some ⟨gd7, 0, none⟩)) (.pointer (some ⟨gl7, 0, none⟩)) n D fn mn recs fl (.slice ao7 vn vc) vs recs) := by
                      refine (HAP.out 0).mono ?_
                      rintro e w' (⟨hok, _⟩ | ⟨⟨_, he⟩ | ⟨hok, _⟩, hR⟩)
                      · exact absurd hok.1 (by omega)
                      · exact ⟨he, hR⟩
                      · exact absurd hok.1 (by omega)
                    as_aux_lemma =>
                      clear HAP hoF hL0
                      go_wp2_with (go_at_call 15; refine HAP0.out.mono ?_; rintro e w5 ⟨rfl, hR5⟩; have HR5 : Hid (Run w1.heap.size w1 w5 F G (.pointer (some ⟨gd7, 0, none⟩)) (.pointer (some ⟨gl7, 0, none⟩)) n D fn mn recs fl (.slice ao7 vn vc) vs recs) := hR5; clear hR5)
                      go_meet
                      exact ⟨ao7, vn, vc, gd7, gl7, n, fl, F, G, D, recs, vs, rfl, rfl, rfl, rfl, rfl, by omega, hDs, HR5⟩
                  · have tl : decide ((bs.length : Int) = 0) = false := decide_eq_false (by omega)
                    have hb0 : ((bs.length : Int) == 0) = false := by rw [beq_eq_false_iff_ne]; omega
                    by_cases hL1 : 8192 < bs.length
                    · have tm : decide ((bs.length : Int) > 8192) = true := by simp; omega
                      have HAP0 : Hid (Calls Try.prog 15 #[.pointer (some ⟨gl7, 0, none⟩), .slice ba bs.length bc] wo fun e w' => e = .returned (.int .i64 62) ∧ Run w1.heap.size w1 w' F G (.pointer (some ⟨gd7, 0, none⟩)) (.pointer (some ⟨gl7, 0, none⟩)) n D fn mn recs fl (.slice ao7 vn vc) vs recs) := by
                        refine (HAP.out 0).mono ?_
                        rintro e w' (⟨hok, _⟩ | ⟨⟨_, he⟩ | ⟨hok, _⟩, hR⟩)
                        · exact absurd hok.2 (by omega)
                        · exact ⟨he, hR⟩
                        · exact absurd hok.2 (by omega)
                      as_aux_lemma =>
                        clear HAP hoF
                        go_wp2_with (go_at_call 15; refine HAP0.out.mono ?_; rintro e w5 ⟨rfl, hR5⟩; have HR5 : Hid (Run w1.heap.size w1 w5 F G (.pointer (some ⟨gd7, 0, none⟩)) (.pointer (some ⟨gl7, 0, none⟩)) n D fn mn recs fl (.slice ao7 vn vc) vs recs) := hR5; clear hR5)
                        go_meet
                        exact ⟨ao7, vn, vc, gd7, gl7, n, fl, F, G, D, recs, vs, rfl, rfl, rfl, rfl, rfl, by omega, hDs, HR5⟩
                    · have tm : decide ((bs.length : Int) > 8192) = false := by simp; omega
                      have hok : OkR bs := ⟨by omega, by omega⟩
                      have HSI : Hid (∀ nq, Calls Try.prog 14 #[.slice ao7 vn vc] (wo.drewN nq) fun e w' => e = .returned (.int .i64 S) ∧ w' = wo.drewN nq) := fun nq => by
                        have := size_any6 (HRo.out.o.recs.keepB (hkeep nq)) (by omega) (by omega) (fun r hr => by have := (HRo.out.u.oks r hr).2; omega)
                        rw [HS.out] at this
                        exact this
                      have hS7 : S ≤ 128 * 60 := by have := HS.out; omega
                      obtain ⟨R8, hR8⟩ : ∃ R8 : Int, ((bs.length : Int) + 7) / 8 * 8 = R8 := ⟨_, rfl⟩
                      have hrn : (rnd bs.length : Int) = R8 := by unfold rnd; omega
                      have hR8b : 0 ≤ R8 ∧ R8 ≤ 8200 := by omega
                      obtain ⟨Q8, hQ8⟩ : ∃ Q8 : Int, ((bs.length : Int) + 7) / 8 = Q8 := ⟨_, rfl⟩
                      have hQR : Q8 * 8 = R8 := by rw [← hQ8]; exact hR8
                      have hwa : IntKind.i64.wrap ((bs.length : Int) + 7) = bs.length + 7 := by rw [IntKind.wrap_i64]; omega
                      have hwb' : Int.tdiv ((bs.length : Int) + 7) 8 = Q8 := by rw [← hQ8]; exact Int.tdiv_eq_ediv_of_nonneg (by omega)
                      have hwc : IntKind.i64.wrap Q8 = Q8 := by rw [IntKind.wrap_i64]; omega
                      have hwd : IntKind.i64.wrap (Q8 * 8) = R8 := by rw [IntKind.wrap_i64]; omega
                      have hwe : IntKind.i64.wrap ((S : Int) + 8) = S + 8 := by rw [IntKind.wrap_i64]; omega
                      have hwf : IntKind.i64.wrap ((S : Int) + 8 + R8) = S + 8 + R8 := by rw [IntKind.wrap_i64]; omega
                      have hwg : IntKind.i64.wrap (128 * (mn : Int)) = 128 * mn := by rw [IntKind.wrap_i64]; omega
                      have HOKR : Hid (OkR bs) := hok
                      clear hR8 hok
                      by_cases hfit : (S : Int) + 8 + R8 ≤ 128 * mn
                      · have tn : decide ((S : Int) + 8 + R8 > 128 * mn) = false := by simp; omega
                        have tn2 : decide (128 * (mn : Int) < (S : Int) + 8 + R8) = false := by simp; omega
                        as_aux_lemma =>
                          have HAP0 : Hid (∀ nq, Calls Try.prog 15 #[.pointer (some ⟨gl7, 0, none⟩), .slice ba bs.length bc] (wo.drewN nq) fun e w' => e = .returned (.int .i64 0) ∧ ∃ G', Run w1.heap.size w1 w' F G' (.pointer (some ⟨gd7, 0, none⟩)) (.pointer (some ⟨gl7, 0, none⟩)) n D fn mn (recs ++ [bs]) fl (.slice ao7 vn vc) vs recs ∧ w'.cell? ⟨B0, 1, none⟩ = some (.slice ba bs.length bc) ∧ Bytes w' (.slice ba bs.length bc) bs ∧ B0 < w'.heap.size) := fun nq => by
                            refine (HAP.out nq).mono ?_
                            rintro e w' (⟨_, _, he, h⟩ | ⟨⟨hno, _⟩ | ⟨_, hno, _⟩, hR⟩)
                            · exact ⟨he, h⟩
                            · exact absurd HOKR.out hno
                            · exfalso; omega
                          clear HAP hrn hQ8 hL0 hQR hoF hkeep
                          go_wp2_with fail
                          go_quiet ((go_at_call 14; exact Calls.quiet_of_same (HSI.out _)))
                          go_wp2_with fail
                          refine (HAP0.out _).mono ?_
                          rintro e w5 ⟨rfl, G5, hR5, hc5, hB5, hB05⟩
                          have HR5 : Hid (Run w1.heap.size w1 w5 F G5 (.pointer (some ⟨gd7, 0, none⟩)) (.pointer (some ⟨gl7, 0, none⟩)) n D fn mn (recs ++ [bs]) fl (.slice ao7 vn vc) vs recs) := hR5
                          have hvl : vs.length ≤ 10000 := by
                            have := hR5.o.len
                            omega
                          have hsz5 := hR5.sz
                          have ha5 : Below w5.heap.size w5 (w5.alloc (.cells #[] 5)) := (Below.refl _ _).alloc (Nat.le_refl _) _
                          have hrl : 0 < bs.length ∧ bs.length ≤ 8192 := ⟨HOKR.out.1, HOKR.out.2⟩
                          obtain ⟨ao5, cap5, hv5, hcc5, hx5⟩ := hB5.form
                          cases hv5
                          obtain ⟨ad, rfl, _⟩ := hx5 hrl.1
                          have HC5 : Hid (∀ i (hi : i < bs.length), (w5.alloc (.cells #[] 5)).cell? (ad.add i) = some (bv bs[i])) := by
                            rcases hB5.keep ha5 with ⟨h, _⟩ | ⟨a', cap', h, _, h2⟩
                            · cases h
                            · cases h; exact h2
                          have HO5 : Hid (OwnB w5.heap.size (w5.alloc (.cells #[] 5)) (.slice (some ⟨w5.heap.size, 0, none⟩) 0 0) []) := own_empty w5.heap.size w5 (Nat.le_refl _)
                          have q5 := cell_keep ha5 hc5
                          have hbe := build_empty w5
                          clear hR5 hB5 HAP0 hx5 o0 o1 o2 x1 x2 HRo Hob HBo HKo HBw HS HSI hoR hoL hbo
                          go_wp2_with (first
                            | (at_builtin; refine wp_appA _ rfl _ _ rfl w5.heap.size _ [] rfl HO5.out ad bs.length bc bs rfl HC5.out rfl hrl.1 (by simp; omega) (by simp) ?_; intro v6 w6 ho6 hg6
                               have hb6 : Below w5.heap.size w5 w6 := ha5.grown hg6.grown (by simp) (own_ge HO5.out)
                               have hn6 : ∀ q, v6.ownBlock = some q → w5.heap.size ≤ q ∧ q < w6.heap.size := fun q hq => World.ownsRow.lt ho6 q hq
                               have hB6 : Bytes w6 v6 bs := OwnB.toBytes ho6
                               obtain ⟨ao6, c6, hv6, _⟩ := hB6.form
                               subst hv6
                               have HR6 : Hid (Run w1.heap.size w1 w6 F G5 (.pointer (some ⟨gd7, 0, none⟩)) (.pointer (some ⟨gl7, 0, none⟩)) n D fn mn (recs ++ [bs]) fl (.slice ao7 vn vc) vs recs) := HR5.out.keepB hb6
                               have HB6 : Hid (Bytes w6 (.slice ao6 bs.length c6) bs) := hB6
                               have hs6 := hb6.size
                               clear ho6 hg6 hB6)
                            | (at_builtin; refine wp_appV _ rfl _ _ rfl w1.heap.size (.slice ao7 vn vc) vs rfl (World.ownsRow.alloc HR6.out.o.own _) w6.heap.size (.slice ao6 bs.length c6) rfl (heap_alloc_new w6 _) rfl (by omega) (by simp; omega) ?_; intro v7 w7 hv7 hown7 hg7))
                          obtain ⟨ao8, vn7, vc7, hv7⟩ := hv7
                          subst hv7
                          have hR7 := (HR6.out.keepB ((Below.refl _ _).alloc (Nat.le_refl _) (.cells #[.slice ao6 bs.length c6] 36))).snoc hown7 hg7 (HB6.out.keep ((Below.refl _ _).alloc (Nat.le_refl _) _)) (fun a' n' c' e => by
                            cases e
                            have hl := hn6 a'.block rfl
                            refine ⟨⟨by simp; omega, fun hb => ?_⟩, fun hb => ?_⟩
                            · have := (HR5.out.u.lo _ hb).2; omega
                            · have := (World.ownsRow.lt HR5.out.o.own _ hb).2; omega)
                          have HR7 : Hid (Run w1.heap.size w1 w7 F G5 (.pointer (some ⟨gd7, 0, none⟩)) (.pointer (some ⟨gl7, 0, none⟩)) n D fn mn (recs ++ [bs]) fl (.slice ao8 vn7 vc7) (vs ++ [.slice ao6 bs.length c6]) (recs ++ [bs])) := hR7
                          clear hR7 hown7 hg7 HR6 HB6 HR5 hn6
                          go_wp2
                          go_meet
                          exact ⟨ao8, vn7, vc7, gd7, gl7, n, fl, F, G5, D, recs ++ [bs], _, rfl, rfl, rfl, rfl, rfl, by omega, hDs, HR7⟩
                      · have tn : decide ((S : Int) + 8 + R8 > 128 * mn) = true := by simp; omega
                        have tn2 : decide (128 * (mn : Int) < (S : Int) + 8 + R8) = true := by simp; omega
                        as_aux_lemma =>
                          have HAP0 : Hid (∀ nq, Calls Try.prog 15 #[.pointer (some ⟨gl7, 0, none⟩), .slice ba bs.length bc] (wo.drewN nq) fun e w' => e = .returned (.int .i64 61) ∧ Run w1.heap.size w1 w' F G (.pointer (some ⟨gd7, 0, none⟩)) (.pointer (some ⟨gl7, 0, none⟩)) n D fn mn recs fl (.slice ao7 vn vc) vs recs) := fun nq => by
                            refine (HAP.out nq).mono ?_
                            rintro e w' (⟨_, hno, he, h⟩ | ⟨⟨hno, _⟩ | ⟨_, hno, he⟩, hR⟩)
                            · exfalso; omega
                            · exact absurd HOKR.out hno
                            · exact ⟨he, hR⟩
                          clear HAP hrn hQ8 hL0 hQR hoF hkeep
                          go_wp2_with fail
                          go_quiet ((go_at_call 14; exact Calls.quiet_of_same (HSI.out _)))
                          go_wp2_with (go_at_call 15; refine (HAP0.out _).mono ?_; rintro e w5 ⟨rfl, hR5⟩; have HR5 : Hid (Run w1.heap.size w1 w5 F G (.pointer (some ⟨gd7, 0, none⟩)) (.pointer (some ⟨gl7, 0, none⟩)) n D fn mn recs fl (.slice ao7 vn vc) vs recs) := hR5; clear hR5)
                          go_meet
                          exact ⟨ao7, vn, vc, gd7, gl7, n, fl, F, G, D, recs, vs, rfl, rfl, rfl, rfl, rfl, by omega, hDs, HR5⟩
              · by_cases hK2 : K = 2
                · subst hK2
                  as_aux_lemma =>
                    have h16 := HRo.out.u.ok
                    have hle := HRo.out.u.le
                    have hvn : vn = recs.length := by rw [own_len HRo.out.o.own, HRo.out.o.len]
                    have hvnI : (vn : Int) = (recs.length : Int) := by omega
                    have hvl : recs.length ≤ 100000 := by omega
                    clear hvn
                    have hfl := duo_flush HRo.out.u (by omega)
                    have HFL : Hid (Calls Try.prog 16 #[.pointer (some ⟨gl7, 0, none⟩)] wo fun e w' => e = .returned (.int .i64 0) ∧ ∃ (F' : Nat → Prop) (D' : DS), D'.size = z ∧ D'.ws.length ≤ D.ws.length + 61 ∧ Run w1.heap.size w1 w' F' G (.pointer (some ⟨gd7, 0, none⟩)) (.pointer (some ⟨gl7, 0, none⟩)) n D' fn mn recs recs.length (.slice ao7 vn vc) vs recs) := by
                      refine hfl.mono ?_
                      rintro e w' ⟨he, F', hU, hO⟩
                      have hln := flushD_len D fn mn recs fl hle
                      exact ⟨he, F', _, by rw [hln.2.2.2]; exact hDs, by omega, HRo.out.turn hU hO⟩
                    clear hfl
                    go_wp2_with fail
                    refine HFL.out.mono ?_
                    rintro e w6 ⟨rfl, F6, D6, hs6, hl6, hR6⟩
                    have HR6 : Hid (Run w1.heap.size w1 w6 F6 G (.pointer (some ⟨gd7, 0, none⟩)) (.pointer (some ⟨gl7, 0, none⟩)) n D6 fn mn recs recs.length (.slice ao7 vn vc) vs recs) := hR6
                    clear hR6 HFL HRo Hob hoR hoL HBo HKo HBw hbo o0 o1 o2 x1 x2
                    have hpd : Calls Try.prog 17 #[.pointer (some ⟨gd7, 0, none⟩)] w6 fun e w' => e = .returned (.int .i64 0) ∧ Below w6.heap.size w6 w' := by
                      have := pending_any HR6.out.u.d
                      rw [HR6.out.u.st.2, Int.sub_self] at this
                      exact this
                    go_wp2_with fail
                    refine hpd.mono ?_
                    rintro e w7 ⟨rfl, hb7⟩
                    have HR7 : Hid (Run w1.heap.size w1 w7 F6 G (.pointer (some ⟨gd7, 0, none⟩)) (.pointer (some ⟨gl7, 0, none⟩)) n D6 fn mn recs recs.length (.slice ao7 vn vc) vs recs) := HR6.out.keepB hb7
                    clear HR6 hpd hb7
                    have hnl := now_len HR7.out.u.d
                    have HCL6 : Hid (Clean D6.now fn mn (frames recs)) := HR7.out.u.clean rfl
                    have HP6 : Hid (Parses (reg D6.now fn mn) recs) := HCL6.out.parses hnl HR7.out.u.oks HR7.out.u.le
                    have HZ6 : Hid (zerosB ((reg D6.now fn mn).drop (sizeL recs)) = true) := clean_zero hnl HCL6.out hle
                    have hrl : (reg D6.now fn mn).length = 128 * mn := reg_len hnl _ _
                    have HREG : Hid (∀ wz, Below w7.heap.size w7 wz → Calls Try.prog 19 #[.pointer (some ⟨gd7, 0, none⟩), .agg #[.int .i64 sz, .int .i64 fn, .int .i64 mn]] wz fun e w' => ∃ v, e = .returned v ∧ Bytes w' v (reg D6.now fn mn) ∧ Below w7.heap.size w7 w') := fun wz hz => (region_any (HR7.out.u.d.keepB hz) sz fn mn (by omega) (by omega) (by rw [hs6]; omega)).mono fun e w' ⟨v, he, ho, hb⟩ => ⟨v, he, ho.toBytes, hz.trans (hb.mono hz.size)⟩
                    have hsz7 := HR7.out.sz
                    have HXR : Hid (∀ wz, Below w7.heap.size w7 wz → wz.rangeAt w.heap.size 0 [.int .i64 sz, .int .i64 fn, .int .i64 mn]) := fun wz hz => setup_range ((hz.block _ (by omega)).trans ((HR7.out.b.block _ (by omega)).trans HX1.out))
                    have xr7 := HXR.out w7 (Below.refl _ _)
                    clear hnl
                    go_wp2_with (guard_target = wpList _ _ _ (Oper.mk _ (Op.load 23 _) _ _ _ _ :: _) _ _; refine wpList_load_mid rfl 23 _ rfl w.heap.size 0 (by rfl) [.int .i64 sz, .int .i64 fn, .int .i64 mn] _ xr7 Try.underlying23 rfl infoSetup ?_)
                    refine (HREG.out _ (Below.refl _ _)).mono ?_
                    rintro e w8 ⟨v8, rfl, hB8, hb8⟩
                    go_wp2_with fail
                    refine (read_ref v8 _ w8 hB8 (by rw [hrl]; omega)).mono ?_
                    rintro e w9 ⟨recsM, v9, rfl, hp9, ⟨vs9, hN9⟩, hb9⟩
                    obtain rfl := parses_unique hp9 HP6.out
                    have hb79 : Below w7.heap.size w7 w9 := hb8.trans (hb9.mono hb8.size)
                    clear hp9 hB8 hb8 hb9
                    obtain ⟨S, hS⟩ : ∃ S : Nat, sizeL recsM = S := ⟨_, rfl⟩
                    have HSS : Hid (sizeL recsM = S) := hS
                    rw [hS]
                    have hSle : S ≤ 128 * mn := by omega
                    clear hS
                    go_wp2_with fail
                    refine (same_any hN9.recs (HR7.out.o.recs.keepB hb79) (by omega)).mono ?_
                    rintro e w10 ⟨rfl, hb10⟩
                    have hdt : decide (recsM = recsM) = true := decide_eq_true rfl
                    rw [hdt]
                    clear hdt hN9
                    have hb710 : Below w7.heap.size w7 w10 := hb79.trans (hb10.mono hb79.size)
                    clear hb79 hb10
                    have xr10 := HXR.out w10 hb710
                    go_wp2_with (guard_target = wpList _ _ _ (Oper.mk _ (Op.load 23 _) _ _ _ _ :: _) _ _; refine wpList_load_mid rfl 23 _ rfl w.heap.size 0 (by rfl) [.int .i64 sz, .int .i64 fn, .int .i64 mn] _ xr10 Try.underlying23 rfl infoSetup ?_)
                    refine (HREG.out _ hb710).mono ?_
                    rintro e w11 ⟨v11, rfl, hB11, hb11⟩
                    go_wp2_with fail
                    refine (rest_any v11 _ S w11 hB11 (by rw [hrl]; omega) (by rw [hrl]; omega)).mono ?_
                    rintro e w12 ⟨rfl, hw12⟩
                    rw [← HSS.out, HZ6.out]
                    have HR12 : Hid (Run w1.heap.size w1 w12 F6 G (.pointer (some ⟨gd7, 0, none⟩)) (.pointer (some ⟨gl7, 0, none⟩)) n D6 fn mn recsM recsM.length (.slice ao7 vn vc) vs recsM) := HR7.out.keepB (by rw [hw12]; exact hb11)
                    clear hw12 hb11 hB11 HR7 HREG HXR HZ6 HP6 HCL6 xr7 xr10
                    go_wp2
                    go_meet
                    exact ⟨ao7, vn, vc, gd7, gl7, n, recsM.length, F6, G, D6, recsM, vs, rfl, rfl, rfl, rfl, by first | rfl | (congr 1; omega) | (rw [hvnI]), by omega, hs6, HR12⟩
                · by_cases hK4 : K = 4
                  · subst hK4
                    as_aux_lemma =>
                      have h16 := HRo.out.u.ok
                      have hle := HRo.out.u.le
                      have hcut4 := Cut_any HRo.out.u.d (.slice ka ks.length kc) ks HKo.out
                      have hnow : (D.left D.ws.length D.safe ks).now = D.now := by
                        show cutF ks D.safe D.first (D.ws.take D.ws.length) = D.now
                        rw [List.take_length]; exact HRo.out.u.st.cut ks
                      have hnl := now_len HRo.out.u.d
                      obtain ⟨D6, hD6⟩ : ∃ D6, D.left D.ws.length D.safe ks = D6 := ⟨_, rfl⟩
                      have hD6z : D6.size = z := by rw [← hD6]; exact hDs
                      have hD6w : D6.ws = [] := by rw [← hD6]; rfl
                      have hD6s : D6.still := by rw [← hD6]; exact DS.left_still _ _ _
                      rw [hD6] at hcut4 hnow
                      have hnl6 : ∀ i, (D6.now i).length = 128 := by rw [hnow]; exact hnl
                      have hszo := HRo.out.sz
                      clear hD6
                      go_wp2_with fail
                      refine hcut4.mono ?_
                      rintro e w6 ⟨c6, F6, rfl, hD6, hb6⟩
                      have hbB : Below w1.heap.size w1 w6 := hbo.trans (hb6.mono hszo)
                      have HD6 : Hid (DiskAt wo.heap.size w6 F6 (.pointer (some ⟨c6, 0, none⟩)) (n + D.ws.length) D6) := hD6
                      have hs6 := hb6.size
                      clear hcut4 hD6 hnow hnl Hob hoR hoL HBo HKo HBw HRo o0 o1 o2 x1 x2 hb6
                      have hrl : (reg D6.now fn mn).length = 128 * mn := reg_len hnl6 _ _
                      have HXR : Hid (∀ wz, Below w6.heap.size w6 wz → wz.heap[w.heap.size]? = some (.cells #[.int .i64 sz, .int .i64 fn, .int .i64 mn] 23 (0, 0))) := fun wz hz => (hz.block _ (by omega)).trans ((hbB.block _ (by omega)).trans HX1.out)
                      have xr6 := setup_range (HXR.out w6 (Below.refl _ _))
                      have hreg := region_any HD6.out sz fn mn (by omega) (by omega) (by rw [hD6z]; omega)
                      go_wp2_with (guard_target = wpList _ _ _ (Oper.mk _ (Op.load 23 _) _ _ _ _ :: _) _ _; refine wpList_load_mid rfl 23 _ rfl w.heap.size 0 (by rfl) [.int .i64 sz, .int .i64 fn, .int .i64 mn] _ xr6 Try.underlying23 rfl infoSetup ?_)
                      refine hreg.mono ?_
                      rintro e w8 ⟨v8, rfl, hB8, hb8⟩
                      go_wp2_with fail
                      refine (read_ref v8 _ w8 hB8.toBytes (by rw [hrl]; omega)).mono ?_
                      rintro e w9 ⟨told, v9, rfl, hp9, ⟨vs9, hN9⟩, hb9⟩
                      have hs8 := hb8.size
                      have hs9 := hb9.size
                      have hb69 : Below w6.heap.size w6 w9 := hb8.trans (hb9.mono hb8.size)
                      have hoks9 := hp9.oks
                      have HPT : Hid (Parses (reg D6.now fn mn) told) := hp9
                      have htle : sizeL told ≤ 128 * mn := (hp9.bytes hnl6).1
                      have ht16 := sizeL_len told hp9.oks
                      obtain ⟨ao9, cn9, hv9, _⟩ := hN9.recs
                      subst hv9
                      have HN9 : Hid (OwnRecs w8.heap.size w9 (.slice ao9 told.length cn9) (fun k => w8.heap.size ≤ k ∧ k < w9.heap.size) vs9 told) := hN9
                      have HD9 : Hid (DiskAt w1.heap.size w9 F6 (.pointer (some ⟨c6, 0, none⟩)) (n + D.ws.length) D6) := (HD6.out.keepB hb69).base_le hszo
                      have hFlt : ∀ k, F6 k → k < w6.heap.size := fun k hk => (HD6.out.lo k hk).2
                      have hx9 := HXR.out w9 hb69
                      have x1 : w9.cell? ⟨w.heap.size, 1, none⟩ = some (.int .i64 fn) := by rw [cell_of_row _ _ 1 _ _ _ hx9]; rfl
                      have x2 : w9.cell? ⟨w.heap.size, 2, none⟩ = some (.int .i64 mn) := by rw [cell_of_row _ _ 2 _ _ _ hx9]; rfl
                      clear hx9 hp9 hB8 hb8 hb9 hN9 hreg xr6 HD6
                      obtain ⟨S, hS⟩ : ∃ S : Nat, sizeL told = S := ⟨_, rfl⟩
                      have HSS : Hid (sizeL told = S) := hS
                      rw [hS]
                      have hSle : S ≤ 128 * mn := by omega
                      clear hS
                      have HOP : Hid (Calls Try.prog 13 #[.pointer (some ⟨c6, 0, none⟩), .int .i64 fn, .int .i64 mn] w9 fun e w' => ∃ (g : Nat) (F' G' : Nat → Prop) (D' : DS), e = .returned (.tuple #[.pointer (some ⟨g, 0, none⟩), .int .i64 0]) ∧ D'.size = z ∧ D'.ws.length ≤ 60 ∧ Run w1.heap.size w1 w' F' G' (.pointer (some ⟨c6, 0, none⟩)) (.pointer (some ⟨g, 0, none⟩)) (n + D.ws.length) D' fn mn told told.length (.slice ao9 told.length cn9) vs9 told) := by
                        refine (duo_open HD9.out hD6s.1 fn mn (by omega) (by rw [hD6z]; omega) (by rw [hD6w]; simp; omega)).mono ?_
                        rintro e w' ⟨recsM, g, F', G', he, hp, hU, hO, hG, hO2⟩
                        obtain rfl := parses_unique hp HPT.out
                        refine ⟨g, F', G', D6.settle fn mn (frames recsM), he, hD6z, ?_, ⟨hU, ?_, ?_, rfl⟩⟩
                        · rw [DS.settle_len _ _ _ _ htle, hD6w]; simp; omega
                        · refine OwnRecs.mono (H := fun k => w8.heap.size ≤ k ∧ k < w9.heap.size) ?_ (fun k hk => ⟨Nat.lt_of_lt_of_le hk.2 hO2.f.size, fun hb => ?_⟩) (fun k hk => hk.1)
                          · have h9 := HN9.out.keep hO2.f (fun k hk hf => by have := hFlt k hf; omega)
                            exact { h9 with own := own_base h9.own (by omega) }
                          · rcases hO2.o k hb with h1 | h1
                            · have := hFlt k h1; omega
                            · omega
                        · exact hbB.trans ((hb69.mono (by omega)).trans (hO2.below (by omega) (fun k hk => (HD9.out.lo k hk).1)))
                      go_wp2_with fail
                      refine HOP.out.mono ?_
                      rintro e w10 ⟨g10, F10, G10, D10, rfl, hz10, hl10, hR10⟩
                      have HR10 : Hid (Run w1.heap.size w1 w10 F10 G10 (.pointer (some ⟨c6, 0, none⟩)) (.pointer (some ⟨g10, 0, none⟩)) (n + D.ws.length) D10 fn mn told told.length (.slice ao9 told.length cn9) vs9 told) := hR10
                      clear hR10 HOP HN9 HD9 x1 x2 HXR hFlt
                      have hpd : Calls Try.prog 17 #[.pointer (some ⟨c6, 0, none⟩)] w10 fun e w' => e = .returned (.int .i64 0) ∧ Below w10.heap.size w10 w' := by
                        have := pending_any HR10.out.u.d
                        rw [HR10.out.u.st.2, Int.sub_self] at this
                        exact this
                      go_wp2_with fail
                      refine hpd.mono ?_
                      rintro e w11 ⟨rfl, hb11⟩
                      have HR11 : Hid (Run w1.heap.size w1 w11 F10 G10 (.pointer (some ⟨c6, 0, none⟩)) (.pointer (some ⟨g10, 0, none⟩)) (n + D.ws.length) D10 fn mn told told.length (.slice ao9 told.length cn9) vs9 told) := HR10.out.keepB hb11
                      clear HR10 hpd hb11
                      go_wp2_with fail
                      refine (records_any HR11.out.u.l HR11.out.u.oks).mono ?_
                      rintro e w12 ⟨v12, rfl, ⟨vs12, hN12⟩, hb12⟩
                      go_wp2_with fail
                      refine (same_any hN12.recs (HR11.out.o.recs.keepB hb12) (by omega)).mono ?_
                      rintro e w13 ⟨rfl, hb13'⟩
                      have hdt : decide (told = told) = true := decide_eq_true rfl
                      rw [hdt]
                      clear hdt
                      have HR13 : Hid (Run w1.heap.size w1 w13 F10 G10 (.pointer (some ⟨c6, 0, none⟩)) (.pointer (some ⟨g10, 0, none⟩)) (n + D.ws.length) D10 fn mn told told.length (.slice ao9 told.length cn9) vs9 told) := HR11.out.keepB (hb12.trans (hb13'.mono hb12.size))
                      clear HR11 hN12 hb12 hb13'
                      have xr13 := setup_range ((HR13.out.b.block _ (by omega)).trans HX1.out)
                      go_wp2_with (guard_target = wpList _ _ _ (Oper.mk _ (Op.load 23 _) _ _ _ _ :: _) _ _; refine wpList_load_mid rfl 23 _ rfl w.heap.size 0 (by rfl) [.int .i64 sz, .int .i64 fn, .int .i64 mn] _ xr13 Try.underlying23 rfl infoSetup ?_)
                      have hnl10 := now_len HR13.out.u.d
                      have hrl10 : (reg D10.now fn mn).length = 128 * mn := reg_len hnl10 _ _
                      have HZ10 : Hid (zerosB ((reg D10.now fn mn).drop S) = true) := by
                        have := clean_zero hnl10 (HR13.out.u.clean rfl) htle
                        rw [HSS.out] at this
                        exact this
                      refine (region_any HR13.out.u.d sz fn mn (by omega) (by omega) (by rw [hz10]; omega)).mono ?_
                      rintro e w14 ⟨v14, rfl, ho14, hb14'⟩
                      have HB14 : Hid (Bytes w14 v14 (reg D10.now fn mn)) := ho14.toBytes
                      have HR14 : Hid (Run w1.heap.size w1 w14 F10 G10 (.pointer (some ⟨c6, 0, none⟩)) (.pointer (some ⟨g10, 0, none⟩)) (n + D.ws.length) D10 fn mn told told.length (.slice ao9 told.length cn9) vs9 told) := HR13.out.keepB hb14'
                      clear ho14 hb14' HR13 xr13 hnl10
                      have hsi := size_any6 HR14.out.o.recs (by omega) (by omega) (fun r hr => by have := (HR14.out.u.oks r hr).2; omega)
                      rw [HSS.out] at hsi
                      go_wp2_with fail
                      refine hsi.mono ?_
                      rintro e w15 ⟨rfl, hw15⟩
                      rw [hw15]
                      clear hw15 hsi
                      go_wp2_with fail
                      refine (rest_any v14 _ S w14 HB14.out (by rw [hrl10]; omega) (by rw [hrl10]; omega)).mono ?_
                      rintro e w16 ⟨rfl, hw16⟩
                      rw [HZ10.out, hw16]
                      clear hw16 HZ10 HB14 HSS HPT hrl10 hrl
                      go_wp2
                      go_meet
                      exact ⟨ao9, told.length, cn9, c6, g10, n + D.ws.length, told.length, F10, G10, D10, told, vs9, rfl, rfl, rfl, rfl, rfl, by omega, hz10, HR14⟩
                  · --KD
                    clear hoR HBo HKo HBw
                    go_wp2
                    go_meet
                    exact ⟨ao7, vn, vc, gd7, gl7, n, fl, F, G, D, recs, vs, rfl, rfl, rfl, rfl, rfl, by omega, hDs, HRo⟩
                    --KDE
            case rest =>
              as_aux_lemma =>
                obtain ⟨ao8, vn8, vc8, gd8, gl8, n8, fl8, F8, G8, D8, recs8, vs8, rfl, rfl, rfl, rfl, rfl, hcnt8, hDs8, HR8⟩ := hcut
                clear HRo Hob hoR hoL HBo HKo HBw hbo hcnt hDs
                have h16 := HR8.out.u.ok
                have hle8 := HR8.out.u.le
                go_wp2_with fail
                refine (records_any HR8.out.u.l HR8.out.u.oks).mono ?_
                rintro e w9 ⟨v9, rfl, ⟨vs9, hN9⟩, hb9⟩
                go_wp2_with fail
                refine (same_any hN9.recs (HR8.out.o.recs.keepB hb9) (by omega)).mono ?_
                rintro e w10 ⟨rfl, hb10⟩
                have hdt : decide (recs8 = recs8) = true := decide_eq_true rfl
                rw [hdt]
                clear hdt
                have HR10 : Hid (Run w1.heap.size w1 w10 F8 G8 (.pointer (some ⟨gd8, 0, none⟩)) (.pointer (some ⟨gl8, 0, none⟩)) n8 D8 fn mn recs8 fl8 (.slice ao8 vn8 vc8) vs8 recs8) := HR8.out.keepB (hb9.trans (hb10.mono hb9.size))
                clear hN9 hb9 hb10 HR8
                have hb10 := HR10.out.b
                have hxw := (hb10.block _ (by omega)).trans HX1.out
                have x2 : w10.cell? ⟨w.heap.size, 2, none⟩ = some (.int .i64 mn) := by rw [cell_of_row _ _ 2 _ _ _ hxw]; rfl
                clear hxw
                obtain ⟨Z, hZ⟩ : ∃ Z : Int, ((128 * mn - sizeL recs8 : Nat) : Int) = Z := ⟨_, rfl⟩
                obtain ⟨S, hS⟩ : ∃ S : Int, (sizeL recs8 : Int) = S := ⟨_, rfl⟩
                have hq1 : IntKind.i64.wrap (128 * (mn : Int)) = 128 * mn := by rw [IntKind.wrap_i64]; omega
                have hq2 : IntKind.i64.wrap (128 * (mn : Int) - S) = Z := by rw [IntKind.wrap_i64]; omega
                have HFL : Hid (∀ nq, Calls Try.prog 24 #[.pointer (some ⟨gl8, 0, none⟩)] (w10.drewN nq) fun e w' => e = .returned (.int .i64 fl8) ∧ w' = w10.drewN nq) := fun nq => duo_flushed (HR10.out.u.keepB (below_drewN (Below.refl _ _) nq))
                have HFR : Hid (∀ nq, Calls Try.prog 25 #[.pointer (some ⟨gl8, 0, none⟩)] (w10.drewN nq) fun e w' => e = .returned (.int .i64 Z) ∧ ∃ n, w' = (w10.drewN nq).drewN n) := fun nq => by
                  have := free_quiet (HR10.out.u.keepB (below_drewN (Below.refl _ _) nq))
                  rw [hZ] at this
                  exact this
                have HSI : Hid (∀ nq, Calls Try.prog 14 #[.slice ao8 vn8 vc8] (w10.drewN nq) fun e w' => e = .returned (.int .i64 S) ∧ w' = w10.drewN nq) := fun nq => by
                  have := size_any6 (HR10.out.o.recs.keepB (below_drewN (Below.refl _ _) nq)) (by omega) (by omega) (fun r hr => by have := (HR10.out.u.oks r hr).2; omega)
                  rw [hS] at this
                  exact this
                clear hZ hS h16 hle8
                go_wp2_with fail
                go_quiet ((first
                  | (go_at_call 24; exact Calls.quiet_of_same (HFL.out _))
                  | (go_at_call 25; exact Calls.quiet_of (HFR.out _))
                  | (go_at_call 14; exact Calls.quiet_of_same (HSI.out _))))
                have HR11 : Hid (∀ nq, Run w1.heap.size w1 (w10.drewN nq) F8 G8 (.pointer (some ⟨gd8, 0, none⟩)) (.pointer (some ⟨gl8, 0, none⟩)) n8 D8 fn mn recs8 fl8 (.slice ao8 vn8 vc8) vs8 recs8) := fun nq => HR10.out.keepB (below_drewN (Below.refl _ _) nq)
                go_wp2
                go_roundw
                case rel => exact ⟨k + 1, ao8, vn8, vc8, gd8, gl8, n8, fl8, F8, G8, D8, recs8, vs8, by omega, by omega, rfl, by go_num, rfl, rfl, rfl, rfl, by omega, hDs8, HR11.out _⟩
                case measure => simp [intOf]; omega
          · have t6 : decide ((k : Int) < (rs.length : Int)) = true := by simpa using h1
            have t7 : decide ((k : Int) < 60) = false := by simp; omega
            go_wp2
            go_ret
            exact ⟨rfl, hbw⟩
        · have t6 : decide ((k : Int) < (rs.length : Int)) = false := by simpa using h1
          go_wp2
          go_ret
          exact ⟨rfl, hbw⟩
end Go.Proofs.Ytcjoolmlobjpbaa

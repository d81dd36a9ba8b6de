/- The document's log: Read. -/
import Derived.Test.YtcjoolmlobjpbaaW6R
import Derived.Test.YtcjoolmlobjpbaaW6P
namespace Go.Proofs.Ytcjoolmlobjpbaa
open Go.RowKit Go.Maps
set_option linter.unusedVariables false
set_option linter.unusedSimpArgs false

set_option maxRecDepth 100000 in
set_option maxHeartbeats 8000000 in
theorem read_ref (v : Value) (bs : List UInt8) (w : World) (h : Bytes w v bs) (hl : bs.length ≤ 200000) :
    Calls Try.prog 18 #[v] w (ReadOut w bs) := by
  obtain ⟨ao, cap, rfl, hc, hx⟩ := h.form
  have HB : Hid (Bytes w (.slice ao bs.length cap) bs) := h
  clear h hx
  go_enter Try.func18, Try.ntmps18
  go_wp2
  go_loopw [4, 5] (fun v i wr => ∃ (vao : Option Addr) (vn vc : Nat) (recs : List (List UInt8)), v = .slice vao vn vc ∧ i = .int .i64 (sizeL recs) ∧ sizeL recs ≤ bs.length ∧ Hid (bs = frames recs ++ bs.drop (sizeL recs)) ∧ Hid (∀ r ∈ recs, OkR r) ∧ Hid (NewRecs w.heap.size wr (.slice vao vn vc) recs) ∧ Below w.heap.size w wr) (fun _ i _ => bs.length + 1 - (intOf i).toNat)
  case atStart => exact ⟨none, 0, 0, [], rfl, rfl, Nat.zero_le _, (show bs = frames [] ++ bs.drop (sizeL []) by simp [frames, sizeL]), (show ∀ r ∈ ([] : List (List UInt8)), OkR r by simp), ⟨[], OwnRecs.nil _ _ _ (fun k hk => hk.2)⟩, Below.refl _ _⟩
  case round =>
    obtain ⟨vao, vn, vc, recs, rfl, rfl, hat, HF, HO, HN, hb⟩ := hrel
    have HBr : Hid (Bytes wr (.slice ao bs.length cap) bs) := HB.out.keep hb
    obtain ⟨A, hA⟩ : ∃ A, sizeL recs = A := ⟨_, rfl⟩
    have HA : Hid (sizeL recs = A) := hA
    rw [hA] at hat HF ⊢
    clear hA
    by_cases h8 : A + 8 ≤ bs.length
    · rcases ao with _ | a
      · exfalso; have := HBr.out.none_len; omega
      have hcA : ¬ ((cap : Int) = (A : Int)) := by omega
      have hcA' : ¬ (cap = A) := by omega
      have hpart := HBr.out.part (a' := a.add A) (lo := A) (hi := bs.length) rfl (by omega) (Nat.le_refl _) (Or.inl rfl)
      rw [List.take_of_length_le (by rw [List.length_drop]; omega)] at hpart
      have hlr : (bs.drop A).length = bs.length - A := List.length_drop
      have HP : Hid (Bytes wr (.slice (some (a.add A)) (bs.length - A) (cap - A)) (bs.drop A)) := hpart
      have hN32 : leV ((bs.drop A).take 4) < 4294967296 := by
        have := leV_lt ((bs.drop A).take 4)
        rwa [List.length_take, List.length_drop, Nat.min_eq_left (by omega)] at this
      obtain ⟨N, hN⟩ : ∃ N, leV ((bs.drop A).take 4) = N := ⟨_, rfl⟩
      have HNN : Hid (leV ((bs.drop A).take 4) = N) := hN
      rw [hN] at hN32
      have HNUM : Hid (Calls Try.prog 39 #[.slice (some (a.add A)) (bs.length - A) (cap - A)] wr fun e w' => e = .returned (.int .u32 N) ∧ ∃ n, w' = wr.drewN n) := by
        have := number_any _ (bs.drop A) wr HP.out (by rw [hlr]; omega) (by rw [hlr]; omega)
        rw [hN] at this
        exact this
      clear hN hpart
      go_wp2_with fail
      refine HNUM.out.mono ?_
      rintro e w2 ⟨rfl, q, hq⟩
      have hb2 : Below wr.heap.size wr w2 := by rw [hq]; exact below_drewN (Below.refl _ _) q
      clear hq HNUM
      have HNOF : Hid ((∀ r s, OkR r → bs.drop A ≠ frame r ++ s) → ∀ wz, Below wr.heap.size wr wz → ReadOut w bs (.returned (.tuple #[.slice vao vn vc, .int .i64 A])) wz) := by
        intro hno wz hz
        obtain ⟨vs, hOR⟩ := HN.out
        have hb' := hb.trans (hz.mono hb.size)
        have := ReadOut.mk (w := w) (rest := bs.drop A) HF.out HO.out hno ⟨vs, (hOR.keepB hz).mono (fun k hk => ⟨hk.1, Nat.lt_of_lt_of_le hk.2 hz.size⟩) (fun k hk => hk.2)⟩ hb'
        rwa [HA.out] at this
      have hrn := rnd_ge N
      by_cases hN1 : N < 1
      · have HNO := HNOF.out (fun r s hr e => by have := (frame_facts hr e).n; rw [HNN.out] at this; have := hr.1; omega) w2 hb2
        have HNO' : Hid (ReadOut w bs (.returned (.tuple #[.slice vao vn vc, .int .i64 A])) w2) := HNO
        clear HNO
        have t1 : decide ((N : Int) < 1) = true := by simp; omega
        go_wp2
        exact bodyPost_ret (v := .tuple #[.slice vao vn vc, .int .i64 A]) (by simp [results, Try.results18, go_sem]) rfl HNO'.out
      · have t1 : decide ((N : Int) < 1) = false := by simp; omega
        by_cases hN2 : 8192 < N
        · have HNO := HNOF.out (fun r s hr e => by have := (frame_facts hr e).n; rw [HNN.out] at this; have := hr.2; omega) w2 hb2
          have HNO' : Hid (ReadOut w bs (.returned (.tuple #[.slice vao vn vc, .int .i64 A])) w2) := HNO
          clear HNO
          have t2 : decide ((N : Int) > 8192) = true := by simp; omega
          go_wp2
          exact bodyPost_ret (v := .tuple #[.slice vao vn vc, .int .i64 A]) (by simp [results, Try.results18, go_sem]) rfl HNO'.out
        · have t2 : decide ((N : Int) > 8192) = false := by simp; omega
          obtain ⟨M, hM⟩ : ∃ M, rnd N = M := ⟨_, rfl⟩
          have HM : Hid (rnd N = M) := hM
          have HRND : Hid (∀ wz, Calls Try.prog 34 #[.int .i64 N] wz fun e w' => e = .returned (.int .i64 M) ∧ w' = wz) := fun wz => by
            have := round_any N wz (by omega)
            rw [hM] at this
            exact this
          rw [hM] at hrn
          clear hM
          by_cases hfit : A + 8 + M ≤ bs.length
          · obtain ⟨A8, hA8⟩ : ∃ A8 : Nat, (A : Int) + 8 = (A8 : Int) := ⟨A + 8, by omega⟩
            obtain ⟨AN, hAN⟩ : ∃ AN : Nat, (A8 : Int) + (N : Int) = (AN : Int) := ⟨A8 + N, by omega⟩
            obtain ⟨AM, hAM⟩ : ∃ AM : Nat, (A8 : Int) + (M : Int) = (AM : Int) := ⟨A8 + M, by omega⟩
            have hc8 : ¬ ((cap : Int) = (A8 : Int)) := by omega
            have hc8' : ¬ (cap = A8) := by omega
            have hle1 : A8 ≤ AN := by omega
            have hle2 : AN ≤ AM := by omega
            have hle3 : AM ≤ bs.length := by omega
            have hle3' : ¬ ((AM : Int) > (bs.length : Int)) := by omega
            have hANc : AN ≤ cap := by omega
            have t8 : decide (A8 ≤ bs.length) = true := by simp; omega
            have tM : decide (bs.length < AM) = false := by simp; omega
            have t8' : decide ((A8 : Int) ≤ (bs.length : Int)) = true := by simp; omega
            have tM' : decide ((AM : Int) > (bs.length : Int)) = false := by simp; omega
            go_wp2_with (first | (go_at_call 34; refine (HRND.out _).mono ?_; rintro e wx ⟨rfl, hwx⟩; subst hwx))
            have hb2x : Below wr.heap.size wr wx := hb2
            have HBx : Hid (Bytes wx (.slice (some a) bs.length cap) bs) := HBr.out.keep hb2x
            have HCX : Hid (∀ j (hj : j < bs.length), wx.cell? (a.add j) = some (bv bs[j])) := by
              rcases HBx.out with ⟨h, _⟩ | ⟨a', cap', h, _, h2⟩
              · cases h
              · cases h; exact h2
            go_loop [8, 9] (fun bl k => ∃ j : Nat, AN ≤ j ∧ j ≤ AM ∧ k = .int .i64 j ∧ bl = .bool (zerosB ((bs.drop AN).take (j - AN)))) (fun _ k => AM - (intOf k).toNat)
            case atStart => exact ⟨AN, Nat.le_refl _, hle2, rfl, by simp [zerosB]⟩
            case round =>
              obtain ⟨j, hj1, hj2, rfl, rfl⟩ := hrel
              by_cases hjl : j < AM
              · have hjb : j < bs.length := by omega
                have HZ : Hid (zerosB ((bs.drop AN).take (j + 1 - AN)) = (zerosB ((bs.drop AN).take (j - AN)) && (bs[j] == 0))) := zerosB_snoc bs AN j hjb hj1
                have hcell := HCX.out j hjb
                generalize bs[j] = b at *
                unfold bv at hcell
                generalize zerosB ((bs.drop AN).take (j - AN)) = z at *
                have hjI : (j : Int) < (AM : Int) := by omega
                cases z
                · go_wp2_with (first | (go_at_call 34; refine (HRND.out _).mono ?_; rintro e wy ⟨rfl, hwy⟩; subst hwy))
                  go_round
                  case rel => exact ⟨j + 1, by omega, by omega, by go_num, by rw [HZ.out]; rfl⟩
                  case measure => simp [intOf]; omega
                · by_cases hb0 : b = 0
                  · subst hb0
                    go_wp2_with (first | (go_at_call 34; refine (HRND.out _).mono ?_; rintro e wy ⟨rfl, hwy⟩; subst hwy))
                    go_round
                    case rel => exact ⟨j + 1, by omega, by omega, by go_num, by rw [HZ.out]; rfl⟩
                    case measure => simp [intOf]; omega
                  · have hb1 : ¬ ((b.toNat : Int) = 0) := fun e => hb0 (UInt8.toNat_inj.1 (by simpa using e))
                    have hbE : (b == 0) = false := by simpa using hb0
                    have hbI : ((b.toNat : Int) == 0) = false := by simpa using hb1
                    go_wp2_with (first | (go_at_call 34; refine (HRND.out _).mono ?_; rintro e wy ⟨rfl, hwy⟩; subst hwy))
                    go_round
                    case rel => exact ⟨j + 1, by omega, by omega, by go_num, by first | (rw [HZ.out, hbE]; rfl) | (rw [HZ.out, hbE, hbI]; rfl)⟩
                    case measure => simp [intOf]; omega
              · obtain rfl : j = AM := by omega
                obtain ⟨A4, hA4⟩ : ∃ A4 : Nat, (A : Int) + 4 = (A4 : Int) := ⟨A + 4, by omega⟩
                have hc4 : ¬ ((cap : Int) = (A4 : Int)) := by omega
                have hc4' : ¬ (cap = A4) := by omega
                have hANI : ¬ ((j : Int) < (j : Int)) := by omega
                have hRp := HBx.out.part (a' := a.add A8) (lo := A8) (hi := AN) rfl hle1 (by omega) (Or.inl rfl)
                have hCp := HBx.out.part (a' := a.add A4) (lo := A4) (hi := bs.length) rfl (by omega) (Nat.le_refl _) (Or.inl rfl)
                rw [List.take_of_length_le (by rw [List.length_drop]; omega)] at hCp
                have eN : AN - A8 = N := by omega
                obtain ⟨r, hr⟩ : ∃ r, (bs.drop A8).take (AN - A8) = r := ⟨_, rfl⟩
                have hrl : r.length = N := by rw [← hr, List.length_take, List.length_drop]; omega
                obtain ⟨C, hC⟩ : ∃ C, leV ((bs.drop A4).take 4) = C := ⟨_, rfl⟩
                obtain ⟨z, hz⟩ : ∃ z, (bs.drop AN).take (j - AN) = z := ⟨_, rfl⟩
                have hzl : z.length = j - AN := by rw [← hz, List.length_take, List.length_drop]; omega
                rw [hr] at hRp
                rw [hz]
                have HRp : Hid (Bytes wx (.slice (some (a.add A8)) (AN - A8) (cap - A8)) r) := hRp
                have HCRC : Hid (∀ k, Calls Try.prog 40 #[.slice (some (a.add A8)) (AN - A8) (cap - A8)] (wx.drewN k) fun e w' => e = .returned (.int .u32 (crcL r)) ∧ w' = wx.drewN k) := fun k => refCrc_any _ r _ (HRp.out.keep (below_drewN (Below.refl _ _) k)) (by omega)
                have HNUM : Hid (∀ k, Calls Try.prog 39 #[.slice (some (a.add A4)) (bs.length - A4) (cap - A4)] (wx.drewN k) fun e w' => e = .returned (.int .u32 C) ∧ ∃ n, w' = (wx.drewN k).drewN n) := fun k => by
                  have := number_any _ (bs.drop A4) (wx.drewN k) (hCp.keep (below_drewN (Below.refl _ _) k)) (by rw [List.length_drop]; omega) (by rw [List.length_drop]; omega)
                  rw [hC] at this
                  exact this
                have eA8 : A8 = A + 8 := by omega
                have eA4 : A4 = A + 4 := by omega
                have HFO : Hid (crcL r = C → zerosB z = true → bs.drop A = frame r ++ bs.drop j) := by
                  intro h1 h2
                  have hfo := frame_of (b := bs.drop A) (n := N) (by rw [HM.out, hlr]; omega) HNN.out (by omega) (by
                    rw [List.drop_drop, List.drop_drop, ← eA4, ← eA8, hC, ← eN, hr, h1]) (by
                    rw [List.drop_drop, show A + (8 + N) = AN by omega, HM.out, show M - N = j - AN by omega, hz]
                    have := zerosB_rep.1 h2
                    rw [hzl] at this
                    exact this)
                  have h3 := hfo.1
                  rw [List.drop_drop, ← eA8, ← eN, hr, List.drop_drop, eN, HM.out, show A + (8 + M) = j by omega] at h3
                  exact h3
                have HBAD : Hid ((crcL r ≠ C ∨ zerosB z = false) → ∀ r' s, OkR r' → bs.drop A ≠ frame r' ++ s) := by
                  intro hbad r' s hok e
                  have ff := frame_facts hok e
                  have hn' : r'.length = N := by rw [← ff.n, HNN.out]
                  have hrr : r' = r := by rw [← ff.rec_, hn', List.drop_drop, ← eA8, ← eN, hr]
                  rcases hbad with h | h
                  · exact h (by rw [← hrr, ← ff.crc, List.drop_drop, ← eA4, hC])
                  · have hbl := ff.blank
                    rw [hn', HM.out, List.drop_drop, show A + (8 + N) = AN by omega, show M - N = j - AN by omega, hz] at hbl
                    have : zerosB z = true := zerosB_rep.2 (by rw [hzl]; exact hbl)
                    rw [h] at this; cases this
                have hcl := crcL_lt r
                have hC32 : C < 4294967296 := by
                  have := leV_lt ((bs.drop A4).take 4)
                  rw [hC, List.length_take, List.length_drop, Nat.min_eq_left (by omega)] at this
                  simpa using this
                clear hRp hCp hr hC hz HBx HCX eA8 eA4 eN hzl
                by_cases hcr : crcL r = C
                · have hcrI : (crcL r : Int) = (C : Int) := by omega
                  cases hzz : zerosB z
                  · have HNO : Hid (∀ k, ReadOut w bs (.returned (.tuple #[.slice vao vn vc, .int .i64 A])) (wx.drewN k)) := fun k => HNOF.out (HBAD.out (Or.inr hzz)) _ (below_drewN hb2x k)
                    go_wp2_with (first | (go_at_call 34; refine (HRND.out _).mono ?_; rintro e wy ⟨rfl, hwy⟩; rw [hwy]; clear hwy wy))
                    go_quiet ((first | (go_at_call 40; exact Calls.quiet_of_same (HCRC.out _)) | (go_at_call 39; exact Calls.quiet_of (HNUM.out _))))
                    go_wp2
                    exact bodyPost_ret (v := .tuple #[.slice vao vn vc, .int .i64 A]) (by simp [results, Try.results18, go_sem]) rfl (HNO.out _)
                  · have HFR : Hid (bs.drop A = frame r ++ bs.drop j) := HFO.out hcr hzz
                    go_wp2_with (first | (go_at_call 34; refine (HRND.out _).mono ?_; rintro e wy ⟨rfl, hwy⟩; rw [hwy]; clear hwy wy))
                    go_quiet ((first | (go_at_call 40; exact Calls.quiet_of_same (HCRC.out _)) | (go_at_call 39; exact Calls.quiet_of (HNUM.out _))))
                    have hbY : Below wr.heap.size wr (wx.drewN nq) := below_drewN hb2x nq
                    have hRY : Bytes (wx.drewN nq) (.slice (some (a.add A8)) (AN - A8) (cap - A8)) r := HRp.out.keep (below_drewN (Below.refl _ _) nq)
                    generalize wx.drewN nq = wY at *
                    have haY : Below wY.heap.size wY (wY.alloc (.cells #[] 5)) := (Below.refl _ _).alloc (Nat.le_refl _) _
                    have HCY : Hid (∀ i (hi : i < r.length), (wY.alloc (.cells #[] 5)).cell? ((a.add A8).add i) = some (bv r[i])) := by
                      rcases hRY.keep haY with ⟨h, _⟩ | ⟨a', cap', h, _, h2⟩
                      · cases h
                      · simp only [Value.slice.injEq, Option.some.injEq] at h
                        obtain ⟨rfl, _⟩ := h
                        exact h2
                    have HOY : Hid (OwnB wY.heap.size (wY.alloc (.cells #[] 5)) (.slice (some ⟨wY.heap.size, 0, none⟩) 0 0) []) := own_empty wY.heap.size wY (Nat.le_refl _)
                    have hbe := build_empty wY
                    obtain ⟨vs, hOR⟩ := HN.out
                    have HORY : Hid (OwnRecs w.heap.size wY (.slice vao vn vc) (fun k => w.heap.size ≤ k ∧ k < wr.heap.size) vs recs) := hOR.keepB hbY
                    have hvl : vs.length ≤ 100000 := by
                      have h1 := hOR.len
                      have h2 := sizeL_len recs HO.out
                      have h3 := HA.out
                      omega
                    have hwY := hbY.size
                    have hwr := hb.size
                    have HRL' : Hid (r.length = AN - A8) := by show _ = _; omega
                    have HRL : Hid (r.length = N) := hrl
                    clear hrl
                    have hr0 : 0 < AN - A8 := by omega
                    clear hRY hOR HCRC HNUM HFO HBAD HNOF
                    go_wp2_with (first
                      | (at_builtin; refine wp_appA _ rfl _ _ rfl wY.heap.size _ [] rfl HOY.out (a.add A8) (AN - A8) (cap - A8) r rfl HCY.out HRL'.out hr0 (by simp; omega) (by simp) ?_; intro v6 w6 ho6 hg6
                         have hb6 : Below wY.heap.size wY w6 := haY.grown hg6.grown (by simp) (own_ge HOY.out)
                         have hn6 : ∀ q, v6.ownBlock = some q → wY.heap.size ≤ q ∧ q < w6.heap.size := fun q hq => World.ownsRow.lt ho6 q hq
                         have hB6 : Bytes w6 v6 r := OwnB.toBytes ho6
                         obtain ⟨ao6, c6, hv6, _⟩ := hB6.form
                         subst hv6
                         have HOR6 : Hid (OwnRecs w.heap.size w6 (.slice vao vn vc) (fun k => w.heap.size ≤ k ∧ k < wr.heap.size) vs recs) := HORY.out.keepB hb6
                         have HB6 : Hid (Bytes w6 (.slice ao6 r.length c6) r) := hB6
                         have hs6 := hb6.size
                         clear ho6 hg6 hB6)
                      | (at_builtin; refine wp_appV _ rfl _ _ rfl w.heap.size (.slice vao vn vc) vs rfl (World.ownsRow.alloc HOR6.out.own _) w6.heap.size (.slice ao6 r.length c6) rfl (heap_alloc_new w6 _) rfl (by omega) (by simp; omega) ?_; intro v7 w7 hv7 hown7 hg7)
                      | (go_at_call 34; refine (HRND.out _).mono ?_; rintro e wy2 ⟨rfl, hwy2⟩; rw [hwy2]; clear hwy2 wy2))
                    obtain ⟨ao7, vn7, vc7, hv7⟩ := hv7
                    subst hv7
                    have ha6 : Below w6.heap.size w6 (w6.alloc (.cells #[.slice ao6 r.length c6] 36)) := (Below.refl _ _).alloc (Nat.le_refl _) _
                    have hO7 := HOR6.out.keepB ha6
                    have hs8 := hg7.grown.size
                    have hs7 : (w6.alloc (.cells #[.slice ao6 r.length c6] 36)).heap.size = w6.heap.size + 1 := by simp
                    have hOn : OwnRecs w.heap.size w7 (.slice ao7 vn7 vc7) (fun k => w.heap.size ≤ k ∧ k < w7.heap.size) (vs ++ [.slice ao6 r.length c6]) (recs ++ [r]) := by
                      refine (hO7.snoc (U := fun k => wY.heap.size ≤ k ∧ k < w6.heap.size) hown7 hg7 (HB6.out.keep ha6) (fun a' n' c' e => by
                        cases e
                        have hl := hn6 a'.block rfl
                        exact ⟨hl, by omega, fun e2 => by have := (hO7.hv _ e2).2; omega⟩) (fun k hk => by omega)).mono (fun k hk => ?_) (fun k hk => hk.2)
                      rcases hk with hk | hk | hk <;> omega
                    have hb7 : Below w.heap.size w w7 := by
                      have q1 := hb.trans (hbY.mono hb.size)
                      have q2 := q1.trans (hb6.mono q1.size)
                      have q3 := q2.trans (ha6.mono q2.size)
                      exact q3.grown hg7.grown q3.size (fun k hk => (hO7.hv k hk).1)
                    have HN7 : Hid (NewRecs w.heap.size w7 (.slice ao7 vn7 vc7) (recs ++ [r])) := ⟨_, hOn⟩
                    have HSZ : Hid (sizeL (recs ++ [r]) = j) := by
                      show _ = _
                      rw [sizeL_snoc, HA.out, HRL.out, HM.out]; omega
                    have HF7 : Hid (bs = frames (recs ++ [r]) ++ bs.drop (sizeL (recs ++ [r]))) := by
                      show _ = _
                      rw [HSZ.out]
                      exact parses_snoc HF.out HFR.out
                    have HO7 : Hid (∀ x ∈ recs ++ [r], OkR x) := fun x hx => by
                      rcases List.mem_append.1 hx with h | h
                      · exact HO.out x h
                      · simp at h; rw [h]; exact ⟨by rw [HRL.out]; omega, by rw [HRL.out]; omega⟩
                    clear hO7 hOn hown7 hg7 ha6
                    go_wp2
                    go_roundw
                    case rel => exact ⟨ao7, vn7, vc7, recs ++ [r], rfl, by rw [HSZ.out], by rw [HSZ.out]; omega, HF7, HO7, HN7, hb7⟩
                    case measure => simp [intOf]; omega
                · have HNO : Hid (∀ k, ReadOut w bs (.returned (.tuple #[.slice vao vn vc, .int .i64 A])) (wx.drewN k)) := fun k => HNOF.out (HBAD.out (Or.inl hcr)) _ (below_drewN hb2x k)
                  obtain ⟨X, hX⟩ : ∃ X : Int, (crcL r : Int) = X := ⟨_, rfl⟩
                  obtain ⟨Y, hY⟩ : ∃ Y : Int, (C : Int) = Y := ⟨_, rfl⟩
                  rw [hX] at HCRC
                  rw [hY] at HNUM
                  have hXY : ¬ (X = Y) := by omega
                  have hXB : (X == Y) = false := by simpa using hXY
                  clear hX hY hcr hcl hC32 HFO HBAD HNOF
                  cases hzz : zerosB z
                  · go_wp2_with (first | (go_at_call 34; refine (HRND.out _).mono ?_; rintro e wy ⟨rfl, hwy⟩; rw [hwy]; clear hwy wy))
                    refine wp_region_quiet_lit (by kernel_rfl) (by kernel_rfl) ?_
                    repeat (go_big_quiet_step ((first | (go_at_call 40; exact Calls.quiet_of_same (HCRC.out _)) | (go_at_call 39; exact Calls.quiet_of (HNUM.out _)))))
                    simp only [bne, hXB, hXY, decide_false, Bool.not_false]
                    repeat (go_big_quiet_step ((first | (go_at_call 40; exact Calls.quiet_of_same (HCRC.out _)) | (go_at_call 39; exact Calls.quiet_of (HNUM.out _)))))
                    refine wpQuiet_nil ?_
                    intro _ hw'
                    obtain ⟨nq, hw''⟩ := hw'
                    subst hw''
                    go_wp2
                    exact bodyPost_ret (v := .tuple #[.slice vao vn vc, .int .i64 A]) (by simp [results, Try.results18, go_sem]) rfl (HNO.out _)
                  · go_wp2_with (first | (go_at_call 34; refine (HRND.out _).mono ?_; rintro e wy ⟨rfl, hwy⟩; rw [hwy]; clear hwy wy))
                    refine wp_region_quiet_lit (by kernel_rfl) (by kernel_rfl) ?_
                    repeat (go_big_quiet_step ((first | (go_at_call 40; exact Calls.quiet_of_same (HCRC.out _)) | (go_at_call 39; exact Calls.quiet_of (HNUM.out _)))))
                    simp only [bne, hXB, hXY, decide_false, Bool.not_false]
                    repeat (go_big_quiet_step ((first | (go_at_call 40; exact Calls.quiet_of_same (HCRC.out _)) | (go_at_call 39; exact Calls.quiet_of (HNUM.out _)))))
                    refine wpQuiet_nil ?_
                    intro _ hw'
                    obtain ⟨nq, hw''⟩ := hw'
                    subst hw''
                    go_wp2
                    exact bodyPost_ret (v := .tuple #[.slice vao vn vc, .int .i64 A]) (by simp [results, Try.results18, go_sem]) rfl (HNO.out _)
          · have HNO := HNOF.out (fun r s hr e => by
              have h1 := (frame_facts hr e).n
              have h2 := (frame_facts hr e).len
              rw [HNN.out] at h1
              rw [← h1, HM.out, hlr] at h2
              omega) w2 hb2
            have HNO' : Hid (ReadOut w bs (.returned (.tuple #[.slice vao vn vc, .int .i64 A])) w2) := HNO
            clear HNO
            go_wp2_with (first | (go_at_call 34; refine (HRND.out _).mono ?_; rintro e wx ⟨rfl, hwx⟩; subst hwx))
            all_goals first
              | exact bodyPost_ret (v := .tuple #[.slice vao vn vc, .int .i64 A]) (by simp [results, Try.results18, go_sem]) rfl HNO'.out
              | (exfalso; omega)
    · have HNO : Hid (ReadOut w bs (.returned (.tuple #[.slice vao vn vc, .int .i64 A])) wr) := by
        have := ReadOut.mk HF.out HO.out (noFrame_short (by have := HA.out; rw [List.length_drop]; omega)) HN.out hb
        rwa [HA.out] at this
      go_wp2
      exact bodyPost_ret (v := .tuple #[.slice vao vn vc, .int .i64 A]) (by simp [results, Try.results18, go_sem]) rfl HNO.out
end Go.Proofs.Ytcjoolmlobjpbaa

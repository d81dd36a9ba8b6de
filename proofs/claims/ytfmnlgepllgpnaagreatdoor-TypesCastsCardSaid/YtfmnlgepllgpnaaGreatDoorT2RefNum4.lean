/- The walk of the document's own reading of a number, by its sign. -/
import Derived.Test.YtfmnlgepllgpnaaGreatDoorT2RefNum2
namespace Go.Proofs.YtfmnlgepllgpnaaGreatDoor
open Go.RowKit Go.Joins
set_option linter.unusedVariables false

set_option maxHeartbeats 80000000 in
set_option maxRecDepth 100000 in
theorem number_plus (s U : ByteArray) (b l : Int) (w : World) (hs : s.size ≤ 140737488355328) (h0 : 0 < s.size) (hc0 : ((s[0].toNat : Int) == 45) = false) (hc : ((s[0].toNat : Int) == 43) = true) (hU : s.extract 1 s.size = U) :
    Calls Tryz.prog 26 #[.string s, typ b l] w fun e w' => e = .returned ((numR U.data.toList false b).ret) ∧ Below w.heap.size w w' := by
  by_cases hz : U.size = 0
  · have HA : Hid (numR U.data.toList false b = ansNo sBad) := numR_bad (by rw [show U.data.toList.length = U.size by simp, hz]; rfl)
    have hz0 : ((U.size : Int) == 0) = true := by rw [hz]; rfl
    clear hz
    go_enter Tryz.func26, Tryz.ntmps26
    go_wp2
    exact bodyPost_ret (v := .tuple #[nullV, .string sBad]) (by simp [results, Tryz.results26, go_sem]) rfl ⟨by rw [HA.out]; rfl, (by repeat (first | exact Below.refl _ _ | assumption | refine Below.alloc ?_ (by first | (simp; done) | (simp; omega)) _ | refine Below.setCell ?_ (by first | (simp; done) | (simp; omega)) _ | refine Below.drew ?_ | refine below_drewN ?_ _))⟩
  have hz0 : ((U.size : Int) == 0) = false := by rw [beq_eq_false_iff_ne]; omega
  by_cases h4 : 400 < U.size
  · have HA : Hid (numR U.data.toList false b = ansNo sBad) := numR_bad (by rw [show U.data.toList.length = U.size by simp]; simp; omega)
    go_enter Tryz.func26, Tryz.ntmps26
    go_wp2
    exact bodyPost_ret (v := .tuple #[nullV, .string sBad]) (by simp [results, Tryz.results26, go_sem]) rfl ⟨by rw [HA.out]; rfl, (by repeat (first | exact Below.refl _ _ | assumption | refine Below.alloc ?_ (by first | (simp; done) | (simp; omega)) _ | refine Below.setCell ?_ (by first | (simp; done) | (simp; omega)) _ | refine Below.drew ?_ | refine below_drewN ?_ _))⟩
  have W0 := numW_new w b l
  go_enter Tryz.func26, Tryz.ntmps26
  go_wp2
  go_loopw [8, 9] (fun e i wr => ∃ (k : Nat) (K N : Int), k ≤ U.size ∧ i = .int .i64 k ∧ Hid ((U.data.toList.take k).all isDig = true) ∧ NumW w wr b l K N ∧ ((e = .string sDone ∧ K = 1 ∧ Hid (N = -(digV 0 (U.data.toList.take k) : Int)) ∧ Hid (-9223372036854775808 ≤ N ∧ N ≤ 0)) ∨ (e = .string sOut ∧ K = 0 ∧ N = 0 ∧ Hid (9223372036854775808 < digV 0 (U.data.toList.take k))))) (fun _ i _ => U.size - (intOf i).toNat)
  case atStart => exact ⟨0, 1, 0, Nat.zero_le _, rfl, rfl, W0, Or.inl ⟨rfl, rfl, rfl, by constructor <;> omega⟩⟩
  case round =>
    obtain ⟨k, K, N, hk, rfl, HD, NW, HE⟩ := hrel
    clear W0
    by_cases hlt : k < U.size
    · by_cases hlo : (U[k].toNat : Int) < 48
      · have HA : Hid (numR U.data.toList false b = ansNo sBad) := numR_bad (by rw [not_dig U k hlt (isDig_lo hlo)]; simp)
        clear HE HD
        obtain ⟨⟨c0, c1, c2, c3⟩, ⟨f0, f1, f2, f3⟩, ⟨r0, r1, r2, r3⟩, ⟨g0, g1, g2, g3⟩, ⟨d0, d1⟩, bl⟩ := id NW
        go_wp2
        exact bodyPost_ret (v := .tuple #[nullV, .string sBad]) (by simp [results, Tryz.results26, go_sem, r0, r1, r2, r3]) rfl ⟨by rw [HA.out]; rfl, set4_below bl (by omega)⟩
      by_cases hhi : (57 : Int) < (U[k].toNat : Int)
      · have HA : Hid (numR U.data.toList false b = ansNo sBad) := numR_bad (by rw [not_dig U k hlt (isDig_hi hhi)]; simp)
        clear HE HD
        obtain ⟨⟨c0, c1, c2, c3⟩, ⟨f0, f1, f2, f3⟩, ⟨r0, r1, r2, r3⟩, ⟨g0, g1, g2, g3⟩, ⟨d0, d1⟩, bl⟩ := id NW
        go_wp2
        exact bodyPost_ret (v := .tuple #[nullV, .string sBad]) (by simp [results, Tryz.results26, go_sem, r0, r1, r2, r3]) rfl ⟨by rw [HA.out]; rfl, set4_below bl (by omega)⟩
      have HD2 : Hid ((U.data.toList.take (k + 1)).all isDig = true) := all_take U k hlt HD.out (isDig_is hlo hhi)
      have HV : Hid (digV 0 (U.data.toList.take (k + 1)) = digV 0 (U.data.toList.take k) * 10 + (U[k].toNat - 48)) := digV_take U k hlt
      have eO : (sOut.toList == [48, 48, 48, 48, 48]) = false := by rw [Lib.toList_data]; decide
      rcases HE with ⟨rfl, rfl, HN, HB⟩ | ⟨rfl, rfl, rfl, HO⟩
      · have M10 := fun w => refMul10 N w HB.out.2 HB.out.1
        by_cases hm : -9223372036854775808 ≤ N * 10
        · simp only [hm, if_true] at M10
          have SD := fun w => refSubD (N * 10) ((U[k].toNat : Int) - 48) w (by have := HB.out; omega) hm (by omega)
          go_wp2_with fail
          go_cut [8] (fun e8 wx => e8 = .string sDone ∧ NumW w wx b l 1 (N * 10))
          case first =>
            obtain ⟨c0, c1, c2, c3⟩ := id NW.n
            obtain ⟨f0, f1, f2, f3⟩ := id NW.no
            go_region_with (first
              | (go_at_call 20; refine (num_any _ _).mono ?_; rintro e w1a ⟨rfl, hb⟩; have NW1 : NumW w w1a b l 1 N := (by first | exact NW.keep hb | exact NW.drew.keep hb); clear hb; clear c0 f0 c1 f1 c2 f2 c3 f3; obtain ⟨c0a, c1a, c2a, c3a⟩ := id NW1.n; obtain ⟨f0a, f1a, f2a, f3a⟩ := id NW1.no)
              | (go_at_call 56; refine (M10 _).mono ?_; rintro e w2a ⟨rfl, hb⟩; have NW2 : NumW w w2a b l 1 N := NW1.keep hb; clear hb; clear c0a f0a c1a f1a c2a f2a c3a f3a; obtain ⟨c0b, c1b, c2b, c3b⟩ := id NW2.n; obtain ⟨f0b, f1b, f2b, f3b⟩ := id NW2.no))
            all_goals go_wp2_with fail
            all_goals go_meet
            all_goals exact ⟨rfl, NW2.set 1 (N * 10)⟩
          case rest =>
          obtain ⟨rfl, NW3⟩ := hcut
          obtain ⟨k2, n2, st2, SD2, HF2⟩ : ∃ (k2 n2 : Int) (st2 : ByteArray), (∀ w : World, Calls Tryz.prog 57 #[val 1 (N * 10) ⟨#[]⟩ false, val 1 ((U[k].toNat : Int) - 48) ⟨#[]⟩ false] w fun e w' => e = .returned (.tuple #[val k2 n2 ⟨#[]⟩ false, .string st2]) ∧ Below w.heap.size w w') ∧ Hid ((st2 = sDone ∧ k2 = 1 ∧ n2 = -(digV 0 (U.data.toList.take (k + 1)) : Int) ∧ (-9223372036854775808 ≤ n2 ∧ n2 ≤ 0)) ∨ (st2 = sOut ∧ k2 = 0 ∧ n2 = 0 ∧ 9223372036854775808 < digV 0 (U.data.toList.take (k + 1)))) := by
            by_cases hd : -9223372036854775808 ≤ N * 10 - ((U[k].toNat : Int) - 48)
            · simp only [hd, if_true] at SD
              refine ⟨1, N * 10 - ((U[k].toNat : Int) - 48), sDone, SD, Or.inl ⟨rfl, rfl, ?_, hd, by have := HB.out; omega⟩⟩
              rw [HV.out]
              have := HN.out; omega
            · simp only [hd, if_false] at SD
              refine ⟨0, 0, sOut, SD, Or.inr ⟨rfl, rfl, rfl, ?_⟩⟩
              rw [HV.out]
              have := HN.out; omega
          have HR : Hid (∀ e8 : Value, e8 = .string st2 → ((e8 = .string sDone ∧ k2 = 1 ∧ Hid (n2 = -(digV 0 (U.data.toList.take (k + 1)) : Int)) ∧ Hid (-9223372036854775808 ≤ n2 ∧ n2 ≤ 0)) ∨ (e8 = .string sOut ∧ k2 = 0 ∧ n2 = 0 ∧ Hid (9223372036854775808 < digV 0 (U.data.toList.take (k + 1)))))) := fun e8 he => by
            rcases HF2.out with ⟨h1, h2, h3, h4⟩ | ⟨h1, h2, h3, h4⟩
            · exact Or.inl ⟨by rw [he, h1], h2, h3, h4⟩
            · exact Or.inr ⟨by rw [he, h1], h2, h3, h4⟩
          clear HN HB HV HD HF2 SD
          obtain ⟨dg, hdg⟩ : ∃ dg : UInt8, U[k] = dg := ⟨_, rfl⟩
          rw [hdg] at SD2 hlo hhi
          obtain ⟨dd, hdd, hde⟩ : ∃ dd : Int, IntKind.i64.wrap (IntKind.u8.wrap ((dg.toNat : Int) - 48)) = dd ∧ (dg.toNat : Int) - 48 = dd := ⟨(dg.toNat : Int) - 48, by rw [IntKind.wrap_u8, IntKind.wrap_i64]; omega, rfl⟩
          rw [hde] at SD2
          clear hde
          obtain ⟨N1, hN1⟩ : ∃ N1 : Int, N * 10 = N1 := ⟨_, rfl⟩
          rw [hN1] at SD2 NW3
          clear M10 hm hN1
          obtain ⟨c0c, c1c, c2c, c3c⟩ := id NW3.n
          obtain ⟨f0c, f1c, f2c, f3c⟩ := id NW3.no
          go_wp2_with fail
          go_region_with (first
            | (go_at_call 20; (try rw [hdd]); refine (num_any dd _).mono ?_; rintro e w4a ⟨rfl, hb⟩; have NW4 : NumW w w4a b l 1 N1 := (by first | exact NW3.keep hb | exact NW3.drew.keep hb); clear hb; clear c0c f0c c1c f1c c2c f2c c3c f3c; obtain ⟨c0d, c1d, c2d, c3d⟩ := id NW4.n; obtain ⟨f0d, f1d, f2d, f3d⟩ := id NW4.no)
            | (go_at_call 57; refine (SD2 _).mono ?_; rintro e w5a ⟨rfl, hb⟩; have NW5 : NumW w w5a b l 1 N1 := NW4.keep hb; clear hb; clear c0d f0d c1d f1d c2d f2d c3d f3d; obtain ⟨c0e, c1e, c2e, c3e⟩ := id NW5.n; obtain ⟨f0e, f1e, f2e, f3e⟩ := id NW5.no))
          all_goals
            go_wp2
            exact ⟨⟨k + 1, k2, n2, by omega, by go_num, HD2, NW5.set k2 n2, HR.out _ rfl⟩, by simp [intOf]; omega⟩
        · simp only [hm, if_false] at M10
          have HO2 : Hid (9223372036854775808 < digV 0 (U.data.toList.take (k + 1))) := by
            show _ < _
            rw [HV.out]
            have := HN.out; omega
          clear HN HB HV HD
          go_wp2_with fail
          go_cut [8] (fun e8 wx => e8 = .string sOut ∧ NumW w wx b l 0 0)
          case first =>
            obtain ⟨c0, c1, c2, c3⟩ := id NW.n
            obtain ⟨f0, f1, f2, f3⟩ := id NW.no
            go_region_with (first
              | (go_at_call 20; refine (num_any _ _).mono ?_; rintro e w1a ⟨rfl, hb⟩; have NW1 : NumW w w1a b l 1 N := (by first | exact NW.keep hb | exact NW.drew.keep hb); clear hb; clear c0 f0 c1 f1 c2 f2 c3 f3; obtain ⟨c0a, c1a, c2a, c3a⟩ := id NW1.n; obtain ⟨f0a, f1a, f2a, f3a⟩ := id NW1.no)
              | (go_at_call 56; refine (M10 _).mono ?_; rintro e w2a ⟨rfl, hb⟩; have NW2 : NumW w w2a b l 1 N := NW1.keep hb; clear hb; clear c0a f0a c1a f1a c2a f2a c3a f3a; obtain ⟨c0b, c1b, c2b, c3b⟩ := id NW2.n; obtain ⟨f0b, f1b, f2b, f3b⟩ := id NW2.no))
            all_goals go_wp2_with fail
            all_goals go_meet
            all_goals exact ⟨rfl, NW2.set 0 0⟩
          case rest =>
          obtain ⟨rfl, NW3⟩ := hcut
          go_wp2
          exact ⟨⟨k + 1, 0, 0, by omega, by go_num, HD2, NW3, Or.inr ⟨rfl, rfl, rfl, HO2⟩⟩, by simp [intOf]; omega⟩
      · have HO2 : Hid (9223372036854775808 < digV 0 (U.data.toList.take (k + 1))) := by
          show _ < _
          rw [HV.out]
          have := HO.out; omega
        clear HO HV HD
        go_wp2
        exact ⟨⟨k + 1, 0, 0, by omega, by go_num, HD2, NW, Or.inr ⟨rfl, rfl, rfl, HO2⟩⟩, by simp [intOf]; omega⟩
    · obtain rfl : k = U.size := by omega
      have hall : U.data.toList.take U.size = U.data.toList := List.take_of_length_le (by simp)
      rw [hall] at HD HE
      clear hall
      have eO : (sOut.toList == [48, 48, 48, 48, 48]) = false := by rw [Lib.toList_data]; decide
      rcases HE with ⟨rfl, rfl, HN, HB⟩ | ⟨rfl, rfl, rfl, HO⟩
      · have G0 := fun w => refSub0 N w HB.out.2 HB.out.1
        by_cases hm : -9223372036854775808 < N
        · simp only [hm, if_true] at G0
          have GN := fun w => refNeg_of N 1 (-N) sDone w G0
          have HANS : Hid ((fitsT (-N) b = true → numR U.data.toList false b = ansNum (-N)) ∧ (fitsT (-N) b = false → numR U.data.toList false b = ansNo sOut)) := numR_plus hz h4 HD.out HN.out HB.out hm
          clear HN HB HD G0
          obtain ⟨c0, c1, c2, c3⟩ := id NW.n
          obtain ⟨f0, f1, f2, f3⟩ := id NW.no
          go_wp2_with fail
          refine (GN _).mono ?_
          rintro e w7 ⟨rfl, hb⟩
          have NWa := NW.keep hb
          clear hb c0 c1 c2 c3 f0 f1 f2 f3 NW
          obtain ⟨c0, c1, c2, c3⟩ := id NWa.n
          obtain ⟨f0, f1, f2, f3⟩ := id NWa.no
          obtain ⟨d0, d1⟩ := id NWa.t
          have NW := NWa.set 1 (-N)
          clear NWa
          cases hf : fitsT (-N) b
          · have HA : Hid (numR U.data.toList false b = ansNo sOut) := HANS.out.2 hf
            go_wp2_with (go_at_call 54; refine (rfits_any (-N) b l _).mono ?_; rw [hf]; rintro e w8 ⟨rfl, hb⟩; have NW8 := NW.keep hb; clear hb c0 c1 c2 c3 f0 f1 f2 f3 d0 d1; obtain ⟨⟨c0, c1, c2, c3⟩, ⟨f0, f1, f2, f3⟩, ⟨r0, r1, r2, r3⟩, ⟨g0, g1, g2, g3⟩, ⟨d0, d1⟩, bl⟩ := id NW8)
            exact bodyPost_ret (v := .tuple #[nullV, .string sOut]) (by simp [results, Tryz.results26, go_sem, r0, r1, r2, r3]) rfl ⟨by rw [HA.out]; rfl, set4_below bl (by omega)⟩
          · have HA : Hid (numR U.data.toList false b = ansNum (-N)) := HANS.out.1 hf
            go_wp2_with (go_at_call 54; refine (rfits_any (-N) b l _).mono ?_; rw [hf]; rintro e w8 ⟨rfl, hb⟩; have NW8 := NW.keep hb; clear hb c0 c1 c2 c3 f0 f1 f2 f3 d0 d1; obtain ⟨⟨c0, c1, c2, c3⟩, ⟨f0, f1, f2, f3⟩, ⟨r0, r1, r2, r3⟩, ⟨g0, g1, g2, g3⟩, ⟨d0, d1⟩, bl⟩ := id NW8)
            exact bodyPost_ret (v := .tuple #[val 1 (-N) ⟨#[]⟩ false, .string sDone]) (by simp [results, Tryz.results26, go_sem, r0, r1, r2, r3]) rfl ⟨by rw [HA.out]; rfl, set4_below bl (by omega)⟩
        · simp only [hm, if_false] at G0
          have GN := fun w => refNeg_of N 0 0 sOut w G0
          have HA : Hid (numR U.data.toList false b = ansNo sOut) := numR_big hz h4 HD.out (Or.inr ⟨rfl, by have := HN.out; omega⟩)
          clear HN HB HD G0
          obtain ⟨c0, c1, c2, c3⟩ := id NW.n
          obtain ⟨f0, f1, f2, f3⟩ := id NW.no
          go_wp2_with fail
          refine (GN _).mono ?_
          rintro e w7 ⟨rfl, hb⟩
          have NWa := NW.keep hb
          clear hb c0 c1 c2 c3 f0 f1 f2 f3 NW
          obtain ⟨c0, c1, c2, c3⟩ := id NWa.n
          obtain ⟨f0, f1, f2, f3⟩ := id NWa.no
          obtain ⟨d0, d1⟩ := id NWa.t
          have NW := NWa.set 0 0
          clear NWa
          cases hf : fitsT 0 b
          all_goals
            go_wp2_with (go_at_call 54; refine (rfits_any 0 b l _).mono ?_; rw [hf]; rintro e w8 ⟨rfl, hb⟩; have NW8 := NW.keep hb; clear hb c0 c1 c2 c3 f0 f1 f2 f3 d0 d1; obtain ⟨⟨c0, c1, c2, c3⟩, ⟨f0, f1, f2, f3⟩, ⟨r0, r1, r2, r3⟩, ⟨g0, g1, g2, g3⟩, ⟨d0, d1⟩, bl⟩ := id NW8)
            exact bodyPost_ret (v := .tuple #[nullV, .string sOut]) (by simp [results, Tryz.results26, go_sem, r0, r1, r2, r3]) rfl ⟨by rw [HA.out]; rfl, set4_below bl (by omega)⟩
      · have HA : Hid (numR U.data.toList false b = ansNo sOut) := numR_big hz h4 HD.out (Or.inr ⟨rfl, by have := HO.out; omega⟩)
        clear HO HD
        obtain ⟨c0, c1, c2, c3⟩ := id NW.n
        obtain ⟨d0, d1⟩ := id NW.t
        cases hf : fitsT 0 b
        all_goals
          go_wp2_with (go_at_call 54; refine (rfits_any 0 b l _).mono ?_; rw [hf]; rintro e w8 ⟨rfl, hb⟩; have NW8 := NW.keep hb; clear hb c0 c1 c2 c3 d0 d1; obtain ⟨⟨c0, c1, c2, c3⟩, ⟨f0, f1, f2, f3⟩, ⟨r0, r1, r2, r3⟩, ⟨g0, g1, g2, g3⟩, ⟨d0, d1⟩, bl⟩ := id NW8)
          exact bodyPost_ret (v := .tuple #[nullV, .string sOut]) (by simp [results, Tryz.results26, go_sem, r0, r1, r2, r3]) rfl ⟨by rw [HA.out]; rfl, set4_below bl (by omega)⟩
end Go.Proofs.YtfmnlgepllgpnaaGreatDoor

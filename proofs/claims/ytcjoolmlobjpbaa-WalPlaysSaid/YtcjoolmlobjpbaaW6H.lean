/- Package wal: whole numbers read; the next record. -/
import Derived.Test.YtcjoolmlobjpbaaW6G
import Derived.Lib.SliceRun
namespace Go.Proofs.Ytcjoolmlobjpbaa
open Go.RowKit Go.Maps
set_option linter.unusedVariables false
set_option linter.unusedSimpArgs false

/-- What one byte more makes of a number that is still short. -/
theorem shl_low (u k : Nat) (c : UInt8) (hu : u < 256 ^ k) (hk : k < 4) : bits .or .u32 (u : Int) (IntKind.u32.wrap ((c.toNat : Int) * 2 ^ (8 * k))) = ((u + 256 ^ k * c.toNat : Nat) : Int) := by
  have hc := c.toNat_lt
  have h1 : (256 : Nat) ^ k ≤ 256 ^ 3 := Nat.pow_le_pow_right (by decide) (by omega)
  have e7 : (256 : Nat) ^ 3 = 16777216 := by decide
  rw [e7] at h1
  have e1 : (c.toNat : Int) * 2 ^ (8 * k) = ((2 ^ (8 * k) * c.toNat : Nat) : Int) := by
    rw [Int.natCast_mul, Int.natCast_pow, Int.mul_comm]; rfl
  have e2 : (2 : Nat) ^ (8 * k) = 256 ^ k := by rw [Nat.pow_mul]
  have hlt : 2 ^ (8 * k) * c.toNat < 4294967296 := by
    rw [e2]
    calc 256 ^ k * c.toNat ≤ 16777216 * c.toNat := Nat.mul_le_mul_right _ h1
      _ < 4294967296 := by omega
  have e3 : IntKind.u32.wrap ((2 ^ (8 * k) * c.toNat : Nat) : Int) = ((2 ^ (8 * k) * c.toNat : Nat) : Int) := by rw [IntKind.wrap_u32]; omega
  rw [e1, e3, u32_or_nat _ _ (by omega) hlt, Nat.or_comm, ← Nat.two_pow_add_eq_or_of_lt (by rw [e2]; exact hu), e2, Nat.add_comm]
theorem leV_app (a b : List UInt8) : leV (a ++ b) = leV a + 256 ^ a.length * leV b := by
  induction a with
  | nil => simp [leV]
  | cons c a ih => rw [List.cons_append, leV, leV, ih, List.length_cons, Nat.pow_succ, Nat.mul_add]; rw [Nat.mul_comm (256 ^ a.length) 256, Nat.mul_assoc]; omega
theorem leV_lt (a : List UInt8) : leV a < 256 ^ a.length := by
  induction a with
  | nil => simp [leV]
  | cons c a ih => rw [leV, List.length_cons, Nat.pow_succ]; have := c.toNat_lt; omega
theorem leV_take (xs : List UInt8) (k : Nat) (h : k < xs.length) : leV (xs.take (k + 1)) = leV (xs.take k) + 256 ^ k * (xs[k]'h).toNat := by
  rw [List.take_succ_eq_append_getElem h, leV_app, List.length_take, Nat.min_eq_left (by omega)]
  simp [leV]
set_option maxHeartbeats 1000000 in
theorem whole_any (v : Value) (xs : List UInt8) (w : World) (h : Bytes w v xs) (hl : 4 ≤ xs.length) (hl2 : xs.length ≤ 1000000) :
    Calls Try.prog 46 #[v] w fun e w' => e = .returned (.int .u32 (leV (xs.take 4))) ∧ w' = w := by
  obtain ⟨ao, cap, rfl, hc, hx⟩ := h.form
  obtain ⟨a, rfl, hx'⟩ := hx (by omega)
  clear h hx
  have HX : Hid (∀ j u, (xs.map bv)[j]? = some u → w.cell? (a.add j) = some u) := hx'
  clear hx'
  go_enter Try.func46, Try.ntmps46
  go_wp2
  go_loop [3, 5] (fun s i => ∃ k : Nat, k ≤ 4 ∧ i = .int .i64 k ∧ s = .int .u32 (leV (xs.take k))) (fun _ i => 4 - (intOf i).toNat)
  case atStart => exact ⟨0, Nat.zero_le _, rfl, rfl⟩
  case round =>
    obtain ⟨k, hk, rfl, rfl⟩ := hrel
    by_cases hlt : k < 4
    · have hcell := HX.out k (bv xs[k]) (by rw [List.getElem?_map, List.getElem?_eq_getElem (by omega)]; rfl)
      have HS : Hid (leV (xs.take (k + 1)) = leV (xs.take k) + 256 ^ k * (xs[k]'(by omega)).toNat) := leV_take xs k (by omega)
      have hu : leV (xs.take k) < 256 ^ k := by
        have := leV_lt (xs.take k)
        rwa [List.length_take, Nat.min_eq_left (by omega)] at this
      have hsh := shl_low (leV (xs.take k)) k (xs[k]'(by omega)) hu hlt
      rw [IntKind.wrap_u32] at hsh
      have hbl := (xs[k]'(by omega)).toNat_lt
      have hul : leV (xs.take k) < 4294967296 := Nat.lt_of_lt_of_le hu (by have : (256 : Nat) ^ k ≤ 256 ^ 4 := Nat.pow_le_pow_right (by decide) (by omega); simpa using this)
      clear hu
      generalize xs[k]'(by omega) = b at *
      generalize leV (xs.take k) = u at *
      unfold bv at hcell
      go_wp2
      go_round
      case rel => exact ⟨k + 1, by omega, by go_num, by rw [HS.out]; congr 1⟩
      case measure => simp [intOf]; omega
    · obtain rfl : k = 4 := by omega
      go_wp2
      go_ret
      exact ⟨rfl, rfl⟩
theorem nil_eql (w : World) (ao : Option Addr) (n c : Nat) : (binOp .eql 36 (.slice ao n c) (.slice none 0 0)).run Try.prog w = .ok (.bool ao.isNone) w := Lib.run_eql_slice_nil w 36 5 ao n c 0 0 Try.underlying36
/-- What the next record is. -/
def NextOut (base : Nat) (w : World) (T : Nat → Prop) (gh gn ge gd : Nat) (pd : Value) (en : Nat) (D : DS) (all : List UInt8) (e : Ending) (w' : World) : Prop :=
  (∃ (r s : List UInt8) (a : Addr) (cap : Nat) (sv : Value) (held : List UInt8) (nx : Nat) (T' : Nat → Prop), all = frame r ++ s ∧ OkR r ∧ e = .returned (.slice (some a) r.length cap) ∧ Bytes w' (.slice (some a) r.length cap) r ∧ T' a.block ∧ TkMid base w w' T T' gh gn ge gd pd sv held nx en D s) ∨
  (NoFrame all ∧ e = .returned (.slice none 0 0) ∧ Fr w w' T)
theorem TkMid.trans {base : Nat} {w w1 w2 : World} {T T1 T2 : Nat → Prop} {gh gn ge gd : Nat} {pd sv1 sv2 : Value} {held1 held2 : List UInt8} {nx1 nx2 en : Nat} {D : DS} {a1 a2 : List UInt8} (h : TkMid base w w1 T T1 gh gn ge gd pd sv1 held1 nx1 en D a1) (k : TkMid base w1 w2 T1 T2 gh gn ge gd pd sv2 held2 nx2 en D a2) : TkMid base w w2 T T2 gh gn ge gd pd sv2 held2 nx2 en D a2 :=
  ⟨k.t, k.a, h.f.trans k.f h.o, fun i hi => by
    rcases k.o i hi with h1 | h1
    · exact h.o i h1
    · right; have := h.f.size; omega⟩
set_option maxRecDepth 10000 in
set_option maxHeartbeats 4000000 in
theorem next_any {base : Nat} {w : World} {F T : Nat → Prop} {p : Value} {n : Nat} {D : DS} {gh gn ge gd : Nat} {sv : Value} {held : List UInt8} {nx en : Nat} (hD : DiskAt base w F p n D) (hT : Tk base w T gh gn ge gd p sv held nx en) (hd : ∀ k, F k → ¬ T k) (hen : en ≤ D.size) (hls : ∀ i, (D.now i).length = 128) :
    Calls Try.prog 32 #[.func (.func 45) #[] #[.pointer (some ⟨gh, 0, none⟩), .pointer (some ⟨gn, 0, none⟩), .pointer (some ⟨ge, 0, none⟩), .pointer (some ⟨gd, 0, none⟩)]] w (NextOut base w T gh gn ge gd p en D (still D held nx en)) := by
  have hT1 := take_any hD hT hd hen hls 8 (by omega) (by omega)
  have HT1 : Hid (Calls Try.prog 45 #[.int .i64 8, .pointer (some ⟨gh, 0, none⟩), .pointer (some ⟨gn, 0, none⟩), .pointer (some ⟨ge, 0, none⟩), .pointer (some ⟨gd, 0, none⟩)] w (TakeOut base w T gh gn ge gd p en 8 D (still D held nx en))) := hT1
  have HD : Hid (DiskAt base w F p n D) := hD
  have HAL : Hid (∀ k, F k → ¬ T k) := hd
  have HLS : Hid (∀ i, (D.now i).length = 128) := hls
  clear hT1 hD hd hls
  generalize still D held nx en = all at *
  have hq := nil_eql
  go_enter Try.func32, Try.ntmps32
  go_wp2_with fail
  refine HT1.out.mono ?_
  rintro e w1 (⟨hle, a, cap, sv1, held1, nx1, T1, rfl, hmc, hB1, ha1, hM1⟩ | ⟨hlt, rfl, hf⟩)
  · have hB4 := hB1.part (a' := a.add 4) (lo := 4) (hi := 8) (by rw [List.length_take]; omega) (by omega) (Nat.le_refl _) (Or.inl rfl)
    have HB1 : Hid (Bytes w1 (.slice (some a) 8 cap) (all.take 8)) := hB1
    have HB4 : Hid (Bytes w1 (.slice (some (a.add 4)) 4 (cap - 4)) (((all.take 8).drop 4).take 4)) := hB4
    have hN1 : (all.take 8).take 4 = all.take 4 := by rw [List.take_take]; rfl
    have hN2 : (((all.take 8).drop 4).take 4).take 4 = (all.drop 4).take 4 := by rw [List.drop_take, List.take_take, List.take_take]; rfl
    have HC1 : Hid (∀ k, Calls Try.prog 46 #[.slice (some a) 8 cap] (w1.drewN k) fun e w'' => e = .returned (.int .u32 (leV (all.take 4))) ∧ w'' = w1.drewN k) := by
      intro k
      have := whole_any (.slice (some a) 8 cap) (all.take 8) (w1.drewN k) (HB1.out.keep (below_drewN (Below.refl _ _) k)) (by rw [List.length_take]; omega) (by rw [List.length_take]; omega)
      rw [hN1] at this
      exact this
    have HC2 : Hid (∀ k, Calls Try.prog 46 #[.slice (some (a.add 4)) 4 (cap - 4)] (w1.drewN k) fun e w'' => e = .returned (.int .u32 (leV ((all.drop 4).take 4))) ∧ w'' = w1.drewN k) := by
      intro k
      have := whole_any (.slice (some (a.add 4)) 4 (cap - 4)) (((all.take 8).drop 4).take 4) (w1.drewN k) (HB4.out.keep (below_drewN (Below.refl _ _) k)) (by rw [List.length_take, List.length_drop, List.length_take]; omega) (by rw [List.length_take]; omega)
      rw [hN2] at this
      exact this
    have hNl : leV (all.take 4) < 4294967296 := by
      have := leV_lt (all.take 4)
      rwa [List.length_take, Nat.min_eq_left (by omega)] at this
    have hCl : leV ((all.drop 4).take 4) < 4294967296 := by
      have := leV_lt ((all.drop 4).take 4)
      rwa [List.length_take, List.length_drop, Nat.min_eq_left (by omega)] at this
    have HN : Hid (∃ N, N = leV (all.take 4)) := ⟨_, rfl⟩
    have HC : Hid (∃ C, C = leV ((all.drop 4).take 4)) := ⟨_, rfl⟩
    obtain ⟨N, hN⟩ := HN.out
    obtain ⟨C, hC⟩ := HC.out
    rw [← hN] at HC1 hNl
    rw [← hC] at HC2 hCl
    have HN : Hid (N = leV (all.take 4)) := hN
    have HC : Hid (C = leV ((all.drop 4).take 4)) := hC
    have hc4 : ¬ ((cap : Int) = 4) := by omega
    have hc4' : ¬ (cap = 4) := by omega
    clear hB1 hB4 hN1 hN2 hN hC
    go_wp2
    go_quiet ((first | (go_at_call_of 46 (Value.slice (some a) 8 cap); exact Calls.quiet_of_same (HC1.out _)) | (go_at_call 46; exact Calls.quiet_of_same (HC2.out _))))
    have hfD : Below w1.heap.size w1 (w1.drewN nq) := below_drewN (Below.refl _ _) nq
    have hM1' : TkMid base w (w1.drewN nq) T T1 gh gn ge gd p sv1 held1 nx1 en D (all.drop 8) := ⟨hM1.t.keep (Fr.of_below (F := fun _ => False) hfD) (fun _ _ => id), hM1.a, hM1.f.trans (Fr.of_below (F := T) hfD) (fun i hi => Or.inl hi), hM1.o⟩
    have HM1 : Hid (TkMid base w (w1.drewN nq) T T1 gh gn ge gd p sv1 held1 nx1 en D (all.drop 8)) := hM1'
    clear hM1 hM1' HC1 HC2 HB1 HB4 hfD hc4 hc4' hCl
    generalize w1.drewN nq = w2 at *
    by_cases hN0 : N < 1
    · have t1 : decide ((N : Int) < 1) = true := by simp; omega
      go_wp2
      go_ret
      refine Or.inr ⟨fun r s hr e => ?_, rfl, HM1.out.f⟩
      have := (frame_facts hr e).n
      rw [← HN.out] at this
      have := hr.1
      omega
    · have t1 : decide ((N : Int) < 1) = false := by simp; omega
      by_cases hN1 : 8192 < N
      · have t2 : decide ((N : Int) > 8192) = true := by simp; omega
        go_wp2
        go_ret
        refine Or.inr ⟨fun r s hr e => ?_, rfl, HM1.out.f⟩
        have := (frame_facts hr e).n
        rw [← HN.out] at this
        have := hr.2
        omega
      · have t2 : decide ((N : Int) > 8192) = false := by simp; omega
        have hrn := rnd_ge N
        have HAL1 : Hid (∀ k, F k → ¬ T1 k) := fun k hk ht => by
          rcases HM1.out.o k ht with h | h
          · exact HAL.out k hk h
          · have := (HD.out.lo k hk).2; omega
        have HD1 : Hid (DiskAt base w2 F p n D) := HD.out.keep HM1.out.f HAL.out
        obtain ⟨M, hM⟩ : ∃ M, rnd N = M := ⟨_, rfl⟩
        have HR : Hid (rnd N = M) := hM
        rw [hM] at hrn
        have hT2 := take_any HD1.out HM1.out.t HAL1.out hen HLS.out M (by omega) (by omega)
        rw [HM1.out.a] at hT2
        have HT2 : Hid (Calls Try.prog 45 #[.int .i64 M, .pointer (some ⟨gh, 0, none⟩), .pointer (some ⟨gn, 0, none⟩), .pointer (some ⟨ge, 0, none⟩), .pointer (some ⟨gd, 0, none⟩)] w2 (TakeOut base w2 T1 gh gn ge gd p en M D (all.drop 8))) := hT2
        have HFB : Hid (Calls Try.prog 35 #[.int .i64 N] w2 fun e w' => e = .returned (.int .i64 (8 + M : Nat)) ∧ w' = w2) := by
          have := frameBytes_any N w2 (by omega)
          rw [hM] at this
          exact this
        have hE8 : (8 : Int) + (M : Int) - 8 = (M : Int) := by omega
        clear hT2 hM
        go_wp2_with (first | (go_at_call 35; refine HFB.out.mono ?_; rintro e wx ⟨rfl, hwx⟩; subst hwx))
        refine HT2.out.mono ?_
        rintro e w3 (⟨hle2, a2, cap2, sv2, held2, nx2, T2, rfl, hmc2, hB2, ha2, hM2⟩ | ⟨hlt2, rfl, hf2⟩)
        · have hle3 : M ≤ all.length - 8 := by rwa [List.length_drop] at hle2
          have hlB : ((all.drop 8).take M).length = M := by rw [List.length_take, List.length_drop]; omega
          have hMM := HM1.out.trans hM2
          have hRec := hB2.part (a' := a2) (lo := 0) (hi := N) hlB (by omega) (by omega) (Or.inl (by simp [Addr.add]))
          have hr1 : ((((all.drop 8).take M).drop 0).take (N - 0)) = (all.drop 8).take N := by
            rw [List.drop_zero, Nat.sub_zero, List.take_take, Nat.min_eq_left (by omega)]
          rw [hr1] at hRec
          simp only [Nat.sub_zero] at hRec
          have hb1 : (((all.drop 8).take M).drop N).take (M - N) = (all.drop (8 + N)).take (M - N) := by
            rw [List.drop_take, List.take_take, Nat.min_self, List.drop_drop]
          have hRest : ∀ a3, (a3 = a2.add N ∨ M = N) → Bytes w3 (.slice (some a3) (M - N) (cap2 - N)) ((all.drop (8 + N)).take (M - N)) := fun a3 ha3 => by
            have := hB2.part (a' := a3) (lo := N) (hi := M) hlB (by omega) (Nat.le_refl _) ha3
            rwa [hb1] at this
          have hlr : ((all.drop 8).take N).length = N := by rw [List.length_take, List.length_drop]; omega
          obtain ⟨r, hr⟩ : ∃ r, (all.drop 8).take N = r := ⟨_, rfl⟩
          obtain ⟨z, hz⟩ : ∃ z, (all.drop (8 + N)).take (M - N) = z := ⟨_, rfl⟩
          have hlz : z.length = M - N := by rw [← hz, List.length_take, List.length_drop]; omega
          have HCR : Hid (∀ k, Calls Try.prog 47 #[.slice (some a2) N cap2] (w3.drewN k) fun e w' => e = .returned (.int .u32 (crcL r)) ∧ w' = w3.drewN k) := by
            intro k
            rw [hr] at hRec
            exact crc_any _ r _ (hRec.keep (below_drewN (Below.refl _ _) k)) (by rw [← hr, hlr]; omega)
          have HBL : Hid (∀ k a3, (a3 = a2.add N ∨ M = N) → Calls Try.prog 48 #[.slice (some a3) (M - N) (cap2 - N)] (w3.drewN k) fun e w' => e = .returned (.bool (zerosB z)) ∧ w' = w3.drewN k) := by
            intro k a3 ha3
            have := hRest a3 ha3
            rw [hz] at this
            exact isBlank_any _ z _ (this.keep (below_drewN (Below.refl _ _) k)) (by rw [hlz]; omega)
          have HFIN : Hid (crcL r = C → zerosB z = true → ∀ k, NextOut base w T gh gn ge gd p en D all (.returned (.slice (some a2) N cap2)) (w3.drewN k)) := by
            intro hc hzb k
            have hfo := frame_of (b := all) (n := N) (by rw [HR.out]; omega) HN.out.symm (by omega) (by rw [hr, hc]; exact HC.out.symm) (by
              rw [HR.out, hz]
              have := zerosB_rep.1 hzb
              rw [hlz] at this
              exact this)
            rw [hr, HR.out] at hfo
            have hrl : r.length = N := hfo.2
            have hfD : Below w3.heap.size w3 (w3.drewN k) := below_drewN (Below.refl _ _) k
            refine Or.inl ⟨r, all.drop (8 + M), a2, cap2, sv2, held2, nx2, T2, hfo.1, ⟨by omega, by omega⟩, by rw [hrl], ?_, ha2, ⟨hMM.t.keep (Fr.of_below (F := fun _ => False) hfD) (fun _ _ => id), by rw [hMM.a, List.drop_drop], hMM.f.trans (Fr.of_below (F := T) hfD) (fun i hi => Or.inl hi), hMM.o⟩⟩
            rw [hrl, ← hr]
            exact hRec.keep hfD
          have HNO : Hid ((crcL r ≠ C ∨ zerosB z = false) → ∀ k, NextOut base w T gh gn ge gd p en D all (.returned (.slice none 0 0)) (w3.drewN k)) := by
            intro hbad k
            have hfD : Below w3.heap.size w3 (w3.drewN k) := below_drewN (Below.refl _ _) k
            refine Or.inr ⟨fun r' s hok e => ?_, rfl, hMM.f.trans (Fr.of_below (F := T) hfD) (fun i hi => Or.inl hi)⟩
            have ff := frame_facts hok e
            have hn' : r'.length = N := by rw [← ff.n, ← HN.out]
            have hrr : r' = r := by rw [← ff.rec_, hn', hr]
            rcases hbad with h | h
            · exact h (by rw [← hrr, ← ff.crc, ← HC.out])
            · have hbl := ff.blank
              rw [hn', HR.out, hz] at hbl
              have : zerosB z = true := zerosB_rep.2 (by rw [hlz]; exact hbl)
              rw [h] at this; cases this
          have hcl := crcL_lt r
          clear hB2 ha2 hM2 hRec hRest hr1 hb1 hMM hlB hle2
          obtain ⟨a3, ha3, ha3'⟩ : ∃ a3, (a3 = a2.add N ∨ M = N) ∧ (if cap2 = N then a3 = a2 else a3 = a2.add N) := by
            by_cases h : cap2 = N
            · exact ⟨a2, Or.inr (by omega), by rw [if_pos h]⟩
            · exact ⟨a2.add N, Or.inl rfl, by rw [if_neg h]⟩
          have HBL3 : Hid (∀ k, Calls Try.prog 48 #[.slice (some a3) (M - N) (cap2 - N)] (w3.drewN k) fun e w' => e = .returned (.bool (zerosB z)) ∧ w' = w3.drewN k) := fun k => HBL.out k a3 ha3
          clear HBL
          have hq3 := hq
          by_cases hcap : cap2 = N
          · rw [if_pos hcap] at ha3'
            subst ha3'
            subst hcap
            obtain rfl : M = cap2 := by omega
            simp only [Nat.sub_self] at HBL3
            go_wp2
            go_quiet (fail)
            by_cases hc : crcL r = C
            · have hcI : (crcL r : Int) = (C : Int) := by omega
              cases hzz : zerosB z
              · rw [hzz] at HBL3
                go_wp2_with (first
                  | (go_at_call 47; refine (HCR.out _).mono ?_; rintro e wx ⟨rfl, hwx⟩; subst hwx)
                  | (go_at_call 48; refine (HBL3.out _).mono ?_; rintro e wx ⟨rfl, hwx⟩; subst hwx))
                go_ret
                exact HNO.out (Or.inr hzz) _
              · rw [hzz] at HBL3
                go_wp2_with (first
                  | (go_at_call 47; refine (HCR.out _).mono ?_; rintro e wx ⟨rfl, hwx⟩; subst hwx)
                  | (go_at_call 48; refine (HBL3.out _).mono ?_; rintro e wx ⟨rfl, hwx⟩; subst hwx))
                go_ret
                exact HFIN.out hc hzz _
            · have hcI : ¬ ((crcL r : Int) = (C : Int)) := by omega
              go_wp2_with (first
                | (go_at_call 47; refine (HCR.out _).mono ?_; rintro e wx ⟨rfl, hwx⟩; subst hwx))
              go_ret
              exact HNO.out (Or.inl hc) _
          · rw [if_neg hcap] at ha3'
            subst ha3'
            have hcap' : ¬ ((cap2 : Int) = (N : Int)) := by omega
            go_wp2
            go_quiet (fail)
            by_cases hc : crcL r = C
            · have hcI : (crcL r : Int) = (C : Int) := by omega
              cases hzz : zerosB z
              · rw [hzz] at HBL3
                go_wp2_with (first
                  | (go_at_call 47; refine (HCR.out _).mono ?_; rintro e wx ⟨rfl, hwx⟩; subst hwx)
                  | (go_at_call 48; refine (HBL3.out _).mono ?_; rintro e wx ⟨rfl, hwx⟩; subst hwx))
                go_ret
                exact HNO.out (Or.inr hzz) _
              · rw [hzz] at HBL3
                go_wp2_with (first
                  | (go_at_call 47; refine (HCR.out _).mono ?_; rintro e wx ⟨rfl, hwx⟩; subst hwx)
                  | (go_at_call 48; refine (HBL3.out _).mono ?_; rintro e wx ⟨rfl, hwx⟩; subst hwx))
                go_ret
                exact HFIN.out hc hzz _
            · have hcI : ¬ ((crcL r : Int) = (C : Int)) := by omega
              go_wp2_with (first
                | (go_at_call 47; refine (HCR.out _).mono ?_; rintro e wx ⟨rfl, hwx⟩; subst hwx))
              go_ret
              exact HNO.out (Or.inl hc) _
        · go_wp2
          go_ret
          refine Or.inr ⟨fun r s hr e => ?_, rfl, HM1.out.f.trans hf2 HM1.out.o⟩
          have hff := frame_facts hr e
          have h1 := hff.n
          have h2 := hff.len
          rw [← HN.out] at h1
          rw [← h1, HR.out] at h2
          rw [List.length_drop] at hlt2
          omega
  · go_wp2
    go_ret
    exact Or.inr ⟨noFrame_short hlt, rfl, hf⟩
end Go.Proofs.Ytcjoolmlobjpbaa

/- A word with each second letter great; a token as it may be written; which blanks. -/
import Derived.Test.YtbkeaajnhalekaaGreatDoorP14LS
import Derived.Test.YtbkeaajnhalekaaGreatDoorL13DG
import Derived.Test.YtbkeaajnhalekaaGreatDoorP14PJ
import Derived.Laws.IdiomStrings
namespace Go.Proofs.YtbkeaajnhalekaaGreatDoor
open Go.RowKit Go.Shelf
set_option linter.unusedVariables false
set_option linter.unusedSimpArgs false

theorem grF_snoc (odd : Bool) : ∀ (l : List UInt8) (k : Nat) (c : UInt8), grF odd k (l ++ [c]) = grF odd k l ++ [grc odd (k + l.length) c]
  | [], k, c => by simp [grF]
  | x :: l, k, c => by
    rw [List.cons_append, grF, grF, grF_snoc odd l (k + 1) c]
    simp only [List.cons_append, List.length_cons]
    rw [show k + 1 + l.length = k + (l.length + 1) by omega]
theorem conv14 (w : World) (a : Int) (ha : 0 ≤ a ∧ a ≤ 255) : (convert 79 9 (.slice (some ⟨w.heap.size, 0, none⟩) 1 1)).run Tryz.prog (w.alloc (.cells #[.int .u8 a] 5)) = .ok (.string ⟨#[UInt8.ofNat a.toNat]⟩) (w.alloc (.cells #[.int .u8 a] 5)) := by
  refine run_convert_bytes_back _ 79 9 5 ⟨w.heap.size, 0, none⟩ 1 [UInt8.ofNat a.toNat] Tryz.underlying79 Tryz.underlying5 Tryz.underlying9 (fun j hj => ?_)
  rw [Addr.add_mid, cell_of_row _ _ _ _ _ _ (heap_alloc_new w _)]
  match j, hj with
  | 0, _ => simp [UInt8.toNat_ofNat']; omega
/-- A letter made great, as a number. -/
theorem grc_num (odd : Bool) (i : Nat) (c : UInt8) : grc odd i c = if (97 ≤ (c.toNat : Int) ∧ (c.toNat : Int) ≤ 122) ∧ (decide (i % 2 = 0) = odd) then UInt8.ofNat ((c.toNat : Int) - 32).toNat else c := by
  have : ∀ n : Fin 256, ∀ b : Bool, let c := UInt8.ofNat n.val; (if decide (97 ≤ c) && decide (c ≤ 122) && b then c - 32 else c) = if (97 ≤ (c.toNat : Int) ∧ (c.toNat : Int) ≤ 122) ∧ b = true then UInt8.ofNat ((c.toNat : Int) - 32).toNat else c := by decide +kernel
  have h2 := this ⟨c.toNat, c.toNat_lt⟩ (decide (i % 2 = 0) == odd)
  simp only [UInt8.ofNat_toNat] at h2
  unfold grc
  rw [h2]
  simp
theorem grF_step (odd : Bool) (S b : ByteArray) {i : Nat} (h : i < S.size) (hb : b.data.toList = grF odd 0 (S.data.toList.take i)) {d : UInt8} (hd : d = grc odd i S[i]) : (b ++ ⟨#[d]⟩).data.toList = grF odd 0 (S.data.toList.take (i + 1)) := by
  have hl : (S.data.toList.take i).length = i := by simp; omega
  rw [take_snoc S h, grF_snoc, hl, Nat.zero_add, ← hd, ← hb]
  simp
set_option maxHeartbeats 2000000 in
set_option maxRecDepth 100000 in
theorem great_any (S : ByteArray) (odd : Bool) (hS : S.size ≤ 10000) (w : World) : Calls Tryz.prog 33 #[.string S, .bool odd] w fun e w' => e = .returned (.string ⟨(grF odd 0 S.data.toList).toArray⟩) ∧ Below w.heap.size w w' := by
  go_enter Tryz.func33, Tryz.ntmps33
  go_wp2_with fail
  go_loopw [5, 6] (fun x5 x6 wr => ∃ (i : Nat) (b : ByteArray), x5 = .string b ∧ x6 = .int .i64 i ∧ i ≤ S.size ∧ b.size = i ∧ Hid (b.data.toList = grF odd 0 (S.data.toList.take i)) ∧ Hid (Below w.heap.size w wr)) (fun _ x6 _ => S.size - (intOf x6).toNat)
  case atStart => exact ⟨0, ⟨#[]⟩, rfl, rfl, Nat.zero_le _, rfl, rfl, Below.refl _ _⟩
  case round =>
    rename World => wr
    obtain ⟨i, b, rfl, rfl, hi, hbs, HBL, HB⟩ := hrel
    by_cases hlt : i < S.size
    · have tl : (i : Int) < (S.size : Int) := by omega
      have HG : Hid (∀ d : UInt8, d = grc odd i S[i] → (b ++ ⟨#[d]⟩).data.toList = grF odd 0 (S.data.toList.take (i + 1))) := fun d hd => grF_step odd S b hlt HBL.out hd
      have HN := Go.Proofs.YtbkeaajnhalekaaGreatDoor.Hid.mk' (grc_num odd i S[i])
      have hc1 : (0 : Int) ≤ (S[i].toNat : Int) := by omega
      have hc2 : (S[i].toNat : Int) ≤ 255 := by have := S[i].toNat_lt; omega
      have c1 : ¬ 9223372036854775807 < b.size + 1 := by omega
      have HO : Hid (∀ o, Below w.heap.size w (wr.alloc o)) := fun o => HB.out.alloc HB.out.size o
      have hof : UInt8.ofNat (S[i].toNat : Int).toNat = S[i] := by simp
      have HOF := Go.Proofs.YtbkeaajnhalekaaGreatDoor.Hid.mk' hof
      clear hof HBL
      by_cases q1 : 97 ≤ (S[i].toNat : Int)
      · by_cases q2 : (S[i].toNat : Int) ≤ 122
        · have hm : (i : Int).tmod 2 = ((i % 2 : Nat) : Int) := by rw [Int.tmod_eq_emod_of_nonneg (by omega)]; omega
          by_cases q3 : i % 2 = 0
          · rcases Bool.eq_false_or_eq_true odd with hod | hod
            · have hcv := conv14 wr ((S[i].toNat : Int) - 32) (by omega)
              have HD : Hid (UInt8.ofNat (S[i].toNat - 32) = grc odd i S[i]) := by
                show _ = _
                rw [HN.out, if_pos ⟨⟨q1, q2⟩, by simp [q3, hod]⟩]
                congr 1; omega
              subst hod
              go_wp2_with fail
              exact ⟨⟨i + 1, _, rfl, by go_num, by omega, by rw [ByteArray.size_append]; show b.size + 1 = _; omega, HG.out _ HD.out, HO.out _⟩, by simp [intOf]; omega⟩
            · have hcv := conv14 wr (S[i].toNat : Int) (by omega)
              have HD : Hid (S[i] = grc odd i S[i]) := by
                show _ = _
                rw [HN.out, if_neg (by first | omega | simp [q3, hod])]
              (try subst hod)
              go_wp2_with fail
              exact ⟨⟨i + 1, _, rfl, by go_num, by omega, by rw [ByteArray.size_append]; show b.size + 1 = _; omega, HG.out _ HD.out, HO.out _⟩, by simp [intOf]; omega⟩
          · have q3' : i % 2 = 1 := by omega
            rcases Bool.eq_false_or_eq_true odd with hod | hod
            · have hcv := conv14 wr (S[i].toNat : Int) (by omega)
              have HD : Hid (S[i] = grc odd i S[i]) := by
                show _ = _
                rw [HN.out, if_neg (by first | omega | simp [q3, hod])]
              (try subst hod)
              go_wp2_with fail
              exact ⟨⟨i + 1, _, rfl, by go_num, by omega, by rw [ByteArray.size_append]; show b.size + 1 = _; omega, HG.out _ HD.out, HO.out _⟩, by simp [intOf]; omega⟩
            · have hcv := conv14 wr ((S[i].toNat : Int) - 32) (by omega)
              have HD : Hid (UInt8.ofNat (S[i].toNat - 32) = grc odd i S[i]) := by
                show _ = _
                rw [HN.out, if_pos ⟨⟨q1, q2⟩, by simp [q3, hod]⟩]
                congr 1; omega
              subst hod
              go_wp2_with fail
              exact ⟨⟨i + 1, _, rfl, by go_num, by omega, by rw [ByteArray.size_append]; show b.size + 1 = _; omega, HG.out _ HD.out, HO.out _⟩, by simp [intOf]; omega⟩
        · have hcv := conv14 wr (S[i].toNat : Int) (by omega)
          have HD : Hid (S[i] = grc odd i S[i]) := by
            show _ = _
            rw [HN.out, if_neg (by first | omega | simp [q3, hod])]
          (try subst hod)
          go_wp2_with fail
          exact ⟨⟨i + 1, _, rfl, by go_num, by omega, by rw [ByteArray.size_append]; show b.size + 1 = _; omega, HG.out _ HD.out, HO.out _⟩, by simp [intOf]; omega⟩
      · have hcv := conv14 wr (S[i].toNat : Int) (by omega)
        have HD : Hid (S[i] = grc odd i S[i]) := by
          show _ = _
          rw [HN.out, if_neg (by first | omega | simp [q3, hod])]
        (try subst hod)
        go_wp2_with fail
        exact ⟨⟨i + 1, _, rfl, by go_num, by omega, by rw [ByteArray.size_append]; show b.size + 1 = _; omega, HG.out _ HD.out, HO.out _⟩, by simp [intOf]; omega⟩
    · have tl : ¬ (i : Int) < (S.size : Int) := by omega
      obtain rfl : i = S.size := by omega
      have HE : Hid (b = ⟨(grF odd 0 S.data.toList).toArray⟩) := by
        show _ = _
        apply ByteArray.ext
        apply Array.ext'
        have := HBL.out
        rw [List.take_of_length_le (by simp)] at this
        simp [this]
      have HC := Go.Proofs.YtbkeaajnhalekaaGreatDoor.Hid.mk' HB.out
      clear HBL
      go_wp2_with fail
      go_ret
      refine ⟨?_, HC.out⟩
      show Ending.returned (.string b) = _
      rw [HE.out]
set_option maxHeartbeats 2000000 in
set_option maxRecDepth 100000 in
theorem spelled14_tx (S : ByteArray) (n at_ : Int) (odd : Bool) (hS : S.size ≤ 10000) (w : World) : Calls Tryz.prog 16 #[.agg #[.int .i64 2, .string S, .int .i64 n, .int .i64 at_], .bool odd] w fun e w' => e = .returned (.string ⟨(39 :: (dbl S.data.toList ++ [39])).toArray⟩) ∧ Below w.heap.size w w' := by
  have HX := Go.Proofs.YtbkeaajnhalekaaGreatDoor.Hid.mk' (box4 w (.int .i64 2) (.string S) (.int .i64 n) (.int .i64 at_) 41)
  have HW : Hid (Below w.heap.size w (w.alloc (.cells #[.int .i64 2, .string S, .int .i64 n, .int .i64 at_] 41))) := (Below.refl _ _).alloc (Nat.le_refl _) _
  go_enter Tryz.func16, Tryz.ntmps16
  go_wp2_with fail
  generalize w.alloc (.cells #[.int .i64 2, .string S, .int .i64 n, .int .i64 at_] 41) = w0 at *
  go_loopw [5, 6] (fun x3 x4 wr => ∃ (i : Nat) (b : ByteArray), x3 = .string b ∧ x4 = .int .i64 i ∧ i ≤ S.size ∧ b.size ≤ 1 + 2 * i ∧ Hid (b.data.toList = 39 :: dbl (S.data.toList.take i)) ∧ Hid (Below w0.heap.size w0 wr)) (fun _ x4 _ => S.size - (intOf x4).toNat)
  case atStart => exact ⟨0, ⟨#[39]⟩, rfl, rfl, Nat.zero_le _, by decide, rfl, Below.refl _ _⟩
  case round =>
    rename World => wr
    obtain ⟨i, b, rfl, rfl, hi, hbs, HBL, HB⟩ := hrel
    obtain ⟨z0, z1, z2, z3⟩ := HX.out wr HB.out
    by_cases hlt : i < S.size
    · have tl : (i : Int) < (S.size : Int) := by omega
      have he1 : ((S.extract i (i + 1))).size = 1 := by rw [size_list, ext_one S hlt]; rfl
      by_cases h39 : (S[i].toNat : Int) = 39
      · have e39 : S[i] = 39 := (u8_eq (n := 39) (by omega)).1 h39
        have HN : Hid ((b ++ ⟨#[39]⟩ ++ S.extract i (i + 1)).data.toList = 39 :: dbl (S.data.toList.take (i + 1))) := by
          show _ = _
          rw [take_snoc S hlt, dbl_snoc, e39]
          simp only [ByteArray.data_append, Array.toList_append, HBL.out, ext_one S hlt, e39]
          simp
        have c1 : ¬ 9223372036854775807 < b.size + 1 := by omega
        have c2 : ¬ 9223372036854775807 < b.size + 1 + 1 := by omega
        clear HX HW HBL
        go_wp2_with fail
        go_roundw
        case rel => exact ⟨i + 1, _, rfl, by go_num, by omega, by rw [ByteArray.size_append, ByteArray.size_append, he1]; show b.size + 1 + 1 ≤ _; omega, HN, HB⟩
        case measure => simp [intOf]; omega
      · have h39' : ((S[i].toNat : Int) == 39) = false := by simpa using h39
        have e39 : (S[i] == 39) = false := by
          rw [beq_eq_false_iff_ne]
          exact fun e => h39 (by rw [e]; rfl)
        have HN : Hid ((b ++ S.extract i (i + 1)).data.toList = 39 :: dbl (S.data.toList.take (i + 1))) := by
          show _ = _
          rw [take_snoc S hlt, dbl_snoc, e39]
          simp only [ByteArray.data_append, Array.toList_append, HBL.out, ext_one S hlt]
          simp
        have c1 : ¬ 9223372036854775807 < b.size + 1 := by omega
        clear HX HW HBL
        go_wp2_with fail
        go_roundw
        case rel => exact ⟨i + 1, _, rfl, by go_num, by omega, by rw [ByteArray.size_append, he1]; omega, HN, HB⟩
        case measure => simp [intOf]; omega
    · have tl : ¬ (i : Int) < (S.size : Int) := by omega
      have HE : Hid (b ++ ⟨#[39]⟩ = ⟨(39 :: (dbl S.data.toList ++ [39])).toArray⟩) := by
        show _ = _
        apply ByteArray.ext
        apply Array.ext'
        have := HBL.out
        rw [List.take_of_length_le (by simp; omega)] at this
        simp [this]
      have HC := Go.Proofs.YtbkeaajnhalekaaGreatDoor.Hid.mk' (HW.out.trans (HB.out.mono HW.out.size))
      have c1 : ¬ 9223372036854775807 < b.size + 1 := by omega
      clear HX HBL
      go_wp2_with fail
      go_ret
      refine ⟨?_, HC.out⟩
      show Ending.returned (.string (b ++ ⟨#[39]⟩)) = _
      rw [HE.out]
set_option maxHeartbeats 2000000 in
set_option maxRecDepth 100000 in
theorem spelled14_sg (S : ByteArray) (n at_ : Int) (odd : Bool) (w : World) : Calls Tryz.prog 16 #[.agg #[.int .i64 3, .string S, .int .i64 n, .int .i64 at_], .bool odd] w fun e w' => e = .returned (.string S) ∧ Below w.heap.size w w' := by
  have HW : Hid (Below w.heap.size w (w.alloc (.cells #[.int .i64 3, .string S, .int .i64 n, .int .i64 at_] 41))) := (Below.refl _ _).alloc (Nat.le_refl _) _
  go_enter Tryz.func16, Tryz.ntmps16
  go_wp2_with fail
  go_ret
  exact ⟨rfl, HW.out⟩
set_option maxHeartbeats 2000000 in
set_option maxRecDepth 100000 in
theorem spelled14_wd (S : ByteArray) (n at_ : Int) (odd : Bool) (hS : S.size ≤ 10000) (w : World) : Calls Tryz.prog 16 #[.agg #[.int .i64 0, .string S, .int .i64 n, .int .i64 at_], .bool odd] w fun e w' => e = .returned (.string ⟨(grF odd 0 S.data.toList).toArray⟩) ∧ Below w.heap.size w w' := by
  have HX := box4 w (.int .i64 0) (.string S) (.int .i64 n) (.int .i64 at_) 41 _ (Below.refl _ _)
  have HW : Hid (Below w.heap.size w (w.alloc (.cells #[.int .i64 0, .string S, .int .i64 n, .int .i64 at_] 41))) := (Below.refl _ _).alloc (Nat.le_refl _) _
  have hd := great_any S odd hS (w.alloc (.cells #[.int .i64 0, .string S, .int .i64 n, .int .i64 at_] 41))
  obtain ⟨z0, z1, z2, z3⟩ := HX
  go_enter Tryz.func16, Tryz.ntmps16
  go_wp2_with fail
  refine hd.mono ?_
  rintro e w1 ⟨rfl, hb⟩
  go_wp2_with fail
  go_ret
  exact ⟨rfl, HW.out.trans (hb.mono HW.out.size)⟩
set_option maxHeartbeats 2000000 in
set_option maxRecDepth 100000 in
theorem spelled14_nm (S : ByteArray) (n at_ : Int) (odd : Bool) (h0 : 0 ≤ n) (h1 : n ≤ 9223372036854775807) (w : World) : Calls Tryz.prog 16 #[.agg #[.int .i64 1, .string S, .int .i64 n, .int .i64 at_], .bool odd] w fun e w' => e = .returned (.string ⟨(48 :: 48 :: dgF n).toArray⟩) ∧ Below w.heap.size w w' := by
  have HX := box4 w (.int .i64 1) (.string S) (.int .i64 n) (.int .i64 at_) 41 _ (Below.refl _ _)
  have HW : Hid (Below w.heap.size w (w.alloc (.cells #[.int .i64 1, .string S, .int .i64 n, .int .i64 at_] 41))) := (Below.refl _ _).alloc (Nat.le_refl _) _
  obtain ⟨U, rfl⟩ := Int.eq_ofNat_of_zero_le h0
  have hd := rdig_pos U (w.alloc (.cells #[.int .i64 1, .string S, .int .i64 U, .int .i64 at_] 41)) (by omega)
  have hlen : ((⟨#[]⟩ : ByteArray) ++ ⟨(Lib.decDigits U).toArray⟩).size ≤ 20 := by
    have := dgF_len (v := (U : Int)) h1
    simpa [ByteArray.size, dgF] using this
  have HE : Hid ((⟨#[48, 48]⟩ : ByteArray) ++ ((⟨#[]⟩ : ByteArray) ++ ⟨(Lib.decDigits U).toArray⟩) = ⟨(48 :: 48 :: dgF U).toArray⟩) := by
    show _ = _
    apply ByteArray.ext
    simp [dgF]
  generalize ((⟨#[]⟩ : ByteArray) ++ ⟨(Lib.decDigits U).toArray⟩) = D at *
  have c1 : ¬ 9223372036854775807 < 2 + D.size := by omega
  obtain ⟨z0, z1, z2, z3⟩ := HX
  go_enter Tryz.func16, Tryz.ntmps16
  go_wp2_with fail
  refine hd.mono ?_
  rintro e w1 ⟨rfl, hb⟩
  go_wp2_with fail
  go_ret
  exact ⟨ret_s HE.out, HW.out.trans (hb.mono HW.out.size)⟩
/-- A token as it may be written. -/
theorem spelled14_any {k : Int} {s : List UInt8} {v : Int} (h : Good k s v) (at_ : Int) (odd : Bool) (w : World) : Calls Tryz.prog 16 #[.agg #[.int .i64 k, .string ⟨s.toArray⟩, .int .i64 v, .int .i64 at_], .bool odd] w fun e w' => e = .returned (.string ⟨(spL dgF odd k s v).toArray⟩) ∧ Below w.heap.size w w' := by
  unfold spL
  rcases good_kinds h with ⟨hk, hs⟩ | ⟨rfl, h0, h1⟩ | ⟨rfl, hs⟩
  · rcases hk with rfl | rfl
    · rw [if_neg (by omega), if_neg (by omega), if_pos rfl]
      have := spelled14_wd ⟨s.toArray⟩ v at_ odd (by simp [ByteArray.size]; omega) w
      simpa using this
    · rw [if_neg (by omega), if_neg (by omega), if_neg (by omega)]
      exact spelled14_sg _ v at_ odd w
  · rw [if_pos rfl]
    exact spelled14_nm _ v at_ odd h0 h1 w
  · rw [if_neg (by omega), if_pos rfl]
    have := spelled14_tx ⟨s.toArray⟩ v at_ odd (by simp [ByteArray.size]; omega) w
    simpa using this
theorem spL_len {k : Int} {s : List UInt8} {v : Int} (odd : Bool) (h : Good k s v) : (spL dgF odd k s v).length ≤ 900 := by
  unfold spL
  rcases good_kinds h with ⟨hk, hs⟩ | ⟨rfl, h0, h1⟩ | ⟨rfl, hs⟩
  · rw [if_neg (by omega), if_neg (by omega)]
    split
    · rw [grF_len]; omega
    · omega
  · have := dgF_len h1
    simp; omega
  · have := dbl_len s
    simp; omega
end Go.Proofs.YtbkeaajnhalekaaGreatDoor

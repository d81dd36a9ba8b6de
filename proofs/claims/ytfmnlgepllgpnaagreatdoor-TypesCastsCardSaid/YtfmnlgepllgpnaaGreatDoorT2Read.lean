/- The walks of what reads a text: sameLetters, readTruth, isNumber. -/
import Derived.Test.YtfmnlgepllgpnaaGreatDoorT2Text
namespace Go.Proofs.YtfmnlgepllgpnaaGreatDoor
open Go.RowKit
set_option linter.unusedVariables false

theorem or_all : ∀ n : Fin 256, bits BinOp.or IntKind.u8 (n.val : Int) 32 = ((UInt8.ofNat n.val ||| 32).toNat : Int) := by decide +kernel
theorem or_eq (x : UInt8) : bits BinOp.or IntKind.u8 (x.toNat : Int) 32 = ((x ||| 32).toNat : Int) := by
  have := or_all ⟨x.toNat, x.toNat_lt⟩
  simpa using this
theorem or_ne (x y : UInt8) : (bits BinOp.or IntKind.u8 (x.toNat : Int) 32 != (y.toNat : Int)) = !(x ||| 32 == y) := by
  rw [or_eq]
  by_cases h : x ||| 32 = y
  · simp [h]
  · have h2 : ¬ ((x ||| 32).toNat : Int) = (y.toNat : Int) := fun e => h (UInt8.toNat_inj.1 (by omega))
    simp only [bne, beq_eq_false_iff_ne.2 h2, beq_eq_false_iff_ne.2 h]
theorem list_get (s : ByteArray) (i : Nat) (h : i < s.size) : s.data.toList[i]'(by simpa using h) = s[i] := by
  simp [ByteArray.getElem_eq_getElem_data]
theorem take_next (s : ByteArray) (i : Nat) (h : i < s.size) : s.data.toList.take (i + 1) = s.data.toList.take i ++ [s[i]] := by
  rw [List.take_succ_eq_append_getElem (by simpa using h), list_get s i h]
theorem fold_step {s word : ByteArray} {i : Nat} (h0 : i < s.size) (h1 : i < word.size) (hT : foldL (s.data.toList.take i) = word.data.toList.take i) (hc : (bits BinOp.or IntKind.u8 (s[i].toNat : Int) 32 != (word[i].toNat : Int)) = false) :
    foldL (s.data.toList.take (i + 1)) = word.data.toList.take (i + 1) := by
  rw [or_ne] at hc
  simp at hc
  rw [take_next s i h0, take_next word i h1, ← hT, ← hc]
  simp [foldL]
theorem fold_no {s word : ByteArray} {i : Nat} (h0 : i < s.size) (h1 : i < word.size) (hc : (bits BinOp.or IntKind.u8 (s[i].toNat : Int) 32 != (word[i].toNat : Int)) = true) :
    (foldL s.data.toList == word.data.toList) = false := by
  rw [or_ne] at hc
  simp at hc
  rw [beq_eq_false_iff_ne]
  intro e
  apply hc
  have : (foldL s.data.toList)[i]? = word.data.toList[i]? := by rw [e]
  rw [foldL, List.getElem?_map, List.getElem?_eq_getElem (by simpa using h0), List.getElem?_eq_getElem (by simpa using h1), list_get s i h0, list_get word i h1] at this
  simpa using this
theorem fold_end {s word : ByteArray} {i : Nat} (hz : s.size = word.size) (hi : ¬ i < s.size) (hT : foldL (s.data.toList.take i) = word.data.toList.take i) : (foldL s.data.toList == word.data.toList) = true := by
  rw [List.take_of_length_le (by simp; omega), List.take_of_length_le (by simp; omega)] at hT
  simp [hT]
def intV (v : Value) : Nat := match v with | .int _ i => i.toNat | _ => 0
theorem intV_int (k : IntKind) (i : Nat) : intV (.int k i) = i := rfl
theorem intV_next (k : IntKind) (i : Nat) : intV (.int k (i + 1)) = i + 1 := by show ((i : Int) + 1).toNat = i + 1; omega

set_option maxHeartbeats 1000000 in
theorem tsame_any (s word : ByteArray) (w : World) (hs : s.size ≤ maxLen) (hz : s.size = word.size) :
    Calls Tryz.prog 50 #[.string s, .string word] w fun e w' => e = .returned (.bool (foldL s.data.toList == word.data.toList)) ∧ Below w.heap.size w w' := by
  unfold maxLen at hs
  go_enter Tryz.func50, Tryz.ntmps50
  go_wp2
  go_loopw [13] (fun v wl => Below w.heap.size w wl ∧ ∃ i : Nat, i ≤ s.size ∧ v = .int .i64 i ∧ foldL (s.data.toList.take i) = word.data.toList.take i) (fun v _ => s.size - intV v)
  case atStart => exact ⟨Below.refl _ _, 0, Nat.zero_le _, rfl, by simp [foldL]⟩
  case round =>
    obtain ⟨hbl, i, hi, rfl, hT⟩ := hrel
    have HT : Hid _ := hT
    clear hT
    by_cases h0 : i < s.size
    · have h1 : i < word.size := by omega
      cases hc : (bits BinOp.or IntKind.u8 (s[i].toNat : Int) 32 != (word[i].toNat : Int))
      · go_wp2_with fail
        go_quiet (fail)
        go_wp2
        go_roundw
        case rel => exact ⟨below_drewN hbl _, i + 1, by omega, rfl, fold_step h0 h1 HT.out hc⟩
        case measure => show s.size - intV (.int .i64 (i + 1)) < s.size - intV (.int .i64 i); rw [intV_int, intV_next]; omega
      · go_wp2_with fail
        go_quiet (fail)
        go_wp2
        go_ret
        exact ⟨ret_bool (fold_no h0 h1 hc).symm, below_drewN hbl _⟩
    · go_wp2
      go_ret
      exact ⟨ret_bool (fold_end hz h0 HT.out).symm, hbl⟩
theorem dig_step {t : ByteArray} {i : Nat} (h : i < t.size) (hT : (t.data.toList.take i).all isDig = true) (d1 : (48 : Int) ≤ t[i].toNat) (d2 : (t[i].toNat : Int) ≤ 57) : (t.data.toList.take (i + 1)).all isDig = true := by
  rw [take_next t i h, List.all_append, hT]
  simp [isDig]
  omega
theorem num_no {t s : ByteArray} {i : Nat} (ht : t.data.toList = unsign s.data.toList) (h : i < t.size) (d : ¬ (48 : Int) ≤ t[i].toNat ∨ ¬ (t[i].toNat : Int) ≤ 57) : isNumL s.data.toList = false := by
  have : (unsign s.data.toList).all isDig = false := by
    rw [← ht, List.all_eq_false]
    refine ⟨t[i], ?_, ?_⟩
    · rw [← list_get t i h]; exact List.getElem_mem _
    · simp [isDig]; omega
  simp [isNumL, this]
theorem num_yes {t s : ByteArray} {i : Nat} (ht : t.data.toList = unsign s.data.toList) (g1 : 1 ≤ t.size) (g2 : t.size ≤ 400) (hi : ¬ i < t.size) (hT : (t.data.toList.take i).all isDig = true) : isNumL s.data.toList = true := by
  rw [List.take_of_length_le (by simp; omega)] at hT
  have hz : t.data.toList.length = t.size := by simp
  rw [isNumL, ← ht, hz, hT]
  simp [g1, g2]
theorem num_len {t s : ByteArray} (ht : t.data.toList = unsign s.data.toList) (h : t.size < 1 ∨ 400 < t.size) : isNumL s.data.toList = false := by
  have hz : t.data.toList.length = t.size := by simp
  rw [isNumL, ← ht, hz]
  rcases h with h | h
  · have : ¬ 1 ≤ t.size := by omega
    simp [this]
  · have : ¬ t.size ≤ 400 := by omega
    simp [this]
set_option maxHeartbeats 1000000 in
theorem tisnum_p (s : ByteArray) (w : World) (hs : s.size ≤ maxLen) (he : s.toList.isEmpty = false) (h0 : 0 < s.size) (h43 : (s[0].toNat : Int) = 43) (ht : Hid ((s.extract 1 s.size).data.toList = unsign s.data.toList)) :
    Calls Tryz.prog 39 #[.string s] w fun e w' => e = .returned (.bool (isNumL s.data.toList)) ∧ w' = w := by
  unfold maxLen at hs
  have hz : Hid ((s.extract 1 s.size).size = s.size - 1) := by show (s.extract 1 s.size).size = s.size - 1; simp
  by_cases g1 : (1 : Int) ≤ ((s.size - 1 : Nat) : Int)
  · by_cases g2 : ((s.size - 1 : Nat) : Int) ≤ 400
    · go_enter Tryz.func39, Tryz.ntmps39
      go_wp2
      generalize s.extract 1 s.size = t at hz ht ⊢
      go_loop [28] (fun v => ∃ i : Nat, i ≤ s.size - 1 ∧ v = .int .i64 i ∧ (t.data.toList.take i).all isDig = true) (fun v => s.size - 1 - intV v)
      case atStart => exact ⟨0, Nat.zero_le _, rfl, by simp⟩
      case round =>
        obtain ⟨i, hi, rfl, hT⟩ := hrel
        have HT : Hid _ := hT
        clear hT
        by_cases i0 : i < s.size - 1
        · have i1 : i < t.size := by rw [hz.out]; exact i0
          by_cases d1 : (48 : Int) ≤ t[i].toNat
          · by_cases d2 : (t[i].toNat : Int) ≤ 57
            · go_wp2
              refine ⟨⟨i + 1, by omega, rfl, dig_step i1 HT.out d1 d2⟩, ?_⟩
              show s.size - 1 - intV (.int .i64 (i + 1)) < s.size - 1 - intV (.int .i64 i)
              rw [intV_int, intV_next]
              omega
            · go_wp2
              go_ret
              exact ⟨ret_bool (num_no ht.out i1 (Or.inr (by omega))).symm, rfl⟩
          · go_wp2
            go_ret
            exact ⟨ret_bool (num_no ht.out i1 (Or.inl (by omega))).symm, rfl⟩
        · go_wp2
          go_ret
          exact ⟨ret_bool (num_yes ht.out (by rw [hz.out]; omega) (by rw [hz.out]; omega) (i := i) (by rw [hz.out]; omega) HT.out).symm, rfl⟩
    · go_enter Tryz.func39, Tryz.ntmps39
      go_wp2
      go_ret
      exact ⟨ret_bool (num_len ht.out (by rw [hz.out]; omega)).symm, rfl⟩
  · go_enter Tryz.func39, Tryz.ntmps39
    go_wp2
    go_ret
    exact ⟨ret_bool (num_len ht.out (by rw [hz.out]; omega)).symm, rfl⟩
set_option maxHeartbeats 1000000 in
theorem tisnum_m (s : ByteArray) (w : World) (hs : s.size ≤ maxLen) (he : s.toList.isEmpty = false) (h0 : 0 < s.size) (h43 : ((s[0].toNat : Int) == 43) = false) (h45 : (s[0].toNat : Int) = 45) (ht : Hid ((s.extract 1 s.size).data.toList = unsign s.data.toList)) :
    Calls Tryz.prog 39 #[.string s] w fun e w' => e = .returned (.bool (isNumL s.data.toList)) ∧ w' = w := by
  unfold maxLen at hs
  have hz : Hid ((s.extract 1 s.size).size = s.size - 1) := by show (s.extract 1 s.size).size = s.size - 1; simp
  by_cases g1 : (1 : Int) ≤ ((s.size - 1 : Nat) : Int)
  · by_cases g2 : ((s.size - 1 : Nat) : Int) ≤ 400
    · go_enter Tryz.func39, Tryz.ntmps39
      go_wp2
      generalize s.extract 1 s.size = t at hz ht ⊢
      go_loop [28] (fun v => ∃ i : Nat, i ≤ s.size - 1 ∧ v = .int .i64 i ∧ (t.data.toList.take i).all isDig = true) (fun v => s.size - 1 - intV v)
      case atStart => exact ⟨0, Nat.zero_le _, rfl, by simp⟩
      case round =>
        obtain ⟨i, hi, rfl, hT⟩ := hrel
        have HT : Hid _ := hT
        clear hT
        by_cases i0 : i < s.size - 1
        · have i1 : i < t.size := by rw [hz.out]; exact i0
          by_cases d1 : (48 : Int) ≤ t[i].toNat
          · by_cases d2 : (t[i].toNat : Int) ≤ 57
            · go_wp2
              refine ⟨⟨i + 1, by omega, rfl, dig_step i1 HT.out d1 d2⟩, ?_⟩
              show s.size - 1 - intV (.int .i64 (i + 1)) < s.size - 1 - intV (.int .i64 i)
              rw [intV_int, intV_next]
              omega
            · go_wp2
              go_ret
              exact ⟨ret_bool (num_no ht.out i1 (Or.inr (by omega))).symm, rfl⟩
          · go_wp2
            go_ret
            exact ⟨ret_bool (num_no ht.out i1 (Or.inl (by omega))).symm, rfl⟩
        · go_wp2
          go_ret
          exact ⟨ret_bool (num_yes ht.out (by rw [hz.out]; omega) (by rw [hz.out]; omega) (i := i) (by rw [hz.out]; omega) HT.out).symm, rfl⟩
    · go_enter Tryz.func39, Tryz.ntmps39
      go_wp2
      go_ret
      exact ⟨ret_bool (num_len ht.out (by rw [hz.out]; omega)).symm, rfl⟩
  · go_enter Tryz.func39, Tryz.ntmps39
    go_wp2
    go_ret
    exact ⟨ret_bool (num_len ht.out (by rw [hz.out]; omega)).symm, rfl⟩
set_option maxHeartbeats 1000000 in
theorem tisnum_n (s : ByteArray) (w : World) (hs : s.size ≤ maxLen) (he : s.toList.isEmpty = false) (h0 : 0 < s.size) (h43 : ((s[0].toNat : Int) == 43) = false) (h45 : ((s[0].toNat : Int) == 45) = false) (ht : Hid ((s).data.toList = unsign s.data.toList)) :
    Calls Tryz.prog 39 #[.string s] w fun e w' => e = .returned (.bool (isNumL s.data.toList)) ∧ w' = w := by
  unfold maxLen at hs
  by_cases g1 : (1 : Int) ≤ ((s.size : Nat) : Int)
  · by_cases g2 : ((s.size : Nat) : Int) ≤ 400
    · go_enter Tryz.func39, Tryz.ntmps39
      go_wp2
      have hst : Hid (s.size = s.size) := rfl
      go_loop [28] (fun v => ∃ i : Nat, i ≤ s.size ∧ v = .int .i64 i ∧ (s.data.toList.take i).all isDig = true) (fun v => s.size - intV v)
      case atStart => exact ⟨0, Nat.zero_le _, rfl, by simp⟩
      case round =>
        obtain ⟨i, hi, rfl, hT⟩ := hrel
        have HT : Hid _ := hT
        clear hT
        by_cases i0 : i < s.size
        · have i1 : i < s.size := i0
          by_cases d1 : (48 : Int) ≤ s[i].toNat
          · by_cases d2 : (s[i].toNat : Int) ≤ 57
            · go_wp2
              refine ⟨⟨i + 1, by omega, rfl, dig_step i1 HT.out d1 d2⟩, ?_⟩
              show s.size - intV (.int .i64 (i + 1)) < s.size - intV (.int .i64 i)
              rw [intV_int, intV_next]
              omega
            · go_wp2
              go_ret
              exact ⟨ret_bool (num_no ht.out i1 (Or.inr (by omega))).symm, rfl⟩
          · go_wp2
            go_ret
            exact ⟨ret_bool (num_no ht.out i1 (Or.inl (by omega))).symm, rfl⟩
        · go_wp2
          go_ret
          exact ⟨ret_bool (num_yes ht.out (by omega) (by omega) (i := i) (by omega) HT.out).symm, rfl⟩
    · go_enter Tryz.func39, Tryz.ntmps39
      go_wp2
      go_ret
      exact ⟨ret_bool (num_len ht.out (by omega)).symm, rfl⟩
  · go_enter Tryz.func39, Tryz.ntmps39
    go_wp2
    go_ret
    exact ⟨ret_bool (num_len ht.out (by omega)).symm, rfl⟩
set_option maxHeartbeats 1000000 in
theorem tisnum_0 (s : ByteArray) (w : World) (he : s.toList.isEmpty = true) (h0 : s.size = 0) :
    Calls Tryz.prog 39 #[.string s] w fun e w' => e = .returned (.bool false) ∧ w' = w := by
  go_enter Tryz.func39, Tryz.ntmps39
  go_wp2
  go_ret
  exact ⟨rfl, rfl⟩
theorem head_list (s : ByteArray) (h : 0 < s.size) : ∃ r, s.data.toList = s[0] :: r := by
  have h2 : 0 < s.data.toList.length := by simpa using h
  cases hl : s.data.toList with
  | nil => rw [hl] at h2; simp at h2
  | cons a r =>
    refine ⟨r, ?_⟩
    have := list_get s 0 h
    simp only [hl, List.getElem_cons_zero] at this
    rw [this]
theorem tisnum_any (s : ByteArray) (w : World) (hs : s.size ≤ maxLen) :
    Calls Tryz.prog 39 #[.string s] w fun e w' => e = .returned (.bool (isNumL s.data.toList)) ∧ w' = w := by
  by_cases h0 : 0 < s.size
  · obtain ⟨r, hr⟩ := head_list s h0
    have he : s.toList.isEmpty = false := by rw [Lib.toList_data, hr]; rfl
    have hx : (s.extract 1 s.size).data.toList = r := by rw [ext_tail, hr]; rfl
    by_cases h43 : s[0].toNat = 43
    · exact tisnum_p s w hs he h0 (by omega) (by show _ = _; rw [hx, hr, unsign, if_pos (Or.inl h43)])
    · by_cases h45 : s[0].toNat = 45
      · exact tisnum_m s w hs he h0 (by simp; omega) (by omega) (by show _ = _; rw [hx, hr, unsign, if_pos (Or.inr h45)])
      · exact tisnum_n s w hs he h0 (by simp; omega) (by simp; omega) (by show _ = _; rw [hr, unsign, if_neg (by omega)])
  · have hn : s.data.toList = [] := List.eq_nil_of_length_eq_zero (by have h := (by simp : s.data.toList.length = s.size); omega)
    have := tisnum_0 s w (by rw [Lib.toList_data, hn]; rfl) (by omega)
    rw [hn]
    exact this
set_option maxHeartbeats 1000000 in
theorem tsame_len (s word : ByteArray) (w : World) (hz : ((s.size : Int) == (word.size : Int)) = false) :
    Calls Tryz.prog 50 #[.string s, .string word] w fun e w' => e = .returned (.bool false) ∧ w' = w := by
  have hz2 : ((s.size : Int) != (word.size : Int)) = true := by simp only [bne, hz, Bool.not_false]
  go_enter Tryz.func50, Tryz.ntmps50
  go_wp2
  go_ret
  exact ⟨rfl, rfl⟩
theorem tsame_full (s word : ByteArray) (w : World) (hs : s.size ≤ maxLen) :
    Calls Tryz.prog 50 #[.string s, .string word] w fun e w' => e = .returned (.bool (foldL s.data.toList == word.data.toList)) ∧ Below w.heap.size w w' := by
  by_cases hz : s.size = word.size
  · exact tsame_any s word w hs hz
  · have := tsame_len s word w (by simp; omega)
    refine this.mono fun e w' ⟨he, hw⟩ => ⟨?_, hw ▸ Below.refl _ _⟩
    rw [he]
    refine ret_bool (Eq.symm (beq_eq_false_iff_ne.2 fun h => hz ?_))
    have h2 : (foldL s.data.toList).length = word.data.toList.length := by rw [h]
    simpa [foldL] using h2
end Go.Proofs.YtfmnlgepllgpnaaGreatDoor

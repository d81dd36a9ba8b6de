/- The walks of keycode's reading of a code: a byte, a number, a text, a truth, a value; or there is none. -/
import Derived.Test.YtjajngngajnnpaaDoorK3C
import Derived.Defers
import Derived.Recover
namespace Go.Proofs.YtjajngngajnnpaaDoor
open Go.RowKit
set_option linter.unusedVariables false

abbrev nextF (p q : Nat) : Value := .func (.func 19) #[] #[.pointer (some ⟨p, 0, none⟩), .pointer (some ⟨q, 0, none⟩)]
abbrev noCodeV : Value := .iface 44 (.agg #[])
abbrev noCodeP : List PanicEntry := [{ v := noCodeV, recovered := false }]
/-- Where the reading stands: at byte i of s. -/
structure Cur (w : World) (p q : Nat) (s : ByteArray) (i : Nat) : Prop where
  hp : w.heap[p]? = some (.cells #[.int .i64 i] 3 (0, 0))
  hq : w.heap[q]? = some (.cells #[.string s] 9 (0, 0))
  le : i ≤ s.size
theorem Cur.ne {w : World} {p q : Nat} {s : ByteArray} {i : Nat} (h : Cur w p q s i) : q ≠ p := by
  rintro rfl
  have := h.hp.symm.trans h.hq
  simp at this
theorem grownBy_set (w : World) (p : Nat) (u : Value) : w.grownBy (w.setCell ⟨p, 0, none⟩ u) (some p) :=
  ⟨rfl, rfl, rfl, by simp [World.setCell], fun k _ hk => Below.heap_setCell _ _ _ _ (fun e => hk (by rw [e]))⟩
theorem Cur.set {w : World} {p q : Nat} {s : ByteArray} {i : Nat} (h : Cur w p q s i) (j : Nat) (hj : j ≤ s.size) : Cur (w.setCell ⟨p, 0, none⟩ (.int .i64 j)) p q s j :=
  ⟨one_setCell h.hp, by rw [Below.heap_setCell _ _ _ _ h.ne]; exact h.hq, hj⟩
theorem Cur.far {w w' : World} {p q : Nat} {s : ByteArray} {i : Nat} (h : Cur w p q s i) (hb : Below w.heap.size w w') : Cur w' p q s i :=
  ⟨(hb.block p (lt_of_block h.hp)).trans h.hp, (hb.block q (lt_of_block h.hq)).trans h.hq, h.le⟩
theorem Cur.alloc {w : World} {p q : Nat} {s : ByteArray} {i : Nat} (h : Cur w p q s i) (o : Obj) : Cur (w.alloc o) p q s i := h.far ((Below.refl _ _).alloc (Nat.le_refl _) o)

set_option maxHeartbeats 400000 in
theorem next_some (p q : Nat) (s : ByteArray) (i : Nat) (w : World) (h : Cur w p q s i) (hs : s.size ≤ 1099511627776) (hi : i < s.size) :
    Calls Tryd.prog 19 #[.pointer (some ⟨p, 0, none⟩), .pointer (some ⟨q, 0, none⟩)] w fun e w' => e = .returned (.int .u8 s[i].toNat) ∧ w' = w.setCell ⟨p, 0, none⟩ (.int .i64 ((i + 1 : Nat) : Int)) := by
  have c1 := cell_of_one h.hp
  have f1 := free_of_one h.hp
  have c2 := cell_of_one h.hq
  have hne := h.ne
  have h3 := h.set (i + 1) (by omega)
  have c3 := cell_of_one h3.hp
  have c4 := cell_of_one h3.hq
  clear h h3
  go_enter Tryd.func19, Tryd.ntmps19
  go_wp2
  go_ret
  exact ⟨rfl, rfl⟩
set_option maxHeartbeats 400000 in
theorem next_none (p q : Nat) (s : ByteArray) (w : World) (h : Cur w p q s s.size) (hs : s.size ≤ 1099511627776) :
    Calls Tryd.prog 19 #[.pointer (some ⟨p, 0, none⟩), .pointer (some ⟨q, 0, none⟩)] w fun e w' => e = .panicked noCodeP ∧ w' = w := by
  have c1 := cell_of_one h.hp
  have c2 := cell_of_one h.hq
  clear h
  go_enter Tryd.func19, Tryd.ntmps19
  go_wp2
  exact ⟨rfl, rfl, rfl⟩

/-- What is still to be read. -/
def rest (s : ByteArray) (i : Nat) : List UInt8 := s.data.toList.drop i
theorem rest_cons (s : ByteArray) (i : Nat) (h : i < s.size) : rest s i = s[i] :: rest s (i + 1) := by
  have h' : i < s.data.toList.length := by simpa using h
  unfold rest
  rw [List.drop_eq_getElem_cons h']
  rfl
theorem rest_nil (s : ByteArray) : rest s s.size = [] := by
  unfold rest
  exact List.drop_of_length_le (by simp)
theorem rest_len (s : ByteArray) (i : Nat) : (rest s i).length = s.size - i := by
  unfold rest; simp
theorem next_any (p q : Nat) (s : ByteArray) (i : Nat) (w : World) (h : Cur w p q s i) (hs : s.size ≤ 1099511627776) :
    Calls Tryd.prog 19 #[.pointer (some ⟨p, 0, none⟩), .pointer (some ⟨q, 0, none⟩)] w fun e w' =>
      (∃ c : UInt8, e = .returned (.int .u8 c.toNat) ∧ w.grownBy w' (some p) ∧ Cur w' p q s (i + 1) ∧ Hid (rest s i = c :: rest s (i + 1))) ∨ (e = .panicked noCodeP ∧ w.grownBy w' (some p) ∧ Hid (rest s i = [])) := by
  by_cases hi : i < s.size
  · refine (next_some p q s i w h hs hi).mono fun e w' ⟨he, hw⟩ => Or.inl ⟨s[i], he, ?_, ?_, rest_cons s i hi⟩
    · rw [hw]; exact grownBy_set _ _ _
    · rw [hw]; exact h.set (i + 1) hi
  · obtain rfl : i = s.size := by have := h.le; omega
    refine (next_none p q s w h hs).mono fun e w' ⟨he, hw⟩ => Or.inr ⟨he, ?_, rest_nil s⟩
    rw [hw]; exact World.grownBy.refl _ _

theorem one_byte {c : UInt8} {n : Nat} (hn : n < 256) (h : ((c.toNat : Int) == (n : Int)) = true) : c = UInt8.ofNat n := by
  apply UInt8.toNat_inj.1
  have h' : c.toNat = n := by simp at h; omega
  rw [h', UInt8.toNat_ofNat']
  exact (Nat.mod_eq_of_lt hn).symm
theorem not_byte {c : UInt8} {n : Nat} (h : ((c.toNat : Int) == (n : Int)) = false) : c.toNat ≠ n := by
  intro e; rw [e] at h; simp at h

set_option maxHeartbeats 400000 in
theorem takeTruth_any (p q : Nat) (s : ByteArray) (i : Nat) (w : World) (h : Cur w p q s i) (hs : s.size ≤ 1099511627776) :
    Calls Tryd.prog 30 #[nextF p q] w fun e w' =>
      (∃ (b : Bool), e = .returned (.bool b) ∧ w.grownBy w' (some p) ∧ Cur w' p q s (i + 1) ∧ rest s i = (if b then 1 else 0) :: rest s (i + 1)) ∨
      (e = .panicked noCodeP ∧ w.grownBy w' (some p) ∧ (rest s i = [] ∨ ∃ c t, rest s i = c :: t ∧ 1 < c.toNat)) := by
  go_enter Tryd.func30, Tryd.ntmps30
  go_wp2_with fail
  refine (next_any p q s i _ h hs).mono ?_
  rintro e w1 (⟨c, rfl, hg, hc, hr⟩ | ⟨rfl, hg, hr⟩)
  · cases h0 : ((c.toNat : Int) == 0)
    · cases h1 : ((c.toNat : Int) == 1)
      · go_wp2
        have n0 := not_byte (n := 0) h0
        have n1 := not_byte (n := 1) h1
        exact ⟨rfl, Or.inr ⟨rfl, hg, Or.inr ⟨c, _, hr, by omega⟩⟩⟩
      · go_wp2
        go_ret
        exact Or.inl ⟨true, rfl, hg, hc, by rw [hr.out, one_byte (n := 1) (by decide) h1]; rfl⟩
    · go_wp2
      go_ret
      exact Or.inl ⟨false, rfl, hg, hc, by rw [hr.out, one_byte (n := 0) (by decide) h0]; rfl⟩
  · go_wp2
    exact ⟨rfl, Or.inr ⟨rfl, hg, Or.inl hr⟩⟩

/-- What a byte of 256 makes of a number that is still short. -/
theorem shl_or (u : Nat) (c : UInt8) (h : u < 72057594037927936) : bits .or .u64 ((u : Int) * 256) (IntKind.u64.wrap (c.toNat : Int)) = ((u * 256 + c.toNat : Nat) : Int) := by
  have hc := c.toNat_lt
  have e1 : (u : Int) * 256 = ((2 ^ 8 * u : Nat) : Int) := by omega
  have e2 : IntKind.u64.wrap (c.toNat : Int) = (c.toNat : Int) := by rw [IntKind.wrap_u64]; omega
  rw [e1, e2, u64_or_nat _ _ (by omega) (by omega), ← Nat.two_pow_add_eq_or_of_lt (by omega)]
  omega
theorem pow_256 {n : Nat} (h : n ≤ 7) : 256 ^ n ≤ 72057594037927936 :=
  Nat.le_trans (Nat.pow_le_pow_right (by decide) h) (by decide)

set_option maxHeartbeats 400000 in
theorem takeNum_any (p q : Nat) (s : ByteArray) (i : Nat) (w : World) (h : Cur w p q s i) (hs : s.size ≤ 1099511627776) :
    Calls Tryd.prog 28 #[nextF p q] w fun e w' =>
      (∃ (N : Int), e = .returned (.int .i64 N) ∧ w.grownBy w' (some p) ∧ Cur w' p q s (i + 8) ∧ (-9223372036854775808 ≤ N ∧ N ≤ 9223372036854775807) ∧ rest s i = beN 8 (N + 9223372036854775808).toNat ++ rest s (i + 8)) ∨
      (e = .panicked noCodeP ∧ w.grownBy w' (some p) ∧ (rest s i).length < 8) := by
  go_enter Tryd.func28, Tryd.ntmps28
  go_wp2
  go_loopw [3, 4] (fun u k wr => ∃ (n : Nat) (l : List UInt8), n ≤ 8 ∧ k = .int .i64 n ∧ u = .int .u64 (beV l : Nat) ∧ Hid (l.length = n) ∧ Hid (rest s i = l ++ rest s (i + n)) ∧ Cur wr p q s (i + n) ∧ w.grownBy wr (some p)) (fun _ k _ => 8 - (intOf k).toNat)
  case atStart => exact ⟨0, [], Nat.zero_le _, rfl, rfl, rfl, rfl, h, World.grownBy.refl _ _⟩
  case round =>
    obtain ⟨n, l, hn, rfl, rfl, HL, HR, hcur, hgr⟩ := hrel
    by_cases h8 : n < 8
    · have hb : beV l < 72057594037927936 := by
        have := beV_lt l
        rw [HL.out] at this
        exact Nat.lt_of_lt_of_le this (pow_256 (by omega))
      go_wp2_with fail
      refine (next_any p q s (i + n) _ hcur hs).mono ?_
      rintro e w1 (⟨c, rfl, hg, hc, hr⟩ | ⟨rfl, hg, hr⟩)
      · go_wp2
        refine ⟨⟨n + 1, l ++ [c], by omega, by go_num, ?_, ?_, ?_, hc, grownBy_trans hgr hg⟩, by simp [intOf]; omega⟩
        · rw [shl_or _ _ hb, beV_snoc]
        · show (l ++ [c]).length = n + 1
          rw [List.length_append, HL.out]; rfl
        · show rest s i = (l ++ [c]) ++ rest s (i + (n + 1))
          rw [HR.out, hr.out, List.append_assoc]; rfl
      · go_wp2
        refine ⟨rfl, Or.inr ⟨rfl, grownBy_trans hgr hg, ?_⟩⟩
        rw [HR.out, hr.out, List.append_nil, HL.out]; exact h8
    · obtain rfl : n = 8 := by omega
      have hb : beV l < 18446744073709551616 := by
        have := beV_lt l
        rw [HL.out] at this
        exact this
      have hsg := sign_in (beV l) hb
      obtain ⟨N, hN⟩ : ∃ N : Int, N = (beV l : Int) - 9223372036854775808 := ⟨_, rfl⟩
      rw [← hN] at hsg
      have HN : Hid (N = (beV l : Int) - 9223372036854775808) := hN
      have HB : Hid (beV l < 18446744073709551616) := hb
      clear hN hb
      go_wp2
      go_ret
      have hN := HN.out
      have hb := HB.out
      refine Or.inl ⟨N, rfl, hgr, hcur, ⟨by omega, by omega⟩, ?_⟩
      rw [HR.out, show (N + 9223372036854775808).toNat = beV l by omega]
      have hB := beN_beV l
      rw [HL.out] at hB
      rw [hB]

set_option maxHeartbeats 400000 in
theorem endsText_any (d : UInt8) (w : World) :
    Calls Tryd.prog 37 #[.int .u8 d.toNat] w fun e w' => w' = w ∧ ((d = 0 ∧ e = .returned (.bool true)) ∨ (d = 255 ∧ e = .returned (.bool false)) ∨ (d ≠ 0 ∧ d ≠ 255 ∧ e = .panicked noCodeP)) := by
  cases h0 : ((d.toNat : Int) == 0)
  · cases h1 : ((d.toNat : Int) == 255)
    · go_enter Tryd.func37, Tryd.ntmps37
      go_wp2
      have n0 := not_byte (n := 0) h0
      have n1 := not_byte (n := 255) h1
      exact ⟨rfl, rfl, Or.inr (Or.inr ⟨fun e => n0 (by rw [e]; rfl), fun e => n1 (by rw [e]; rfl), rfl⟩)⟩
    · go_enter Tryd.func37, Tryd.ntmps37
      go_wp2
      go_ret
      exact ⟨rfl, Or.inr (Or.inl ⟨one_byte (n := 255) (by decide) h1, rfl⟩)⟩
  · go_enter Tryd.func37, Tryd.ntmps37
    go_wp2
    go_ret
    exact ⟨rfl, Or.inl ⟨one_byte (n := 0) (by decide) h0, rfl⟩⟩

theorem ext_last (u : ByteArray) (h : 0 < u.size) : (u.extract (u.size - 1) u.size).toList = [u[u.size - 1]] := by
  have h1 := split_last u h
  have h2 : u.data.toList.drop (u.size - 1) = [u[u.size - 1]] := by
    conv => lhs; rw [h1]
    rw [List.drop_append_of_le_length (by rw [List.length_take]; simp), List.drop_of_length_le (by rw [List.length_take]; omega)]
    rfl
  rw [Lib.toList_data, Lib.extract_data]
  simp [h2]
  exact List.take_of_length_le (by simp; omega)
theorem trim_last {u : ByteArray} (h : 0 < u.size) (hc : u[u.size - 1] = 32) : trimL u.data.toList ≠ u.data.toList := by
  intro e
  have h1 := trim_cut u h (by rw [hc]; rfl)
  have h2 := trimL_len (u.extract 0 (u.size - 1)).data.toList
  rw [h1, e, ext_list, List.length_take] at h2
  simp at h2
  omega
def endsBlank (u : ByteArray) : Bool := decide (trimL u.data.toList ≠ u.data.toList)
theorem ends_is {u : ByteArray} (h : 0 < u.size) : ((u.extract (u.size - 1) u.size).toList == [32]) = endsBlank u := by
  rw [ext_last u h]
  unfold endsBlank
  by_cases hc : u[u.size - 1] = 32
  · have := trim_last h hc
    simp [hc, this]
  · have := trim_stay u h (fun e => hc (by apply UInt8.toNat_inj.1; show _ = 32; omega))
    simp [hc, this]
theorem list32 : ({ data := #[32] } : ByteArray).toList = [32] := by rw [Lib.toList_data]
set_option maxHeartbeats 400000 in
theorem hasSuffix1_any (u : ByteArray) (w : World) (hu : u.size ≤ 4398046511104) :
    Calls Tryd.prog 40 #[.string u, .string ⟨#[32]⟩] w fun e w' => e = .returned (.bool (endsBlank u)) ∧ w' = w := by
  by_cases h : 0 < u.size
  · have hl := ends_is h
    have e32 := list32
    go_enter Tryd.func40, Tryd.ntmps40
    go_wp2
    go_ret
    exact ⟨rfl, rfl⟩
  · have hl : endsBlank u = false := by simp [endsBlank, trim_none u h]
    go_enter Tryd.func40, Tryd.ntmps40
    go_wp2
    go_ret
    exact ⟨rfl, rfl⟩
theorem hasSuffix_any (u : ByteArray) (w : World) (hu : u.size ≤ 4398046511104) :
    Calls Tryd.prog 38 #[.string u, .string ⟨#[32]⟩] w fun e w' => e = .returned (.bool (endsBlank u)) ∧ w' = w := by
  go_enter Tryd.func38, Tryd.ntmps38
  go_wp2_with (go_at_call 40; refine (hasSuffix1_any _ _ hu).mono ?_; rintro e w' ⟨rfl, rfl⟩)
  go_ret
  exact ⟨rfl, rfl⟩
end Go.Proofs.YtjajngngajnnpaaDoor

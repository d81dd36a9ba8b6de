/- The walks of what keycode appends to a code: a number's bytes, a text's bytes, a value's code. -/
import Derived.Test.YtjajngngajnnpaaDoorK3Math
import Derived.Deep.AppendLies
import Derived.Deep.RegionHeldLaw
import Derived.Deep.RegionWith
namespace Go.Proofs.YtjajngngajnnpaaDoor
open Go.RowKit
set_option linter.unusedVariables false

def bv (c : UInt8) : Value := .int .u8 c.toNat
theorem infoB : (Tryd.prog.info? 5).map (fun i => (i.zero, i.size, i.bytes)) = some (some (.int .u8 0), 1, 1) := by kernel_rfl
/-- A slice of bytes that the call made. -/
def OwnB (base : Nat) (w : World) (v : Value) (xs : List UInt8) : Prop := w.ownsRow base 5 1 v xs.length (xs.map bv)

theorem xor63 (a : Nat) (h : a < 2 ^ 63) : a ^^^ 2 ^ 63 = 2 ^ 63 + a := by
  apply Nat.eq_of_testBit_eq
  intro j
  rw [Nat.testBit_xor]
  rcases Nat.lt_trichotomy j 63 with hj | rfl | hj
  · rw [Nat.testBit_two_pow_add_gt hj, Nat.testBit_two_pow]
    have : decide (63 = j) = false := by simp; omega
    rw [this]; simp
  · rw [Nat.testBit_two_pow_add_eq, Nat.testBit_two_pow]; simp
  · rw [Nat.testBit_lt_two_pow (x := 2 ^ 63 + a) (Nat.lt_of_lt_of_le (by omega : 2 ^ 63 + a < 2 ^ 64) (Nat.pow_le_pow_right (by decide) (by omega))), Nat.testBit_lt_two_pow (x := a) (Nat.lt_of_lt_of_le (by omega : a < 2 ^ 64) (Nat.pow_le_pow_right (by decide) (by omega))), Nat.testBit_two_pow]
    have : decide (63 = j) = false := by simp; omega
    rw [this]; rfl
theorem sign_out (n : Int) (h : -9223372036854775808 ≤ n ∧ n ≤ 9223372036854775807) : bits .xor .u64 (IntKind.u64.wrap n) 9223372036854775808 = ((n + 9223372036854775808).toNat : Int) := by
  have e63 : (9223372036854775808 : Nat) = 2 ^ 63 := by decide
  by_cases h0 : 0 ≤ n
  · obtain ⟨a, rfl⟩ := Int.eq_ofNat_of_zero_le h0
    have hw : IntKind.u64.wrap (a : Int) = (a : Int) := by
      rw [IntKind.wrap_u64]; omega
    rw [hw, show (9223372036854775808 : Int) = ((9223372036854775808 : Nat) : Int) from rfl, u64_xor_nat _ _ (by omega) (by omega), e63, xor63 a (by omega)]
    omega
  · obtain ⟨b, hb⟩ := Int.eq_ofNat_of_zero_le (a := n + 9223372036854775808) (by omega)
    have hw : IntKind.u64.wrap n = ((2 ^ 63 + b : Nat) : Int) := by
      rw [IntKind.wrap_u64]; omega
    rw [hw, show (9223372036854775808 : Int) = ((9223372036854775808 : Nat) : Int) from rfl, u64_xor_nat _ _ (by omega) (by omega), e63, ← xor63 b (by omega), Nat.xor_assoc, Nat.xor_self, Nat.xor_zero]
    omega
theorem sign_in (u : Nat) (h : u < 18446744073709551616) : IntKind.i64.wrap (bits .xor .u64 (u : Int) 9223372036854775808) = (u : Int) - 9223372036854775808 := by
  have e63 : (9223372036854775808 : Nat) = 2 ^ 63 := by decide
  rw [show (9223372036854775808 : Int) = ((9223372036854775808 : Nat) : Int) from rfl, u64_xor_nat _ _ (by omega) (by omega), e63]
  by_cases h0 : u < 2 ^ 63
  · rw [xor63 u h0, IntKind.wrap_i64]; omega
  · obtain ⟨b, rfl⟩ : ∃ b, u = 2 ^ 63 + b := ⟨u - 2 ^ 63, by omega⟩
    rw [← xor63 b (by omega), Nat.xor_assoc, Nat.xor_self, Nat.xor_zero, xor63 b (by omega), IntKind.wrap_i64]; omega

theorem beN_take (k u i : Nat) (h : i < k) : (beN k u).take (i + 1) = (beN k u).take i ++ [UInt8.ofNat (u / 256 ^ (k - 1 - i))] := by
  induction k generalizing i with
  | zero => omega
  | succ k ih =>
    cases i with
    | zero => simp [beN]
    | succ i =>
      simp only [beN, List.take_succ_cons, List.cons_append]
      rw [ih i (by omega), show k + 1 - 1 - (i + 1) = k - 1 - i by omega]
theorem byte_at (U k : Nat) (h : k < 8) : (U : Int) / 2 ^ (8 * (7 - k)) % 256 = ((UInt8.ofNat (U / 256 ^ (8 - 1 - k))).toNat : Int) := by
  have e2 : (2 : Int) ^ (8 * (7 - k)) = ((256 ^ (8 - 1 - k) : Nat) : Int) := by
    rw [Int.pow_mul]; simp
  rw [e2, UInt8.toNat_ofNat']
  simp

theorem OwnB.alloc {base : Nat} {w : World} {v : Value} {xs : List UInt8} (h : OwnB base w v xs) (o : Obj) : OwnB base (w.alloc o) v xs := World.ownsRow.alloc h o
theorem one_bv (ys : List UInt8) : ∀ u ∈ ys.map bv, u.oneCell' = true := by
  intro u hu
  obtain ⟨c, _, rfl⟩ := List.mem_map.1 hu
  rfl
/-- Behind appends to v: v' is what came of it; of what was there, v's own block alone may be turned. -/
structure GrowB (w : World) (v : Value) (w' : World) (v' : Value) : Prop where
  grown : w.grownBy w' v.ownBlock
  own : v'.ownBlock = v.ownBlock ∨ ∀ k, v'.ownBlock = some k → w.heap.size ≤ k
theorem grownBy_trans {a b c : World} {r : Option Nat} (h : a.grownBy b r) (k : b.grownBy c r) : a.grownBy c r :=
  ⟨k.os.trans h.os, k.tape.trans h.tape, k.output.trans h.output, Nat.le_trans h.size k.size, fun i hi hr => (k.block i (Nat.lt_of_lt_of_le hi h.size) hr).trans (h.block i hi hr)⟩
theorem grownBy_drew (w : World) (r : Option Nat) : w.grownBy w.drew r := ⟨rfl, rfl, rfl, Nat.le_refl _, fun _ _ _ => rfl⟩
theorem GrowB.refl (w : World) (v : Value) : GrowB w v w v := ⟨World.grownBy.refl _ _, Or.inl rfl⟩
theorem GrowB.trans {w w1 w2 : World} {v v1 v2 : Value} (h : GrowB w v w1 v1) (k : GrowB w1 v1 w2 v2) : GrowB w v w2 v2 := by
  refine ⟨⟨k.grown.os.trans h.grown.os, k.grown.tape.trans h.grown.tape, k.grown.output.trans h.grown.output, Nat.le_trans h.grown.size k.grown.size, fun i hi hr => ?_⟩, ?_⟩
  · refine (k.grown.block i (Nat.lt_of_lt_of_le hi h.grown.size) fun e => ?_).trans (h.grown.block i hi hr)
    rcases h.own with h' | h'
    · exact hr (e.trans h')
    · have := h' i e.symm; omega
  · rcases k.own with k' | k'
    · rw [k']; exact h.own
    · exact Or.inr fun b hb => Nat.le_trans h.grown.size (k' b hb)
theorem GrowB.alloc {w w1 : World} {v v1 : Value} (h : GrowB w v w1 v1) (o : Obj) : GrowB w v (w1.alloc o) v1 := h.trans ⟨World.grownBy_alloc _ _ _, Or.inl rfl⟩
theorem GrowB.drew {w w1 : World} {v v1 : Value} (h : GrowB w v w1 v1) : GrowB w v w1.drew v1 := h.trans ⟨grownBy_drew _ _, Or.inl rfl⟩
theorem own_ge {base : Nat} {w : World} {v : Value} {xs : List UInt8} (h : OwnB base w v xs) : ∀ k, v.ownBlock = some k → base ≤ k := fun k hk => (World.ownsRow.lt h k hk).1
theorem own_lt {base : Nat} {w : World} {v : Value} {xs : List UInt8} (h : OwnB base w v xs) : ∀ k, v.ownBlock = some k → k < w.heap.size := fun k hk => (World.ownsRow.lt h k hk).2
theorem GrowB.below {base : Nat} {w w' : World} {v v' : Value} {xs : List UInt8} (h : GrowB w v w' v') (hown : OwnB base w v xs) (hb : base ≤ w.heap.size) : Below base w w' :=
  (Below.refl _ _).grown h.grown hb (own_ge hown)
theorem OwnB.drew {base : Nat} {w : World} {v : Value} {xs : List UInt8} (h : OwnB base w v xs) : OwnB base w.drew v xs := h

/-- append, to bytes that the call made, of bytes that lie in a block of their own. -/
theorem wp_appB (w : World) {ops : Array Oper} {rest : List Oper} {o : Oper} {a : Act} {Q : Exit → Act → World → Prop} (hgd : o.guard = none) (s x : Operand)
    (ho : o.op = .call { callee := .builtin .append, args := #[s, x], argTypes := #[51, 51] })
    (base : Nat) (v : Value) (xs : List UInt8) (hs : a.eval s = v) (hown : OwnB base w v xs)
    (B m : Nat) (news : Array Value) (ys : List UInt8) (hx : a.eval x = .slice (some ⟨B, 0, none⟩) m m) (hB : w.heap[B]? = some (.cells news 5 (0, 0))) (hy : news.toList = ys.map bv) (hm : ys.length = m) (hm0 : 0 < m)
    (hl : xs.length + m ≤ 4398046511104) (hbase : base ≤ w.heap.size)
    (h : ∀ v' w', OwnB base w' v' (xs ++ ys) → GrowB w v w' v' → wpList Tryd.prog ops Q rest (a.put o.dst v') w') : wpList Tryd.prog ops Q (o :: rest) a w := by
  obtain ⟨i0, hi, hz0, hz1, hz2⟩ := info_parts infoB
  refine wpList_append_lies w hgd s x 51 ho base 5 i0 (.int .u8 0) 1 1 Tryd.underlying51 hi hz0 hz1 hz2 rfl (by decide) v xs.length (xs.map bv) hs hown ⟨B, 0, none⟩ m m (ys.map bv) hx (by simp [hm]) ?_ (one_bv ys) hm0 (by unfold maxLen; omega) (by omega) hbase w.heap.size rfl ?_
  · rw [← hy]; exact World.news_of_block hB
  · intro g cap w' h1 h2 h3 _
    refine h _ w' ?_ ⟨h2, ?_⟩
    · unfold OwnB
      rw [List.length_append, List.map_append, hm]
      exact h1
    · rcases h3 with h3 | h3
      · exact Or.inl h3.symm
      · exact Or.inr fun k hk => by simp [Value.ownBlock] at hk; omega
theorem step_appB (w : World) {ops : Array Oper} {o : Oper} {a : Act} {K : Act → World → Prop} {Q : Exit → Act → World → Prop} {E : Prop} (hgd : o.guard = none) (s x : Operand)
    (ho : o.op = .call { callee := .builtin .append, args := #[s, x], argTypes := #[51, 51] })
    (base : Nat) (v : Value) (xs : List UInt8) (hs : a.eval s = v) (hown : OwnB base w v xs)
    (B m : Nat) (news : Array Value) (ys : List UInt8) (hx : a.eval x = .slice (some ⟨B, 0, none⟩) m m) (hB : w.heap[B]? = some (.cells news 5 (0, 0))) (hy : news.toList = ys.map bv) (hm : ys.length = m) (hm0 : 0 < m)
    (hl : xs.length + m ≤ 4398046511104) (hbase : base ≤ w.heap.size)
    (h : ∀ v' w', OwnB base w' v' (xs ++ ys) → GrowB w v w' v' → K (a.put o.dst v') w') :
    if Region.wanted o (yielded ops a.tmps) = true then Oper.wp Tryd.prog o a w K Q else E := by
  obtain ⟨i0, hi, hz0, hz1, hz2⟩ := info_parts infoB
  refine step_append_lies w hgd s x 51 ho base 5 i0 (.int .u8 0) 1 1 Tryd.underlying51 hi hz0 hz1 hz2 rfl (by decide) v xs.length (xs.map bv) hs hown ⟨B, 0, none⟩ m m (ys.map bv) hx (by simp [hm]) ?_ (one_bv ys) hm0 (by unfold maxLen; omega) (by omega) hbase w.heap.size rfl ?_
  · rw [← hy]; exact World.news_of_block hB
  · intro g cap w' h1 h2 h3 _
    refine h _ w' ?_ ⟨h2, ?_⟩
    · unfold OwnB
      rw [List.length_append, List.map_append, hm]
      exact h1
    · rcases h3 with h3 | h3
      · exact Or.inl h3.symm
      · exact Or.inr fun k hk => by simp [Value.ownBlock] at hk; omega

set_option maxHeartbeats 400000 in
theorem appendNum_u (base U : Nat) (v : Value) (xs : List UInt8) (n : Int) (w : World) (hown : OwnB base w v xs) (hb : base ≤ w.heap.size) (hl : xs.length ≤ 1099511627776) (hU : bits .xor .u64 (IntKind.u64.wrap n) 9223372036854775808 = (U : Int)) :
    Calls Tryd.prog 32 #[v, .int .i64 n] w fun e w' => ∃ v', e = .returned v' ∧ OwnB base w' v' (xs ++ beN 8 U) ∧ GrowB w v w' v' := by
  go_enter Tryd.func32, Tryd.ntmps32
  go_wp2
  clear hU
  go_loopw [0, 10] (fun u i wr => ∃ k : Nat, k ≤ 8 ∧ i = .int .i64 k ∧ OwnB base wr u (xs ++ (beN 8 U).take k) ∧ GrowB w v wr u) (fun _ i _ => 8 - (intOf i).toNat)
  case atStart => exact ⟨0, Nat.zero_le _, rfl, by rw [List.take_zero, List.append_nil]; exact hown, GrowB.refl _ _⟩
  case round =>
    obtain ⟨k, hk, rfl, hown, hnx⟩ := hrel
    by_cases hk8 : k < 8
    · have hlen : (xs ++ (beN 8 U).take k).length ≤ 1099511627776 + 8 := by
        rw [List.length_append, List.length_take]; omega
      go_wp2_with (at_builtin; refine wp_appB _ rfl _ _ rfl base _ (xs ++ (beN 8 U).take k) rfl (hown.alloc _) wr.heap.size 1 #[.int .u8 ((U : Int) / 2 ^ (8 * (7 - k)) % 256)] [UInt8.ofNat (U / 256 ^ (8 - 1 - k))] rfl (heap_alloc_new wr _) (by rw [byte_at U k hk8]; rfl) rfl (by decide) (by omega) (by have := hnx.grown.size; simp; omega) ?_)
      intro v' w1 hown1 hgrow
      have h1 := (hnx.alloc _).trans hgrow
      have hown2 : OwnB base w1 v' (xs ++ (beN 8 U).take (k + 1)) := by rw [beN_take 8 U k hk8]; simpa using hown1
      clear hgrow hown hnx hlen hown1
      go_wp2
      go_roundw
      case rel => exact ⟨k + 1, by omega, by go_num, hown2, h1⟩
      case measure => simp [intOf]; omega
    · go_wp2
      go_ret
      obtain rfl : k = 8 := by omega
      rw [List.take_of_length_le (by rw [beN_len]; omega)] at hown
      exact ⟨_, rfl, hown, hnx⟩
theorem appendNum_any (base : Nat) (v : Value) (xs : List UInt8) (n : Int) (w : World) (hown : OwnB base w v xs) (hb : base ≤ w.heap.size) (hl : xs.length ≤ 1099511627776) (hn : -9223372036854775808 ≤ n ∧ n ≤ 9223372036854775807) :
    Calls Tryd.prog 32 #[v, .int .i64 n] w fun e w' => ∃ v', e = .returned v' ∧ OwnB base w' v' (xs ++ beN 8 (n + 9223372036854775808).toNat) ∧ GrowB w v w' v' :=
  appendNum_u base _ v xs n w hown hb hl (sign_out n hn)

theorem truthByte_any (b : Bool) (w : World) : Calls Tryd.prog 34 #[.bool b] w fun e w' => e = .returned (bv (if b then 1 else 0)) ∧ w' = w := by
  cases b
  all_goals
    go_enter Tryd.func34, Tryd.ntmps34
    go_wp2
    go_ret
    exact ⟨rfl, rfl⟩

theorem esc_take_zero {t : List UInt8} {k : Nat} (h : k < t.length) (h0 : t[k] = 0) : esc (t.take (k + 1)) = esc (t.take k) ++ [0] ++ [255] := by
  rw [List.take_succ_eq_append_getElem h, esc_app, h0]; simp [esc]
theorem esc_take_other {t : List UInt8} {k : Nat} (h : k < t.length) (h0 : t[k] ≠ 0) : esc (t.take (k + 1)) = esc (t.take k) ++ [t[k]] := by
  rw [List.take_succ_eq_append_getElem h, esc_app]; simp [esc, h0]
theorem esc_len (l : List UInt8) : (esc l).length ≤ 2 * l.length := by
  induction l with
  | nil => simp [esc]
  | cons c l ih => rw [esc_cons, List.length_append, List.length_cons]; split <;> simp <;> omega

theorem trimL_len (l : List UInt8) : (trimL l).length ≤ l.length := by
  unfold trimL
  rw [List.length_reverse]
  have := (List.dropWhile_sublist (l := l.reverse) (· == 32)).length_le
  simpa using this
theorem trimRight_T (s : ByteArray) (w : World) (hs : s.size ≤ maxLen) :
    Calls Tryd.prog 39 #[.string s, .string ⟨#[32]⟩] w fun e w' => (∃ T : ByteArray, e = .returned (.string T) ∧ Hid (T.data.toList = trimL s.data.toList) ∧ T.size ≤ s.size) ∧ w' = w := by
  refine (trimRight_any s w hs).mono fun e w' ⟨he, hw⟩ => ⟨⟨_, he, rfl, ?_⟩, hw⟩
  have := trimL_len s.data.toList
  show (trimL s.data.toList).toArray.size ≤ s.size
  simpa using this
theorem at_byte {T : ByteArray} {k : Nat} (h : k < T.size) : T.data.toList[k]'(by simpa using h) = T[k] := rfl
theorem esc_at_zero (T : ByteArray) {k : Nat} (h : k < T.size) (h0 : T[k] = 0) : esc (T.data.toList.take (k + 1)) = esc (T.data.toList.take k) ++ [0] ++ [255] := esc_take_zero (by simpa using h) h0
theorem esc_at_other (T : ByteArray) {k : Nat} (h : k < T.size) (h0 : T[k] ≠ 0) : esc (T.data.toList.take (k + 1)) = esc (T.data.toList.take k) ++ [T[k]] := esc_take_other (by simpa using h) h0
theorem byte0 {c : UInt8} (h : ((c.toNat : Int) == 0) = true) : c = 0 := by
  apply UInt8.toNat_inj.1; simp at h; exact h
theorem byten0 {c : UInt8} (h : ((c.toNat : Int) == 0) = false) : c ≠ 0 := by
  rintro rfl; simp at h

set_option maxHeartbeats 1000000 in
theorem appendText_any (base : Nat) (v : Value) (xs : List UInt8) (t : ByteArray) (w : World) (hown : OwnB base w v xs) (hb : base ≤ w.heap.size) (hl : xs.length ≤ 1099511627776) (ht : t.size ≤ 1099511627776) :
    Calls Tryd.prog 33 #[v, .string t] w fun e w' => ∃ v', e = .returned v' ∧ OwnB base w' v' (xs ++ (esc (trimL t.data.toList) ++ [0, 0])) ∧ GrowB w v w' v' := by
  go_enter Tryd.func33, Tryd.ntmps33
  go_wp2_with (go_at_call 39; refine (trimRight_T _ _ (by unfold maxLen; omega)).mono ?_; rintro e w' ⟨⟨T, rfl, HT, hTs⟩, rfl⟩)
  go_loopw [0, 11] (fun u i wr => ∃ k : Nat, k ≤ T.size ∧ i = .int .i64 k ∧ OwnB base wr u (xs ++ esc (T.data.toList.take k)) ∧ GrowB w' v wr u) (fun _ i _ => T.size - (intOf i).toNat)
  case atStart => exact ⟨0, Nat.zero_le _, rfl, by rw [List.take_zero, esc_nil, List.append_nil]; exact hown, GrowB.refl _ _⟩
  case round =>
    obtain ⟨k, hk, rfl, hown, hnx⟩ := hrel
    have hlen : (xs ++ esc (T.data.toList.take k)).length ≤ 4398046511000 := by
      have := esc_len (T.data.toList.take k)
      rw [List.length_append]
      rw [List.length_take] at this
      have : min k T.data.toList.length ≤ 1099511627776 := by omega
      omega
    have hbs : base ≤ wr.heap.size := Nat.le_trans hb hnx.grown.size
    by_cases hlt : k < T.size
    · cases hc : ((T[k].toNat : Int) == 0)
      · go_wp2_with (at_builtin; refine wp_appB _ rfl _ _ rfl base _ (xs ++ esc (T.data.toList.take k)) rfl (hown.alloc _) wr.heap.size 1 #[.int .u8 T[k].toNat] [T[k]] rfl (heap_alloc_new wr _) rfl rfl (by decide) (by omega) (by simp; omega) ?_)
        intro v' w1 hown1 hgrow
        have h1 := (hnx.alloc _).trans hgrow
        have hown2 : OwnB base w1 v' (xs ++ esc (T.data.toList.take (k + 1))) := by
          rw [esc_at_other T hlt (byten0 hc)]
          simpa using hown1
        clear hgrow hown hnx hlen hown1
        go_wp2
        go_roundw
        case rel => exact ⟨k + 1, by omega, by go_num, hown2, h1⟩
        case measure => simp [intOf]; omega
      · go_wp2_with (at_builtin; refine wp_appB _ rfl _ _ rfl base _ (xs ++ esc (T.data.toList.take k)) rfl (hown.alloc _) wr.heap.size 1 #[.int .u8 T[k].toNat] [T[k]] rfl (heap_alloc_new wr _) rfl rfl (by decide) (by omega) (by simp; omega) ?_)
        intro v' w1 hown1 hgrow
        have h1 := (hnx.alloc _).trans hgrow
        have hlen1 : (xs ++ esc (T.data.toList.take k) ++ [T[k]]).length ≤ 4398046511001 := by rw [List.length_append]; simp only [List.length_singleton]; omega
        have hown3 : OwnB base w1 v' (xs ++ esc (T.data.toList.take k) ++ [T[k]]) := by simpa using hown1
        clear hgrow hown hnx hlen hown1
        have hbs1 : base ≤ w1.heap.size := Nat.le_trans hb h1.grown.size
        go_wp2_with (at_builtin; refine wp_appB _ rfl _ _ rfl base _ (xs ++ esc (T.data.toList.take k) ++ [T[k]]) rfl (hown3.alloc _) w1.heap.size 1 #[.int .u8 255] [255] rfl (heap_alloc_new w1 _) rfl rfl (by decide) (by omega) (by simp; omega) ?_)
        intro v2 w2 hown1 hgrow
        have h2 := (h1.alloc _).trans hgrow
        have hown2 : OwnB base w2 v2 (xs ++ esc (T.data.toList.take (k + 1))) := by
          rw [esc_at_zero T hlt (byte0 hc)]
          rw [byte0 hc] at hown1
          simpa using hown1
        clear hgrow hown3 h1 hlen1 hown1
        go_wp2
        go_roundw
        case rel => exact ⟨k + 1, by omega, by go_num, hown2, h2⟩
        case measure => simp [intOf]; omega
    · obtain rfl : k = T.size := by omega
      have hall : T.data.toList.take T.size = trimL t.data.toList := by rw [← HT.out]; exact List.take_of_length_le (by simp)
      have HA : Hid (T.data.toList.take T.size = trimL t.data.toList) := hall
      clear hall
      go_wp2_with (at_builtin; refine wp_appB _ rfl _ _ rfl base _ (xs ++ esc (T.data.toList.take T.size)) rfl (hown.alloc _) wr.heap.size 2 #[.int .u8 0, .int .u8 0] [0, 0] rfl (heap_alloc_new wr _) rfl rfl (by decide) (by omega) (by simp; omega) ?_)
      intro v' w1 hown1 hgrow
      have h1 := (hnx.alloc _).trans hgrow
      have hown2 : OwnB base w1 v' (xs ++ (esc (trimL t.data.toList) ++ [0, 0])) := by
        rw [← HA.out]; simpa using hown1
      clear hgrow hown hnx hlen hown1
      go_wp2
      go_ret
      exact ⟨_, rfl, hown2, h1⟩
end Go.Proofs.YtjajngngajnnpaaDoor

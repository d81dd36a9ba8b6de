/- The walks of the document's own order of values, and of the law's order of rows. -/
import Derived.Test.YtjajngngajnnpaaDoorK3H
namespace Go.Proofs.YtjajngngajnnpaaDoor
open Go.RowKit
set_option linter.unusedVariables false

theorem byte_eq32 {u : ByteArray} {n : Nat} (h : 0 < n) (hn : n ≤ u.size) (hc : ((u[n - 1].toNat : Int) == 32) = true) : trimL (u.data.toList.take n) = trimL (u.data.toList.take (n - 1)) := by
  have h1 : n - 1 < u.data.toList.length := by simp; omega
  have h2 := List.take_succ_eq_append_getElem h1
  rw [show n - 1 + 1 = n by omega] at h2
  have h3 : u.data.toList[n - 1] = 32 := by
    have : u[n - 1].toNat = 32 := by simp at hc; omega
    apply UInt8.toNat_inj.1; exact this
  rw [h2, h3, trimL_blank]
theorem byte_ne32 {u : ByteArray} {n : Nat} (h : 0 < n) (hn : n ≤ u.size) (hc : ((u[n - 1].toNat : Int) == 32) = false) : trimL (u.data.toList.take n) = u.data.toList.take n := by
  have h1 : n - 1 < u.data.toList.length := by simp; omega
  have h2 := List.take_succ_eq_append_getElem h1
  rw [show n - 1 + 1 = n by omega] at h2
  have h3 : (u.data.toList[n - 1] == 32) = false := by
    rw [beq_eq_false_iff_ne]
    intro e
    have : u[n - 1] = 32 := e
    rw [this] at hc; simp at hc
  rw [h2, trimL_other _ _ h3]

set_option maxHeartbeats 400000 in
theorem refWords_any (s : ByteArray) (w : World) (hs : s.size ≤ maxLen) :
    Calls Tryd.prog 35 #[.string s] w fun e w' => e = .returned (.string ⟨(trimL s.data.toList).toArray⟩) ∧ w' = w := by
  unfold maxLen at hs
  go_enter Tryd.func35, Tryd.ntmps35
  go_wp2
  go_loop [3] (fun t => ∃ n : Nat, n ≤ s.size ∧ t = .int .i64 n ∧ Hid (trimL (s.data.toList.take n) = trimL s.data.toList)) (fun t => (intOf t).toNat)
  case atStart => exact ⟨s.size, Nat.le_refl _, rfl, by rw [Hid, List.take_of_length_le (by simp)]⟩
  case round =>
    obtain ⟨n, hn, rfl, HT⟩ := hrel
    by_cases h0 : 0 < n
    · cases hc : ((s[n - 1].toNat : Int) == 32)
      · go_wp2
        go_ret
        exact ⟨ret_str (by rw [ext_list, ← byte_ne32 h0 hn hc]; exact HT.out), rfl⟩
      · go_wp2
        refine ⟨⟨n - 1, by omega, by go_num, (byte_eq32 h0 hn hc).symm.trans HT.out⟩, by simp [intOf]; omega⟩
    · go_wp2
      go_ret
      obtain rfl : n = 0 := by omega
      exact ⟨ret_str (by rw [ext_list, ← HT.out]; rfl), rfl⟩

def threeI (a b : Bool) : Int := if a then -1 else if b then 0 else 1
set_option maxHeartbeats 400000 in
theorem three_any (a b : Bool) (w : World) :
    Calls Tryd.prog 36 #[.bool a, .bool b] w fun e w' => e = .returned (.int .i64 (threeI a b)) ∧ w' = w := by
  cases a <;> cases b
  all_goals
    go_enter Tryd.func36, Tryd.ntmps36
    go_wp2
    go_ret
    exact ⟨rfl, rfl⟩

theorem three_ne {a b : Int} (h : (a != b) = true) : threeI (decide (a < b)) false = cmpI a b := by
  have h2 : a ≠ b := by simpa using h
  unfold threeI cmpI
  by_cases h3 : a < b
  · simp [h3]
  · simp [h3, show b < a by omega]
theorem three_int (a b : Int) : threeI (decide (a < b)) (a == b) = cmpI a b := by
  unfold threeI cmpI
  by_cases h3 : a < b
  · simp [h3]
  · by_cases h4 : a = b
    · simp [h4]
    · simp [h3, h4, show b < a by omega]
set_option maxHeartbeats 400000 in
theorem refOrder_kind (k1 n1 k2 n2 : Int) (s1 s2 : ByteArray) (b1 b2 : Bool) (w : World) (h : (k1 != k2) = true) :
    Calls Tryd.prog 25 #[val k1 n1 s1 b1, val k2 n2 s2 b2] w fun e w' => e = .returned (.int .i64 (cmpI k1 k2)) ∧ Below w.heap.size w w' := by
  go_enter Tryd.func25, Tryd.ntmps25
  go_wp2_with (go_at_call 36; refine (three_any _ _ _).mono ?_; rintro e w' ⟨rfl, rfl⟩)
  go_ret
  exact ⟨ret_int (three_ne h), (by repeat (first | exact Below.refl _ _ | assumption | refine Below.alloc ?_ (by first | (simp; done) | (simp; omega)) _ | refine Below.setCell ?_ (by first | (simp; done) | (simp; omega)) _ | refine Below.drew ?_ | refine below_drewN ?_ _))⟩

set_option maxHeartbeats 400000 in
theorem refOrder_num (n1 n2 : Int) (s1 s2 : ByteArray) (b1 b2 : Bool) (w : World) :
    Calls Tryd.prog 25 #[val 1 n1 s1 b1, val 1 n2 s2 b2] w fun e w' => e = .returned (.int .i64 (cmpI n1 n2)) ∧ Below w.heap.size w w' := by
  go_enter Tryd.func25, Tryd.ntmps25
  go_wp2_with (go_at_call 36; refine (three_any _ _ _).mono ?_; rintro e w' ⟨rfl, rfl⟩)
  go_ret
  exact ⟨ret_int (three_int n1 n2), (by repeat (first | exact Below.refl _ _ | assumption | refine Below.alloc ?_ (by first | (simp; done) | (simp; omega)) _ | refine Below.setCell ?_ (by first | (simp; done) | (simp; omega)) _ | refine Below.drew ?_ | refine below_drewN ?_ _))⟩

set_option maxHeartbeats 400000 in
theorem refOrder_null (n1 n2 : Int) (s1 s2 : ByteArray) (b1 b2 : Bool) (w : World) :
    Calls Tryd.prog 25 #[val 0 n1 s1 b1, val 0 n2 s2 b2] w fun e w' => e = .returned (.int .i64 0) ∧ Below w.heap.size w w' := by
  go_enter Tryd.func25, Tryd.ntmps25
  go_wp2
  go_ret
  exact ⟨rfl, (by repeat (first | exact Below.refl _ _ | assumption | refine Below.alloc ?_ (by first | (simp; done) | (simp; omega)) _ | refine Below.setCell ?_ (by first | (simp; done) | (simp; omega)) _ | refine Below.drew ?_ | refine below_drewN ?_ _))⟩

set_option maxHeartbeats 400000 in
theorem refOrder_bool (n1 n2 : Int) (s1 s2 : ByteArray) (b1 b2 : Bool) (w : World) :
    Calls Tryd.prog 25 #[val 3 n1 s1 b1, val 3 n2 s2 b2] w fun e w' => e = .returned (.int .i64 (ordB b1 b2)) ∧ Below w.heap.size w w' := by
  cases b1 <;> cases b2
  all_goals
    go_enter Tryd.func25, Tryd.ntmps25
    go_wp2_with (go_at_call 36; refine (three_any _ _ _).mono ?_; rintro e w' ⟨rfl, rfl⟩)
    go_ret
    exact ⟨rfl, (by repeat (first | exact Below.refl _ _ | assumption | refine Below.alloc ?_ (by first | (simp; done) | (simp; omega)) _ | refine Below.setCell ?_ (by first | (simp; done) | (simp; omega)) _ | refine Below.drew ?_ | refine below_drewN ?_ _))⟩

theorem cmpB_three (a b : List UInt8) : threeI (Op.bytesLess a b) (a == b) = cmpB a b := by
  unfold cmpB threeI
  cases h1 : Op.bytesLess a b <;> cases h2 : (a == b) <;> simp
set_option maxHeartbeats 400000 in
theorem refOrder_text (n1 n2 : Int) (s1 s2 : ByteArray) (b1 b2 : Bool) (w : World) (h1 : s1.size ≤ maxLen) (h2 : s2.size ≤ maxLen) :
    Calls Tryd.prog 25 #[val 2 n1 s1 b1, val 2 n2 s2 b2] w fun e w' => e = .returned (.int .i64 (cmpB (trimL s1.data.toList) (trimL s2.data.toList))) ∧ Below w.heap.size w w' := by
  go_enter Tryd.func25, Tryd.ntmps25
  go_wp2_with (first
    | (go_at_call 36; refine (three_any _ _ _).mono ?_; rintro e w' ⟨rfl, rfl⟩)
    | (go_at_call_of 35 (Value.string s1); refine (refWords_any _ _ h1).mono ?_; rintro e w' ⟨rfl, rfl⟩)
    | (go_at_call 35; refine (refWords_any _ _ h2).mono ?_; rintro e w' ⟨rfl, rfl⟩))
  go_ret
  exact ⟨ret_int (cmpB_three _ _), (by repeat (first | exact Below.refl _ _ | assumption | refine Below.alloc ?_ (by first | (simp; done) | (simp; omega)) _ | refine Below.setCell ?_ (by first | (simp; done) | (simp; omega)) _ | refine Below.drew ?_ | refine below_drewN ?_ _))⟩

theorem refOrder_any (K1 N1 : Int) (S1 : ByteArray) (B1 : Bool) (K2 N2 : Int) (S2 : ByteArray) (B2 : Bool) (w : World) (hk : K1 = 0 ∨ K1 = 1 ∨ K1 = 2 ∨ K1 = 3) (h1 : S1.size ≤ maxLen) (h2 : S2.size ≤ maxLen) :
    Calls Tryd.prog 25 #[val K1 N1 S1 B1, val K2 N2 S2 B2] w fun e w' => e = .returned (.int .i64 (ordV (K1, N1, S1.data.toList, B1) (K2, N2, S2.data.toList, B2))) ∧ Below w.heap.size w w' := by
  by_cases hK : K1 = K2
  · subst hK
    rcases hk with rfl | rfl | rfl | rfl
    · exact refOrder_null N1 N2 S1 S2 B1 B2 w
    · exact refOrder_num N1 N2 S1 S2 B1 B2 w
    · exact refOrder_text N1 N2 S1 S2 B1 B2 w h1 h2
    · exact refOrder_bool N1 N2 S1 S2 B1 B2 w
  · have h := refOrder_kind K1 N1 K2 N2 S1 S2 B1 B2 w (by simpa using hK)
    refine h.mono fun e w' ⟨he, hb⟩ => ⟨?_, hb⟩
    rw [he]
    exact ret_int (by simp [ordV, hK])

theorem ordL_drop (l m : List V4) (k : Nat) (hk : k < l.length) (hm : k < m.length) : ordL (l.drop k) (m.drop k) = if ordV l[k] m[k] = 0 then ordL (l.drop (k + 1)) (m.drop (k + 1)) else ordV l[k] m[k] := by
  rw [List.drop_eq_getElem_cons hk, List.drop_eq_getElem_cons hm, ordL]
theorem ordV_range (a b : V4) : -1 ≤ ordV a b ∧ ordV a b ≤ 1 := by
  unfold ordV cmpI cmpB ordB
  (repeat' split) <;> omega
theorem ordL_end (l m : List V4) (k : Nat) (h : ¬ (k < l.length ∧ k < m.length)) (hl : k ≤ l.length) (hm : k ≤ m.length) : ordL (l.drop k) (m.drop k) = if l.length < m.length then -1 else if l.length > m.length then 1 else 0 := by
  by_cases h1 : k < l.length
  · have h2 : m.drop k = [] := List.drop_of_length_le (by omega)
    rw [h2, List.drop_eq_getElem_cons h1, ordL, if_neg (by omega), if_pos (by omega)]
  · have h1' : l.drop k = [] := List.drop_of_length_le (by omega)
    by_cases h2 : k < m.length
    · rw [h1', List.drop_eq_getElem_cons h2, ordL, if_pos (by omega)]
    · rw [h1', List.drop_of_length_le (by omega), ordL, if_neg (by omega), if_neg (by omega)]
theorem held_rows {wr w' : World} {g1 o1 g2 o2 : Nat} {x y : V4} (r1 : wr.rangeAt g1 o1 (cellsV x)) (r2 : wr.rangeAt g2 o2 (cellsV y)) (h : Below wr.heap.size wr w') :
    Below wr.heap.size wr w' ∧ w'.cell? ⟨g1, o1, none⟩ = some (.int .i64 x.1) ∧ w'.cell? ⟨g1, o1 + 1, none⟩ = some (.int .i64 x.2.1) ∧ w'.cell? ⟨g1, o1 + 2, none⟩ = some (.string ⟨x.2.2.1.toArray⟩) ∧ w'.cell? ⟨g1, o1 + 3, none⟩ = some (.bool x.2.2.2) ∧ w'.cell? ⟨g2, o2, none⟩ = some (.int .i64 y.1) ∧ w'.cell? ⟨g2, o2 + 1, none⟩ = some (.int .i64 y.2.1) ∧ w'.cell? ⟨g2, o2 + 2, none⟩ = some (.string ⟨y.2.2.1.toArray⟩) ∧ w'.cell? ⟨g2, o2 + 3, none⟩ = some (.bool y.2.2.2) := by
  have k1 := rangeAt_keep h r1
  have k2 := rangeAt_keep h r2
  exact ⟨h, k1 0 _ rfl, k1 1 _ rfl, k1 2 _ rfl, k1 3 _ rfl, k2 0 _ rfl, k2 1 _ rfl, k2 2 _ rfl, k2 3 _ rfl⟩

set_option maxHeartbeats 1000000 in
theorem order_any (u v : Value) (l m : List V4) (w : World) (hu : RowIs w u l) (hv : RowIs w v m) (hL : Rights l) (hsl : ∀ x ∈ l, x.2.2.1.length ≤ 1099511627776) (hsm : ∀ x ∈ m, x.2.2.1.length ≤ 1099511627776) (hl : l.length ≤ 1099511627776) (hm : m.length ≤ 1099511627776) :
    Calls Tryd.prog 16 #[u, v] w fun e w' => e = .returned (.int .i64 (ordL l m)) ∧ Below w.heap.size w w' := by
  obtain ⟨ao, cap, rfl, hcap, hcl⟩ := hu
  obtain ⟨bo, cap2, rfl, hcap2, hcm⟩ := hv
  go_enter Tryd.func16, Tryd.ntmps16
  go_wp2
  go_loopw [5] (fun i wr => ∃ k : Nat, k ≤ l.length ∧ k ≤ m.length ∧ i = .int .i64 k ∧ Hid (ordL l m = ordL (l.drop k) (m.drop k)) ∧ Below w.heap.size w wr) (fun i _ => l.length - (intOf i).toNat)
  case atStart => exact ⟨0, Nat.zero_le _, Nat.zero_le _, rfl, rfl, Below.refl _ _⟩
  case round =>
    obtain ⟨k, hkl, hkm, rfl, HO, hnx⟩ := hrel
    by_cases h1 : k < l.length
    · by_cases h2 : k < m.length
      · rcases hcl with h0 | ⟨g, rfl, hcl⟩
        · rw [h0] at h1; simp at h1
        rcases hcm with h0 | ⟨g2, rfl, hcm⟩
        · rw [h0] at h2; simp at h2
        have r1 := rangeAt_keep hnx (hcl k h1)
        have r2 := rangeAt_keep hnx (hcm k h2)
        have hkind := right_kind (hL _ (List.getElem_mem h1))
        have s1 := hsl _ (List.getElem_mem h1)
        have s2 := hsm _ (List.getElem_mem h2)
        have HD : Hid (ordL (l.drop k) (m.drop k) = if ordV l[k] m[k] = 0 then ordL (l.drop (k + 1)) (m.drop (k + 1)) else ordV l[k] m[k]) := ordL_drop l m k h1 h2
        have hsz : ∀ T : List UInt8, T.length ≤ 1099511627776 → (⟨T.toArray⟩ : ByteArray).size ≤ maxLen := fun T h => by
          show T.toArray.size ≤ _
          unfold maxLen; simp; omega
        generalize l[k] = x at *
        generalize m[k] = y at *
        clear hcl hcm hL hsl hsm
        have hx := refOrder_any x.1 x.2.1 ⟨x.2.2.1.toArray⟩ x.2.2.2 y.1 y.2.1 ⟨y.2.2.1.toArray⟩ y.2.2.2
        go_wp2_with fail
        go_region_held3 (fun w' => Below wr.heap.size wr w' ∧ w'.cell? ⟨g, k * 4, none⟩ = some (.int .i64 x.1) ∧ w'.cell? ⟨g, k * 4 + 1, none⟩ = some (.int .i64 x.2.1) ∧ w'.cell? ⟨g, k * 4 + 2, none⟩ = some (.string ⟨x.2.2.1.toArray⟩) ∧ w'.cell? ⟨g, k * 4 + 3, none⟩ = some (.bool x.2.2.2) ∧ w'.cell? ⟨g2, k * 4, none⟩ = some (.int .i64 y.1) ∧ w'.cell? ⟨g2, k * 4 + 1, none⟩ = some (.int .i64 y.2.1) ∧ w'.cell? ⟨g2, k * 4 + 2, none⟩ = some (.string ⟨y.2.2.1.toArray⟩) ∧ w'.cell? ⟨g2, k * 4 + 3, none⟩ = some (.bool y.2.2.2)) (first | exact held_rows r1 r2 (by assumption) | exact held_rows r1 r2 (Below.refl _ _).drew | exact held_rows r1 r2 (Below.refl _ _))
          ((go_at_call 25; refine (hx _ hkind (hsz _ s1) (hsz _ s2)).mono ?_; rintro e w2 ⟨rfl, hb⟩; have hb2 : Below wr.heap.size wr w2 := (Below.refl _ _).drew.trans hb))
        have hn2 : Below w.heap.size w w2 := keepA hnx hb2
        have HZ : Hid (ordL l m = if ordV x y = 0 then ordL (l.drop (k + 1)) (m.drop (k + 1)) else ordV x y) := HO.out.trans HD.out
        generalize ordV x y = z at *
        clear hx hb hb2 r1 r2 HO HD hnx
        cases hc : (z != 0)
        · have hz : z = 0 := by simpa using hc
          have HO2 : Hid (ordL l m = ordL (l.drop (k + 1)) (m.drop (k + 1))) := by
            show ordL l m = _
            rw [HZ.out, if_pos hz]
          clear HZ hz
          go_wp2
          go_roundw
          case rel => exact ⟨k + 1, by omega, by omega, by go_num, HO2, hn2⟩
          case measure => simp [intOf]; omega
        · have hz : z ≠ 0 := by simpa using hc
          have HO2 : Hid (ordL l m = z) := by
            show ordL l m = _
            rw [HZ.out, if_neg hz]
          clear HZ hz
          go_wp2
          go_ret
          exact ⟨ret_int HO2.out.symm, hn2⟩
      · have HE : Hid (ordL l m = if l.length < m.length then -1 else if l.length > m.length then 1 else 0) := HO.out.trans (ordL_end l m k (by omega) hkl hkm)
        have hlm : m.length < l.length := by omega
        clear HO
        go_wp2
        go_ret
        exact ⟨ret_int (by rw [HE.out, if_neg (by omega), if_pos (by omega)]), hnx⟩
    · have HE : Hid (ordL l m = if l.length < m.length then -1 else if l.length > m.length then 1 else 0) := HO.out.trans (ordL_end l m k (by omega) hkl hkm)
      clear HO
      by_cases h2 : k < m.length
      · have hlm : l.length < m.length := by omega
        go_wp2
        go_ret
        exact ⟨ret_int (by rw [HE.out, if_pos (by omega)]), hnx⟩
      · have hlm : ¬ l.length < m.length := by omega
        have hml : ¬ m.length < l.length := by omega
        go_wp2
        go_ret
        exact ⟨ret_int (by rw [HE.out, if_neg (by omega), if_neg (by omega)]), hnx⟩
end Go.Proofs.YtjajngngajnnpaaDoor

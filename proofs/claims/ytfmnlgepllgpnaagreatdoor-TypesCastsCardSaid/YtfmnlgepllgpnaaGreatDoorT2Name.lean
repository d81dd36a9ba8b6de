/- The walk of types.Name at every type. -/
import Derived.Test.YtfmnlgepllgpnaaGreatDoorT2World
namespace Go.Proofs.YtfmnlgepllgpnaaGreatDoor
open Go.RowKit Go.Joins
set_option linter.unusedVariables false

theorem below_grow (w : World) (q : Nat) (os : Array Obj) : Below w.heap.size w (Sort.grow (w.drewN q) os) :=
  ⟨rfl, rfl, rfl, by simp [Sort.grow], fun j hj => by simp [Sort.grow]; rw [Array.getElem?_append_left (by simpa using hj)]⟩
theorem nDigits_le : ∀ (k u : Nat), u < 10 ^ (k + 1) → Lib.nDigits u ≤ k + 1
  | 0, u, h => by rw [Lib.nDigits_small (by simpa using h)]; exact Nat.le_refl _
  | k + 1, u, h => by
    by_cases h10 : u < 10
    · rw [Lib.nDigits_small h10]; omega
    · rw [Lib.nDigits_big h10]
      have := nDigits_le k (u / 10) (by rw [Nat.pow_succ] at h; omega)
      omega
theorem itoa_len {n : Int} (h : -9223372036854775808 ≤ n ∧ n ≤ 9223372036854775807) : (Lib.itoa n).length ≤ 20 := by
  unfold Lib.itoa
  split
  · rw [List.length_cons, Lib.decDigits_length]
    have := nDigits_le 18 n.natAbs (by omega)
    omega
  · rw [Lib.decDigits_length]
    have := nDigits_le 18 n.toNat (by omega)
    omega
/-- A number's digits. -/
def itoaB (n : Int) : ByteArray := ⟨(Lib.itoa n).toArray⟩
theorem itoaB_data (n : Int) : (itoaB n).data.toList = Lib.itoa n := rfl
theorem itoaB_size {n : Int} (h : -9223372036854775808 ≤ n ∧ n ≤ 9223372036854775807) : (itoaB n).size ≤ 20 := by
  have := itoa_len h
  rw [← itoaB_data] at this
  simpa using this
theorem titoa_any (n : Int) (a : Addr) (w : World) (h : -9223372036854775808 ≤ n ∧ n ≤ 9223372036854775807) (hL : LibW a w) :
    Calls Tryz.prog 60 #[.int .i64 n] w fun e w' => e = .returned (.string (itoaB n)) ∧ Below w.heap.size w w' :=
  (Tryz.strconv_Itoa n h.1 h.2 w hL.tab).mono fun e w' ⟨he, q, os, hw⟩ => ⟨he, hw ▸ below_grow w q os⟩
theorem tformat_any (n : Int) (a : Addr) (w : World) (h : -9223372036854775808 ≤ n ∧ n ≤ 9223372036854775807) (hL : LibW a w) :
    Calls Tryz.prog 12 #[.int .i64 n, .int .i64 10] w fun e w' => e = .returned (.string (itoaB n)) ∧ Below w.heap.size w w' :=
  (Tryz.strconv_FormatInt_10 n h.1 h.2 w hL.tab).mono fun e w' ⟨he, q, os, hw⟩ => ⟨he, hw ▸ below_grow w q os⟩
theorem name_cat (u : ByteArray) (n : Int) : u ++ ((⟨#[40]⟩ : ByteArray) ++ itoaB n ++ (⟨#[41]⟩ : ByteArray)) = ⟨(u.data.toList ++ ([40] ++ Lib.itoa n ++ [41])).toArray⟩ := by
  apply ByteArray.ext
  simp [itoaB]
theorem ret_s {u v : ByteArray} (h : u = v) : Ending.returned (.string u) = .returned (.string v) := by rw [h]
def nameOf (b : Int) : List UInt8 := if b = 1 then [115, 109, 97, 108, 108, 105, 110, 116] else if b = 2 then [105, 110, 116, 101, 103, 101, 114] else if b = 3 then [98, 105, 103, 105, 110, 116] else if b = 4 then [99, 104, 97, 114] else if b = 5 then [118, 97, 114, 99, 104, 97, 114] else [98, 111, 111, 108, 101, 97, 110]
def nameT (b l : Int) : List UInt8 := if rightT b l then (if b = 4 ∨ b = 5 then nameOf b ++ ([40] ++ Lib.itoa l ++ [41]) else nameOf b) else []
set_option maxHeartbeats 1000000 in
theorem tname_wrong (b l : Int) (w : World) (hr : Hid (rightT b l = false)) :
    Calls Tryz.prog 29 #[typ b l] w fun e w' => e = .returned (.string ⟨#[]⟩) ∧ Below w.heap.size w w' := by
  go_enter Tryz.func29, Tryz.ntmps29
  go_wp2_with (go_at_call 8; refine (tright_is hr.out _).mono ?_; rintro e w1 ⟨rfl, hb⟩)
  go_ret
  exact ⟨rfl, (by repeat (first | exact Below.refl _ _ | assumption | refine Below.alloc ?_ (by first | (simp; done) | (simp; omega)) _ | refine Below.setCell ?_ (by first | (simp; done) | (simp; omega)) _ | refine Below.drew ?_ | refine below_drewN ?_ _ | refine Below.trans ?_ (hb.mono (by first | (simp; done) | (simp; omega)))))⟩
theorem mono_keep {w W : World} {b l : Int} {t1 : Nat} (hb : Below (w.alloc (.cells #[.int .i64 b, .int .i64 l] t1)).heap.size (w.alloc (.cells #[.int .i64 b, .int .i64 l] t1)) W) :
    W.cell? ⟨w.heap.size, 0, none⟩ = some (.int .i64 b) ∧ W.cell? ⟨w.heap.size, 1, none⟩ = some (.int .i64 l) ∧ Below w.heap.size w W :=
  ⟨cell_keep hb (by go_simp), cell_keep hb (by go_simp), (below_alloc (Below.refl _ _) _).trans (hb.mono (by simp))⟩
set_option maxHeartbeats 1000000 in
theorem tname_1 (a : Addr) (w : World) (hL : LibW a w) :
    Calls Tryz.prog 29 #[typ 1 0] w fun e w' => e = .returned (.string ⟨#[115, 109, 97, 108, 108, 105, 110, 116]⟩) ∧ Below w.heap.size w w' := by
  go_enter Tryz.func29, Tryz.ntmps29
  go_wp2_with fail
  refine (tright_is (show rightT 1 0 = true from rfl) _).mono ?_
  rintro e w1 ⟨rfl, hb⟩
  obtain ⟨d0, d1, h1⟩ := mono_keep hb
  clear hb
  have n1 := (hL.keep h1).name 1
  rw [show namesV[1]? = some (.string ⟨#[115, 109, 97, 108, 108, 105, 110, 116]⟩) from rfl] at n1
  go_wp2_with fail
  refine (tkind_is (show kindT 1 0 = 1 from rfl) _).mono ?_
  rintro e w2 ⟨rfl, hb⟩
  replace d0 := cell_keep hb d0
  replace d1 := cell_keep hb d1
  replace h1 := keepA h1 hb
  clear hb n1
  go_wp2
  go_ret
  exact ⟨rfl, h1⟩
set_option maxHeartbeats 1000000 in
theorem tname_2 (a : Addr) (w : World) (hL : LibW a w) :
    Calls Tryz.prog 29 #[typ 2 0] w fun e w' => e = .returned (.string ⟨#[105, 110, 116, 101, 103, 101, 114]⟩) ∧ Below w.heap.size w w' := by
  go_enter Tryz.func29, Tryz.ntmps29
  go_wp2_with fail
  refine (tright_is (show rightT 2 0 = true from rfl) _).mono ?_
  rintro e w1 ⟨rfl, hb⟩
  obtain ⟨d0, d1, h1⟩ := mono_keep hb
  clear hb
  have n1 := (hL.keep h1).name 2
  rw [show namesV[2]? = some (.string ⟨#[105, 110, 116, 101, 103, 101, 114]⟩) from rfl] at n1
  go_wp2_with fail
  refine (tkind_is (show kindT 2 0 = 1 from rfl) _).mono ?_
  rintro e w2 ⟨rfl, hb⟩
  replace d0 := cell_keep hb d0
  replace d1 := cell_keep hb d1
  replace h1 := keepA h1 hb
  clear hb n1
  go_wp2
  go_ret
  exact ⟨rfl, h1⟩
set_option maxHeartbeats 1000000 in
theorem tname_3 (a : Addr) (w : World) (hL : LibW a w) :
    Calls Tryz.prog 29 #[typ 3 0] w fun e w' => e = .returned (.string ⟨#[98, 105, 103, 105, 110, 116]⟩) ∧ Below w.heap.size w w' := by
  go_enter Tryz.func29, Tryz.ntmps29
  go_wp2_with fail
  refine (tright_is (show rightT 3 0 = true from rfl) _).mono ?_
  rintro e w1 ⟨rfl, hb⟩
  obtain ⟨d0, d1, h1⟩ := mono_keep hb
  clear hb
  have n1 := (hL.keep h1).name 3
  rw [show namesV[3]? = some (.string ⟨#[98, 105, 103, 105, 110, 116]⟩) from rfl] at n1
  go_wp2_with fail
  refine (tkind_is (show kindT 3 0 = 1 from rfl) _).mono ?_
  rintro e w2 ⟨rfl, hb⟩
  replace d0 := cell_keep hb d0
  replace d1 := cell_keep hb d1
  replace h1 := keepA h1 hb
  clear hb n1
  go_wp2
  go_ret
  exact ⟨rfl, h1⟩
set_option maxHeartbeats 1000000 in
theorem tname_4 (l : Int) (hl : Hid (1 ≤ l ∧ l ≤ 100)) (a : Addr) (w : World) (hL : LibW a w) :
    Calls Tryz.prog 29 #[typ 4 l] w fun e w' => e = .returned (.string ⟨(([99, 104, 97, 114] : List UInt8) ++ ([40] ++ Lib.itoa l ++ [41])).toArray⟩) ∧ Below w.heap.size w w' := by
  go_enter Tryz.func29, Tryz.ntmps29
  go_wp2_with fail
  refine (tright_is (show rightT 4 l = true by simp [rightT]; exact hl.out) _).mono ?_
  rintro e w1 ⟨rfl, hb⟩
  obtain ⟨d0, d1, h1⟩ := mono_keep hb
  clear hb
  have n1 := (hL.keep h1).name 4
  rw [show namesV[4]? = some (.string ⟨#[99, 104, 97, 114]⟩) from rfl] at n1
  go_wp2_with fail
  refine (tkind_is (show kindT 4 l = 2 by rw [kindT, if_pos (show rightT 4 l = true by simp [rightT]; exact hl.out)]; rfl) _).mono ?_
  rintro e w2 ⟨rfl, hb⟩
  replace d0 := cell_keep hb d0
  replace d1 := cell_keep hb d1
  replace h1 := keepA h1 hb
  clear hb n1
  have h2 : Hid (-9223372036854775808 ≤ l ∧ l ≤ 9223372036854775807) := by have := hl.out; show _ ∧ _; omega
  have hz := itoaB_size h2.out
  go_wp2_with (go_at_call 60; refine (titoa_any l a _ h2.out (hL.keep h1)).mono ?_; rintro e w3 ⟨rfl, hb⟩; replace h1 := keepA h1 hb; clear hb)
  go_ret
  exact ⟨ret_s (name_cat _ l), h1⟩
set_option maxHeartbeats 1000000 in
theorem tname_5 (l : Int) (hl : Hid (1 ≤ l ∧ l ≤ 100)) (a : Addr) (w : World) (hL : LibW a w) :
    Calls Tryz.prog 29 #[typ 5 l] w fun e w' => e = .returned (.string ⟨(([118, 97, 114, 99, 104, 97, 114] : List UInt8) ++ ([40] ++ Lib.itoa l ++ [41])).toArray⟩) ∧ Below w.heap.size w w' := by
  go_enter Tryz.func29, Tryz.ntmps29
  go_wp2_with fail
  refine (tright_is (show rightT 5 l = true by simp [rightT]; exact hl.out) _).mono ?_
  rintro e w1 ⟨rfl, hb⟩
  obtain ⟨d0, d1, h1⟩ := mono_keep hb
  clear hb
  have n1 := (hL.keep h1).name 5
  rw [show namesV[5]? = some (.string ⟨#[118, 97, 114, 99, 104, 97, 114]⟩) from rfl] at n1
  go_wp2_with fail
  refine (tkind_is (show kindT 5 l = 2 by rw [kindT, if_pos (show rightT 5 l = true by simp [rightT]; exact hl.out)]; rfl) _).mono ?_
  rintro e w2 ⟨rfl, hb⟩
  replace d0 := cell_keep hb d0
  replace d1 := cell_keep hb d1
  replace h1 := keepA h1 hb
  clear hb n1
  have h2 : Hid (-9223372036854775808 ≤ l ∧ l ≤ 9223372036854775807) := by have := hl.out; show _ ∧ _; omega
  have hz := itoaB_size h2.out
  go_wp2_with (go_at_call 60; refine (titoa_any l a _ h2.out (hL.keep h1)).mono ?_; rintro e w3 ⟨rfl, hb⟩; replace h1 := keepA h1 hb; clear hb)
  go_ret
  exact ⟨ret_s (name_cat _ l), h1⟩
set_option maxHeartbeats 1000000 in
theorem tname_6 (a : Addr) (w : World) (hL : LibW a w) :
    Calls Tryz.prog 29 #[typ 6 0] w fun e w' => e = .returned (.string ⟨#[98, 111, 111, 108, 101, 97, 110]⟩) ∧ Below w.heap.size w w' := by
  go_enter Tryz.func29, Tryz.ntmps29
  go_wp2_with fail
  refine (tright_is (show rightT 6 0 = true from rfl) _).mono ?_
  rintro e w1 ⟨rfl, hb⟩
  obtain ⟨d0, d1, h1⟩ := mono_keep hb
  clear hb
  have n1 := (hL.keep h1).name 6
  rw [show namesV[6]? = some (.string ⟨#[98, 111, 111, 108, 101, 97, 110]⟩) from rfl] at n1
  go_wp2_with fail
  refine (tkind_is (show kindT 6 0 = 3 from rfl) _).mono ?_
  rintro e w2 ⟨rfl, hb⟩
  replace d0 := cell_keep hb d0
  replace d1 := cell_keep hb d1
  replace h1 := keepA h1 hb
  clear hb n1
  go_wp2
  go_ret
  exact ⟨rfl, h1⟩
theorem tname_any (b l : Int) (a : Addr) (w : World) (hL : LibW a w) :
    Calls Tryz.prog 29 #[typ b l] w fun e w' => e = .returned (.string ⟨(nameT b l).toArray⟩) ∧ Below w.heap.size w w' := by
  cases hr : rightT b l
  · rw [show nameT b l = [] by simp [nameT, hr]]
    exact tname_wrong b l w hr
  · rcases right_cases hr with ⟨rfl | rfl | rfl | rfl, rfl⟩ | ⟨rfl | rfl, hl⟩
    · exact tname_1 a w hL
    · exact tname_2 a w hL
    · exact tname_3 a w hL
    · exact tname_6 a w hL
    · rw [show nameT 4 l = nameOf 4 ++ ([40] ++ Lib.itoa l ++ [41]) by simp [nameT, hr]]
      exact tname_4 l hl a w hL
    · rw [show nameT 5 l = nameOf 5 ++ ([40] ++ Lib.itoa l ++ [41]) by simp [nameT, hr]]
      exact tname_5 l hl a w hL
end Go.Proofs.YtfmnlgepllgpnaaGreatDoor

/- The ground of the texts of layer 2: values, boxes, the makers of values, blanks at a text's end, a raw value's right value. -/
import Derived.Test.YtfmnlgepllgpnaaGreatDoorRows
import Derived.WalkKit
import Derived.WalkSpells
import Derived.WalkLawsBesides
import Derived.Lib.Strings
import Derived.Deep.QuietTactic
import Derived.BigQuiet
import Derived.Deep.RegionHeld3
namespace Go.Proofs.YtfmnlgepllgpnaaGreatDoor
open Go.RowKit
set_option linter.unusedVariables false
theorem ret_int {k : IntKind} {a b : Int} (h : a = b) : Ending.returned (.int k a) = .returned (.int k b) := by rw [h]

abbrev val (k n : Int) (s : ByteArray) (b : Bool) : Value := .agg #[.int .i64 k, .int .i64 n, .string s, .bool b]
abbrev sDone : ByteArray := ⟨#[48, 48, 48, 48, 48]⟩
abbrev nullV : Value := val 0 0 ⟨#[]⟩ false

set_option maxHeartbeats 400000 in
theorem num_any (n : Int) (w : World) :
    Calls Tryz.prog 20 #[.int .i64 n] w fun e w' => e = .returned (val 1 n ⟨#[]⟩ false) ∧ Below w.heap.size w w' := by
  go_enter Tryz.func20, Tryz.ntmps20
  go_wp2
  exact bodyPost_ret (v := val 1 n ⟨#[]⟩ false) (by simp [results, Tryz.results20, go_sem]) rfl ⟨rfl, (Below.refl _ _).alloc (Nat.le_refl _) _⟩

set_option maxHeartbeats 400000 in
theorem text_any (s : ByteArray) (w : World) :
    Calls Tryz.prog 21 #[.string s] w fun e w' => e = .returned (val 2 0 s false) ∧ Below w.heap.size w w' := by
  go_enter Tryz.func21, Tryz.ntmps21
  go_wp2
  exact bodyPost_ret (v := val 2 0 s false) (by simp [results, Tryz.results21, go_sem]) rfl ⟨rfl, (Below.refl _ _).alloc (Nat.le_refl _) _⟩


theorem bcell {W w1 : World} (hb : Below W.heap.size W w1) : (∀ b o, b < W.heap.size → w1.cell? ⟨b, o, none⟩ = W.cell? ⟨b, o, none⟩) ∧ (∀ b o, b < W.heap.size → w1.frozen? ⟨b, o, none⟩ = W.frozen? ⟨b, o, none⟩) :=
  ⟨fun b o h => hb.cell (p := ⟨b, o, none⟩) h, fun b o h => hb.frozen (p := ⟨b, o, none⟩) h⟩

theorem keepA {W0 W w' : World} (h : Below W0.heap.size W0 W) (hb : Below W.heap.size W w') : Below W0.heap.size W0 w' := h.trans (hb.mono h.size)

structure Box (w : World) (b : Nat) (K N : Int) (S : ByteArray) (B : Bool) : Prop where
  c0 : w.cell? ⟨b, 0, none⟩ = some (.int .i64 K)
  c1 : w.cell? ⟨b, 1, none⟩ = some (.int .i64 N)
  c2 : w.cell? ⟨b, 2, none⟩ = some (.string S)
  c3 : w.cell? ⟨b, 3, none⟩ = some (.bool B)
theorem cell_keep {W w' : World} (hb : Below W.heap.size W w') {b o : Nat} {v : Value} (h : W.cell? ⟨b, o, none⟩ = some v) : w'.cell? ⟨b, o, none⟩ = some v :=
  (hb.cell (p := ⟨b, o, none⟩) (World.block_lt_of_cell? W _ h)).trans h
theorem Box.keep {W w' : World} {b : Nat} {K N : Int} {S : ByteArray} {B : Bool} (h : Box W b K N S B) (hb : Below W.heap.size W w') : Box w' b K N S B :=
  ⟨cell_keep hb h.c0, cell_keep hb h.c1, cell_keep hb h.c2, cell_keep hb h.c3⟩
theorem Box.lt {W : World} {b : Nat} {K N : Int} {S : ByteArray} {B : Bool} (h : Box W b K N S B) : b < W.heap.size := World.block_lt_of_cell? W _ h.c0
theorem Box.alloc {W : World} {b : Nat} {K N : Int} {S : ByteArray} {B : Bool} (h : Box W b K N S B) (o : Obj) : Box (W.alloc o) b K N S B :=
  h.keep ((Below.refl _ _).alloc (Nat.le_refl _) o)
theorem Box.new (W : World) (K N : Int) (S : ByteArray) (B : Bool) (t : Nat) : Box (W.alloc (.cells #[.int .i64 K, .int .i64 N, .string S, .bool B] t)) W.heap.size K N S B :=
  ⟨by go_simp, by go_simp, by go_simp, by go_simp⟩
theorem Box.newAt {W : World} {b : Nat} (K N : Int) (S : ByteArray) (B : Bool) (t : Nat) (hb : b = W.heap.size) : Box (W.alloc (.cells #[.int .i64 K, .int .i64 N, .string S, .bool B] t)) b K N S B := by
  subst hb; exact Box.new W K N S B t
theorem below_alloc {W w : World} (h : Below w.heap.size w W) (o : Obj) : Below w.heap.size w (W.alloc o) := h.alloc h.size o

/-- A list of bytes without the blanks at its end. -/
def trimL (l : List UInt8) : List UInt8 := (l.reverse.dropWhile (· == 32)).reverse
theorem trimL_blank (l : List UInt8) : trimL (l ++ [32]) = trimL l := by simp [trimL]
theorem trimL_other (l : List UInt8) (c : UInt8) (h : (c == 32) = false) : trimL (l ++ [c]) = l ++ [c] := by simp [trimL, h]

theorem ext_list (u : ByteArray) (n : Nat) : (u.extract 0 n).data.toList = u.data.toList.take n := by
  rw [Lib.extract_data]; simp
theorem split_last (u : ByteArray) (h : 0 < u.size) : u.data.toList = u.data.toList.take (u.size - 1) ++ [u[u.size - 1]] := by
  have h1 : u.size - 1 < u.data.toList.length := by simp; omega
  have h2 := List.take_succ_eq_append_getElem h1
  have h3 : u.size - 1 + 1 = u.data.toList.length := by simp; omega
  rw [h3, List.take_length] at h2
  exact h2
theorem trim_cut (u : ByteArray) (h : 0 < u.size) (hc : (u[u.size - 1].toNat : Int) = 32) : trimL (u.extract 0 (u.size - 1)).data.toList = trimL u.data.toList := by
  have h1 := split_last u h
  have h2 : u[u.size - 1] = 32 := by
    apply UInt8.toNat_inj.1; show _ = 32; omega
  rw [ext_list]
  conv => rhs; rw [h1, h2]
  rw [trimL_blank]
theorem trim_stay (u : ByteArray) (h : 0 < u.size) (hc : ¬ (u[u.size - 1].toNat : Int) = 32) : trimL u.data.toList = u.data.toList := by
  have h1 := split_last u h
  have h2 : (u[u.size - 1] == 32) = false := by
    rw [beq_eq_false_iff_ne]
    intro e; apply hc; rw [e]; rfl
  conv => lhs; rw [h1]
  rw [trimL_other _ _ h2, ← h1]
theorem trim_none (u : ByteArray) (h : ¬ 0 < u.size) : trimL u.data.toList = u.data.toList := by
  have h1 : u.data.toList = [] := List.eq_nil_of_length_eq_zero (by have : u.data.toList.length = u.size := by simp
                                                                    omega)
  rw [h1]; rfl
theorem ret_str {u : ByteArray} {l : List UInt8} (h : u.data.toList = l) : Ending.returned (.string u) = .returned (.string ⟨l.toArray⟩) := by
  subst h; rfl
def sizeV (t : Value) : Nat := match t with | .string u => u.size | _ => 0
theorem sizeV_str (u : ByteArray) : sizeV (.string u) = u.size := rfl

set_option maxHeartbeats 400000 in
theorem trimByte_any (s : ByteArray) (w : World) (hs : s.size ≤ maxLen) :
    Calls Tryz.prog 44 #[.string s, .int .u8 32] w fun e w' => e = .returned (.string ⟨(trimL s.data.toList).toArray⟩) ∧ w' = w := by
  unfold maxLen at hs
  go_enter Tryz.func44, Tryz.ntmps44
  go_wp2
  go_loop [0] (fun t => ∃ u : ByteArray, u.size ≤ s.size ∧ t = .string u ∧ trimL u.data.toList = trimL s.data.toList) sizeV
  case atStart => exact ⟨s, Nat.le_refl _, rfl, rfl⟩
  case round =>
    obtain ⟨u, hk, rfl, hT⟩ := hrel
    have HT : Hid (trimL u.data.toList = trimL s.data.toList) := hT
    clear hT
    by_cases h0 : 0 < u.size
    · go_wp2
      · rename_i hc
        refine ⟨⟨u.extract 0 (u.size - 1), by simp; omega, rfl, (trim_cut u h0 (by simpa using hc)).trans HT.out⟩, by rw [sizeV_str, sizeV_str]; simp; omega⟩
      · rename_i hc
        go_ret
        exact ⟨ret_str ((trim_stay u h0 (by simpa using hc)).symm.trans HT.out), rfl⟩
    · go_wp2
      go_ret
      exact ⟨ret_str ((trim_none u h0).symm.trans HT.out), rfl⟩

set_option maxRecDepth 100000 in
set_option maxHeartbeats 400000 in
theorem trimRight_any (s : ByteArray) (w : World) (hs : s.size ≤ maxLen) :
    Calls Tryz.prog 82 #[.string s, .string ⟨#[32]⟩] w fun e w' => e = .returned (.string ⟨(trimL s.data.toList).toArray⟩) ∧ w' = w := by
  have e32 : (({ data := #[32] } : ByteArray)[0].toNat : Int) = 32 := rfl
  cases h : s.toList.isEmpty
  · go_enter Tryz.func82, Tryz.ntmps82
    go_wp2_with (go_at_call 44; refine (trimByte_any _ _ hs).mono ?_; rintro e w' ⟨rfl, rfl⟩)
    go_ret
    exact ⟨rfl, rfl⟩
  · have h2 : s.data.toList = [] := by have := List.isEmpty_iff.1 h; rwa [Lib.toList_data] at this
    go_enter Tryz.func82, Tryz.ntmps82
    go_wp2_with fail
    go_ret
    exact ⟨ret_str (by rw [h2]; rfl), rfl⟩



/-- A right value: its kind, number, text and truth. -/
def RightV (K N : Int) (S : ByteArray) (B : Bool) : Prop :=
  (K = 0 ∧ N = 0 ∧ S = ⟨#[]⟩ ∧ B = false) ∨ (K = 1 ∧ S = ⟨#[]⟩ ∧ B = false) ∨ (K = 2 ∧ N = 0 ∧ B = false) ∨ (K = 3 ∧ N = 0 ∧ S = ⟨#[]⟩)

theorem tmod4 {x : Int} (h : x ≤ 0) : -3 ≤ x.tmod 4 ∧ x.tmod 4 ≤ 0 := by
  obtain ⟨n, hn⟩ := Int.eq_ofNat_of_zero_le (a := -x) (by omega)
  obtain rfl : x = -(n : Int) := by omega
  rw [Int.neg_tmod, Int.tmod_eq_emod_of_nonneg (by omega)]
  omega
set_option maxHeartbeats 400000 in
theorem pick4_any (c : Int) (w : World) (h1 : -9223372036854775808 ≤ c) (h2 : c ≤ 9223372036854775807) :
    Calls Tryz.prog 19 #[.int .i64 c, .int .i64 4] w fun e w' => (∃ p : Int, 0 ≤ p ∧ p ≤ 3 ∧ e = .returned (.int .i64 p)) ∧ w' = w := by
  by_cases h : c < 0
  · go_enter Tryz.func19, Tryz.ntmps19
    go_wp2
    have h3 := tmod4 (x := c + 1) (by omega)
    go_ret
    exact ⟨⟨_, by omega, by omega, rfl⟩, rfl⟩
  · go_enter Tryz.func19, Tryz.ntmps19
    go_wp2
    go_ret
    exact ⟨⟨_, by omega, by omega, rfl⟩, rfl⟩

set_option maxHeartbeats 400000 in
theorem rawValue_any (k n : Int) (s : ByteArray) (b : Bool) (w : World) (h1 : -9223372036854775808 ≤ k ∧ k ≤ 9223372036854775807) :
    Calls Tryz.prog 5 #[val k n s b] w fun e w' => (∃ (K N : Int) (S : ByteArray) (B : Bool), e = .returned (val K N S B) ∧ RightV K N S B ∧ (N = 0 ∨ N = n) ∧ (S = ⟨#[]⟩ ∨ S = s)) ∧ Below w.heap.size w w' := by
  go_enter Tryz.func5, Tryz.ntmps5
  go_wp2_with fail
  refine (pick4_any k _ h1.1 h1.2).mono ?_
  rintro e w1 ⟨⟨p, p0, p3, rfl⟩, rfl⟩
  have hp : p = 0 ∨ p = 1 ∨ p = 2 ∨ p = 3 := by omega
  clear p0 p3 h1
  rcases hp with rfl | rfl | rfl | rfl
  · go_wp2
    exact bodyPost_ret (v := val 0 0 ⟨#[]⟩ false) (by simp [results, Tryz.results5, go_sem]) rfl ⟨⟨0, 0, ⟨#[]⟩, false, rfl, Or.inl ⟨rfl, rfl, rfl, rfl⟩, Or.inl rfl, Or.inl rfl⟩, (by repeat (first | exact Below.refl _ _ | assumption | refine Below.alloc ?_ (by first | (simp; done) | (simp; omega)) _ | refine Below.setCell ?_ (by first | (simp; done) | (simp; omega)) _ | refine Below.drew ?_ | refine below_drewN ?_ _))⟩
  · go_wp2_with (go_at_call 20; refine (num_any _ _).mono ?_; rintro e w1 ⟨rfl, hb⟩; obtain ⟨hcl, hfr⟩ := bcell hb)
    exact bodyPost_ret (v := val 1 n ⟨#[]⟩ false) (by simp [results, Tryz.results5, go_sem, hcl]) rfl ⟨⟨1, n, ⟨#[]⟩, false, rfl, Or.inr (Or.inl ⟨rfl, rfl, rfl⟩), Or.inr rfl, Or.inl rfl⟩, (by repeat (first | exact Below.refl _ _ | assumption | refine Below.alloc ?_ (by first | (simp; done) | (simp; omega)) _ | refine Below.setCell ?_ (by first | (simp; done) | (simp; omega)) _ | refine Below.drew ?_ | refine below_drewN ?_ _ | refine Below.trans ?_ (hb.mono (by first | (simp; done) | (simp; omega)))))⟩
  · go_wp2_with (go_at_call 21; refine (text_any _ _).mono ?_; rintro e w1 ⟨rfl, hb⟩; obtain ⟨hcl, hfr⟩ := bcell hb)
    exact bodyPost_ret (v := val 2 0 s false) (by simp [results, Tryz.results5, go_sem, hcl]) rfl ⟨⟨2, 0, s, false, rfl, Or.inr (Or.inr (Or.inl ⟨rfl, rfl, rfl⟩)), Or.inl rfl, Or.inr rfl⟩, (by repeat (first | exact Below.refl _ _ | assumption | refine Below.alloc ?_ (by first | (simp; done) | (simp; omega)) _ | refine Below.setCell ?_ (by first | (simp; done) | (simp; omega)) _ | refine Below.drew ?_ | refine below_drewN ?_ _ | refine Below.trans ?_ (hb.mono (by first | (simp; done) | (simp; omega)))))⟩
  · go_wp2
    exact bodyPost_ret (v := val 3 0 ⟨#[]⟩ b) (by simp [results, Tryz.results5, go_sem]) rfl ⟨⟨3, 0, ⟨#[]⟩, b, rfl, Or.inr (Or.inr (Or.inr ⟨rfl, rfl, rfl⟩)), Or.inl rfl, Or.inl rfl⟩, (by repeat (first | exact Below.refl _ _ | assumption | refine Below.alloc ?_ (by first | (simp; done) | (simp; omega)) _ | refine Below.setCell ?_ (by first | (simp; done) | (simp; omega)) _ | refine Below.drew ?_ | refine below_drewN ?_ _))⟩
end Go.Proofs.YtfmnlgepllgpnaaGreatDoor

/- The walks of value.onlyAny and value.Like, for every text and pattern. -/
import Derived.Test.YticlmegcpneckaaDoorOrder1
import Derived.Test.YticlmegcpneckaaDoorLikeMath
import Derived.WalkKit
import Derived.WalkSpells
import Derived.WalkLawsBesides
import Derived.Deep.QuietTactic
import Derived.BigQuiet
import Derived.Lib.Strings
namespace Go.Proofs.YticlmegcpneckaaDoor
open Go.RowKit
set_option linter.unusedVariables false

theorem ret_bool {a b : Bool} (h : a = b) : Ending.returned (.bool a) = .returned (.bool b) := by rw [h]
def allPct (l : List UInt8) : Bool := l.all (· == 37)
theorem len_list (s : ByteArray) : s.data.toList.length = s.size := by simp
theorem at_list (s : ByteArray) (k : Nat) (h : k < s.size) : s.data.toList[k]'(by rw [len_list]; exact h) = s[k] := by simp; rfl
theorem byte37 {c : UInt8} (h : ((c.toNat : Int) != 37) = false) : c = 37 := by
  have : c.toNat = 37 := by simp at h; omega
  apply UInt8.toNat_inj.1; exact this
theorem not37 {c : UInt8} (h : ((c.toNat : Int) != 37) = true) : c ≠ 37 := by
  rintro rfl
  simp at h
theorem pct_false (s : ByteArray) (k : Nat) (h : k < s.size) (hn : ((s[k].toNat : Int) != 37) = true) : allPct s.data.toList = false := by
  unfold allPct
  rw [List.all_eq_false]
  refine ⟨s[k], ?_, by simpa using not37 hn⟩
  rw [← at_list s k h]
  exact List.getElem_mem _
theorem pct_true (s : ByteArray) (h : ∀ k (hk : k < s.size), s[k] = 37) : allPct s.data.toList = true := by
  unfold allPct
  rw [List.all_eq_true]
  intro c hc
  obtain ⟨k, hk, rfl⟩ := List.getElem_of_mem hc
  rw [len_list] at hk
  rw [at_list s k hk, h k hk]; rfl
set_option maxHeartbeats 400000 in
theorem onlyAny_any (s : ByteArray) (w : World) (hs : s.size ≤ maxLen) :
    Calls Tryd.prog 64 #[.string s] w fun e w' => e = .returned (.bool (allPct s.data.toList)) ∧ w' = w := by
  unfold maxLen at hs
  go_enter Tryd.func64, Tryd.ntmps64
  go_wp2
  go_loop [6, 3] (fun i j => ∃ k : Nat, k ≤ s.size ∧ i = .int .i64 k ∧ ∀ j (hj : j < k) (hj2 : j < s.size), s[j] = 37) (fun i _ => s.size - (intOf i).toNat)
  case atStart => exact ⟨0, Nat.zero_le _, rfl, fun j hj => by omega⟩
  case round =>
    obtain ⟨k, hk, rfl, hall⟩ := hrel
    have HA : Hid (∀ j (hj : j < k) (hj2 : j < s.size), s[j] = 37) := hall
    clear hall
    by_cases hlt : k < s.size
    · cases hc : ((s[k].toNat : Int) != 37)
      · go_wp2
        refine ⟨⟨k + 1, hlt, by go_num, fun j hj hj2 => ?_⟩, by simp [intOf]; omega⟩
        by_cases e : j = k
        · subst e; exact byte37 hc
        · exact HA.out j (by omega) hj2
      · go_wp2
        go_ret
        exact ⟨ret_bool (pct_false s k hlt hc).symm, rfl⟩
    · go_wp2
      go_ret
      exact ⟨ret_bool (pct_true s fun j hj => HA.out j (by omega) hj).symm, rfl⟩

def BackIs (back : Option (Nat × Nat)) (bi fi : Int) : Prop := match back with
  | none => bi = -1
  | some (x, f) => bi = x ∧ fi = f
def measL (N P : Nat) (a bi fi : Int) : Nat := ((P + 2 - (bi + 1).toNat) * (N + 1) + (N - fi.toNat)) * (N + 1) + (N - a.toNat)
theorem lex1 {N X X' z z' : Nat} (h : X' < X) (hz : z' ≤ N) : X' * (N + 1) + z' < X * (N + 1) + z := by
  have h1 : (X' + 1) * (N + 1) ≤ X * (N + 1) := Nat.mul_le_mul_right _ h
  rw [Nat.add_mul] at h1
  omega
theorem meas_pct {N P : Nat} {a bi fi : Int} {b : Nat} (hb : bi ≤ b) (hb1 : -1 ≤ bi) (hp : b < P) : measL N P a ((b : Int) + 1) a < measL N P a bi fi :=
  lex1 (lex1 (by omega) (by omega)) (by omega)
theorem meas_back {N P : Nat} {a bi fi : Int} (hf : 0 ≤ fi) (hN : fi < N) : measL N P (fi + 1) bi (fi + 1) < measL N P a bi fi :=
  lex1 (by have : N - (fi + 1).toNat < N - fi.toNat := by omega
           omega) (by omega)
theorem meas_step {N P : Nat} {a bi fi : Int} (h0 : 0 ≤ a) (hN : a < N) : measL N P (a + 1) bi fi < measL N P a bi fi := by
  have : N - (a + 1).toNat < N - a.toNat := by omega
  unfold measL; omega
theorem eq37 {c : UInt8} (h : ((c.toNat : Int) == 37) = true) : c = 37 := by
  have : c.toNat = 37 := by simp at h; omega
  apply UInt8.toNat_inj.1; exact this
theorem ne37 {c : UInt8} (h : ((c.toNat : Int) == 37) = false) : c ≠ 37 := by rintro rfl; simp at h
theorem eq95 {c : UInt8} (h : ((c.toNat : Int) == 95) = true) : c = 95 := by
  have : c.toNat = 95 := by simp at h; omega
  apply UInt8.toNat_inj.1; exact this
theorem ne95 {c : UInt8} (h : ((c.toNat : Int) == 95) = false) : c ≠ 95 := by rintro rfl; simp at h
theorem eqcc {c d : UInt8} (h : ((c.toNat : Int) == (d.toNat : Int)) = true) : c = d := by
  apply UInt8.toNat_inj.1; simp at h; omega
theorem necc {c d : UInt8} (h : ((c.toNat : Int) == (d.toNat : Int)) = false) : c ≠ d := by rintro rfl; simp at h

theorem like_step {t p : ByteArray} {a b : Nat} {back : Option (Nat × Nat)} (h : LikeInv t.data.toList p.data.toList a b back) (hp : b < p.size) (ht : a < t.size) (c37 : ((p[b].toNat : Int) == 37) = false)
    (hm : ((p[b].toNat : Int) == 95) = true ∨ ((p[b].toNat : Int) == (t[a].toNat : Int)) = true) : LikeInv t.data.toList p.data.toList (a + 1) (b + 1) back := by
  refine inv_step h (by rw [len_list]; exact hp) (by rw [len_list]; exact ht) ?_ ?_
  · rw [at_list p b hp]; exact ne37 c37
  · rw [at_list p b hp, at_list t a ht]
    rcases hm with hm | hm
    · exact Or.inl (eq95 hm)
    · exact Or.inr (eqcc hm)
theorem like_stuck {t p : ByteArray} {a b : Nat} (hp : b < p.size) (ht : a < t.size) (c37 : ((p[b].toNat : Int) == 37) = false) (c95 : ((p[b].toNat : Int) == 95) = false) (ceq : ((p[b].toNat : Int) == (t[a].toNat : Int)) = false) :
    Stuck t.data.toList p.data.toList a b := by
  intro hp2
  rw [at_list p b hp]
  refine ⟨ne37 c37, fun ht2 => ?_⟩
  rw [at_list t a ht]
  rintro (h | h)
  · exact ne95 c95 h
  · exact necc ceq h
theorem like_stuck0 {t p : ByteArray} {a b : Nat} (hp : ¬ b < p.size) : Stuck t.data.toList p.data.toList a b := by
  intro hp2
  rw [len_list] at hp2
  exact absurd hp2 hp
theorem like_end {t p : ByteArray} {a b : Nat} {back : Option (Nat × Nat)} (h : LikeInv t.data.toList p.data.toList a b back) (hlt : ¬ a < t.size) : likeL p.data.toList t.data.toList = allPct (List.take (p.size - b) (List.drop b p.data.toList)) := by
  rw [inv_end h (by rw [len_list]; exact hlt)]
  unfold allPct
  rw [List.take_of_length_le (by simp)]

set_option maxHeartbeats 1000000 in
theorem like_any (t p : ByteArray) (w : World) (ht : t.size ≤ maxLen) (hp : p.size ≤ maxLen) :
    Calls Tryd.prog 39 #[.string t, .string p] w fun e w' => e = .returned (.bool (likeL p.data.toList t.data.toList)) ∧ Below w.heap.size w w' := by
  unfold maxLen at ht hp
  go_enter Tryd.func39, Tryd.ntmps39
  go_wp2
  go_loopw [5, 6, 7, 8] (fun at_ part behind from_ w' => ∃ (a b : Nat) (back : Option (Nat × Nat)) (bi fi : Int), at_ = .int .i64 a ∧ part = .int .i64 b ∧ behind = .int .i64 bi ∧ from_ = .int .i64 fi ∧ Hid (LikeInv t.data.toList p.data.toList a b back) ∧ Hid (BackIs back bi fi) ∧ -1 ≤ bi ∧ bi ≤ b ∧ 0 ≤ fi ∧ fi ≤ a ∧ a ≤ t.size ∧ b ≤ p.size ∧ Below w.heap.size w w') (fun at_ part behind from_ w' => measL t.size p.size (intOf at_) (intOf behind) (intOf from_))
  case atStart => exact ⟨0, 0, none, -1, 0, rfl, rfl, rfl, rfl, inv_start _ _, rfl, by omega, by omega, by omega, by omega, Nat.zero_le _, Nat.zero_le _, Below.refl _ _⟩
  case round =>
    obtain ⟨a, b, back, bi, fi, rfl, rfl, rfl, rfl, HI, HB, h1, h2, h3, h4, h5, h6, hb⟩ := hrel
    by_cases hlt : a < t.size
    · by_cases hpl : b < p.size
      · cases c37 : ((p[b].toNat : Int) == 37)
        · cases c95 : ((p[b].toNat : Int) == 95)
          · cases ceq : ((p[b].toNat : Int) == (t[a].toNat : Int))
            · have hst : Hid (Stuck t.data.toList p.data.toList a b) := like_stuck hpl hlt c37 c95 ceq
              go_wp2
              go_quiet (fail)
              cases back with
              | none =>
                obtain rfl : bi = -1 := HB.out
                go_wp2
                go_ret
                exact ⟨ret_bool (inv_false HI.out (by rw [len_list]; exact hlt) hst.out).symm, by repeat (first | assumption | refine Below.drew ?_ | refine below_drewN ?_ _)⟩
              | some bf =>
                obtain ⟨x, f⟩ := bf
                obtain ⟨rfl, rfl⟩ : bi = (x : Int) ∧ fi = (f : Int) := HB.out
                go_wp2
                refine ⟨⟨f + 1, x, some (x, f + 1), x, (f : Int) + 1, by go_num, rfl, rfl, rfl, inv_back HI.out (by rw [len_list]; exact hlt) hst.out, ⟨rfl, by omega⟩, by omega, by omega, by omega, by omega, by omega, by omega, by repeat (first | assumption | refine Below.drew ?_ | refine below_drewN ?_ _)⟩, ?_⟩
                simpa [intOf] using meas_back (by omega) (by omega)
            · go_wp2
              go_quiet (fail)
              go_wp2
              refine ⟨⟨a + 1, b + 1, back, bi, fi, by go_num, by go_num, rfl, rfl, like_step HI.out hpl hlt c37 (Or.inr ceq), HB, by omega, by omega, by omega, by omega, by omega, by omega, by repeat (first | assumption | refine Below.drew ?_ | refine below_drewN ?_ _)⟩, ?_⟩
              simpa [intOf] using meas_step (by omega) (by omega)
          · go_wp2
            go_quiet (fail)
            go_wp2
            refine ⟨⟨a + 1, b + 1, back, bi, fi, by go_num, by go_num, rfl, rfl, like_step HI.out hpl hlt c37 (Or.inl c95), HB, by omega, by omega, by omega, by omega, by omega, by omega, by repeat (first | assumption | refine Below.drew ?_ | refine below_drewN ?_ _)⟩, ?_⟩
            simpa [intOf] using meas_step (by omega) (by omega)
        · go_wp2
          refine ⟨⟨a, b + 1, some (b + 1, a), (b : Int) + 1, a, rfl, by go_num, rfl, rfl, inv_pct HI.out (by rw [len_list]; exact hpl) (by rw [at_list p b hpl]; exact eq37 c37), ⟨by omega, rfl⟩, by omega, by omega, by omega, by omega, by omega, by omega, hb⟩, ?_⟩
          simpa [intOf] using meas_pct (by omega) (by omega) hpl
      · have hst : Hid (Stuck t.data.toList p.data.toList a b) := like_stuck0 hpl
        have hd : decide ((b : Int) < (p.size : Int)) = false := by simp; omega
        go_wp2
        go_quiet (fail)
        cases back with
        | none =>
          obtain rfl : bi = -1 := HB.out
          go_wp2
          go_ret
          exact ⟨ret_bool (inv_false HI.out (by rw [len_list]; exact hlt) hst.out).symm, by repeat (first | assumption | refine Below.drew ?_ | refine below_drewN ?_ _)⟩
        | some bf =>
          obtain ⟨x, f⟩ := bf
          obtain ⟨rfl, rfl⟩ : bi = (x : Int) ∧ fi = (f : Int) := HB.out
          go_wp2
          refine ⟨⟨f + 1, x, some (x, f + 1), x, (f : Int) + 1, by go_num, rfl, rfl, rfl, inv_back HI.out (by rw [len_list]; exact hlt) hst.out, ⟨rfl, by omega⟩, by omega, by omega, by omega, by omega, by omega, by omega, by repeat (first | assumption | refine Below.drew ?_ | refine below_drewN ?_ _)⟩, ?_⟩
          simpa [intOf] using meas_back (by omega) (by omega)
    · go_wp2_with fail
      refine (onlyAny_any _ _ (by unfold maxLen; simp; omega)).mono ?_
      rintro e w2 ⟨rfl, rfl⟩
      go_wp2
      go_ret
      exact ⟨ret_bool (like_end HI.out hlt).symm, hb⟩
end Go.Proofs.YticlmegcpneckaaDoor

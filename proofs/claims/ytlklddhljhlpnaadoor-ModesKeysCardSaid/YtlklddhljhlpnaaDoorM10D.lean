/- The walks of Join, the program's and the document's, and of the law's own pick. -/
import Derived.Test.YtlklddhljhlpnaaDoorM10C
import Derived.Deep.QuietTactic
namespace Go.Proofs.YtlklddhljhlpnaaDoor
open Go.RowKit Go.Joins
set_option linter.unusedVariables false
set_option linter.unusedSimpArgs false

theorem keepA {W0 W w' : World} (h : Below W0.heap.size W0 W) (hb : Below W.heap.size W w') : Below W0.heap.size W0 w' := h.trans (hb.mono h.size)
def pj (a b : Int) (m : Nat) : Bool := cv m a && cv m b
def ls (a b : Int) (m : Nat) (k : Nat) : Bool := (List.range k).all fun j => !cv j a || !cv j b || cv j m
def jn (a b : Int) : Int := ((List.range 7).find? (pj a b)).elim 0 fun m => (m : Int)
def rj (a b : Int) : Int := ((List.range 7).find? fun m => pj a b m && ls a b m 7).elim 0 fun m => (m : Int)
theorem find_first (p : Nat → Bool) : ∀ n k, k < n → (∀ j, j < k → p j = false) → p k = true → (List.range n).find? p = some k := by
  intro n k hk h0 h1
  rw [List.find?_range_eq_some]
  exact ⟨h1, by simpa using hk, fun j hj => by simp [h0 j hj]⟩
theorem find_none (p : Nat → Bool) (n : Nat) (h : ∀ j, j < n → p j = false) : (List.range n).find? p = none := by
  rw [List.find?_eq_none]
  intro x hx
  have := h x (by simpa using hx)
  simp [this]
theorem jn_at {a b : Int} {k : Nat} (hk : k < 7) (h0 : ∀ j, j < k → pj a b j = false) (h1 : pj a b k = true) : jn a b = k := by
  rw [jn, find_first _ 7 k hk h0 h1]; rfl
theorem jn_no {a b : Int} (h0 : ∀ j, j < 7 → pj a b j = false) : jn a b = 0 := by
  rw [jn, find_none _ 7 h0]; rfl
theorem rj_at {a b : Int} {k : Nat} (hk : k < 7) (h0 : ∀ j, j < k → (pj a b j && ls a b j 7) = false) (h1 : (pj a b k && ls a b k 7) = true) : rj a b = k := by
  rw [rj, find_first _ 7 k hk h0 h1]; rfl
theorem rj_no {a b : Int} (h0 : ∀ j, j < 7 → (pj a b j && ls a b j 7) = false) : rj a b = 0 := by
  rw [rj, find_none _ 7 h0]; rfl
theorem cv_out {x y : Int} (h : rt y = false) : cv x y = false := by simp [cv, h]
theorem rj_jn (a b : Int) : rj a b = jn a b := by
  cases ha : rt a with
  | false => rw [rj_no fun j _ => by simp [pj, cv_out ha], jn_no fun j _ => by simp [pj, cv_out ha]]
  | true =>
    cases hb : rt b with
    | false => rw [rj_no fun j _ => by simp [pj, cv_out hb], jn_no fun j _ => by simp [pj, cv_out hb]]
    | true =>
      rcases rt_cases ha with rfl | rfl | rfl | rfl | rfl | rfl | rfl <;> rcases rt_cases hb with rfl | rfl | rfl | rfl | rfl | rfl | rfl <;> rfl
theorem ls_succ (a b : Int) (m k : Nat) : ls a b m (k + 1) = (ls a b m k && (!cv k a || !cv k b || cv k m)) := by
  simp [ls, List.range_succ, List.all_append]
theorem first_succ {p : Nat → Bool} {k : Nat} (h0 : ∀ j, j < k → p j = false) (h : p k = false) : ∀ j, j < k + 1 → p j = false := fun j hj => by
  by_cases e : j = k
  · subst e; exact h
  · exact h0 j (by omega)
theorem covers_is {x y : Int} {t : Bool} (h : cv x y = t) (w : World) (hL : LibW w) :
    Calls Tryd.prog 14 #[.int .i64 x, .int .i64 y] w fun e w' => e = .returned (.bool t) ∧ Below w.heap.size w w' := by
  subst h
  exact (covers_any x y w hL).mono fun e w' ⟨he, q, hw⟩ => ⟨he, hw ▸ below_drewN (Below.refl _ _) q⟩
theorem cref_is {x y : Int} {t : Bool} (h : cv x y = t) (w : World) :
    Calls Tryd.prog 15 #[.int .i64 x, .int .i64 y] w fun e w' => e = .returned (.bool t) ∧ Below w.heap.size w w' := by
  subst h
  exact cov_ref x y w
set_option maxHeartbeats 4000000 in
theorem join_any (a b : Int) (w : World) (hL : LibW w) :
    Calls Tryd.prog 16 #[.int .i64 a, .int .i64 b] w fun e w' => e = .returned (.int .i64 (jn a b)) ∧ Below w.heap.size w w' := by
  go_enter Tryd.func16, Tryd.ntmps16
  go_wp2_with fail
  go_loopw [5] (fun i wr => ∃ k : Nat, i = .int .i64 k ∧ k ≤ 7 ∧ Hid (∀ j, j < k → pj a b j = false) ∧ Hid (Below w.heap.size w wr)) (fun i _ => 7 - (intOf i).toNat)
  case atStart => exact ⟨0, rfl, by omega, fun j hj => by omega, Below.refl _ _⟩
  case round =>
    rename World => wr
    obtain ⟨k, rfl, hk, H0, HB⟩ := hrel
    have L1 : Hid (LibW wr) := hL.keep HB.out
    by_cases h1 : k < 7
    · cases hc : cv k a with
      | false =>
        have HN : Hid (∀ j, j < k + 1 → pj a b j = false) := first_succ H0.out (by simp [pj, hc])
        clear H0
        go_wp2_with (go_at_call 14; refine (covers_is hc _ L1.out).mono ?_; rintro e w1 ⟨rfl, hb⟩)
        go_roundw
        case rel => exact ⟨k + 1, by go_num, by omega, HN, keepA HB.out hb⟩
        case measure => simp [intOf]; omega
      | true =>
        cases hd : cv k b with
        | false =>
          have HN : Hid (∀ j, j < k + 1 → pj a b j = false) := first_succ H0.out (by simp [pj, hd])
          clear H0
          go_wp2_with fail
          refine (covers_is hc _ L1.out).mono ?_
          rintro e w1 ⟨rfl, hb⟩
          go_wp2_with fail
          refine (covers_is hd _ (L1.out.keep hb)).mono ?_
          rintro e w2 ⟨rfl, hb2⟩
          go_wp2_with fail
          go_roundw
          case rel => exact ⟨k + 1, by go_num, by omega, HN, keepA (keepA HB.out hb) hb2⟩
          case measure => simp [intOf]; omega
        | true =>
          have HN : Hid (jn a b = k) := jn_at h1 H0.out (by simp [pj, hc, hd])
          clear H0
          go_wp2_with fail
          refine (covers_is hc _ L1.out).mono ?_
          rintro e w1 ⟨rfl, hb⟩
          go_wp2_with fail
          refine (covers_is hd _ (L1.out.keep hb)).mono ?_
          rintro e w2 ⟨rfl, hb2⟩
          go_wp2_with fail
          go_ret
          exact ⟨by rw [HN.out]; rfl, keepA (keepA HB.out hb) hb2⟩
    · obtain rfl : k = 7 := by omega
      have HN : Hid (jn a b = 0) := jn_no H0.out
      clear H0
      go_wp2_with fail
      go_ret
      exact ⟨by rw [HN.out]; rfl, HB.out⟩
set_option maxHeartbeats 8000000 in
theorem join_ref (a b : Int) (w : World) :
    Calls Tryd.prog 17 #[.int .i64 a, .int .i64 b] w fun e w' => e = .returned (.int .i64 (jn a b)) ∧ Below w.heap.size w w' := by
  rw [← rj_jn]
  go_enter Tryd.func17, Tryd.ntmps17
  go_wp2_with fail
  go_loopw [5] (fun i wr => ∃ k : Nat, i = .int .i64 k ∧ k ≤ 7 ∧ Hid (∀ j, j < k → (pj a b j && ls a b j 7) = false) ∧ Hid (Below w.heap.size w wr)) (fun i _ => 7 - (intOf i).toNat)
  case atStart => exact ⟨0, rfl, by omega, fun j hj => by omega, Below.refl _ _⟩
  case round =>
    rename World => wr
    obtain ⟨k, rfl, hk, H0, HB⟩ := hrel
    by_cases h1 : k < 7
    · cases hp : pj a b k with
      | false =>
        have HN : Hid (∀ j, j < k + 1 → (pj a b j && ls a b j 7) = false) := first_succ H0.out (by simp [hp])
        clear H0
        cases hc : cv k a <;> cases hd : cv k b
        · go_wp2_with fail
          refine (cref_is hc _).mono ?_
          rintro e w1 ⟨rfl, hb⟩
          go_wp2_with fail
          refine (cref_is hd _).mono ?_
          rintro e w2 ⟨rfl, hb2⟩
          go_wp2_with fail
          go_roundw
          case rel => exact ⟨k + 1, by go_num, by omega, HN, keepA (keepA HB.out hb) hb2⟩
          case measure => simp [intOf]; omega
        · go_wp2_with fail
          refine (cref_is hc _).mono ?_
          rintro e w1 ⟨rfl, hb⟩
          go_wp2_with fail
          refine (cref_is hd _).mono ?_
          rintro e w2 ⟨rfl, hb2⟩
          go_wp2_with fail
          go_roundw
          case rel => exact ⟨k + 1, by go_num, by omega, HN, keepA (keepA HB.out hb) hb2⟩
          case measure => simp [intOf]; omega
        · go_wp2_with fail
          refine (cref_is hc _).mono ?_
          rintro e w1 ⟨rfl, hb⟩
          go_wp2_with fail
          refine (cref_is hd _).mono ?_
          rintro e w2 ⟨rfl, hb2⟩
          go_wp2_with fail
          go_roundw
          case rel => exact ⟨k + 1, by go_num, by omega, HN, keepA (keepA HB.out hb) hb2⟩
          case measure => simp [intOf]; omega
        · exact absurd hp (by simp [pj, hc, hd])
      | true =>
        have hc : cv k a = true := by simp [pj] at hp; exact hp.1
        have hd : cv k b = true := by simp [pj] at hp; exact hp.2
        go_wp2_with fail
        refine (cref_is hc _).mono ?_
        rintro e w1 ⟨rfl, hb⟩
        go_wp2_with fail
        refine (cref_is hd _).mono ?_
        rintro e w2 ⟨rfl, hb2⟩
        have HB2 : Hid (Below w.heap.size w w2) := keepA (keepA HB.out hb) hb2
        clear hb hb2 HB
        go_wp2_with fail
        go_loopw [8, 9] (fun l i wx => ∃ t : Nat, l = .bool (ls a b k t) ∧ i = .int .i64 t ∧ t ≤ 7 ∧ Hid (Below w.heap.size w wx)) (fun _ i _ => 7 - (intOf i).toNat)
        case atStart => exact ⟨0, rfl, rfl, by omega, HB2⟩
        case round =>
          rename World => wx
          obtain ⟨t, rfl, rfl, ht, HX⟩ := hrel
          by_cases h2 : t < 7
          · have hs := ls_succ a b k t
            obtain ⟨l, hl⟩ : ∃ l, ls a b k t = l := ⟨_, rfl⟩
            obtain ⟨p, hp'⟩ : ∃ p, cv t a = p := ⟨_, rfl⟩
            obtain ⟨q, hq⟩ : ∃ q, cv t b = q := ⟨_, rfl⟩
            obtain ⟨r, hr⟩ : ∃ r, cv t k = r := ⟨_, rfl⟩
            rw [hl, hp', hq, hr] at hs
            rw [hl]
            go_wp2_with fail
            refine (cref_is hp' _).mono ?_
            rintro e w3 ⟨rfl, hb⟩
            go_wp2_with fail
            refine (cref_is hq _).mono ?_
            rintro e w4 ⟨rfl, hb2⟩
            go_wp2_with fail
            refine (cref_is hr _).mono ?_
            rintro e w5 ⟨rfl, hb3⟩
            have HX2 : Hid (Below w.heap.size w w5) := keepA (keepA (keepA HX.out hb) hb2) hb3
            clear hb hb2 hb3 HX hp' hq hr hl H0
            cases l <;> cases p <;> cases q <;> (go_wp2_with fail; go_roundw; (case rel => exact ⟨t + 1, by rw [hs]; rfl, by go_num, by omega, HX2⟩); (case measure => simp [intOf]; omega))
          · obtain rfl : t = 7 := by omega
            cases hl : ls a b k 7 with
            | false =>
              have HN : Hid (∀ j, j < k + 1 → (pj a b j && ls a b j 7) = false) := first_succ H0.out (by simp [hl])
              clear H0
              go_wp2_with fail
              go_roundw
              case rel => exact ⟨k + 1, by go_num, by omega, HN, HX⟩
              case measure => simp [intOf]; omega
            | true =>
              have HN : Hid (rj a b = k) := rj_at h1 H0.out (by simp [hp, hl])
              clear H0
              go_wp2_with fail
              go_ret
              exact ⟨by rw [HN.out]; rfl, HX.out⟩
    · obtain rfl : k = 7 := by omega
      have HN : Hid (rj a b = 0) := rj_no H0.out
      clear H0
      go_wp2_with fail
      go_ret
      exact ⟨by rw [HN.out]; rfl, HB.out⟩
theorem tmod7 {x : Int} (h : x ≤ 0) : -6 ≤ x.tmod 7 ∧ x.tmod 7 ≤ 0 := by
  have h1 := Int.neg_tmod (a := -x) (b := 7)
  rw [Int.neg_neg] at h1
  rw [h1, Int.tmod_eq_emod_of_nonneg (by omega)]
  omega
theorem pick7_any (c : Int) (w : World) (h0 : -9223372036854775808 ≤ c) (h1 : c ≤ 9223372036854775807) :
    Calls Tryd.prog 24 #[.int .i64 c, .int .i64 7] w fun e w' => (∃ x : Int, 0 ≤ x ∧ x ≤ 6 ∧ e = .returned (.int .i64 x)) ∧ w' = w := by
  by_cases h : c < 0
  · go_enter Tryd.func24, Tryd.ntmps24
    go_wp2
    have h3 := tmod7 (x := c + 1) (by omega)
    go_ret
    exact ⟨⟨_, by omega, by omega, rfl⟩, rfl⟩
  · go_enter Tryd.func24, Tryd.ntmps24
    go_wp2
    go_ret
    exact ⟨⟨_, by omega, by omega, rfl⟩, rfl⟩
end Go.Proofs.YtlklddhljhlpnaaDoor

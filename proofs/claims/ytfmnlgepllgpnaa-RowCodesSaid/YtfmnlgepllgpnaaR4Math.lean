/- Plain mathematics of rows as bytes: the form of a row, which is read in one way. -/
import Derived.Test.YtfmnlgepllgpnaaR4Base
namespace Go.Proofs.Ytfmnlgepllgpnaa
set_option linter.unusedVariables false

/-- k bytes of a number, the lowest first. -/
def leN : Nat → Nat → List UInt8
  | 0, _ => []
  | k + 1, u => UInt8.ofNat u :: leN k (u / 256)
def leV : List UInt8 → Nat
  | [] => 0
  | c :: l => c.toNat + 256 * leV l
theorem leN_len (k u : Nat) : (leN k u).length = k := by
  induction k generalizing u with
  | zero => rfl
  | succ k ih => simp [leN, ih]
theorem leV_lt (l : List UInt8) : leV l < 256 ^ l.length := by
  induction l with
  | nil => simp [leV]
  | cons c l ih =>
    have hc := c.toNat_lt
    rw [leV, List.length_cons, Nat.pow_succ]
    generalize 256 ^ l.length = p at *
    omega
theorem leN_leV (l : List UInt8) : leN l.length (leV l) = l := by
  induction l with
  | nil => rfl
  | cons c l ih =>
    have hc := c.toNat_lt
    rw [leV, List.length_cons, leN]
    have h1 : (c.toNat + 256 * leV l) / 256 = leV l := by omega
    have h2 : UInt8.ofNat (c.toNat + 256 * leV l) = c := by
      apply UInt8.toNat_inj.1
      rw [UInt8.toNat_ofNat']
      omega
    rw [h1, h2, ih]
theorem leV_leN (k u : Nat) : leV (leN k u) = u % 256 ^ k := by
  induction k generalizing u with
  | zero => simp [leN, leV, Nat.mod_one]
  | succ k ih =>
    rw [leN, leV, ih, UInt8.toNat_ofNat', show (256 : Nat) ^ (k + 1) = 256 * 256 ^ k by rw [Nat.pow_succ, Nat.mul_comm], Nat.mod_mul]
theorem leV_snoc (l : List UInt8) (c : UInt8) : leV (l ++ [c]) = leV l + 256 ^ l.length * c.toNat := by
  induction l with
  | nil => simp [leV]
  | cons d l ih =>
    rw [List.cons_append, leV, ih, leV, List.length_cons, Nat.pow_succ]
    rw [Nat.mul_add, ← Nat.mul_assoc, Nat.mul_comm 256 (256 ^ l.length), Nat.add_assoc]
theorem leN_take (k u i : Nat) (h : i < k) : (leN k u).take (i + 1) = (leN k u).take i ++ [UInt8.ofNat (u / 256 ^ i)] := by
  induction k generalizing i u with
  | zero => omega
  | succ k ih =>
    cases i with
    | zero => simp [leN]
    | succ i =>
      simp only [leN, List.take_succ_cons, List.cons_append]
      rw [ih _ i (by omega), Nat.div_div_eq_div_mul, Nat.pow_succ, Nat.mul_comm 256]
theorem leN_inj {k u v : Nat} (hu : u < 256 ^ k) (hv : v < 256 ^ k) (h : leN k u = leN k v) : u = v := by
  have := congrArg leV h
  rwa [leV_leN, leV_leN, Nat.mod_eq_of_lt hu, Nat.mod_eq_of_lt hv] at this

/-- A number as 64 bits without sign. -/
def bits64 (n : Int) : Nat := (n % 18446744073709551616).toNat
theorem bits64_lt (n : Int) : bits64 n < 256 ^ 8 := by
  unfold bits64
  have h1 := Int.emod_nonneg n (b := 18446744073709551616) (by decide)
  have h2 := Int.emod_lt_of_pos n (b := 18446744073709551616) (by decide)
  have : (256 : Nat) ^ 8 = 18446744073709551616 := by decide
  omega
theorem bits64_inj {m n : Int} (hm : -9223372036854775808 ≤ m ∧ m ≤ 9223372036854775807) (hn : -9223372036854775808 ≤ n ∧ n ≤ 9223372036854775807) (h : bits64 m = bits64 n) : m = n := by
  unfold bits64 at h
  omega
def back64 (u : Nat) : Int := if u < 9223372036854775808 then (u : Int) else (u : Int) - 18446744073709551616
theorem back_bits {u : Nat} (h : u < 256 ^ 8) : bits64 (back64 u) = u ∧ (-9223372036854775808 ≤ back64 u ∧ back64 u ≤ 9223372036854775807) := by
  have e : (256 : Nat) ^ 8 = 18446744073709551616 := by decide
  rw [e] at h
  unfold bits64 back64
  split <;> omega

/-- A value's bytes. -/
def rc (v : V4) : List UInt8 :=
  if v.1 = 1 then 1 :: leN 8 (bits64 v.2.1)
  else if v.1 = 2 then 2 :: (leN 2 v.2.2.1.length ++ v.2.2.1)
  else if v.1 = 3 then [if v.2.2.2 then 4 else 3]
  else [0]
def rcL (l : List V4) : List UInt8 := l.flatMap rc
/-- A row's bytes. -/
def form (l : List V4) : List UInt8 := UInt8.ofNat l.length :: rcL l
/-- A right value whose text is not too long. -/
def RV (v : V4) : Prop := RightQ v ∧ v.2.2.1.length ≤ 400
def RVs (l : List V4) : Prop := ∀ v ∈ l, RV v
/-- A row that may be written. -/
def OkR (l : List V4) : Prop := l.length ≤ 12 ∧ RVs l
theorem rc_null {v : V4} (h : v.1 = 0) : rc v = [0] := by simp [rc, h]
theorem rc_num {v : V4} (h : v.1 = 1) : rc v = 1 :: leN 8 (bits64 v.2.1) := by simp [rc, h]
theorem rc_text {v : V4} (h : v.1 = 2) : rc v = 2 :: (leN 2 v.2.2.1.length ++ v.2.2.1) := by simp [rc, h]
theorem rc_bool {v : V4} (h : v.1 = 3) : rc v = [if v.2.2.2 then 4 else 3] := by simp [rc, h]
theorem rcL_nil : rcL [] = [] := rfl
theorem rcL_cons (v : V4) (l : List V4) : rcL (v :: l) = rc v ++ rcL l := by simp [rcL]
theorem rcL_app (l m : List V4) : rcL (l ++ m) = rcL l ++ rcL m := by simp [rcL]
theorem rcL_one (v : V4) : rcL [v] = rc v := by simp [rcL]
theorem rvs_cons {v : V4} {l : List V4} : RVs (v :: l) ↔ RV v ∧ RVs l := by simp [RVs]
theorem rvs_app {l m : List V4} : RVs (l ++ m) ↔ RVs l ∧ RVs m := by
  simp only [RVs, List.mem_append]
  exact ⟨fun h => ⟨fun v hv => h v (Or.inl hv), fun v hv => h v (Or.inr hv)⟩, fun h v hv => hv.elim (h.1 v) (h.2 v)⟩
theorem rvs_nil : RVs [] := fun v hv => by cases hv
theorem rv_null : RV (0, 0, [], false) := ⟨Or.inl ⟨rfl, rfl, rfl, rfl⟩, Nat.zero_le _⟩
theorem rv_num {n : Int} (h : -9223372036854775808 ≤ n ∧ n ≤ 9223372036854775807) : RV (1, n, [], false) := ⟨Or.inr (Or.inl ⟨rfl, h, rfl, rfl⟩), Nat.zero_le _⟩
theorem rv_text {t : List UInt8} (h : t.length ≤ 400) : RV (2, 0, t, false) := ⟨Or.inr (Or.inr (Or.inl ⟨rfl, rfl, rfl⟩)), h⟩
theorem rv_bool (b : Bool) : RV (3, 0, [], b) := ⟨Or.inr (Or.inr (Or.inr ⟨rfl, rfl, rfl⟩)), Nat.zero_le _⟩
theorem rv_cases {v : V4} (h : RV v) : v = (0, 0, [], false) ∨ (∃ n, v = (1, n, [], false) ∧ (-9223372036854775808 ≤ n ∧ n ≤ 9223372036854775807)) ∨ (∃ t, v = (2, 0, t, false) ∧ t.length ≤ 400) ∨ (∃ b, v = (3, 0, [], b)) := by
  obtain ⟨k, n, t, b⟩ := v
  obtain ⟨h, hl⟩ := h
  rcases h with ⟨h1, h2, h3, h4⟩ | ⟨h1, h2, h3, h4⟩ | ⟨h1, h2, h4⟩ | ⟨h1, h2, h3⟩
  all_goals simp only at h1 h2
  · simp only at h3 h4; subst h1 h2 h3 h4; exact Or.inl rfl
  · simp only at h3 h4; subst h1 h3 h4; exact Or.inr (Or.inl ⟨n, rfl, h2⟩)
  · simp only at h4; subst h1 h2 h4; exact Or.inr (Or.inr (Or.inl ⟨t, rfl, hl⟩))
  · simp only at h3; subst h1 h2 h3; exact Or.inr (Or.inr (Or.inr ⟨b, rfl⟩))
theorem rc_num' (n : Int) (t : List UInt8) (b : Bool) : rc (1, n, t, b) = 1 :: leN 8 (bits64 n) := rc_num (v := (1, n, t, b)) rfl
theorem rc_text' (n : Int) (t : List UInt8) (b : Bool) : rc (2, n, t, b) = 2 :: (leN 2 t.length ++ t) := rc_text (v := (2, n, t, b)) rfl
theorem rc_bool' (n : Int) (t : List UInt8) (b : Bool) : rc (3, n, t, b) = [if b then 4 else 3] := rc_bool (v := (3, n, t, b)) rfl
theorem rc_null' (n : Int) (t : List UInt8) (b : Bool) : rc (0, n, t, b) = [0] := rc_null (v := (0, n, t, b)) rfl
theorem rc_pos (v : V4) : 1 ≤ (rc v).length := by
  unfold rc; (repeat' split) <;> simp
theorem rc_len {v : V4} (h : RV v) : (rc v).length ≤ 403 := by
  rcases rv_cases h with rfl | ⟨n, rfl, _⟩ | ⟨t, rfl, ht⟩ | ⟨b, rfl⟩
  · rw [rc_null']; simp
  · rw [rc_num']; simp [leN_len]
  · rw [rc_text']; simp [leN_len]; omega
  · rw [rc_bool']; simp
theorem rcL_len {l : List V4} (h : RVs l) : (rcL l).length ≤ 403 * l.length := by
  induction l with
  | nil => simp [rcL]
  | cons v l ih =>
    rw [rcL_cons, List.length_append, List.length_cons]
    have := rc_len (rvs_cons.1 h).1
    have := ih (rvs_cons.1 h).2
    omega
theorem form_len {l : List V4} (h : OkR l) : (form l).length ≤ 4837 := by
  have h1 := rcL_len h.2
  have h2 := h.1
  simp only [form, List.length_cons]
  omega

/-- A value is read in one way. -/
theorem read_one {x y : V4} (hx : RV x) (hy : RV y) {p q : List UInt8} (h : rc x ++ p = rc y ++ q) : x = y ∧ p = q := by
  rcases rv_cases hx with rfl | ⟨n, rfl, hn⟩ | ⟨t, rfl, ht⟩ | ⟨b, rfl⟩ <;> rcases rv_cases hy with rfl | ⟨m, rfl, hm⟩ | ⟨u, rfl, hu⟩ | ⟨c, rfl⟩
  all_goals simp only [rc_null', rc_num', rc_text', rc_bool', List.cons_append, List.nil_append, List.cons.injEq] at h
  · exact ⟨rfl, h.2⟩
  · exact absurd h.1 (by decide)
  · exact absurd h.1 (by decide)
  · exact absurd h.1 (by cases c <;> decide)
  · exact absurd h.1 (by decide)
  · obtain ⟨h1, h2⟩ := List.append_inj h.2 (by simp [leN_len])
    have := bits64_inj hn hm (leN_inj (bits64_lt _) (bits64_lt _) h1)
    exact ⟨by rw [this], h2⟩
  · exact absurd h.1 (by decide)
  · exact absurd h.1 (by cases c <;> decide)
  · exact absurd h.1 (by decide)
  · exact absurd h.1 (by decide)
  · have h2 := h.2
    rw [List.append_assoc, List.append_assoc] at h2
    obtain ⟨h1, h2⟩ := List.append_inj h2 (by simp [leN_len])
    have hl := leN_inj (by omega) (by omega) h1
    obtain ⟨h3, h4⟩ := List.append_inj h2 hl
    exact ⟨by rw [h3], h4⟩
  · exact absurd h.1 (by cases c <;> decide)
  · exact absurd h.1 (by cases b <;> decide)
  · exact absurd h.1 (by cases b <;> decide)
  · exact absurd h.1 (by cases b <;> decide)
  · refine ⟨?_, h.2⟩
    have := h.1
    cases b <;> cases c <;> first | rfl | exact absurd this (by decide)
theorem read_all : ∀ {l m : List V4}, RVs l → RVs m → l.length = m.length → ∀ {p q : List UInt8}, rcL l ++ p = rcL m ++ q → l = m ∧ p = q
  | [], [], _, _, _, _, _, h => ⟨rfl, h⟩
  | [], _ :: _, _, _, hl, _, _, _ => by simp at hl
  | _ :: _, [], _, _, hl, _, _, _ => by simp at hl
  | x :: l, y :: m, hx, hy, hl, p, q, h => by
    rw [rcL_cons, rcL_cons, List.append_assoc, List.append_assoc] at h
    obtain ⟨h1, h2⟩ := read_one (rvs_cons.1 hx).1 (rvs_cons.1 hy).1 h
    obtain ⟨h3, h4⟩ := read_all (rvs_cons.1 hx).2 (rvs_cons.1 hy).2 (by simpa using hl) h2
    exact ⟨by rw [h1, h3], h4⟩
theorem ofNat_small {m n : Nat} (hm : m < 256) (hn : n < 256) (h : UInt8.ofNat m = UInt8.ofNat n) : m = n := by
  have := congrArg UInt8.toNat h
  rw [UInt8.toNat_ofNat', UInt8.toNat_ofNat'] at this
  omega
theorem read_form {l m : List V4} (hl : OkR l) (hm : OkR m) {p q : List UInt8} (h : form l ++ p = form m ++ q) : l = m ∧ p = q := by
  unfold form at h
  simp only [List.cons_append, List.cons.injEq] at h
  have := hl.1
  have := hm.1
  exact read_all hl.2 hm.2 (ofNat_small (by omega) (by omega) h.1) h.2
theorem form_inj {l m : List V4} (hl : OkR l) (hm : OkR m) (h : form l = form m) : l = m :=
  (read_form hl hm (p := []) (q := []) (by simpa using h)).1
/-- No value stands at the beginning. -/
def NoV (r : List UInt8) : Prop := ∀ x y, RV x → r ≠ rc x ++ y
/-- No row is written so. -/
def NoForm (b : List UInt8) : Prop := ∀ l, OkR l → form l ≠ b
theorem noForm_nil : NoForm [] := fun l _ h => by simp [form] at h
theorem noForm_count {c : UInt8} {r : List UInt8} (h : 12 < c.toNat) : NoForm (c :: r) := fun l hl e => by
  unfold form at e
  simp only [List.cons.injEq] at e
  have h1 := hl.1
  rw [← e.1, UInt8.toNat_ofNat'] at h
  omega
theorem noForm_val {c : UInt8} {l : List V4} {r : List UInt8} (hl : RVs l) (hc : l.length < c.toNat) (hr : NoV r) : NoForm (c :: (rcL l ++ r)) := fun m hm e => by
  unfold form at e
  simp only [List.cons.injEq] at e
  have h1 := hm.1
  have hlen : l.length < m.length := by
    rw [← e.1, UInt8.toNat_ofNat'] at hc
    omega
  have h2 : m = m.take l.length ++ m.drop l.length := (List.take_append_drop _ _).symm
  have h3 : RVs (m.take l.length) ∧ RVs (m.drop l.length) := by rw [← rvs_app, ← h2]; exact hm.2
  obtain ⟨x, t, hx⟩ : ∃ x t, m.drop l.length = x :: t := by
    cases hd : m.drop l.length with
    | nil => have := congrArg List.length hd; simp at this; omega
    | cons x t => exact ⟨x, t, rfl⟩
  have h4 : rcL m = rcL (m.take l.length) ++ (rc x ++ rcL t) := by
    conv => lhs; rw [h2, rcL_app, hx, rcL_cons]
  have h5 := e.2
  rw [h4] at h5
  obtain ⟨_, h6⟩ := read_all h3.1 hl (by simp; omega) h5
  rw [hx] at h3
  exact hr x (rcL t) (rvs_cons.1 h3.2).1 h6.symm
theorem noForm_more {c : UInt8} {l : List V4} {r : List UInt8} (hl : RVs l) (hc : l.length = c.toNat) (hr : r ≠ []) : NoForm (c :: (rcL l ++ r)) := fun m hm e => by
  unfold form at e
  simp only [List.cons.injEq] at e
  have h1 := hm.1
  have hlen : m.length = l.length := by
    rw [← e.1, UInt8.toNat_ofNat'] at hc
    omega
  have h2 : rcL m ++ [] = rcL l ++ r := by rw [List.append_nil]; exact e.2
  exact hr (read_all hm.2 hl hlen h2).2.symm
theorem noForm_cut {l : List V4} (hl : OkR l) {p q : List UInt8} (h : form l = p ++ q) (hq : q ≠ []) : NoForm p := fun m hm e => by
  rw [← e] at h
  have h2 : form l ++ [] = form m ++ q := by rw [List.append_nil]; exact h
  exact hq (read_form hl hm h2).2.symm
theorem noForm_app {l : List V4} (hl : OkR l) {q : List UInt8} (hq : q ≠ []) : NoForm (form l ++ q) := fun m hm e => by
  have h2 : form m ++ [] = form l ++ q := by rw [List.append_nil]; exact e
  exact hq (read_form hm hl h2).2.symm
theorem form_is {c : UInt8} {l : List V4} (hc : l.length = c.toNat) : form l = c :: rcL l := by
  unfold form
  rw [hc]; simp
theorem noV_nil : NoV [] := fun x y _ h => by
  have h1 := congrArg List.length h
  rw [List.length_append, List.length_nil] at h1
  have := rc_pos x
  omega
theorem noV_mark {c : UInt8} {r : List UInt8} (h : 4 < c.toNat) : NoV (c :: r) := fun x y hx e => by
  rcases rv_cases hx with rfl | ⟨n, rfl, _⟩ | ⟨t, rfl, ht⟩ | ⟨b, rfl⟩
  all_goals simp only [rc_null', rc_num', rc_text', rc_bool', List.cons_append, List.nil_append, List.cons.injEq] at e
  · rw [e.1] at h; exact absurd h (by decide)
  · rw [e.1] at h; exact absurd h (by decide)
  · rw [e.1] at h; exact absurd h (by decide)
  · rw [e.1] at h; cases b <;> exact absurd h (by decide)
theorem noV_num {r : List UInt8} (h : r.length < 8) : NoV (1 :: r) := fun x y hx e => by
  rcases rv_cases hx with rfl | ⟨n, rfl, _⟩ | ⟨t, rfl, ht⟩ | ⟨b, rfl⟩
  all_goals simp only [rc_null', rc_num', rc_text', rc_bool', List.cons_append, List.nil_append, List.cons.injEq] at e
  · exact absurd e.1 (by decide)
  · rw [e.2, List.length_append, leN_len] at h; omega
  · exact absurd e.1 (by decide)
  · exact absurd e.1 (by cases b <;> decide)
/-- A text is not there: its length is not, or is too great, or its bytes are not. -/
theorem noV_text {r : List UInt8} (h : r.length < 2 ∨ ∃ a t, r = a ++ t ∧ a.length = 2 ∧ (400 < leV a ∨ t.length < leV a)) : NoV (2 :: r) := fun x y hx e => by
  rcases rv_cases hx with rfl | ⟨n, rfl, _⟩ | ⟨t, rfl, ht⟩ | ⟨b, rfl⟩
  all_goals simp only [rc_null', rc_num', rc_text', rc_bool', List.cons_append, List.nil_append, List.cons.injEq] at e
  · exact absurd e.1 (by decide)
  · exact absurd e.1 (by decide)
  · obtain ⟨_, e⟩ := e
    rcases h with h | ⟨a, u, hr, ha, hu⟩
    · rw [e, List.length_append, List.length_append, leN_len] at h; omega
    · rw [hr, List.append_assoc] at e
      obtain ⟨h1, h2⟩ := List.append_inj e (by rw [ha, leN_len])
      have h3 := congrArg leV h1
      rw [leV_leN, Nat.mod_eq_of_lt (by omega)] at h3
      rw [h3, h2, List.length_append] at hu
      omega
  · exact absurd e.1 (by cases b <;> decide)
end Go.Proofs.Ytfmnlgepllgpnaa

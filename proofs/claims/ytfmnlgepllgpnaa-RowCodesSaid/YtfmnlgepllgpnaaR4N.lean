/- Plain mathematics of the document's own reading: read as far as it goes, and written again. -/
import Derived.Test.YtfmnlgepllgpnaaR4M
namespace Go.Proofs.Ytfmnlgepllgpnaa
set_option linter.unusedVariables false

/-- What has been read is the beginning of every row that the bytes are of. -/
def St (bs : List UInt8) (l : List V4) (p : Nat) : Prop := ∀ m, OkR m → form m = bs → l = m.take l.length ∧ p = 1 + (rcL l).length
theorem st_start (bs : List UInt8) : St bs [] 1 := fun m _ _ => ⟨by simp, rfl⟩
theorem st_next {bs : List UInt8} {l m : List V4} {p : Nat} {c : UInt8} {t : List UInt8} (h : St bs l p) (hb : bs = c :: t) (hc : l.length < c.toNat) (hm : OkR m) (hf : form m = bs) :
    ∃ y r, RV y ∧ bs.drop p = rc y ++ r ∧ m.take (l.length + 1) = l ++ [y] := by
  obtain ⟨h1, h2⟩ := h m hm hf
  have h12 := hm.1
  have hlen : l.length < m.length := by
    rw [hb] at hf
    unfold form at hf
    simp only [List.cons.injEq] at hf
    rw [← hf.1, UInt8.toNat_ofNat'] at hc
    omega
  have hy : RV m[l.length] := hm.2 _ (List.getElem_mem hlen)
  have e1 : m.take (l.length + 1) = l ++ [m[l.length]] := by
    rw [List.take_succ_eq_append_getElem hlen, ← h1]
  have e2 : rcL m = rcL l ++ (rc m[l.length] ++ rcL (m.drop (l.length + 1))) := by
    conv => lhs; rw [← List.take_append_drop (l.length + 1) m, rcL_app, e1, rcL_app, rcL_one, List.append_assoc]
  refine ⟨m[l.length], rcL (m.drop (l.length + 1)), hy, ?_, e1⟩
  rw [← hf, h2, Nat.add_comm]
  unfold form
  rw [List.drop_succ_cons, e2, List.drop_left]
theorem st_step {bs : List UInt8} {l : List V4} {p q : Nat} {x : V4} {c : UInt8} {t : List UInt8} (h : St bs l p) (hb : bs = c :: t) (hc : l.length < c.toNat)
    (hx : ∀ y r, RV y → bs.drop p = rc y ++ r → x = y ∧ q = p + (rc y).length) : St bs (l ++ [x]) q := fun m hm hf => by
  obtain ⟨y, r, hy, hd, ht⟩ := st_next h hb hc hm hf
  obtain ⟨h1, h2⟩ := h m hm hf
  obtain ⟨rfl, rfl⟩ := hx y r hy hd
  refine ⟨by rw [List.length_append, List.length_singleton, ht], ?_⟩
  rw [rcL_app, rcL_one, List.length_append]
  omega
theorem st_fail {bs : List UInt8} {l : List V4} {p : Nat} {c : UInt8} {t : List UInt8} (h : St bs l p) (hb : bs = c :: t) (hc : l.length < c.toNat) (hn : NoV (bs.drop p)) : NoForm bs := fun m hm hf => by
  obtain ⟨y, r, hy, hd, _⟩ := st_next h hb hc hm hf
  exact hn y r hy hd
/-- At the end what was read is the row, if there is one. -/
theorem st_end {bs : List UInt8} {l : List V4} {p : Nat} (h : St bs l p) (he : bs.length ≤ p ∨ (∃ c t, bs = c :: t ∧ c.toNat ≤ l.length) ∨ 12 < l.length) : ∀ m, OkR m → form m = bs → l = m := fun m hm hf => by
  obtain ⟨h1, h2⟩ := h m hm hf
  have h12 := hm.1
  by_cases hlen : m.length ≤ l.length
  · rw [h1]; exact List.take_of_length_le hlen
  · exfalso
    rcases he with he | ⟨c, t, hb, hc⟩ | he
    · have hy : 1 ≤ (rc m[l.length]).length := rc_pos _
      have e2 : rcL m = rcL l ++ (rc m[l.length] ++ rcL (m.drop (l.length + 1))) := by
        have e1 : m.take (l.length + 1) = l ++ [m[l.length]] := by
          rw [List.take_succ_eq_append_getElem (by omega), ← h1]
        conv => lhs; rw [← List.take_append_drop (l.length + 1) m, rcL_app, e1, rcL_app, rcL_one, List.append_assoc]
      have e3 := congrArg List.length hf
      unfold form at e3
      rw [List.length_cons, e2, List.length_append, List.length_append] at e3
      omega
    · rw [hb] at hf
      unfold form at hf
      simp only [List.cons.injEq] at hf
      rw [← hf.1, UInt8.toNat_ofNat'] at hc
      omega
    · omega
theorem drop_at {bs : List UInt8} {p : Nat} (h : p < bs.length) : bs.drop p = bs[p] :: bs.drop (p + 1) := List.drop_eq_getElem_cons h
theorem bits_back {n : Int} (h : -9223372036854775808 ≤ n ∧ n ≤ 9223372036854775807) : back64 (bits64 n) = n := by
  unfold bits64 back64
  split <;> omega
/-- The values that stand behind a byte. -/
theorem at_mark {bs : List UInt8} {p : Nat} {c : UInt8} (h : p < bs.length) (hc : bs[p] = c) {y : V4} {r : List UInt8} (hy : RV y) (hd : bs.drop p = rc y ++ r) :
    (c = 0 ∧ y = (0, 0, [], false) ∧ (rc y).length = 1) ∨ (∃ n, c = 1 ∧ y = (1, n, [], false) ∧ (-9223372036854775808 ≤ n ∧ n ≤ 9223372036854775807) ∧ (rc y).length = 9 ∧ bs.drop (p + 1) = leN 8 (bits64 n) ++ r) ∨
    (∃ s, c = 2 ∧ y = (2, 0, s, false) ∧ s.length ≤ 400 ∧ (rc y).length = 3 + s.length ∧ bs.drop (p + 1) = leN 2 s.length ++ (s ++ r)) ∨ (∃ b, c = (if b then 4 else 3) ∧ y = (3, 0, [], b) ∧ (rc y).length = 1) := by
  rw [drop_at h, hc] at hd
  rcases rv_cases hy with rfl | ⟨n, rfl, hn⟩ | ⟨s, rfl, hs⟩ | ⟨b, rfl⟩
  all_goals simp only [rc_null', rc_num', rc_text', rc_bool', List.cons_append, List.nil_append, List.cons.injEq] at hd
  · exact Or.inl ⟨hd.1, rfl, rfl⟩
  · exact Or.inr (Or.inl ⟨n, hd.1, rfl, hn, by rw [rc_num']; simp [leN_len], hd.2⟩)
  · refine Or.inr (Or.inr (Or.inl ⟨s, hd.1, rfl, hs, by rw [rc_text']; simp [leN_len]; omega, ?_⟩))
    rw [hd.2, List.append_assoc]
  · exact Or.inr (Or.inr (Or.inr ⟨b, hd.1, rfl, rfl⟩))
theorem next_null {bs : List UInt8} {p : Nat} (h : p < bs.length) (hc : bs[p] = 0) : ∀ y r, RV y → bs.drop p = rc y ++ r → ((0, 0, [], false) : V4) = y ∧ p + 1 = p + (rc y).length := fun y r hy hd => by
  rcases at_mark h hc hy hd with ⟨_, rfl, hl⟩ | ⟨n, e, _⟩ | ⟨s, e, _⟩ | ⟨b, e, _⟩
  · exact ⟨rfl, by rw [hl]⟩
  · exact absurd e (by decide)
  · exact absurd e (by decide)
  · exact absurd e (by cases b <;> decide)
theorem next_bool {bs : List UInt8} {p : Nat} (b : Bool) (h : p < bs.length) (hc : bs[p] = if b then 4 else 3) : ∀ y r, RV y → bs.drop p = rc y ++ r → ((3, 0, [], b) : V4) = y ∧ p + 1 = p + (rc y).length := fun y r hy hd => by
  rcases at_mark h hc hy hd with ⟨e, _⟩ | ⟨n, e, _⟩ | ⟨s, e, _⟩ | ⟨b', e, rfl, hl⟩
  · exact absurd e (by cases b <;> decide)
  · exact absurd e (by cases b <;> decide)
  · exact absurd e (by cases b <;> decide)
  · refine ⟨?_, by rw [hl]⟩
    cases b <;> cases b' <;> first | rfl | exact absurd e (by decide)
theorem next_num {bs : List UInt8} {p u : Nat} (h : p < bs.length) (hc : bs[p] = 1) (hu : p + 8 < bs.length → u = leV ((bs.drop (p + 1)).take 8)) : ∀ y r, RV y → bs.drop p = rc y ++ r → ((1, back64 u, [], false) : V4) = y ∧ p + 9 = p + (rc y).length := fun y r hy hd => by
  rcases at_mark h hc hy hd with ⟨e, _⟩ | ⟨n, _, rfl, hn, hl, hd⟩ | ⟨s, e, _⟩ | ⟨b, e, _⟩
  · exact absurd e (by decide)
  · have hlen := congrArg List.length hd
    rw [List.length_append, leN_len, List.length_drop] at hlen
    have hu' := hu (by omega)
    rw [hd, List.take_left' (leN_len 8 _), leV_leN, Nat.mod_eq_of_lt (bits64_lt n)] at hu'
    rw [hu', bits_back hn, hl]
    exact ⟨rfl, rfl⟩
  · exact absurd e (by decide)
  · exact absurd e (by cases b <;> decide)
theorem next_text {bs : List UInt8} {p n to lo : Nat} (h : p < bs.length) (hc : bs[p] = 2) (hn : ∀ h2 : p + 2 < bs.length, n = (bs[p + 1]'(by omega)).toNat + 256 * (bs[p + 2]).toNat) (hto : to = min (p + 3 + n) bs.length) (hlo : lo = min (p + 3) to) :
    ∀ y r, RV y → bs.drop p = rc y ++ r → ((2, 0, (bs.drop lo).take (to - lo), false) : V4) = y ∧ p + 3 + n = p + (rc y).length := fun y r hy hd => by
  rcases at_mark h hc hy hd with ⟨e, _⟩ | ⟨k, e, _⟩ | ⟨s, _, rfl, hs, hl, hd⟩ | ⟨b, e, _⟩
  · exact absurd e (by decide)
  · exact absurd e (by decide)
  · have hlen := congrArg List.length hd
    rw [List.length_append, List.length_append, leN_len, List.length_drop] at hlen
    have hn' := hn (by omega)
    have e1 : bs.drop (p + 1) = bs[p + 1]'(by omega) :: bs[p + 2]'(by omega) :: bs.drop (p + 3) := by
      rw [drop_at (show p + 1 < bs.length by omega), drop_at (show p + 1 + 1 < bs.length by omega)]
    have e2 : leN 2 s.length ++ (s ++ r) = UInt8.ofNat s.length :: UInt8.ofNat (s.length / 256) :: (s ++ r) := rfl
    rw [e1, e2] at hd
    simp only [List.cons.injEq] at hd
    have hn2 : n = s.length := by
      rw [hn', hd.1, hd.2.1, UInt8.toNat_ofNat', UInt8.toNat_ofNat']
      omega
    have hto2 : to = p + 3 + s.length := by omega
    have hlo2 : lo = p + 3 := by omega
    rw [hto2, hlo2, hd.2.2, show p + 3 + s.length - (p + 3) = s.length by omega, List.take_left, hl]
    exact ⟨rfl, by omega⟩
  · exact absurd e (by cases b <;> decide)
theorem noV_at {bs : List UInt8} {p : Nat} (h : p < bs.length) (hc : 4 < bs[p].toNat) : NoV (bs.drop p) := by
  rw [drop_at h]; exact noV_mark hc
/-- The bytes of a number, from the highest on. -/
def seg (bs : List UInt8) (p k : Nat) : List UInt8 := (bs.drop (p + 1 + k)).take (8 - k)
theorem seg_top (bs : List UInt8) (p : Nat) : seg bs p 8 = [] := by simp [seg]
theorem seg_step {bs : List UInt8} {p k : Nat} (hk : 1 ≤ k) (hk8 : k ≤ 8) (h : p + k < bs.length) : leV (seg bs p (k - 1)) = bs[p + k].toNat + 256 * leV (seg bs p k) := by
  unfold seg
  rw [show p + 1 + (k - 1) = p + k by omega, drop_at h, show 8 - (k - 1) = (8 - k) + 1 by omega, List.take_succ_cons, leV, show p + 1 + k = p + k + 1 by omega]
theorem seg_lt (bs : List UInt8) (p k : Nat) (hk : 1 ≤ k) : leV (seg bs p k) < 72057594037927936 := by
  have h1 := leV_lt (seg bs p k)
  have h2 : (seg bs p k).length ≤ 7 := by unfold seg; rw [List.length_take]; omega
  have h3 : (256 : Nat) ^ (seg bs p k).length ≤ 256 ^ 7 := Nat.pow_le_pow_right (by decide) h2
  have e7 : (256 : Nat) ^ 7 = 72057594037927936 := by decide
  omega
theorem seg_all (bs : List UInt8) (p : Nat) : seg bs p 0 = (bs.drop (p + 1)).take 8 := rfl
end Go.Proofs.Ytfmnlgepllgpnaa

/- A page's numbers, pieces and slots: read and written. -/
import Derived.Test.YtkmgahembhgloaaH8A
namespace Go.Proofs.Ytkmgahembhgloaa
open Go.RowKit Go.Maps
set_option linter.unusedVariables false
set_option linter.unusedSimpArgs false

/-- Where a page's bytes lie. -/
structure Cont (w : World) (a : Addr) (cap : Nat) (c : List UInt8) : Prop where
  len : c.length = 2048
  cap : 2048 ≤ cap
  by_ : ∀ j (hj : j < c.length), w.cell? (a.add j) = some (bv c[j])
theorem Cont.keep {w w' : World} {a : Addr} {cap : Nat} {c : List UInt8} (h : Cont w a cap c) (hb : Below w.heap.size w w') : Cont w' a cap c :=
  ⟨h.len, h.cap, fun j hj => (hb.cell (p := a.add j) (World.block_lt_of_cell? w _ (h.by_ j hj))).trans (h.by_ j hj)⟩
theorem Cont.bytes {w : World} {a : Addr} {cap : Nat} {c : List UInt8} (h : Cont w a cap c) : Bytes w (.slice (some a) 2048 cap) c :=
  Or.inr ⟨a, cap, by rw [h.len], by rw [h.len]; exact h.cap, h.by_⟩
theorem Cont.of_bytes {w : World} {v : Value} {c : List UInt8} (h : Bytes w v c) (hl : c.length = 2048) : ∃ a cap, v = .slice (some a) 2048 cap ∧ Cont w a cap c := by
  rcases h with ⟨_, rfl⟩ | ⟨a, cap, rfl, hc, h⟩
  · simp at hl
  · exact ⟨a, cap, by rw [hl], hl, by rw [← hl]; exact hc, h⟩
theorem i64_or (a b : Nat) (ha : a < 9223372036854775808) (hb : b < 9223372036854775808) : bits .or .i64 (a : Int) (b : Int) = ((a ||| b : Nat) : Int) := by
  have hx : a ||| b < 2 ^ 63 := Nat.or_lt_two_pow (by omega) (by omega)
  have e : ∀ n : Nat, n < 9223372036854775808 → (BitVec.ofInt 64 (n : Int)).toNat = n := fun n hn => by
    rw [BitVec.ofInt_natCast, BitVec.toNat_ofNat]
    exact Nat.mod_eq_of_lt (by omega)
  show IntKind.i64.wrap ((BitVec.ofInt 64 (a : Int) ||| BitVec.ofInt 64 (b : Int)).toNat : Int) = _
  rw [BitVec.toNat_or, e a ha, e b hb, IntKind.wrap_i64]
  omega
theorem wrapS {x : Int} (h : -9223372036854775808 ≤ x ∧ x ≤ 9223372036854775807) : wrap64 x = x := by
  unfold wrap64; omega
theorem num_or (x y : UInt8) : bits .or .i64 (wrap64 (x.toNat : Int)) (wrap64 (wrap64 (y.toNat : Int) * 256)) = ((x.toNat + 256 * y.toNat : Nat) : Int) := by
  have hx := x.toNat_lt
  have hy := y.toNat_lt
  rw [wrapS (x := (x.toNat : Int)) (by omega), wrapS (x := (y.toNat : Int)) (by omega), wrapS (x := (y.toNat : Int) * 256) (by omega)]
  have e : (y.toNat : Int) * 256 = ((2 ^ 8 * y.toNat : Nat) : Int) := by omega
  rw [e, i64_or _ _ (by omega) (by omega), Nat.or_comm, ← Nat.two_pow_add_eq_or_of_lt (by omega)]
  omega
theorem slotAt_any (s : Nat) (hs : s ≤ 256) (w : World) : Calls Try.prog 59 #[.int .i64 s] w fun e w' => e = .returned (.int .i64 ((2 + 4 * s : Nat) : Int)) ∧ w' = w := by
  go_enter Try.func59, Try.ntmps59
  go_wp2
  go_ret
  exact ⟨by congr 2, rfl⟩
set_option maxHeartbeats 400000 in
theorem number_any {w : World} {a : Addr} {cap : Nat} {c : List UInt8} (h : Cont w a cap c) (i : Nat) (hi : i + 1 < 2048) :
    Calls Try.prog 58 #[.slice (some a) 2048 cap, .int .i64 i] w fun e w' => e = .returned (.int .i64 (numP c i)) ∧ ∃ nq, w' = w.drewN nq := by
  have hl := h.len
  have c0 := h.by_ i (by omega)
  have c1 := h.by_ (i + 1) (by omega)
  have hN : numP c i = c[i].toNat + 256 * c[i + 1].toNat := by
    unfold numP
    rw [List.getElem?_eq_getElem (by omega), List.getElem?_eq_getElem (by omega)]; rfl
  obtain ⟨i1, hI1, hi1⟩ : ∃ i1 : Nat, (i : Int) + 1 = (i1 : Int) ∧ i + 1 = i1 := ⟨i + 1, by omega, rfl⟩
  have hi2 : i1 < 2048 := by omega
  have hi0 : i < 2048 := by omega
  rw [hN]
  generalize c[i] = x at *
  generalize c[i + 1] = y at *
  rw [hi1] at c1
  unfold bv at c0 c1
  clear h hN hi1 hl hi
  go_enter Try.func58, Try.ntmps58
  go_wp2
  go_quiet (fail)
  rw [num_or x y]
  go_wp2
  go_ret
  exact ⟨by first | rfl | (congr 2; omega), _, rfl⟩
/-- The piece of a page, as a value. -/
def pieceV (a : Addr) (cap : Nat) (p l : Nat) : Value := if p + l > 2048 then .slice none 0 0 else .slice (some (if cap = p then a else a.add p)) l (cap - p)
theorem pieceV_bytes {w : World} {a : Addr} {cap : Nat} {c : List UInt8} (h : Cont w a cap c) (p l : Nat) : Bytes w (pieceV a cap p l) (pieceP c p l) := by
  unfold pieceV pieceP
  have hl := h.len
  have hc := h.cap
  by_cases hx : p + l > 2048
  · rw [if_pos hx, if_pos (by omega)]; exact Or.inl ⟨rfl, rfl⟩
  · rw [if_neg hx, if_neg (show ¬ (p + l > c.length) by omega)]
    have hb := (h.bytes).part (lo := p) (hi := p + l) (a' := if cap = p then a else a.add p) hl (by omega) (by omega) (by split; exact Or.inr (by omega); exact Or.inl rfl)
    rwa [Nat.add_sub_cancel_left] at hb
set_option maxHeartbeats 400000 in
theorem piece_any {w : World} {a : Addr} {cap : Nat} (hc : 2048 ≤ cap) (p l : Nat) (hp : p ≤ 65535) (hl : l ≤ 65535) :
    Calls Try.prog 60 #[.slice (some a) 2048 cap, .int .i64 p, .int .i64 l] w fun e w' => e = .returned (pieceV a cap p l) ∧ w' = w := by
  unfold pieceV
  by_cases hx : p + l > 2048
  · rw [if_pos hx]
    have hx' : (p : Int) + l > 2048 := by omega
    go_enter Try.func60, Try.ntmps60
    go_wp2
    go_ret
    exact ⟨rfl, rfl⟩
  · rw [if_neg hx]
    have hx' : ¬ (p : Int) + l > 2048 := by omega
    go_enter Try.func60, Try.ntmps60
    go_wp2
    all_goals (go_ret; exact ⟨rfl, rfl⟩)
theorem bv_ofNat (n : Nat) : bv (UInt8.ofNat n) = .int .u8 ((n : Int) % 256) := by
  unfold bv
  congr 1
/-- One byte of a page is stored. -/
theorem own_setB {base : Nat} {w : World} {g cap m : Nat} {c : List UInt8} (h : OwnB base w (.slice (some ⟨g, 0, none⟩) m cap) c) (hm : c.length = m) (j : Nat) (x : UInt8) : OwnB base (w.setCell ⟨g, j, none⟩ (bv x)) (.slice (some ⟨g, 0, none⟩) m cap) (c.set j x) ∧ w.grownBy (w.setCell ⟨g, j, none⟩ (bv x)) (some g) := by
  subst hm
  obtain ⟨h1, h2⟩ := World.ownsRow.stored h j (bv x)
  refine ⟨?_, h2⟩
  unfold OwnB
  rw [List.length_set, List.map_set]
  exact h1
theorem own_len {base : Nat} {w : World} {g cap m : Nat} {c : List UInt8} (h : OwnB base w (.slice (some ⟨g, 0, none⟩) m cap) c) : c.length = m := by
  rcases h.2 with ⟨h', _⟩ | ⟨g', cap', cur, h', _⟩
  · cases h'
  · cases h'; rfl
theorem own_cellB {base : Nat} {w : World} {g cap m : Nat} {c : List UInt8} (h : OwnB base w (.slice (some ⟨g, 0, none⟩) m cap) c) (j : Nat) (hj : j < m) : ∃ u, w.cell? ⟨g, j, none⟩ = some u ∧ w.frozen? ⟨g, j, none⟩ = false := by
  obtain rfl := own_len h
  have := World.ownsRow.cells h (g := g) rfl j (bv c[j]) (by simp [hj])
  rw [Addr.add_mid, Nat.zero_add] at this
  exact ⟨_, this, World.ownsRow.frozenAt h j⟩
set_option maxHeartbeats 400000 in
theorem setNumber_any {base : Nat} {w : World} {g cap : Nat} {c : List UInt8} (h : OwnB base w (.slice (some ⟨g, 0, none⟩) 2048 cap) c) (i n : Nat) (hi : i + 1 < 2048) (hn : n ≤ 65535) :
    Calls Try.prog 63 #[.slice (some ⟨g, 0, none⟩) 2048 cap, .int .i64 i, .int .i64 n] w fun e w' => e = .returned (.tuple #[]) ∧ OwnB base w' (.slice (some ⟨g, 0, none⟩) 2048 cap) (setNumP c i n) ∧ w.grownBy w' (some g) := by
  have hl := own_len h
  obtain ⟨u0, c0, f0⟩ := own_cellB h i (by omega)
  obtain ⟨o1, g1⟩ := own_setB h hl i (UInt8.ofNat n)
  obtain ⟨u1, c1, f1⟩ := own_cellB o1 (i + 1) (by omega)
  obtain ⟨o2, g2⟩ := own_setB o1 (by simp [hl]) (i + 1) (UInt8.ofNat (n / 256))
  have g3 := grownBy_trans g1 g2
  rw [bv_ofNat] at c1 f1 o2 g3
  rw [bv_ofNat] at o2 g3
  clear o1 g1 g2
  have HO : Hid (OwnB base ((w.setCell ⟨g, i, none⟩ (.int .u8 ((n : Int) % 256))).setCell ⟨g, i + 1, none⟩ (.int .u8 (((n / 256 : Nat) : Int) % 256))) (.slice (some ⟨g, 0, none⟩) 2048 cap) (setNumP c i n) ∧ w.grownBy ((w.setCell ⟨g, i, none⟩ (.int .u8 ((n : Int) % 256))).setCell ⟨g, i + 1, none⟩ (.int .u8 (((n / 256 : Nat) : Int) % 256))) (some g)) := ⟨o2, g3⟩
  have e1 : ((n / 256 : Nat) : Int) % 256 = (n : Int) / 256 := by omega
  rw [e1] at HO
  clear o2 g3 h e1
  obtain ⟨i1, hI1, hi1⟩ : ∃ i1 : Nat, (i : Int) + 1 = (i1 : Int) ∧ i + 1 = i1 := ⟨i + 1, by omega, rfl⟩
  rw [hi1] at c1 f1 HO
  have hi2 : i1 < 2048 := by omega
  have hi0 : i < 2048 := by omega
  clear hi hi1 hl
  go_enter Try.func63, Try.ntmps63
  go_wp2
  exact bodyPost_end (v := .tuple #[]) (by simp [results, Try.results63, go_sem]) rfl ⟨rfl, HO.out⟩
set_option maxHeartbeats 400000 in
theorem setSlot_any {base : Nat} {w : World} {g cap : Nat} {c : List UInt8} (h : OwnB base w (.slice (some ⟨g, 0, none⟩) 2048 cap) c) (s p l : Nat) (hs : s < 256) (hp : p ≤ 65535) (hl : l ≤ 65535) :
    Calls Try.prog 45 #[.slice (some ⟨g, 0, none⟩) 2048 cap, .int .i64 s, .int .i64 p, .int .i64 l] w fun e w' => e = .returned (.tuple #[]) ∧ OwnB base w' (.slice (some ⟨g, 0, none⟩) 2048 cap) (setNumP (setNumP c (2 + 4 * s) p) (2 + 4 * s + 2) l) ∧ w.grownBy w' (some g) := by
  have HO : Hid (OwnB base w (.slice (some ⟨g, 0, none⟩) 2048 cap) c) := h
  clear h
  have e2 : ((2 + 4 * s : Nat) : Int) + 2 = ((2 + 4 * s + 2 : Nat) : Int) := by omega
  obtain ⟨q, hq⟩ : ∃ q : Nat, q = 2 + 4 * s := ⟨_, rfl⟩
  have hq2 : q ≤ 1022 := by omega
  have ha := fun w => slotAt_any s (by omega) w
  rw [← hq] at e2 ⊢
  simp only [← hq] at ha
  clear hq
  obtain ⟨q2, hq3, hq4⟩ : ∃ q2 : Nat, (q : Int) + 2 = (q2 : Int) ∧ q + 2 = q2 := ⟨q + 2, by omega, rfl⟩
  rw [hq4]
  have hq5 : q2 ≤ 1024 := by omega
  clear e2 hq4
  go_enter Try.func45, Try.ntmps45
  go_wp2_with (first
    | (go_at_call 59; refine (ha _).mono ?_; rintro e wx ⟨rfl, hwx⟩; rw [hwx]; clear hwx wx)
    | (go_at_call 63; refine (setNumber_any HO.out q p (by omega) hp).mono ?_; clear HO; rintro e w1 ⟨rfl, HO1, hg1⟩; have HG : Hid (w.grownBy w1 (some g)) := hg1; have HP : Hid (OwnB base w1 (.slice (some ⟨g, 0, none⟩) 2048 cap) (setNumP c q p)) := HO1; clear HO1 hg1))
  go_at_call 63
  refine (setNumber_any HP.out q2 l (by omega) hl).mono ?_
  rintro e w2 ⟨rfl, HO2, hg2⟩
  have HE : Hid (OwnB base w2 (.slice (some ⟨g, 0, none⟩) 2048 cap) (setNumP (setNumP c q p) q2 l) ∧ w.grownBy w2 (some g)) := ⟨HO2, grownBy_trans HG.out hg2⟩
  clear HO2 hg2 HG HP
  go_wp2
  exact bodyPost_end (v := .tuple #[]) (by simp [results, Try.results45, go_sem]) rfl ⟨rfl, HE.out⟩
/-- Is a record of no bytes, or of too many? -/
theorem isLong_any {w : World} {v : Value} {b : List UInt8} (h : Bytes w v b) (hb : b.length ≤ 140737488355328) : Calls Try.prog 38 #[v] w fun e w' => e = .returned (.bool (decide (b.length = 0 ∨ b.length > 1500))) ∧ w' = w := by
  obtain ⟨ao, cap, rfl, _⟩ := h.form
  clear h
  generalize b.length = n at *
  rcases (show n = 0 ∨ (n ≠ 0 ∧ n > 1500) ∨ (n ≠ 0 ∧ ¬ n > 1500) by omega) with rfl | ⟨h0, h1⟩ | ⟨h0, h1⟩
  · go_enter Try.func38, Try.ntmps38
    go_wp2
    go_ret
    exact ⟨rfl, rfl⟩
  · have t1 : ((n : Int) == 0) = false := by simpa using h0
    have t2 : (n : Int) > 1500 := by omega
    rw [decide_eq_true (Or.inr h1)]
    go_enter Try.func38, Try.ntmps38
    go_wp2
    go_ret
    exact ⟨rfl, rfl⟩
  · have t1 : ((n : Int) == 0) = false := by simpa using h0
    have t2 : ¬ (n : Int) > 1500 := by omega
    rw [decide_eq_false (by omega)]
    go_enter Try.func38, Try.ntmps38
    go_wp2
    go_ret
    exact ⟨rfl, rfl⟩
end Go.Proofs.Ytkmgahembhgloaa

/- Plain mathematics of keys: the code of values, which stands as they do, and is read in one way. -/
import Derived.Test.YtjajngngajnnpaaDoorB2
namespace Go.Proofs.YtjajngngajnnpaaDoor
set_option linter.unusedVariables false

def cmpI (a b : Int) : Int := if a < b then -1 else if a > b then 1 else 0
def cmpB (a b : List UInt8) : Int := if Op.bytesLess a b then -1 else if (!Op.bytesLess a b && !(a == b)) then 1 else 0
def ordB (a b : Bool) : Int := if a = b then 0 else if b then -1 else 1
theorem bl_irrefl : ∀ a : List UInt8, Op.bytesLess a a = false
  | [] => rfl
  | x :: a => by simp [Op.bytesLess, bl_irrefl a]
theorem bl_tri : ∀ a b : List UInt8, Op.bytesLess a b = true ∨ a = b ∨ Op.bytesLess b a = true
  | [], [] => Or.inr (Or.inl rfl)
  | [], _ :: _ => Or.inl rfl
  | _ :: _, [] => Or.inr (Or.inr rfl)
  | x :: a, y :: b => by
    have ih := bl_tri a b
    simp only [Op.bytesLess, Bool.or_eq_true, Bool.and_eq_true, decide_eq_true_eq, beq_iff_eq, UInt8.lt_iff_toNat_lt]
    by_cases e : x = y
    · subst e
      rcases ih with h | h | h
      · exact Or.inl (Or.inr ⟨rfl, h⟩)
      · exact Or.inr (Or.inl (by rw [h]))
      · exact Or.inr (Or.inr (Or.inr ⟨rfl, h⟩))
    · have : x.toNat ≠ y.toNat := fun h => e (UInt8.toNat_inj.1 h)
      by_cases l : x.toNat < y.toNat
      · exact Or.inl (Or.inl l)
      · exact Or.inr (Or.inr (Or.inl (by omega)))
theorem bl_trans : ∀ a b c : List UInt8, Op.bytesLess a b = true → Op.bytesLess b c = true → Op.bytesLess a c = true
  | a, [], c, h, _ => by cases a <;> simp [Op.bytesLess] at h
  | a, _ :: _, [], _, h => by simp [Op.bytesLess] at h
  | [], _ :: _, _ :: _, _, _ => rfl
  | x :: a, y :: b, z :: c, h1, h2 => by
    have ih := bl_trans a b c
    simp only [Op.bytesLess, Bool.or_eq_true, Bool.and_eq_true, decide_eq_true_eq, beq_iff_eq, UInt8.lt_iff_toNat_lt] at h1 h2 ⊢
    rcases h1 with h1 | ⟨rfl, h1⟩
    · rcases h2 with h2 | ⟨rfl, h2⟩
      · exact Or.inl (by omega)
      · exact Or.inl h1
    · rcases h2 with h2 | ⟨rfl, h2⟩
      · exact Or.inl h2
      · exact Or.inr ⟨rfl, ih h1 h2⟩
theorem bl_asymm {a b : List UInt8} (h : Op.bytesLess b a = true) : Op.bytesLess a b = false := by
  cases e : Op.bytesLess a b with
  | false => rfl
  | true => have := bl_trans _ _ _ e h; rw [bl_irrefl] at this; cases this
theorem bl_ne {a b : List UInt8} (h : Op.bytesLess b a = true) : (a == b) = false := by
  rw [beq_eq_false_iff_ne]
  rintro rfl
  rw [bl_irrefl] at h; cases h
theorem bl_app (p x y : List UInt8) : Op.bytesLess (p ++ x) (p ++ y) = Op.bytesLess x y := by
  induction p with
  | nil => rfl
  | cons c p ih => simp [Op.bytesLess, ih]
theorem bl_head {c d : UInt8} (h : c.toNat < d.toNat) (x y : List UInt8) : Op.bytesLess (c :: x) (d :: y) = true := by
  simp [Op.bytesLess, UInt8.lt_iff_toNat_lt, h]
theorem bl_cons (c : UInt8) (x y : List UInt8) : Op.bytesLess (c :: x) (c :: y) = Op.bytesLess x y := by simp [Op.bytesLess]

/-- A value: its kind, number, text and truth. -/
abbrev V4 : Type := Int × Int × List UInt8 × Bool
def ordV (x y : V4) : Int := if x.1 = y.1 then (if x.1 = 1 then cmpI x.2.1 y.2.1 else if x.1 = 2 then cmpB (trimL x.2.2.1) (trimL y.2.2.1) else if x.1 = 3 then ordB x.2.2.2 y.2.2.2 else 0) else cmpI x.1 y.1

/-- k bytes of a number, the highest first. -/
def beN : Nat → Nat → List UInt8
  | 0, _ => []
  | k + 1, u => UInt8.ofNat (u / 256 ^ k) :: beN k u
/-- A text's code: each 0 is 0 and 255. -/
def esc (l : List UInt8) : List UInt8 := l.flatMap fun c => if c = 0 then [0, 255] else [c]
def code1 (v : V4) : List UInt8 :=
  if v.1 = 1 then 2 :: beN 8 (v.2.1 + 9223372036854775808).toNat
  else if v.1 = 2 then 3 :: (esc (trimL v.2.2.1) ++ [0, 0])
  else if v.1 = 3 then [4, if v.2.2.2 then 1 else 0]
  else [1]
def codeL (l : List V4) : List UInt8 := l.flatMap code1
/-- A right value. -/
def RightQ (v : V4) : Prop :=
  (v.1 = 0 ∧ v.2.1 = 0 ∧ v.2.2.1 = [] ∧ v.2.2.2 = false) ∨ (v.1 = 1 ∧ (-9223372036854775808 ≤ v.2.1 ∧ v.2.1 ≤ 9223372036854775807) ∧ v.2.2.1 = [] ∧ v.2.2.2 = false) ∨
  (v.1 = 2 ∧ v.2.1 = 0 ∧ v.2.2.2 = false) ∨ (v.1 = 3 ∧ v.2.1 = 0 ∧ v.2.2.1 = [])
/-- Right, and a text has no blanks at its end. -/
def NF (v : V4) : Prop := RightQ v ∧ trimL v.2.2.1 = v.2.2.1

theorem beN_len (k u : Nat) : (beN k u).length = k := by
  induction k with
  | zero => rfl
  | succ k ih => simp [beN, ih]
theorem beN_less (k u v : Nat) (x y : List UInt8) (h : u % 256 ^ k < v % 256 ^ k) : Op.bytesLess (beN k u ++ x) (beN k v ++ y) = true := by
  induction k with
  | zero => simp [Nat.mod_one] at h
  | succ k ih =>
    simp only [beN, List.cons_append]
    have hk : 0 < 256 ^ k := Nat.pow_pos (by decide)
    have eu : u % 256 ^ (k + 1) = u % 256 ^ k + 256 ^ k * (u / 256 ^ k % 256) := by rw [Nat.pow_succ, Nat.mod_mul]
    have ev : v % 256 ^ (k + 1) = v % 256 ^ k + 256 ^ k * (v / 256 ^ k % 256) := by rw [Nat.pow_succ, Nat.mod_mul]
    have mu := Nat.mod_lt u hk
    have mv := Nat.mod_lt v hk
    rw [eu, ev] at h
    generalize hp : 256 ^ k = P at *
    by_cases e : u / P % 256 = v / P % 256
    · have ed : UInt8.ofNat (u / P) = UInt8.ofNat (v / P) := by apply UInt8.toNat_inj.1; simpa using e
      rw [ed, bl_cons]
      rw [e] at h
      exact ih (by omega)
    · refine bl_head ?_ _ _
      simp only [UInt8.toNat_ofNat']
      show u / P % 256 < v / P % 256
      by_cases l : u / P % 256 < v / P % 256
      · exact l
      · exfalso
        have : v / P % 256 + 1 ≤ u / P % 256 := by omega
        have := Nat.mul_le_mul_left P this
        rw [Nat.mul_add] at this
        omega
/-- The number that bytes say, the highest first. -/
def beV (l : List UInt8) : Nat := l.foldl (fun a c => a * 256 + c.toNat) 0
theorem beV_snoc (l : List UInt8) (c : UInt8) : beV (l ++ [c]) = beV l * 256 + c.toNat := by simp [beV]
theorem snoc_ind {p : List UInt8 → Prop} (h0 : p []) (h1 : ∀ l c, p l → p (l ++ [c])) (l : List UInt8) : p l := by
  have h : ∀ m : List UInt8, p m.reverse := fun m => by
    induction m with
    | nil => exact h0
    | cons c m ih => rw [List.reverse_cons]; exact h1 _ _ ih
  have := h l.reverse
  rwa [List.reverse_reverse] at this
theorem beV_lt (l : List UInt8) : beV l < 256 ^ l.length := by
  induction l using snoc_ind with
  | h0 => simp [beV]
  | h1 l c ih =>
    rw [beV_snoc, List.length_append, List.length_singleton, Nat.pow_succ]
    have := c.toNat_lt
    omega
theorem beN_snoc (k u : Nat) : beN (k + 1) u = beN k (u / 256) ++ [UInt8.ofNat u] := by
  induction k with
  | zero => simp [beN]
  | succ k ih =>
    rw [beN, ih]
    show _ = (UInt8.ofNat (u / 256 / 256 ^ k) :: beN k (u / 256)) ++ _
    rw [Nat.div_div_eq_div_mul, Nat.pow_succ, Nat.mul_comm 256]
    rfl
theorem beN_beV (l : List UInt8) : beN l.length (beV l) = l := by
  induction l using snoc_ind with
  | h0 => rfl
  | h1 l c ih =>
    have hc := c.toNat_lt
    rw [List.length_append, List.length_singleton, beN_snoc, beV_snoc, show (beV l * 256 + c.toNat) / 256 = beV l by omega, ih]
    congr 2
    apply UInt8.toNat_inj.1
    simp
theorem esc_nil : esc [] = [] := rfl
theorem esc_cons (c : UInt8) (l : List UInt8) : esc (c :: l) = (if c = 0 then [0, 255] else [c]) ++ esc l := by simp [esc]
theorem esc_app (l m : List UInt8) : esc (l ++ m) = esc l ++ esc m := by simp [esc]
theorem nz {c : UInt8} (h : c ≠ 0) : 0 < c.toNat := by
  have : c.toNat ≠ (0 : UInt8).toNat := fun e => h (UInt8.toNat_inj.1 e)
  simp at this; omega
theorem esc_less : ∀ (a b x y : List UInt8), Op.bytesLess a b = true → Op.bytesLess (esc a ++ 0 :: 0 :: x) (esc b ++ 0 :: 0 :: y) = true
  | [], [], _, _, h => by simp [Op.bytesLess] at h
  | [], d :: b, x, y, _ => by
    rw [esc_nil, esc_cons]
    by_cases e : d = 0
    · subst e; simp [Op.bytesLess]
    · simp only [e, if_false, List.nil_append, List.cons_append]
      exact bl_head (by have := nz e; simpa using this) _ _
  | _ :: _, [], _, _, h => by simp [Op.bytesLess] at h
  | c :: a, d :: b, x, y, h => by
    simp only [Op.bytesLess, Bool.or_eq_true, Bool.and_eq_true, decide_eq_true_eq, beq_iff_eq, UInt8.lt_iff_toNat_lt] at h
    rw [esc_cons, esc_cons, List.append_assoc, List.append_assoc]
    rcases h with h | ⟨rfl, h⟩
    · have hd : d ≠ 0 := by rintro rfl; simp at h
      by_cases e : c = 0
      · subst e
        simp only [hd, if_true, if_false, List.cons_append, List.nil_append]
        exact bl_head h _ _
      · simp only [hd, e, if_false, List.cons_append, List.nil_append]
        exact bl_head h _ _
    · rw [bl_app]
      exact esc_less a b x y h

theorem cmpB_neg {a b : List UInt8} (h : cmpB a b < 0) : Op.bytesLess a b = true := by
  unfold cmpB at h
  cases e : Op.bytesLess a b
  · rw [e] at h; simp at h; split at h <;> omega
  · rfl
theorem cmpB_zero {a b : List UInt8} (h : cmpB a b = 0) : a = b := by
  unfold cmpB at h
  cases e : Op.bytesLess a b
  · rw [e] at h; simp at h; exact h
  · rw [e] at h; simp at h
theorem cmpB_lt {a b : List UInt8} (h : Op.bytesLess a b = true) : cmpB a b = -1 := by simp [cmpB, h]
theorem cmpB_eq (a : List UInt8) : cmpB a a = 0 := by simp [cmpB, bl_irrefl]
theorem cmpB_gt {a b : List UInt8} (h : Op.bytesLess b a = true) : cmpB a b = 1 := by simp [cmpB, bl_asymm h, bl_ne h]
theorem cmpB_swap (a b : List UInt8) : cmpB a b = - cmpB b a := by
  rcases bl_tri a b with h | rfl | h
  · rw [cmpB_lt h, cmpB_gt h]
  · rw [cmpB_eq]; rfl
  · rw [cmpB_lt h, cmpB_gt h]; rfl
theorem cmpI_swap (a b : Int) : cmpI a b = - cmpI b a := by unfold cmpI; (repeat' split) <;> omega
theorem ordB_swap (a b : Bool) : ordB a b = - ordB b a := by cases a <;> cases b <;> rfl
theorem ordV_swap (a b : V4) : ordV a b = - ordV b a := by
  unfold ordV
  by_cases e : a.1 = b.1
  · rw [if_pos e, if_pos e.symm, ← e]
    by_cases e1 : a.1 = 1
    · rw [if_pos e1, if_pos e1]; exact cmpI_swap _ _
    by_cases e2 : a.1 = 2
    · rw [if_neg e1, if_pos e2, if_neg e1, if_pos e2]; exact cmpB_swap _ _
    by_cases e3 : a.1 = 3
    · rw [if_neg e1, if_neg e2, if_pos e3, if_neg e1, if_neg e2, if_pos e3]; exact ordB_swap _ _
    rw [if_neg e1, if_neg e2, if_neg e3, if_neg e1, if_neg e2, if_neg e3]; rfl
  · rw [if_neg e, if_neg (Ne.symm e)]; exact cmpI_swap _ _

theorem right_kind {v : V4} (h : RightQ v) : v.1 = 0 ∨ v.1 = 1 ∨ v.1 = 2 ∨ v.1 = 3 := by
  rcases h with h | h | h | h
  · exact Or.inl h.1
  · exact Or.inr (Or.inl h.1)
  · exact Or.inr (Or.inr (Or.inl h.1))
  · exact Or.inr (Or.inr (Or.inr h.1))
theorem right_num {v : V4} (h : RightQ v) (h1 : v.1 = 1) : -9223372036854775808 ≤ v.2.1 ∧ v.2.1 ≤ 9223372036854775807 := by
  rcases h with h | h | h | h
  · rw [h.1] at h1; omega
  · exact h.2.1
  · rw [h.1] at h1; omega
  · rw [h.1] at h1; omega
theorem code_null {v : V4} (h : v.1 = 0) : code1 v = [1] := by simp [code1, h]
theorem code_num {v : V4} (h : v.1 = 1) : code1 v = 2 :: beN 8 (v.2.1 + 9223372036854775808).toNat := by simp [code1, h]
theorem code_text {v : V4} (h : v.1 = 2) : code1 v = 3 :: (esc (trimL v.2.2.1) ++ [0, 0]) := by simp [code1, h]
theorem code_bool {v : V4} (h : v.1 = 3) : code1 v = [4, if v.2.2.2 then 1 else 0] := by simp [code1, h]
theorem code_head {v : V4} (h : RightQ v) : ∃ (c : UInt8) (t : List UInt8), code1 v = c :: t ∧ (c.toNat : Int) = v.1 + 1 := by
  rcases right_kind h with e | e | e | e
  · exact ⟨_, _, code_null e, by rw [e]; rfl⟩
  · exact ⟨_, _, code_num e, by rw [e]; rfl⟩
  · exact ⟨_, _, code_text e, by rw [e]; rfl⟩
  · exact ⟨_, _, code_bool e, by rw [e]; rfl⟩
theorem code_less {a b : V4} (ha : RightQ a) (hb : RightQ b) (h : ordV a b < 0) (x y : List UInt8) : Op.bytesLess (code1 a ++ x) (code1 b ++ y) = true := by
  unfold ordV at h
  by_cases e : a.1 = b.1
  · rw [if_pos e] at h
    rcases right_kind ha with k | k | k | k
    · simp [k] at h
    · rw [if_pos k] at h
      have h2 : a.2.1 < b.2.1 := by unfold cmpI at h; split at h <;> (try split at h) <;> omega
      have na := right_num ha k
      have nb := right_num hb (e.symm.trans k)
      rw [code_num k, code_num (e.symm.trans k), List.cons_append, List.cons_append, bl_cons]
      refine beN_less 8 _ _ _ _ ?_
      rw [Nat.mod_eq_of_lt (by omega), Nat.mod_eq_of_lt (by omega)]
      omega
    · rw [if_neg (by omega), if_pos k] at h
      rw [code_text k, code_text (e.symm.trans k), List.cons_append, List.cons_append, bl_cons, List.append_assoc, List.append_assoc]
      exact esc_less _ _ _ _ (cmpB_neg h)
    · rw [if_neg (by omega), if_neg (by omega), if_pos k] at h
      rw [code_bool k, code_bool (e.symm.trans k)]
      cases ea : a.2.2.2 <;> cases eb : b.2.2.2 <;> rw [ea, eb] at h <;> simp [ordB] at h ⊢
      simp [Op.bytesLess]
  · rw [if_neg e] at h
    have h2 : a.1 < b.1 := by unfold cmpI at h; split at h <;> (try split at h) <;> omega
    obtain ⟨c, s, hs, hc⟩ := code_head ha
    obtain ⟨d, t, ht, hd⟩ := code_head hb
    rw [hs, ht]
    exact bl_head (by omega) _ _
theorem code_same {a b : V4} (ha : RightQ a) (h : ordV a b = 0) : code1 a = code1 b := by
  unfold ordV at h
  by_cases e : a.1 = b.1
  · rw [if_pos e] at h
    rcases right_kind ha with k | k | k | k
    · rw [code_null k, code_null (e.symm.trans k)]
    · rw [if_pos k] at h
      have h2 : a.2.1 = b.2.1 := by unfold cmpI at h; split at h <;> (try split at h) <;> omega
      rw [code_num k, code_num (e.symm.trans k), h2]
    · rw [if_neg (by omega), if_pos k] at h
      rw [code_text k, code_text (e.symm.trans k), cmpB_zero h]
    · rw [if_neg (by omega), if_neg (by omega), if_pos k] at h
      rw [code_bool k, code_bool (e.symm.trans k)]
      cases ea : a.2.2.2 <;> cases eb : b.2.2.2 <;> rw [ea, eb] at h <;> simp [ordB] at h ⊢
  · rw [if_neg e] at h
    unfold cmpI at h; split at h <;> (try split at h) <;> omega

/-- How two lists of values stand. -/
def ordL : List V4 → List V4 → Int
  | [], [] => 0
  | [], _ :: _ => -1
  | _ :: _, [] => 1
  | a :: l, b :: m => if ordV a b = 0 then ordL l m else ordV a b
def Rights (l : List V4) : Prop := ∀ v ∈ l, RightQ v
theorem rights_cons {v : V4} {l : List V4} : Rights (v :: l) ↔ RightQ v ∧ Rights l := by simp [Rights]
theorem rights_app {l m : List V4} : Rights (l ++ m) ↔ Rights l ∧ Rights m := by
  constructor
  · exact fun h => ⟨fun v hv => h v (by simp [hv]), fun v hv => h v (by simp [hv])⟩
  · rintro ⟨h1, h2⟩ v hv
    rcases List.mem_append.1 hv with hv | hv
    · exact h1 v hv
    · exact h2 v hv
theorem codeL_nil : codeL [] = [] := rfl
theorem codeL_cons (v : V4) (l : List V4) : codeL (v :: l) = code1 v ++ codeL l := by simp [codeL]
theorem codeL_app (l m : List V4) : codeL (l ++ m) = codeL l ++ codeL m := by simp [codeL]
theorem code_pos {v : V4} (h : RightQ v) : ∃ (c : UInt8) (t : List UInt8), code1 v = c :: t ∧ 1 ≤ c.toNat ∧ c.toNat ≤ 4 := by
  obtain ⟨c, t, e, hc⟩ := code_head h
  have := right_kind h
  exact ⟨c, t, e, by omega, by omega⟩
/-- Below, whatever follows; or the same code ahead of what follows. -/
theorem ordL_lt : ∀ {l m : List V4}, Rights l → Rights m → ordL l m < 0 → Op.bytesLess (codeL l) (codeL m) = true
  | [], [], _, _, h => by simp [ordL] at h
  | [], b :: m, _, hm, _ => by
    obtain ⟨c, t, e, _⟩ := code_pos (rights_cons.1 hm).1
    rw [codeL_nil, codeL_cons, e]; rfl
  | _ :: _, [], _, _, h => by simp [ordL] at h
  | a :: l, b :: m, hl, hm, h => by
    rw [codeL_cons, codeL_cons]
    unfold ordL at h
    by_cases e : ordV a b = 0
    · rw [if_pos e] at h
      rw [code_same (rights_cons.1 hl).1 e, bl_app]
      exact ordL_lt (rights_cons.1 hl).2 (rights_cons.1 hm).2 h
    · rw [if_neg e] at h
      exact code_less (rights_cons.1 hl).1 (rights_cons.1 hm).1 h _ _
theorem ordL_eq : ∀ {l m : List V4}, Rights l → ordL l m = 0 → codeL l = codeL m
  | [], [], _, _ => rfl
  | [], b :: m, _, h => by simp [ordL] at h
  | _ :: _, [], _, h => by simp [ordL] at h
  | a :: l, b :: m, hl, h => by
    unfold ordL at h
    by_cases e : ordV a b = 0
    · rw [if_pos e] at h
      rw [codeL_cons, codeL_cons, code_same (rights_cons.1 hl).1 e, ordL_eq (rights_cons.1 hl).2 h]
    · rw [if_neg e] at h; exact absurd h e
theorem ordL_swap : ∀ l m : List V4, ordL l m = - ordL m l
  | [], [] => rfl
  | [], _ :: _ => rfl
  | _ :: _, [] => rfl
  | a :: l, b :: m => by
    have := ordV_swap a b
    unfold ordL
    by_cases e : ordV a b = 0
    · rw [if_pos e, if_pos (by omega)]; exact ordL_swap l m
    · rw [if_neg e, if_neg (by omega)]; exact this
theorem ordL_gt {l m : List V4} (hl : Rights l) (hm : Rights m) (h : 0 < ordL l m) : Op.bytesLess (codeL m) (codeL l) = true :=
  ordL_lt hm hl (by have := ordL_swap l m; omega)
/-- Keys stand as their values do. -/
theorem key_less {l m : List V4} (hl : Rights l) (hm : Rights m) : Op.bytesLess (codeL l) (codeL m) = decide (ordL l m < 0) := by
  by_cases h : ordL l m < 0
  · simp [h, ordL_lt hl hm h]
  · simp only [h, decide_false]
    by_cases h0 : ordL l m = 0
    · rw [ordL_eq hl h0, bl_irrefl]
    · exact bl_asymm (ordL_gt hl hm (by omega))
theorem key_same {l m : List V4} (hl : Rights l) (hm : Rights m) : (codeL l == codeL m) = decide (ordL l m = 0) := by
  by_cases h0 : ordL l m = 0
  · simp [h0, ordL_eq hl h0]
  · simp only [h0, decide_false]
    by_cases h : ordL l m < 0
    · have := bl_ne (ordL_lt hl hm h)
      rw [beq_eq_false_iff_ne] at this ⊢
      exact Ne.symm this
    · exact bl_ne (ordL_gt hl hm (by omega))
theorem ordL_of_code {l m : List V4} (hl : Rights l) (hm : Rights m) (h : codeL l = codeL m) : ordL l m = 0 := by
  have := key_same hl hm
  rw [h] at this
  simpa using this.symm
theorem ordL_len : ∀ {l m : List V4}, ordL l m = 0 → l.length = m.length
  | [], [], _ => rfl
  | [], b :: m, h => by simp [ordL] at h
  | _ :: _, [], h => by simp [ordL] at h
  | a :: l, b :: m, h => by
    unfold ordL at h
    by_cases e : ordV a b = 0
    · rw [if_pos e] at h
      simp [ordL_len h]
    · rw [if_neg e] at h; exact absurd h e
theorem trimL_idem (l : List UInt8) : trimL (trimL l) = trimL l := by
  unfold trimL
  rw [List.reverse_reverse]
  congr 1
  generalize l.reverse = m
  induction m with
  | nil => rfl
  | cons c m ih =>
    by_cases h : (c == 32) = true
    · simp only [List.dropWhile_cons, h, if_true]; exact ih
    · simp [h]
theorem nf_eq {a b : V4} (ha : NF a) (hb : NF b) (h : ordV a b = 0) : a = b := by
  obtain ⟨K1, N1, S1, B1⟩ := a
  obtain ⟨K2, N2, S2, B2⟩ := b
  obtain ⟨ha, ta⟩ := ha
  obtain ⟨hb, tb⟩ := hb
  unfold ordV at h
  unfold RightQ at ha hb
  simp only at ha hb ta tb h
  by_cases e : K1 = K2
  · subst e
    rw [if_pos rfl] at h
    rcases ha with ⟨k, ha⟩ | ⟨k, ha⟩ | ⟨k, ha⟩ | ⟨k, ha⟩ <;> rcases hb with ⟨k', hb⟩ | ⟨k', hb⟩ | ⟨k', hb⟩ | ⟨k', hb⟩ <;> first | (exfalso; omega) | skip
    · rw [ha.1, ha.2.1, ha.2.2, hb.1, hb.2.1, hb.2.2]
    · rw [if_pos k] at h
      have : N1 = N2 := by unfold cmpI at h; split at h <;> (try split at h) <;> omega
      rw [ha.2.1, ha.2.2, hb.2.1, hb.2.2, this]
    · rw [if_neg (by omega), if_pos k] at h
      have := cmpB_zero h
      rw [ta, tb] at this
      rw [ha.1, ha.2, hb.1, hb.2, this]
    · rw [if_neg (by omega), if_neg (by omega), if_pos k] at h
      have : B1 = B2 := by cases B1 <;> cases B2 <;> simp [ordB] at h ⊢
      rw [ha.1, ha.2, hb.1, hb.2, this]
  · rw [if_neg e] at h
    unfold cmpI at h; split at h <;> (try split at h) <;> omega
theorem parse_ord {a b : V4} (ha : RightQ a) (hb : RightQ b) {x y : List UInt8} (h : code1 a ++ x = code1 b ++ y) : ordV a b = 0 ∧ x = y := by
  have h0 : ordV a b = 0 := by
    by_cases l : ordV a b < 0
    · have := code_less ha hb l x y
      rw [h, bl_irrefl] at this; cases this
    · by_cases g : 0 < ordV a b
      · have := code_less hb ha (by have := ordV_swap a b; omega) y x
        rw [h, bl_irrefl] at this; cases this
      · omega
  refine ⟨h0, ?_⟩
  rw [code_same ha h0] at h
  exact List.append_cancel_left h
theorem parse_one {a b : V4} (ha : NF a) (hb : NF b) {x y : List UInt8} (h : code1 a ++ x = code1 b ++ y) : a = b ∧ x = y := by
  obtain ⟨h0, hx⟩ := parse_ord ha.1 hb.1 h
  exact ⟨nf_eq ha hb h0, hx⟩
def NFs (l : List V4) : Prop := ∀ v ∈ l, NF v
theorem nfs_cons {v : V4} {l : List V4} : NFs (v :: l) ↔ NF v ∧ NFs l := by simp [NFs]
theorem nfs_snoc {v : V4} {l : List V4} (h : NFs l) (hv : NF v) : NFs (l ++ [v]) := by
  intro u hu
  rcases List.mem_append.1 hu with hu | hu
  · exact h u hu
  · rw [List.mem_singleton.1 hu]; exact hv
theorem NFs.rights {l : List V4} (h : NFs l) : Rights l := fun v hv => (h v hv).1
theorem parse_pre : ∀ {l l' : List V4} {r : List UInt8}, NFs l → NFs l' → codeL l' = codeL l ++ r → ∃ m, l' = l ++ m ∧ NFs m ∧ codeL m = r
  | [], l', r, _, h', e => ⟨l', rfl, h', e⟩
  | a :: l, [], r, h, _, e => by
    obtain ⟨c, t, ec, _⟩ := code_pos (nfs_cons.1 h).1.1
    rw [codeL_nil, codeL_cons, ec] at e
    simp at e
  | a :: l, b :: l', r, h, h', e => by
    rw [codeL_cons, codeL_cons, List.append_assoc] at e
    obtain ⟨rfl, e2⟩ := parse_one (nfs_cons.1 h').1 (nfs_cons.1 h).1 e
    obtain ⟨m, rfl, hm, he⟩ := parse_pre (nfs_cons.1 h).2 (nfs_cons.1 h').2 e2
    exact ⟨m, rfl, hm, he⟩
theorem parse_all {l m : List V4} (hl : NFs l) (hm : NFs m) (h : codeL l = codeL m) : l = m := by
  obtain ⟨k, e, hk, hc⟩ := parse_pre (r := []) hm hl (by rw [h, List.append_nil])
  cases k with
  | nil => rw [e, List.append_nil]
  | cons a k =>
    obtain ⟨c, t, ec, _⟩ := code_pos (nfs_cons.1 hk).1.1
    rw [codeL_cons, ec] at hc; simp at hc
/-- No value's code is ahead. -/
def NoVal (r : List UInt8) : Prop := ∀ v y, NF v → r ≠ code1 v ++ y
theorem no_code {l : List V4} {r : List UInt8} (hl : NFs l) (hr : r ≠ []) (h : NoVal r) : ∀ l', NFs l' → codeL l' ≠ codeL l ++ r := by
  intro l' h' e
  obtain ⟨m, _, hm, he⟩ := parse_pre hl h' e
  cases m with
  | nil => exact hr he.symm
  | cons v m => exact h v (codeL m) (nfs_cons.1 hm).1 (by rw [← he, codeL_cons])
/-- A value's own form: its text without the blanks at its end. -/
def normV (v : V4) : V4 := (v.1, v.2.1, trimL v.2.2.1, v.2.2.2)
theorem trimL_nil : trimL [] = [] := rfl
theorem norm_nf {v : V4} (h : RightQ v) : NF (normV v) := by
  refine ⟨?_, trimL_idem _⟩
  rcases h with h | h | h | h
  · exact Or.inl ⟨h.1, h.2.1, by simp [normV, h.2.2.1, trimL_nil], h.2.2.2⟩
  · exact Or.inr (Or.inl ⟨h.1, h.2.1, by simp [normV, h.2.2.1, trimL_nil], h.2.2.2⟩)
  · exact Or.inr (Or.inr (Or.inl h))
  · exact Or.inr (Or.inr (Or.inr ⟨h.1, h.2.1, by simp [normV, h.2.2, trimL_nil]⟩))
theorem norm_code (v : V4) : code1 (normV v) = code1 v := by
  show (if v.1 = 1 then _ else if v.1 = 2 then 3 :: (esc (trimL (trimL v.2.2.1)) ++ [0, 0]) else _) = _
  rw [trimL_idem]; rfl
theorem norm_codes (l : List V4) : codeL (l.map normV) = codeL l := by
  induction l with
  | nil => rfl
  | cons v l ih => rw [List.map_cons, codeL_cons, codeL_cons, norm_code, ih]
theorem norm_nfs {l : List V4} (h : Rights l) : NFs (l.map normV) := by
  intro v hv
  obtain ⟨u, hu, rfl⟩ := List.mem_map.1 hv
  exact norm_nf (h u hu)

/-- All that begin with a key lie between it and what is above it, and nothing else does. -/
theorem above_in (s r : List UInt8) (h : r = [] ∨ ∃ c t, r = c :: t ∧ c.toNat ≤ 4) : Op.bytesLess (s ++ r) s = false ∧ Op.bytesLess (s ++ [255]) (s ++ r) = false := by
  constructor
  · have := bl_app s r []
    rw [List.append_nil] at this
    rw [this]
    cases r <;> rfl
  · rw [bl_app]
    rcases h with rfl | ⟨c, t, rfl, hc⟩
    · rfl
    · cases e : Op.bytesLess [255] (c :: t) with
      | false => rfl
      | true =>
        simp [Op.bytesLess, UInt8.lt_iff_toNat_lt] at e
        rcases e with e | ⟨e, _⟩
        · omega
        · rw [← e] at hc; simp at hc
theorem codeL_small {m : List V4} (h : Rights m) : codeL m = [] ∨ ∃ c t, codeL m = c :: t ∧ c.toNat ≤ 4 := by
  cases m with
  | nil => exact Or.inl rfl
  | cons v m =>
    obtain ⟨c, t, e, _, h4⟩ := code_pos (rights_cons.1 h).1
    exact Or.inr ⟨c, t ++ codeL m, by rw [codeL_cons, e]; rfl, h4⟩
theorem above_out : ∀ {z x : List V4}, Rights z → Rights x → (x.length ≤ z.length ∧ ordL (z.take x.length) x = 0) ∨ (¬ (x.length ≤ z.length ∧ ordL (z.take x.length) x = 0) ∧ (Op.bytesLess (codeL z) (codeL x) = true ∨ ∀ y, Op.bytesLess (codeL x ++ y) (codeL z) = true))
  | z, [], _, _ => Or.inl ⟨Nat.zero_le _, rfl⟩
  | [], b :: x, _, hx => by
    refine Or.inr ⟨by simp, Or.inl ?_⟩
    obtain ⟨c, t, e, _⟩ := code_pos (rights_cons.1 hx).1
    rw [codeL_nil, codeL_cons, e]; rfl
  | a :: z, b :: x, hz, hx => by
    simp only [List.length_cons, Nat.add_le_add_iff_right, List.take_succ_cons, codeL_cons, List.append_assoc]
    by_cases e : ordV a b = 0
    · rw [code_same (rights_cons.1 hz).1 e]
      simp only [bl_app]
      have h : ordL (a :: z.take x.length) (b :: x) = ordL (z.take x.length) x := by rw [ordL, if_pos e]
      rw [h]
      exact above_out (rights_cons.1 hz).2 (rights_cons.1 hx).2
    · have h : ordL (a :: z.take x.length) (b :: x) = ordV a b := by rw [ordL, if_neg e]
      rw [h]
      refine Or.inr ⟨fun g => e g.2, ?_⟩
      by_cases l : ordV a b < 0
      · exact Or.inl (code_less (rights_cons.1 hz).1 (rights_cons.1 hx).1 l _ _)
      · refine Or.inr fun y => ?_
        exact code_less (rights_cons.1 hx).1 (rights_cons.1 hz).1 (by have := ordV_swap a b; omega) _ _

theorem esc_pre : ∀ {T T' : List UInt8} {r y : List UInt8}, esc T' ++ 0 :: 0 :: y = esc T ++ r → ∃ U, T' = T ++ U ∧ esc U ++ 0 :: 0 :: y = r
  | [], T', r, y, e => ⟨T', rfl, e⟩
  | c :: T, [], r, y, e => by
    rw [esc_nil, esc_cons] at e
    by_cases h : c = 0
    · simp [h] at e
    · simp [h] at e; exact absurd e.1.symm h
  | c :: T, d :: T', r, y, e => by
    rw [esc_cons, esc_cons, List.append_assoc, List.append_assoc] at e
    have hcd : d = c ∧ esc T' ++ 0 :: 0 :: y = esc T ++ r := by
      by_cases h : c = 0 <;> by_cases h' : d = 0
      · simp [h, h'] at e; exact ⟨h'.trans h.symm, e⟩
      · simp [h, h'] at e
      · simp [h, h'] at e; exact absurd e.1.symm h
      · simp [h, h'] at e; exact e
    obtain ⟨rfl, e2⟩ := hcd
    obtain ⟨U, rfl, hU⟩ := esc_pre e2
    exact ⟨U, rfl, hU⟩
/-- No text's code is ahead (behind its mark). -/
def NoText (r : List UInt8) : Prop := ∀ T y, trimL T = T → r ≠ esc T ++ 0 :: 0 :: y
theorem esc_start (U y : List UInt8) : (U = [] ∧ esc U ++ 0 :: 0 :: y = 0 :: 0 :: y) ∨ (∃ V, esc U ++ 0 :: 0 :: y = 0 :: 255 :: V) ∨ (∃ c V, c ≠ 0 ∧ esc U ++ 0 :: 0 :: y = c :: V) := by
  cases U with
  | nil => exact Or.inl ⟨rfl, rfl⟩
  | cons c U =>
    rw [esc_cons]
    by_cases h : c = 0
    · exact Or.inr (Or.inl ⟨esc U ++ 0 :: 0 :: y, by simp [h]⟩)
    · exact Or.inr (Or.inr ⟨c, esc U ++ 0 :: 0 :: y, h, by simp [h]⟩)
theorem no_text_short (T : List UInt8) : NoText (esc T ++ []) := fun T' y _ e => by
  obtain ⟨U, _, hU⟩ := esc_pre e.symm
  simp at hU
theorem no_text_one (T : List UInt8) : NoText (esc T ++ [0]) := fun T' y _ e => by
  obtain ⟨U, _, hU⟩ := esc_pre e.symm
  rcases esc_start U y with ⟨_, h⟩ | ⟨V, h⟩ | ⟨c, V, hc, h⟩ <;> rw [h] at hU <;> simp at hU
  exact hc hU.1
theorem no_text_bad (T : List UInt8) (d : UInt8) (r : List UInt8) (h0 : d ≠ 0) (h1 : d ≠ 255) : NoText (esc T ++ 0 :: d :: r) := fun T' y _ e => by
  obtain ⟨U, _, hU⟩ := esc_pre e.symm
  rcases esc_start U y with ⟨_, h⟩ | ⟨V, h⟩ | ⟨c, V, hc, h⟩ <;> rw [h] at hU <;> simp at hU
  · exact h0 hU.1.symm
  · exact h1 hU.1.symm
  · exact hc hU.1
theorem no_text_blank (T r : List UInt8) (h : trimL T ≠ T) : NoText (esc T ++ 0 :: 0 :: r) := fun T' y ht e => by
  obtain ⟨U, e1, hU⟩ := esc_pre e.symm
  rcases esc_start U y with ⟨hn, h'⟩ | ⟨V, h'⟩ | ⟨c, V, hc, h'⟩ 
  · rw [hn, List.append_nil] at e1; rw [e1] at ht; exact h ht
  · rw [h'] at hU; simp at hU
  · rw [h'] at hU; simp at hU; exact hc hU.1
theorem nf_num {N : Int} (h : -9223372036854775808 ≤ N ∧ N ≤ 9223372036854775807) : NF (1, N, [], false) := ⟨Or.inr (Or.inl ⟨rfl, h, rfl, rfl⟩), rfl⟩
theorem nf_text {T : List UInt8} (h : trimL T = T) : NF (2, 0, T, false) := ⟨Or.inr (Or.inr (Or.inl ⟨rfl, rfl, rfl⟩)), h⟩
theorem nf_null : NF (0, 0, [], false) := ⟨Or.inl ⟨rfl, rfl, rfl, rfl⟩, rfl⟩
theorem nf_bool (b : Bool) : NF (3, 0, [], b) := ⟨Or.inr (Or.inr (Or.inr ⟨rfl, rfl, rfl⟩)), rfl⟩
/-- What is behind the mark decides. -/
theorem no_val_mark (c : UInt8) (r : List UInt8) (h : c.toNat = 0 ∨ 4 < c.toNat) : NoVal (c :: r) := fun v y hv e => by
  obtain ⟨d, t, ed, h1, h4⟩ := code_pos hv.1
  rw [ed] at e
  simp at e
  rw [e.1] at h; omega
theorem no_val_nil : NoVal [] := fun v y hv e => by
  obtain ⟨d, t, ed, h1, h4⟩ := code_pos hv.1
  rw [ed] at e
  simp at e
theorem kind_of {v : V4} (hv : NF v) {c : UInt8} {r y : List UInt8} (e : c :: r = code1 v ++ y) : (c.toNat : Int) = v.1 + 1 := by
  obtain ⟨d, t, ed, hd⟩ := code_head hv.1
  rw [ed] at e
  simp at e
  rw [e.1]; exact hd
theorem no_val_num {r : List UInt8} (h : r.length < 8) : NoVal (2 :: r) := fun v y hv e => by
  have k := kind_of hv e
  have k1 : v.1 = 1 := by simp at k; omega
  rw [code_num k1] at e
  simp at e
  rw [e] at h
  simp [beN_len] at h
  omega
theorem no_val_text {r : List UInt8} (h : NoText r) : NoVal (3 :: r) := fun v y hv e => by
  have k := kind_of hv e
  have k1 : v.1 = 2 := by simp at k; omega
  rw [code_text k1] at e
  simp at e
  exact h (trimL v.2.2.1) y (trimL_idem _) (by rw [e])
theorem no_val_bool {r : List UInt8} (h : r = [] ∨ ∃ c t, r = c :: t ∧ 1 < c.toNat) : NoVal (4 :: r) := fun v y hv e => by
  have k := kind_of hv e
  have k1 : v.1 = 3 := by simp at k; omega
  rw [code_bool k1] at e
  simp at e
  rcases h with rfl | ⟨c, t, rfl, hc⟩
  · simp at e
  · simp at e
    rw [e.1] at hc
    split at hc <;> simp at hc
end Go.Proofs.YtjajngngajnnpaaDoor

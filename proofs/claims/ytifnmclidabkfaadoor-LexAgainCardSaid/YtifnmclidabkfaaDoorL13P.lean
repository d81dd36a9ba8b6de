/- Tokens of a text: what stands at a place, all of them, two texts one behind the other, what is read again, and where tokens stand; pure. -/
import Derived.Test.YtifnmclidabkfaaDoorRows
namespace Go.Proofs.YtifnmclidabkfaaDoor
set_option linter.unusedVariables false
set_option linter.unusedSimpArgs false

def isBl (c : UInt8) : Bool := c == 9 || c == 10 || c == 13 || c == 32
def isLt (c : UInt8) : Bool := (decide (97 ≤ c) && decide (c ≤ 122)) || (decide (65 ≤ c) && decide (c ≤ 90)) || c == 95
def isDg (c : UInt8) : Bool := decide (48 ≤ c) && decide (c ≤ 57)
def isWd (c : UInt8) : Bool := isLt c || isDg c
def lowc (c : UInt8) : UInt8 := if decide (65 ≤ c) && decide (c ≤ 90) then c + 32 else c
def isTx (c : UInt8) : Bool := decide (32 ≤ c) && decide (c ≤ 126)
/-- A token. -/
structure Tok where
  k : Int
  s : List UInt8
  n : Int
  at_ : Nat
deriving DecidableEq
/-- What stands at a place: so many bytes of blanks or of a comment, a token so long, or an error (1 Syntax, 2 OutOfRange, 3 TooLong, 4 TooLarge). -/
inductive Stp where
  | bl (n : Nat)
  | tk (k : Int) (s : List UInt8) (v : Int) (n : Nat)
  | no (e : Nat)
def blN : List UInt8 → Nat
  | [] => 0
  | c :: r => if isBl c then 1 else match r with
    | [] => 0
    | d :: r => if c == 45 && d == 45 then 2 + (r.takeWhile (· != 10)).length else 0
def wdS (r : List UInt8) : Stp := if 32 < (r.takeWhile isWd).length then .no 1 else .tk 0 ((r.takeWhile isWd).map lowc) 0 (r.takeWhile isWd).length
def val (d : List UInt8) : Nat := d.foldl (fun v c => 10 * v + (c.toNat - 48)) 0
def nmS (r : List UInt8) : Stp :=
  if 9223372036854775807 < val (r.takeWhile isDg) then .no 2
  else if ((r.dropWhile isDg).head?.map isLt).getD false then .no 1
  else .tk 1 [] (val (r.takeWhile isDg)) (r.takeWhile isDg).length
/-- What follows the sign that begins a text: what is between, and how many bytes it takes with its end. -/
def txN : List UInt8 → Option (List UInt8 × Nat)
  | [] => none
  | c :: r => if c == 39 then match r with
      | [] => some ([], 1)
      | d :: r => if d == 39 then (txN r).map fun p => (39 :: p.1, p.2 + 2) else some ([], 1)
    else (txN r).map fun p => (c :: p.1, p.2 + 1)
def txS (r : List UInt8) : Stp := match txN r with
  | none => .no 1
  | some (b, n) => if b.all isTx then if 400 < b.length then .no 3 else .tk 2 b 0 (n + 1) else .no 1
def signs : List (List UInt8) := [[60, 61], [62, 61], [60, 62], [124, 124], [40], [41], [44], [46], [59], [61], [60], [62], [43], [45], [42], [47]]
def sgS (r : List UInt8) : Stp := match signs.find? (fun g => g.isPrefixOf r) with
  | none => .no 1
  | some g => .tk 3 g 0 g.length
def stp (r : List UInt8) : Stp :=
  if 0 < blN r then .bl (blN r) else match r with
    | [] => .no 1
    | c :: q => if isLt c then wdS r else if isDg c then nmS r else if c == 39 then txS q else sgS r
def scN : Nat → Nat → Nat → List UInt8 → Except Nat (List Tok)
  | 0, _, _, _ => .ok []
  | f + 1, p, c, r => if r = [] then .ok [] else match stp r with
    | .no e => .error e
    | .bl n => scN f (p + n) c (r.drop n)
    | .tk k s v n => if 600 ≤ c then .error 4 else match scN f (p + n) (c + 1) (r.drop n) with
      | .error e => .error e
      | .ok l => .ok (⟨k, s, v, p⟩ :: l)
def scF (s : List UInt8) : Except Nat (List Tok) := if 2000 < s.length then .error 4 else scN s.length 0 0 s

theorem tw_len {α : Type} (p : α → Bool) (l : List α) : (l.takeWhile p).length ≤ l.length := by
  induction l with
  | nil => simp
  | cons a l ih =>
    rw [List.takeWhile_cons]
    split
    · simp only [List.length_cons]; omega
    · simp
theorem blN_le (r : List UInt8) : blN r ≤ r.length := by
  match r with
  | [] => simp [blN]
  | c :: [] => simp only [blN]; split <;> simp
  | c :: d :: r =>
    simp only [blN]
    have := tw_len (fun x : UInt8 => x != 10) r
    split
    · simp
    · split
      · simp only [List.length_cons]; omega
      · omega
theorem txN_le : ∀ (m : Nat) (r : List UInt8), r.length ≤ m → ∀ (b : List UInt8) (n : Nat), txN r = some (b, n) → 1 ≤ n ∧ n ≤ r.length := by
  intro m
  induction m with
  | zero =>
    intro r hr b n h
    have : r = [] := List.eq_nil_of_length_eq_zero (by omega)
    subst this
    simp [txN] at h
  | succ m ih =>
    intro r hr b n h
    match r with
    | [] => simp [txN] at h
    | c :: [] =>
      simp only [txN] at h
      split at h
      · simp at h; simp; omega
      · simp at h
    | c :: d :: r =>
      unfold txN at h
      split at h
      · simp only at h
        split at h
        · obtain ⟨⟨b', n'⟩, h1, h2⟩ := Option.map_eq_some_iff.1 h
          have := ih r (by simp at hr; omega) b' n' h1
          simp at h2
          simp only [List.length_cons]; omega
        · simp at h; simp only [List.length_cons]; omega
      · obtain ⟨⟨b', n'⟩, h1, h2⟩ := Option.map_eq_some_iff.1 h
        have := ih (d :: r) (by simp at hr ⊢; omega) b' n' h1
        simp at h2
        simp only [List.length_cons] at this ⊢; omega
theorem wd_pos {c : UInt8} {q : List UInt8} (h : isLt c = true) : 1 ≤ ((c :: q).takeWhile isWd).length := by
  rw [List.takeWhile_cons, if_pos (by simp [isWd, h])]; simp
theorem dg_pos {c : UInt8} {q : List UInt8} (h : isDg c = true) : 1 ≤ ((c :: q).takeWhile isDg).length := by
  rw [List.takeWhile_cons, if_pos h]; simp
theorem sg_len {g : List UInt8} (h : g ∈ signs) : 1 ≤ g.length := by
  have : signs.all (fun g => decide (1 ≤ g.length)) = true := by decide
  have := List.all_eq_true.1 this g h
  simpa using this
/-- A step takes some bytes, and no more than there are. -/
theorem stp_bl {r : List UInt8} {n : Nat} (h : stp r = .bl n) : 1 ≤ n ∧ n ≤ r.length := by
  unfold stp at h
  split at h
  · rename_i h0
    simp at h
    have := blN_le r
    omega
  · exfalso
    split at h
    · cases h
    · rename_i c q
      split at h
      · unfold wdS at h; split at h <;> cases h
      · split at h
        · unfold nmS at h; repeat' split at h
          all_goals cases h
        · split at h
          · unfold txS at h; repeat' split at h
            all_goals cases h
          · unfold sgS at h; split at h <;> cases h
theorem stp_tk {r : List UInt8} {k : Int} {s : List UInt8} {v : Int} {n : Nat} (h : stp r = .tk k s v n) : 1 ≤ n ∧ n ≤ r.length := by
  cases r with
  | nil => simp [stp, blN] at h
  | cons c q =>
    unfold stp at h
    split at h
    · cases h
    · simp only at h
      split at h
      · rename_i hl
        unfold wdS at h
        split at h
        · cases h
        · injection h with _ _ _ h
          have h1 := wd_pos (q := q) hl
          have h2 := tw_len isWd (c :: q)
          omega
      · split at h
        · rename_i hd
          unfold nmS at h
          split at h
          · cases h
          · split at h
            · cases h
            · injection h with _ _ _ h
              have h1 := dg_pos (q := q) hd
              have h2 := tw_len isDg (c :: q)
              omega
        · split at h
          · unfold txS at h
            split at h
            · cases h
            · rename_i b m hm
              have := txN_le q.length q (Nat.le_refl _) b m hm
              split at h
              · split at h
                · cases h
                · injection h with _ _ _ h
                  simp only [List.length_cons]; omega
              · cases h
          · unfold sgS at h
            split at h
            · cases h
            · rename_i g hg
              injection h with _ h1 _ h
              have h2 := sg_len (List.mem_of_find?_eq_some hg)
              have h3 := List.find?_some hg
              have h4 := (List.isPrefixOf_iff_prefix.1 h3).length_le
              omega
/-- How many steps may be taken does not matter, if there are enough. -/
theorem scN_fuel : ∀ (m f g p c : Nat) (r : List UInt8), r.length ≤ m → r.length ≤ f → r.length ≤ g → scN f p c r = scN g p c r := by
  intro m
  induction m with
  | zero =>
    intro f g p c r hm _ _
    have : r = [] := List.eq_nil_of_length_eq_zero (by omega)
    subst this
    cases f <;> cases g <;> simp [scN]
  | succ m ih =>
    intro f g p c r hm hf hg
    cases hr : r with
    | nil => cases f <;> cases g <;> simp [scN]
    | cons x q =>
      rw [← hr]
      have hl : r.length = q.length + 1 := by rw [hr]; simp
      obtain ⟨f', rfl⟩ : ∃ f', f = f' + 1 := ⟨f - 1, by omega⟩
      obtain ⟨g', rfl⟩ : ∃ g', g = g' + 1 := ⟨g - 1, by omega⟩
      have hne : ¬ r = [] := by rw [hr]; simp
      simp only [scN]
      rw [if_neg hne, if_neg hne]
      cases hs : stp r with
      | no e => rfl
      | bl n =>
        have := stp_bl hs
        simp only
        exact ih f' g' _ _ _ (by rw [List.length_drop]; omega) (by rw [List.length_drop]; omega) (by rw [List.length_drop]; omega)
      | tk k s v n =>
        have := stp_tk hs
        simp only
        rw [ih f' g' (p + n) (c + 1) (r.drop n) (by rw [List.length_drop]; omega) (by rw [List.length_drop]; omega) (by rw [List.length_drop]; omega)]
/-- Tokens so much further on. -/
def Tok.sh (d : Nat) (t : Tok) : Tok := { t with at_ := t.at_ + d }
theorem scN_pos : ∀ (f p d c : Nat) (r : List UInt8), scN f (p + d) c r = (scN f p c r).map (List.map (Tok.sh d)) := by
  intro f
  induction f with
  | zero => intro p d c r; rfl
  | succ f ih =>
    intro p d c r
    simp only [scN]
    split
    · rfl
    · cases hs : stp r with
      | no e => rfl
      | bl n =>
        simp only
        rw [show p + d + n = p + n + d by omega]
        exact ih _ _ _ _
      | tk k s v n =>
        simp only
        split
        · rfl
        · rw [show p + d + n = p + n + d by omega, ih]
          cases scN f (p + n) (c + 1) (r.drop n) <;> rfl
/-- All tokens, if there is no bound on how many. -/
def tkN : Nat → Nat → List UInt8 → Except Nat (List Tok)
  | 0, _, _ => .ok []
  | f + 1, p, r => if r = [] then .ok [] else match stp r with
    | .no e => .error e
    | .bl n => tkN f (p + n) (r.drop n)
    | .tk k s v n => match tkN f (p + n) (r.drop n) with
      | .error e => .error e
      | .ok l => .ok (⟨k, s, v, p⟩ :: l)
theorem scN_tk : ∀ (f p c : Nat) (r : List UInt8) (l : List Tok), scN f p c r = .ok l ↔ tkN f p r = .ok l ∧ (l = [] ∨ c + l.length ≤ 600) := by
  intro f
  induction f with
  | zero => intro p c r l; simp only [scN, tkN]; constructor <;> intro h
            · cases h; exact ⟨rfl, Or.inl rfl⟩
            · exact h.1
  | succ f ih =>
    intro p c r l
    simp only [scN, tkN]
    split
    · constructor
      · intro h; cases h; exact ⟨rfl, Or.inl rfl⟩
      · intro h; exact h.1
    · cases hs : stp r with
      | no e => simp
      | bl n => simp only; exact ih _ _ _ _
      | tk k s v n =>
        simp only
        have ih' := fun l' => ih (p + n) (c + 1) (r.drop n) l'
        by_cases hc : 600 ≤ c
        · rw [if_pos hc]
          constructor
          · intro h; cases h
          · rintro ⟨h, hl⟩
            exfalso
            split at h
            · cases h
            · cases h
              rcases hl with hl | hl
              · cases hl
              · simp only [List.length_cons] at hl; omega
        · rw [if_neg hc]
          constructor
          · intro h
            split at h
            · cases h
            · rename_i l' hl'
              cases h
              obtain ⟨h1, h2⟩ := (ih' l').1 hl'
              rw [h1]
              refine ⟨rfl, Or.inr ?_⟩
              simp only [List.length_cons]
              rcases h2 with h2 | h2
              · rw [h2]; simp only [List.length_nil]; omega
              · omega
          · rintro ⟨h, hl⟩
            split at h
            · cases h
            · rename_i l' hl'
              cases h
              have : scN f (p + n) (c + 1) (r.drop n) = .ok l' := (ih' l').2 ⟨hl', by
                rcases hl with hl | hl
                · cases hl
                · simp only [List.length_cons] at hl
                  exact Or.inr (by omega)⟩
              rw [this]
/-- A line's end behind what stands at a place changes nothing there. -/
theorem tw_nl {p : UInt8 → Bool} (hp : p 10 = false) (r b : List UInt8) : (r ++ 10 :: b).takeWhile p = r.takeWhile p := by
  induction r with
  | nil => simp [hp]
  | cons c q ih =>
    rw [List.cons_append, List.takeWhile_cons, List.takeWhile_cons, ih]
theorem blN_nl {r : List UInt8} (h : r ≠ []) (b : List UInt8) : blN (r ++ 10 :: b) = blN r := by
  match r, h with
  | c :: [], _ =>
    simp only [List.cons_append, List.nil_append, blN]
    split
    · rfl
    · rw [if_neg]; simp
  | c :: d :: r, _ =>
    simp only [List.cons_append, blN]
    rw [tw_nl (by decide)]
theorem wdS_nl (r b : List UInt8) : wdS (r ++ 10 :: b) = wdS r := by
  unfold wdS
  rw [tw_nl (by decide)]
theorem dw_nl {p : UInt8 → Bool} (hp : p 10 = false) (r b : List UInt8) : (r ++ 10 :: b).dropWhile p = r.dropWhile p ++ 10 :: b := by
  induction r with
  | nil => simp [hp]
  | cons c q ih =>
    rw [List.cons_append, List.dropWhile_cons, List.dropWhile_cons]
    split
    · exact ih
    · rfl
theorem nmS_nl (r b : List UInt8) : nmS (r ++ 10 :: b) = nmS r := by
  unfold nmS
  rw [tw_nl (by decide), dw_nl (by decide)]
  congr 2
  cases r.dropWhile isDg with
  | nil => simp; decide
  | cons c q => simp
theorem txN_nl : ∀ (m : Nat) (r : List UInt8), r.length ≤ m → ∀ (p : List UInt8 × Nat) (b : List UInt8), txN r = some p → txN (r ++ 10 :: b) = some p := by
  intro m
  induction m with
  | zero =>
    intro r hr p b h
    have : r = [] := List.eq_nil_of_length_eq_zero (by omega)
    subst this
    simp [txN] at h
  | succ m ih =>
    intro r hr p b h
    match r with
    | [] => simp [txN] at h
    | c :: [] =>
      simp only [txN] at h
      split at h
      · rename_i hc
        simp only [List.cons_append, List.nil_append, txN, hc, if_true]
        rw [if_neg (by decide)]
        exact h
      · simp at h
    | c :: d :: r =>
      rw [txN] at h
      rw [List.cons_append, List.cons_append, txN]
      split at h
      · rename_i hc
        rw [if_pos hc]
        try simp only at h
        try simp only
        split at h
        · rename_i hd
          rw [if_pos hd]
          obtain ⟨p', h1, h2⟩ := Option.map_eq_some_iff.1 h
          rw [ih r (by simp at hr; omega) p' b h1]
          simpa using h2
        · rename_i hd
          rw [if_neg hd]
          exact h
      · rename_i hc
        rw [if_neg hc]
        obtain ⟨p', h1, h2⟩ := Option.map_eq_some_iff.1 h
        have := ih (d :: r) (by simp at hr ⊢; omega) p' b h1
        rw [List.cons_append] at this
        rw [this]
        simpa using h2
theorem pre_nl : ∀ (g r b : List UInt8), ¬ (10 : UInt8) ∈ g → g.isPrefixOf (r ++ 10 :: b) = g.isPrefixOf r := by
  intro g
  induction g with
  | nil => intro r b _; rfl
  | cons x g ih =>
    intro r b h
    cases r with
    | nil =>
      have hx : (x == 10) = false := by
        rw [beq_eq_false_iff_ne]
        intro e
        exact h (by rw [e]; simp)
      simp [List.isPrefixOf, hx]
    | cons c q =>
      simp only [List.cons_append, List.isPrefixOf]
      rw [ih q b (fun e => h (by simp [e]))]
theorem sgS_nl (r b : List UInt8) : sgS (r ++ 10 :: b) = sgS r := by
  unfold sgS
  have : signs.find? (fun g => g.isPrefixOf (r ++ 10 :: b)) = signs.find? (fun g => g.isPrefixOf r) := by
    have hall : ∀ g ∈ signs, ¬ (10 : UInt8) ∈ g := by decide
    have : ∀ l : List (List UInt8), (∀ g ∈ l, ¬ (10 : UInt8) ∈ g) → l.find? (fun g => g.isPrefixOf (r ++ 10 :: b)) = l.find? (fun g => g.isPrefixOf r) := by
      intro l
      induction l with
      | nil => intro _; rfl
      | cons g l ih =>
        intro hl
        rw [List.find?_cons, List.find?_cons, pre_nl g r b (hl g (by simp)), ih (fun g' hg' => hl g' (by simp [hg']))]
    exact this signs hall
  rw [this]
def Stp.bad : Stp → Bool
  | .no _ => true
  | _ => false
theorem stp_nl {r : List UInt8} (h : r ≠ []) (hb : (stp r).bad = false) (b : List UInt8) : stp (r ++ 10 :: b) = stp r := by
  cases r with
  | nil => exact absurd rfl h
  | cons c q =>
    unfold stp at hb ⊢
    rw [blN_nl h]
    split
    · rfl
    · rename_i h0
      rw [if_neg h0] at hb
      simp only [List.cons_append] at hb ⊢
      split
      · exact wdS_nl (c :: q) b
      · rename_i h1
        rw [if_neg h1] at hb
        split
        · exact nmS_nl (c :: q) b
        · rename_i h2
          rw [if_neg h2] at hb
          split
          · rename_i h3
            rw [if_pos h3] at hb
            unfold txS at hb ⊢
            cases ht : txN q with
            | none => rw [ht] at hb; cases hb
            | some p =>
              rw [txN_nl q.length q (Nat.le_refl _) p b ht]
          · exact sgS_nl (c :: q) b
theorem tkN_fuel : ∀ (m f g p : Nat) (r : List UInt8), r.length ≤ m → r.length ≤ f → r.length ≤ g → tkN f p r = tkN g p r := by
  intro m
  induction m with
  | zero =>
    intro f g p r hm _ _
    have : r = [] := List.eq_nil_of_length_eq_zero (by omega)
    subst this
    cases f <;> cases g <;> simp [tkN]
  | succ m ih =>
    intro f g p r hm hf hg
    cases hr : r with
    | nil => cases f <;> cases g <;> simp [tkN]
    | cons x q =>
      rw [← hr]
      have hl : r.length = q.length + 1 := by rw [hr]; simp
      obtain ⟨f', rfl⟩ : ∃ f', f = f' + 1 := ⟨f - 1, by omega⟩
      obtain ⟨g', rfl⟩ : ∃ g', g = g' + 1 := ⟨g - 1, by omega⟩
      have hne : ¬ r = [] := by rw [hr]; simp
      simp only [tkN]
      rw [if_neg hne, if_neg hne]
      cases hs : stp r with
      | no e => rfl
      | bl n =>
        have := stp_bl hs
        simp only
        exact ih f' g' _ _ (by rw [List.length_drop]; omega) (by rw [List.length_drop]; omega) (by rw [List.length_drop]; omega)
      | tk k s v n =>
        have := stp_tk hs
        simp only
        rw [ih f' g' (p + n) (r.drop n) (by rw [List.length_drop]; omega) (by rw [List.length_drop]; omega) (by rw [List.length_drop]; omega)]
theorem emap_id {x : Except Nat (List Tok)} : x.map (fun y => [] ++ y) = x := by cases x <;> rfl
/-- Two texts with a line's end between. -/
theorem tkN_join : ∀ (m : Nat) (a b : List UInt8) (f g p : Nat) (l : List Tok), a.length ≤ m → a.length ≤ f → a.length + b.length + 1 ≤ g → tkN f p a = .ok l →
    tkN g p (a ++ 10 :: b) = (tkN g (p + a.length) (10 :: b)).map (fun y => l ++ y) := by
  intro m
  induction m with
  | zero =>
    intro a b f g p l hm hf hg h
    have : a = [] := List.eq_nil_of_length_eq_zero (by omega)
    subst this
    have hl : l = [] := by cases f <;> simp [tkN] at h <;> exact h
    subst hl
    rw [emap_id]
    rfl
  | succ m ih =>
    intro a b f g p l hm hf hg h
    cases ha : a with
    | nil =>
      subst ha
      have hl : l = [] := by cases f <;> simp [tkN] at h <;> exact h
      subst hl
      rw [emap_id]
      rfl
    | cons x q =>
      rw [← ha]
      have hla : a.length = q.length + 1 := by rw [ha]; simp
      have hne : ¬ a = [] := by rw [ha]; simp
      obtain ⟨f', rfl⟩ : ∃ f', f = f' + 1 := ⟨f - 1, by omega⟩
      obtain ⟨g', rfl⟩ : ∃ g', g = g' + 1 := ⟨g - 1, by omega⟩
      have hne2 : ¬ a ++ 10 :: b = [] := by rw [ha]; simp
      have hfu : tkN (g' + 1) (p + a.length) (10 :: b) = tkN g' (p + a.length) (10 :: b) := tkN_fuel (b.length + 1) _ _ _ _ (by simp) (by simp; omega) (by simp; omega)
      rw [hfu]
      simp only [tkN] at h ⊢
      rw [if_neg hne] at h
      rw [if_neg hne2]
      cases hs : stp a with
      | no e => rw [hs] at h; cases h
      | bl n =>
        have hn := stp_bl hs
        rw [stp_nl hne (by rw [hs]; rfl) b, hs]
        rw [hs] at h
        simp only at h ⊢
        rw [List.drop_append_of_le_length (by omega)]
        have := ih (a.drop n) b f' g' (p + n) l (by rw [List.length_drop]; omega) (by rw [List.length_drop]; omega) (by rw [List.length_drop]; omega) h
        rw [this, List.length_drop, show p + n + (a.length - n) = p + a.length by omega]
      | tk k s v n =>
        have hn := stp_tk hs
        rw [stp_nl hne (by rw [hs]; rfl) b, hs]
        rw [hs] at h
        simp only at h ⊢
        split at h
        · cases h
        · rename_i l' hl'
          cases h
          rw [List.drop_append_of_le_length (by omega)]
          have := ih (a.drop n) b f' g' (p + n) l' (by rw [List.length_drop]; omega) (by rw [List.length_drop]; omega) (by rw [List.length_drop]; omega) hl'
          rw [this, List.length_drop, show p + n + (a.length - n) = p + a.length by omega]
          cases tkN g' (p + a.length) (10 :: b) <;> rfl
theorem tkN_pos : ∀ (f p d : Nat) (r : List UInt8), tkN f (p + d) r = (tkN f p r).map (List.map (Tok.sh d)) := by
  intro f
  induction f with
  | zero => intro p d r; rfl
  | succ f ih =>
    intro p d r
    simp only [tkN]
    split
    · rfl
    · cases hs : stp r with
      | no e => rfl
      | bl n =>
        simp only
        rw [show p + d + n = p + n + d by omega]
        exact ih _ _ _
      | tk k s v n =>
        simp only
        rw [show p + d + n = p + n + d by omega, ih]
        cases tkN f (p + n) (r.drop n) <;> rfl
/-- .. the first one's tokens, and then the second one's, so much further on. -/
theorem tk_join {a b : List UInt8} {l : List Tok} (h : tkN a.length 0 a = .ok l) : tkN (a ++ 10 :: b).length 0 (a ++ 10 :: b) = (tkN b.length 0 b).map (fun y => l ++ y.map (Tok.sh (a.length + 1))) := by
  have hl : (a ++ 10 :: b).length = a.length + b.length + 1 := by simp; omega
  rw [tkN_join a.length a b a.length _ 0 l (Nat.le_refl _) (Nat.le_refl _) (by omega) h, hl]
  have hs : stp (10 :: b) = .bl 1 := by
    have hb : blN (10 :: b) = 1 := by cases b <;> rfl
    unfold stp
    rw [hb]
    rfl
  simp only [tkN]
  rw [if_neg (by simp), hs]
  simp only [List.drop_succ_cons, List.drop_zero]
  rw [show 0 + a.length + 1 = 0 + (a.length + 1) by omega, tkN_pos, tkN_fuel b.length (a.length + b.length) b.length 0 b (Nat.le_refl _) (by omega) (Nat.le_refl _)]
  cases tkN b.length 0 b <;> rfl
theorem tw_take {p : UInt8 → Bool} : ∀ (q : List UInt8) (k : Nat), (q.takeWhile p).length ≤ k → (q.take k).takeWhile p = q.takeWhile p := by
  intro q
  induction q with
  | nil => intro k _; simp
  | cons c q ih =>
    intro k hk
    rw [List.takeWhile_cons] at hk ⊢
    split at hk
    · rename_i hc
      rw [if_pos hc]
      cases k with
      | zero => simp at hk
      | succ k =>
        rw [List.take_succ_cons, List.takeWhile_cons, if_pos hc, ih k (by simpa using hk)]
    · rename_i hc
      rw [if_neg hc]
      cases k with
      | zero => simp
      | succ k => rw [List.take_succ_cons, List.takeWhile_cons, if_neg hc]
/-- What is cut off behind blanks changes nothing of them. -/
theorem blN_take {r : List UInt8} (h : 0 < blN r) {m : Nat} (hm : blN r ≤ m) : blN (r.take m) = blN r := by
  match r with
  | [] => simp [blN] at h
  | c :: [] =>
    cases m with
    | zero => omega
    | succ m => simp
  | c :: d :: q =>
    cases m with
    | zero => omega
    | succ m =>
      by_cases hc : isBl c = true
      · simp only [List.take_succ_cons, blN, hc, if_true]
      · simp only [blN, hc] at h hm ⊢
        simp only [if_neg (show ¬ (false = true) by simp)] at h hm ⊢
        by_cases hd : (c == 45 && d == 45) = true
        · rw [if_pos hd] at h hm ⊢
          cases m with
          | zero => omega
          | succ m =>
            simp only [List.take_succ_cons, hc, if_neg (show ¬ (false = true) by simp)]
            rw [if_pos hd, tw_take q m (by omega)]
        · rw [if_neg hd] at h; omega
/-- Ahead of the first token stand blanks and comments alone. -/
theorem tk_first : ∀ (m f p : Nat) (r : List UInt8) (l : List Tok), r.length ≤ m → r.length ≤ f → tkN f p r = .ok l →
    (l = []) ∨ ∃ (g : Nat) (k : Int) (s : List UInt8) (v : Int) (n : Nat) (l' : List Tok), g < r.length ∧ l = ⟨k, s, v, p + g⟩ :: l' ∧ stp (r.drop g) = .tk k s v n ∧ tkN f (p + g + n) (r.drop (g + n)) = .ok l' ∧ (∀ f' p', g ≤ f' → tkN f' p' (r.take g) = .ok []) := by
  intro m
  induction m with
  | zero =>
    intro f p r l hm hf h
    have : r = [] := List.eq_nil_of_length_eq_zero (by omega)
    subst this
    left
    cases f <;> simp [tkN] at h <;> exact h
  | succ m ih =>
    intro f p r l hm hf h
    cases hr : r with
    | nil =>
      subst hr
      left
      cases f <;> simp [tkN] at h <;> exact h
    | cons x q =>
      rw [← hr]
      have hla : r.length = q.length + 1 := by rw [hr]; simp
      have hne : ¬ r = [] := by rw [hr]; simp
      obtain ⟨f', rfl⟩ : ∃ f', f = f' + 1 := ⟨f - 1, by omega⟩
      simp only [tkN] at h
      rw [if_neg hne] at h
      cases hs : stp r with
      | no e => rw [hs] at h; cases h
      | bl n =>
        have hn := stp_bl hs
        rw [hs] at h
        simp only at h
        rcases ih f' (p + n) (r.drop n) l (by rw [List.length_drop]; omega) (by rw [List.length_drop]; omega) h with h0 | ⟨g, k, s, v, n2, l', h1, h2, h3, h4, h5⟩
        · exact Or.inl h0
        · right
          rw [List.length_drop] at h1
          refine ⟨n + g, k, s, v, n2, l', by omega, by rw [h2, Nat.add_assoc], ?_, ?_, ?_⟩
          · rw [← h3, List.drop_drop]
          · rw [List.drop_drop] at h4
            rw [tkN_fuel f' (f' + 1) f' _ _ (by rw [List.length_drop]; omega) (by rw [List.length_drop]; omega) (by rw [List.length_drop]; omega), show p + (n + g) + n2 = p + n + g + n2 by omega, show n + g + n2 = n + (g + n2) by omega]
            exact h4
          · intro fq pq hq
            have hb : blN r = n ∧ 0 < blN r := by
              unfold stp at hs
              split at hs
              · rename_i h0
                injection hs with hs
                exact ⟨hs, h0⟩
              · exfalso
                rename_i h0
                have : stp r = .bl n := by unfold stp; rw [if_neg h0]; exact hs
                unfold stp at this
                rw [if_neg h0] at this
                rw [hr] at this
                simp only at this
                split at this
                · unfold wdS at this; split at this <;> cases this
                · split at this
                  · unfold nmS at this; repeat' split at this
                    all_goals cases this
                  · split at this
                    · unfold txS at this; repeat' split at this
                      all_goals cases this
                    · unfold sgS at this; split at this <;> cases this
            have hst : stp (r.take (n + g)) = .bl n := by
              unfold stp
              rw [blN_take hb.2 (by omega), hb.1, if_pos (by omega)]
            obtain ⟨fq', rfl⟩ : ∃ fq', fq = fq' + 1 := ⟨fq - 1, by omega⟩
            simp only [tkN]
            have hne3 : ¬ r.take (n + g) = [] := by
              intro e
              rw [e] at hst
              simp [stp, blN] at hst
            rw [if_neg hne3, hst]
            simp only
            have : (r.take (n + g)).drop n = (r.drop n).take g := by rw [List.drop_take]; congr 1; omega
            rw [this]
            exact h5 fq' _ (by omega)
      | tk k s v n =>
        have hn := stp_tk hs
        rw [hs] at h
        simp only at h
        split at h
        · cases h
        · rename_i l' hl'
          cases h
          right
          refine ⟨0, k, s, v, n, l', by omega, rfl, by simpa using hs, ?_, ?_⟩
          · simp only [Nat.add_zero, Nat.zero_add]
            rw [tkN_fuel f' (f' + 1) f' _ _ (by rw [List.length_drop]; omega) (by rw [List.length_drop]; omega) (by rw [List.length_drop]; omega)]
            exact hl'
          · intro fq pq _
            cases fq <;> simp [tkN]
theorem lowc_wd {c : UInt8} (h : isWd c = true) : isWd (lowc c) = true ∧ lowc (lowc c) = lowc c := by
  have : ∀ n : Fin 256, isWd (UInt8.ofNat n.val) = true → isWd (lowc (UInt8.ofNat n.val)) = true ∧ lowc (lowc (UInt8.ofNat n.val)) = lowc (UInt8.ofNat n.val) := by decide +kernel
  have h2 := this ⟨c.toNat, c.toNat_lt⟩
  simp only [UInt8.ofNat_toNat] at h2
  exact h2 h
theorem lowc_lt {c : UInt8} (h : isLt c = true) : isLt (lowc c) = true := by
  have : ∀ n : Fin 256, isLt (UInt8.ofNat n.val) = true → isLt (lowc (UInt8.ofNat n.val)) = true := by decide +kernel
  have h2 := this ⟨c.toNat, c.toNat_lt⟩
  simp only [UInt8.ofNat_toNat] at h2
  exact h2 h
theorem lt_parts {c : UInt8} (h : isLt c = true) : isBl c = false ∧ isDg c = false ∧ (c == 39) = false ∧ (c == 45) = false := by
  have : ∀ n : Fin 256, isLt (UInt8.ofNat n.val) = true → isBl (UInt8.ofNat n.val) = false ∧ isDg (UInt8.ofNat n.val) = false ∧ (UInt8.ofNat n.val == 39) = false ∧ (UInt8.ofNat n.val == 45) = false := by decide +kernel
  have h2 := this ⟨c.toNat, c.toNat_lt⟩
  simp only [UInt8.ofNat_toNat] at h2
  exact h2 h
theorem dg_parts {c : UInt8} (h : isDg c = true) : isBl c = false ∧ isLt c = false ∧ (c == 39) = false ∧ (c == 45) = false := by
  have : ∀ n : Fin 256, isDg (UInt8.ofNat n.val) = true → isBl (UInt8.ofNat n.val) = false ∧ isLt (UInt8.ofNat n.val) = false ∧ (UInt8.ofNat n.val == 39) = false ∧ (UInt8.ofNat n.val == 45) = false := by decide +kernel
  have h2 := this ⟨c.toNat, c.toNat_lt⟩
  simp only [UInt8.ofNat_toNat] at h2
  exact h2 h
theorem blN_no {c : UInt8} {q : List UInt8} (h : isBl c = false) (h2 : (c == 45) = false) : blN (c :: q) = 0 := by
  cases q with
  | nil => simp [blN, h]
  | cons d q => simp [blN, h, h2]
theorem tw_all {p : UInt8 → Bool} : ∀ (w : List UInt8) (x : UInt8) (b : List UInt8), (∀ c ∈ w, p c = true) → p x = false → (w ++ x :: b).takeWhile p = w ∧ (w ++ x :: b).dropWhile p = x :: b := by
  intro w
  induction w with
  | nil => intro x b _ hx; simp [hx]
  | cons c w ih =>
    intro x b hw hx
    obtain ⟨h1, h2⟩ := ih x b (fun d hd => hw d (by simp [hd])) hx
    have hc := hw c (by simp)
    rw [List.cons_append, List.takeWhile_cons, List.dropWhile_cons, if_pos hc, if_pos hc, h1]
    exact ⟨rfl, h2⟩
theorem tw_mem {p : UInt8 → Bool} : ∀ (r : List UInt8) (c : UInt8), c ∈ r.takeWhile p → p c = true := by
  intro r
  induction r with
  | nil => intro c h; simp at h
  | cons x q ih =>
    intro c h
    rw [List.takeWhile_cons] at h
    split at h
    · rename_i hx
      rcases List.mem_cons.1 h with rfl | h
      · exact hx
      · exact ih c h
    · cases h
/-- A token as it may be written: the signs of a text doubled. -/
def dbl : List UInt8 → List UInt8
  | [] => []
  | c :: q => if c == 39 then 39 :: 39 :: dbl q else c :: dbl q
theorem txN_dbl (b : List UInt8) : ∀ s : List UInt8, txN (dbl s ++ 39 :: 32 :: b) = some (s, (dbl s).length + 1) := by
  intro s
  induction s with
  | nil => simp [dbl, txN]
  | cons c q ih =>
    simp only [dbl]
    split
    · rename_i hc
      have hc' : c = 39 := by simpa using hc
      simp only [List.cons_append, txN, beq_self_eq_true, if_true]
      rw [ih, hc']
      simp
    · rename_i hc
      rw [List.cons_append, txN.eq_def]
      simp only [hc]
      rw [ih]
      simp
/-- A word, written by itself with a blank behind it, is read again. -/
theorem again_wd {c : UInt8} {q : List UInt8} (hl : isLt c = true) (hn : ¬ 32 < ((c :: q).takeWhile isWd).length) (b : List UInt8) : stp (((c :: q).takeWhile isWd).map lowc ++ 32 :: b) = .tk 0 (((c :: q).takeWhile isWd).map lowc) 0 ((c :: q).takeWhile isWd).length := by
  have hw : ∀ x ∈ (c :: q).takeWhile isWd, isWd x = true := fun x hx => tw_mem _ x hx
  have hd : (c :: q).takeWhile isWd = c :: q.takeWhile isWd := by rw [List.takeWhile_cons, if_pos (by simp [isWd, hl])]
  generalize (c :: q).takeWhile isWd = w at *
  subst hd
  have hall : ∀ x ∈ (c :: q.takeWhile isWd).map lowc, isWd x = true := fun x hx => by
    obtain ⟨y, hy, rfl⟩ := List.mem_map.1 hx
    exact (lowc_wd (hw y hy)).1
  have hidem : ((c :: q.takeWhile isWd).map lowc).map lowc = (c :: q.takeWhile isWd).map lowc := by
    rw [List.map_map]
    refine List.map_congr_left (fun x hx => ?_)
    exact (lowc_wd (hw x hx)).2
  have ht := (tw_all ((c :: q.takeWhile isWd).map lowc) 32 b hall (by decide)).1
  have hlt := lowc_lt hl
  obtain ⟨h1, h2, h3, h4⟩ := lt_parts hlt
  unfold stp
  have hb0 : blN ((c :: q.takeWhile isWd).map lowc ++ 32 :: b) = 0 := blN_no h1 h4
  rw [hb0, if_neg (by omega)]
  simp only [List.map_cons, List.cons_append]
  rw [if_pos hlt]
  unfold wdS
  simp only [List.map_cons, List.cons_append] at ht
  rw [ht, if_neg (by simpa using hn)]
  simp only [List.map_cons, List.length_cons, List.length_map] at hidem ⊢
  rw [hidem]
theorem again_tx {s : List UInt8} (h1 : s.all isTx = true) (h2 : ¬ 400 < s.length) (b : List UInt8) : stp (39 :: dbl s ++ 39 :: 32 :: b) = .tk 2 s 0 ((dbl s).length + 2) := by
  unfold stp
  have hb0 : blN (39 :: dbl s ++ 39 :: 32 :: b) = 0 := blN_no (by decide) (by decide)
  rw [hb0, if_neg (by omega)]
  simp only [List.cons_append]
  rw [if_neg (by decide), if_neg (by decide), if_pos (by decide)]
  unfold txS
  rw [txN_dbl]
  simp only [h1, if_true, if_neg h2]
theorem again_sg {g : List UInt8} (h : g ∈ signs) (b : List UInt8) : stp (g ++ 32 :: b) = .tk 3 g 0 g.length := by
  simp only [signs, List.mem_cons, List.not_mem_nil, or_false] at h
  rcases h with rfl | rfl | rfl | rfl | rfl | rfl | rfl | rfl | rfl | rfl | rfl | rfl | rfl | rfl | rfl | rfl <;> rfl
theorem again_nm {d : List UInt8} (hd : ∀ c ∈ d, isDg c = true) (hne : d ≠ []) (hv : ¬ 9223372036854775807 < val d) (b : List UInt8) : stp (d ++ 32 :: b) = .tk 1 [] (val d) d.length := by
  cases d with
  | nil => exact absurd rfl hne
  | cons c q =>
    have hc := hd c (by simp)
    obtain ⟨h1, h2, h3, h4⟩ := dg_parts hc
    obtain ⟨t1, t2⟩ := tw_all (c :: q) 32 b hd (by decide)
    unfold stp
    have hb0 : blN (c :: q ++ 32 :: b) = 0 := blN_no h1 h4
    rw [hb0, if_neg (by omega)]
    simp only [List.cons_append]
    rw [if_neg (by simp [h2]), if_pos hc]
    unfold nmS
    rw [List.cons_append] at t1 t2
    rw [t1, t2, if_neg hv]
    exact if_neg (show ¬ isLt 32 = true by decide)
/-- Blanks are read over. -/
theorem stp_32 (b : List UInt8) : stp (32 :: b) = .bl 1 := by
  have hb : blN (32 :: b) = 1 := by cases b <;> rfl
  unfold stp
  rw [hb]
  rfl
/-- A token that stands somewhere. -/
def Good (k : Int) (s : List UInt8) (v : Int) : Prop := ∃ r n, stp r = .tk k s v n
theorem tkN_good : ∀ (f p : Nat) (r : List UInt8) (l : List Tok), tkN f p r = .ok l → ∀ t ∈ l, Good t.k t.s t.n := by
  intro f
  induction f with
  | zero => intro p r l h t ht; simp [tkN] at h; subst h; cases ht
  | succ f ih =>
    intro p r l h t ht
    simp only [tkN] at h
    split at h
    · cases h; cases ht
    · cases hs : stp r with
      | no e => rw [hs] at h; cases h
      | bl n => rw [hs] at h; exact ih _ _ _ h t ht
      | tk k s v n =>
        rw [hs] at h
        simp only at h
        split at h
        · cases h
        · rename_i l' hl'
          cases h
          rcases List.mem_cons.1 ht with rfl | ht
          · exact ⟨r, n, hs⟩
          · exact ih _ _ _ hl' t ht
/-- How a token may be written; dg: how a number is. -/
def spl (dg : Int → List UInt8) (k : Int) (s : List UInt8) (v : Int) : List UInt8 := if k = 1 then dg v else if k = 2 then 39 :: (dbl s ++ [39]) else s
structure Digs (dg : Int → List UInt8) : Prop where
  all : ∀ v, 0 ≤ v → v ≤ 9223372036854775807 → ∀ c ∈ dg v, isDg c = true
  ne : ∀ v, 0 ≤ v → v ≤ 9223372036854775807 → dg v ≠ []
  val : ∀ v, 0 ≤ v → v ≤ 9223372036854775807 → val (dg v) = v.toNat
theorem again_one {dg : Int → List UInt8} (hdg : Digs dg) {k : Int} {s : List UInt8} {v : Int} (h : Good k s v) (b : List UInt8) : stp (spl dg k s v ++ 32 :: b) = .tk k s v (spl dg k s v).length := by
  obtain ⟨r, n, h⟩ := h
  cases r with
  | nil => simp [stp, blN] at h
  | cons c q =>
    unfold stp at h
    split at h
    · cases h
    · simp only at h
      split at h
      · rename_i hl
        unfold wdS at h
        split at h
        · cases h
        · rename_i hn
          injection h with e1 e2 e3 e4
          subst e1 e2 e3 e4
          have := again_wd hl hn b
          simp only [spl]
          rw [if_neg (by omega), if_neg (by omega), this, List.length_map]
      · split at h
        · unfold nmS at h
          split at h
          · cases h
          · rename_i hv
            split at h
            · cases h
            · injection h with e1 e2 e3 e4
              subst e1 e2
              have hv0 : (0 : Int) ≤ v := by omega
              have hv1 : v ≤ 9223372036854775807 := by omega
              have hval := hdg.val v hv0 hv1
              have := again_nm (hdg.all v hv0 hv1) (hdg.ne v hv0 hv1) (by rw [hval]; omega) b
              simp only [spl, if_true]
              rw [this, hval, Int.toNat_of_nonneg hv0]
        · split at h
          · unfold txS at h
            split at h
            · cases h
            · rename_i b' m hm
              split at h
              · rename_i ha
                split at h
                · cases h
                · rename_i hl
                  injection h with e1 e2 e3 e4
                  subst e1 e2 e3
                  have := again_tx ha hl b
                  simp only [spl]
                  rw [if_neg (by omega), if_pos trivial]
                  simp only [List.cons_append, List.append_assoc, List.nil_append, List.length_cons, List.length_append, List.length_nil] at this ⊢
                  exact this
              · cases h
          · unfold sgS at h
            split at h
            · cases h
            · rename_i g hg
              injection h with e1 e2 e3 e4
              subst e1 e2 e3
              have := again_sg (List.mem_of_find?_eq_some hg) b
              simp only [spl]
              rw [if_neg (by omega), if_neg (by omega)]
              exact this
/-- All tokens written one behind the other, with a blank behind each. -/
def spAll (dg : Int → List UInt8) : List Tok → List UInt8
  | [] => []
  | t :: l => spl dg t.k t.s t.n ++ 32 :: spAll dg l
def places (dg : Int → List UInt8) : Nat → List Tok → List Tok
  | _, [] => []
  | p, t :: l => { t with at_ := p } :: places dg (p + (spl dg t.k t.s t.n).length + 1) l
theorem again_all {dg : Int → List UInt8} (hdg : Digs dg) : ∀ (l : List Tok) (f p : Nat), (spAll dg l).length ≤ f → (∀ t ∈ l, Good t.k t.s t.n) → tkN f p (spAll dg l) = .ok (places dg p l) := by
  intro l
  induction l with
  | nil => intro f p _ _; cases f <;> simp [spAll, places, tkN]
  | cons t l ih =>
    intro f p hf hg
    have h1 := again_one hdg (hg t (by simp)) (spAll dg l)
    have hs := stp_tk h1
    have hlen : (spAll dg (t :: l)).length = (spl dg t.k t.s t.n).length + 1 + (spAll dg l).length := by simp [spAll]; omega
    obtain ⟨f', rfl⟩ : ∃ f', f = f' + 1 := ⟨f - 1, by omega⟩
    obtain ⟨f2, rfl⟩ : ∃ f2, f' = f2 + 1 := ⟨f' - 1, by omega⟩
    have e1 : spAll dg (t :: l) = spl dg t.k t.s t.n ++ 32 :: spAll dg l := rfl
    rw [tkN, e1, if_neg (by simp), h1]
    simp only [List.drop_left]
    rw [tkN, if_neg (by simp), stp_32]
    simp only [List.drop_succ_cons, List.drop_zero]
    rw [ih f2 _ (by omega) (fun t' ht' => hg t' (by simp [ht']))]
    rfl
theorem places_at {dg : Int → List UInt8} : ∀ (l : List Tok) (p i : Nat) (t : Tok), l[i]? = some t → ∃ a, (places dg p l)[i]? = some { t with at_ := a } := by
  intro l
  induction l with
  | nil => intro p i t h; simp at h
  | cons x l ih =>
    intro p i t h
    cases i with
    | zero => simp at h; subst h; exact ⟨p, rfl⟩
    | succ i => simpa [places] using ih _ i t (by simpa using h)
theorem places_len {dg : Int → List UInt8} : ∀ (l : List Tok) (p : Nat), (places dg p l).length = l.length := by
  intro l
  induction l with
  | nil => intro p; rfl
  | cons x l ih => intro p; simp [places, ih]
theorem txN_len : ∀ (m : Nat) (r : List UInt8), r.length ≤ m → ∀ (b : List UInt8) (n : Nat), txN r = some (b, n) → n = (dbl b).length + 1 := by
  intro m
  induction m with
  | zero =>
    intro r hr b n h
    have : r = [] := List.eq_nil_of_length_eq_zero (by omega)
    subst this
    simp [txN] at h
  | succ m ih =>
    intro r hr b n h
    match r with
    | [] => simp [txN] at h
    | c :: [] =>
      simp only [txN] at h
      split at h
      · simp at h; obtain ⟨rfl, rfl⟩ := h; rfl
      · simp at h
    | c :: d :: r =>
      unfold txN at h
      split at h
      · try simp only at h
        split at h
        · obtain ⟨⟨b', n'⟩, h1, h2⟩ := Option.map_eq_some_iff.1 h
          have := ih r (by simp at hr; omega) b' n' h1
          simp at h2
          obtain ⟨rfl, rfl⟩ := h2
          simp [dbl]; omega
        · simp at h; obtain ⟨rfl, rfl⟩ := h; rfl
      · rename_i hc
        obtain ⟨⟨b', n'⟩, h1, h2⟩ := Option.map_eq_some_iff.1 h
        have := ih (d :: r) (by simp at hr ⊢; omega) b' n' h1
        simp at h2
        obtain ⟨rfl, rfl⟩ := h2
        simp [dbl, hc]; omega
theorem sg_low {g : List UInt8} (h : g ∈ signs) : g.map lowc = g := by
  have : signs.all (fun g => decide (g.map lowc = g)) = true := by decide
  have := List.all_eq_true.1 this g h
  simpa using this
/-- How long a token is, and what stands there. -/
inductive Ends (r : List UInt8) (k : Int) (s : List UInt8) (n : Nat) : Prop where
  | ws (hk : k = 0 ∨ k = 3) (hn : n = s.length) (hb : (r.take n).map lowc = s)
  | nm (hk : k = 1) (hn : n = (r.takeWhile isDg).length) (h0 : 1 ≤ n)
  | tx (hk : k = 2) (hn : n = (dbl s).length + 2)
theorem tw_pre {p : UInt8 → Bool} : ∀ r : List UInt8, r.take (r.takeWhile p).length = r.takeWhile p := by
  intro r
  induction r with
  | nil => simp
  | cons c q ih =>
    rw [List.takeWhile_cons]
    split
    · simp only [List.length_cons, List.take_succ_cons, ih]
    · simp
theorem stp_ends {r : List UInt8} {k : Int} {s : List UInt8} {v : Int} {n : Nat} (h : stp r = .tk k s v n) : Ends r k s n := by
  have h00 := stp_tk h
  cases r with
  | nil => simp [stp, blN] at h
  | cons c q =>
    unfold stp at h
    split at h
    · cases h
    · simp only at h
      split at h
      · unfold wdS at h
        split at h
        · cases h
        · injection h with e1 e2 e3 e4
          subst e1 e2 e3 e4
          exact .ws (Or.inl rfl) (by simp) (by rw [tw_pre])
      · split at h
        · unfold nmS at h
          split at h
          · cases h
          · split at h
            · cases h
            · injection h with e1 e2 e3 e4
              subst e1 e2 e3 e4
              exact .nm rfl rfl h00.1
        · split at h
          · unfold txS at h
            split at h
            · cases h
            · rename_i b' m hm
              split at h
              · split at h
                · cases h
                · injection h with e1 e2 e3 e4
                  subst e1 e2 e3 e4
                  have := txN_len q.length q (Nat.le_refl _) _ _ hm
                  exact .tx rfl (by omega)
              · cases h
          · unfold sgS at h
            split at h
            · cases h
            · rename_i g hg
              injection h with e1 e2 e3 e4
              subst e1 e2 e3 e4
              have h3 := List.find?_some hg
              have hp := List.isPrefixOf_iff_prefix.1 h3
              refine .ws (Or.inr rfl) rfl ?_
              obtain ⟨t, ht⟩ := hp
              rw [← ht, List.take_left]
              exact sg_low (List.mem_of_find?_eq_some hg)
end Go.Proofs.YtifnmclidabkfaaDoor

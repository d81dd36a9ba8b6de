/- Plain mathematics of layer 2: which types are right, what a number, a text or a truth value becomes in a column, and what it comes to as one of another type. -/
import Derived.Test.YtfmnlgepllgpnaaGreatDoorB2
import Derived.Lib.ParseIntBCases
import Derived.Lib.ItoaNum
import Derived.Lib.TrimByte
import Derived.Lib.Repeat
import Derived.Lib.Case
namespace Go.Proofs.YtfmnlgepllgpnaaGreatDoor
open Go.RowKit
set_option linter.unusedVariables false

abbrev sOut : ByteArray := ⟨#[50, 50, 48, 48, 51]⟩
abbrev sMis : ByteArray := ⟨#[52, 50, 56, 48, 52]⟩
abbrev sLong : ByteArray := ⟨#[50, 50, 48, 48, 49]⟩
abbrev sBad : ByteArray := ⟨#[50, 50, 48, 49, 56]⟩
abbrev typ (b l : Int) : Value := .agg #[.int .i64 b, .int .i64 l]

/-- Is a type right? -/
def rightT (b l : Int) : Bool := if (b == 1 || b == 2 || b == 3 || b == 6) then l == 0 else if (b == 4 || b == 5) then decide (1 ≤ l) && decide (l ≤ 100) else false
/-- The kind of a type's values. -/
def kindT (b l : Int) : Int := if rightT b l then (if (b == 4 || b == 5) then 2 else if b == 6 then 3 else 1) else 0
/-- Is a number of a type? -/
def fitsT (n b : Int) : Bool := if b == 1 then decide (-32768 ≤ n) && decide (n ≤ 32767) else if b == 2 then decide (-2147483648 ≤ n) && decide (n ≤ 2147483647) else true
/-- A text with blanks behind it, for char. -/
def padL (s : List UInt8) (b l : Int) : List UInt8 := if b == 4 then s ++ List.replicate (l.toNat - s.length) 32 else s

/-- What right types there are. -/
theorem right_cases {b l : Int} (h : rightT b l = true) : ((b = 1 ∨ b = 2 ∨ b = 3 ∨ b = 6) ∧ l = 0) ∨ ((b = 4 ∨ b = 5) ∧ 1 ≤ l ∧ l ≤ 100) := by
  unfold rightT at h
  split at h
  · rename_i h1
    simp at h1 h
    exact Or.inl ⟨by omega, h⟩
  · split at h
    · rename_i h1 h2
      simp at h1 h2 h
      exact Or.inr ⟨by omega, h⟩
    · cases h
theorem kind_right {b l : Int} : (kindT b l == 0) = !rightT b l := by
  unfold kindT
  cases rightT b l
  · simp
  · simp only [if_true]
    split
    · simp
    · split <;> simp

/-- An answer: a value and a state. -/
structure Ans where
  k : Int
  n : Int
  s : ByteArray
  b : Bool
  st : ByteArray
def ansNo (st : ByteArray) : Ans := ⟨0, 0, ⟨#[]⟩, false, st⟩
def ansNum (n : Int) : Ans := ⟨1, n, ⟨#[]⟩, false, sDone⟩
def ansText (s : List UInt8) : Ans := ⟨2, 0, ⟨s.toArray⟩, false, sDone⟩
def ansBool (b : Bool) : Ans := ⟨3, 0, ⟨#[]⟩, b, sDone⟩
abbrev Ans.ret (a : Ans) : Value := .tuple #[val a.k a.n a.s a.b, .string a.st]

def numA (n b : Int) : Ans := if fitsT n b then ansNum n else ansNo sOut
def textA (s : List UInt8) (b l : Int) : Ans :=
  if (s.length : Int) ≤ l then ansText (padL s b l) else if trimL (s.drop l.toNat) = [] then ansText (padL (s.take l.toNat) b l) else ansNo sLong
def assignA (K N : Int) (S : List UInt8) (B : Bool) (b l : Int) : Ans :=
  if kindT b l == 0 then ansNo sMis else if K == 0 then ansNo sDone else if K != kindT b l then ansNo sMis else if K == 1 then numA N b else if K == 2 then textA S b l else ansBool B

/-- The digits' number. -/
def digV (acc : Nat) (l : List UInt8) : Nat := l.foldl (fun a c => a * 10 + (c.toNat - 48)) acc
theorem digV_nil (acc : Nat) : digV acc [] = acc := by unfold digV; rw [List.foldl_nil]
theorem digV_cons (acc : Nat) (c : UInt8) (r : List UInt8) : digV acc (c :: r) = digV (acc * 10 + (c.toNat - 48)) r := by unfold digV; rw [List.foldl_cons]
def isDig (c : UInt8) : Bool := decide (48 ≤ c.toNat) && decide (c.toNat ≤ 57)
def unsign (l : List UInt8) : List UInt8 := match l with
  | [] => []
  | c :: r => if c.toNat = 43 ∨ c.toNat = 45 then r else c :: r
def isMinus (l : List UInt8) : Bool := match l with
  | [] => false
  | c :: _ => c.toNat == 45
/-- Is a text a sign, or none, and 1 to 400 digits? -/
def isNumL (l : List UInt8) : Bool := decide (1 ≤ (unsign l).length) && decide ((unsign l).length ≤ 400) && (unsign l).all isDig
def numV (l : List UInt8) : Int := if isMinus l then -(digV 0 (unsign l) : Int) else digV 0 (unsign l)
def in64 (z : Int) : Bool := decide (-9223372036854775808 ≤ z) && decide (z ≤ 9223372036854775807)
def readA (l : List UInt8) (b : Int) : Ans := if isNumL l then (if in64 (numV l) && fitsT (numV l) b then ansNum (numV l) else ansNo sOut) else ansNo sBad
def foldL (l : List UInt8) : List UInt8 := l.map (· ||| 32)
def truthA (l : List UInt8) : Ans := if foldL l = [102, 97, 108, 115, 101] then ansBool false else if foldL l = [116, 114, 117, 101] then ansBool true else ansNo sBad
def toldA (s : List UInt8) (b l : Int) : Ans := if (s.length : Int) ≤ l then ansText (padL s b l) else ansNo sLong
def wordB (b : Bool) : List UInt8 := if b then [84, 82, 85, 69] else [70, 65, 76, 83, 69]
def castA (K N : Int) (S : List UInt8) (B : Bool) (b l : Int) : Ans :=
  if kindT b l == 0 then ansNo sMis else
  if K == 0 then ansNo sDone else
  if K == 1 then (if kindT b l == 1 then numA N b else if kindT b l == 2 then toldA (Lib.itoa N) b l else ansNo sMis) else
  if K == 2 then (if kindT b l == 1 then readA (Lib.trimB S 32) b else if kindT b l == 2 then ansText (padL (S.take l.toNat) b l) else truthA (Lib.trimB S 32)) else
  (if kindT b l == 1 then ansNo sMis else if kindT b l == 2 then toldA (wordB B) b l else ansBool B)

/-! ### Reading a number -/
theorem digV_mono (l : List UInt8) : ∀ a : Nat, a ≤ digV a l := by
  induction l with
  | nil => intro a; rw [digV_nil]; exact Nat.le_refl _
  | cons c r ih => intro a; rw [digV_cons]; exact Nat.le_trans (by omega) (ih (a * 10 + (c.toNat - 48)))
theorem uintM_cons (M acc : Nat) (c : UInt8) (r : List UInt8) : Lib.parseUintM M acc (c :: r) = if 48 ≤ c.toNat ∧ c.toNat ≤ 57 then
      if 1844674407370955162 ≤ acc then .range
      else if M < acc * 10 + (c.toNat - 48) then .range
      else Lib.parseUintM M (acc * 10 + (c.toNat - 48)) r
    else .syntax := by simp only [Lib.parseUintM]
theorem uintM_digs (M : Nat) (hM : M < 18446744073709551616) (l : List UInt8) : ∀ acc : Nat, l.all isDig = true → acc ≤ M → Lib.parseUintM M acc l = if digV acc l ≤ M then .ok (digV acc l) else .range := by
  induction l with
  | nil => intro acc _ h; simp only [Lib.parseUintM, digV_nil]; rw [if_pos h]
  | cons c r ih =>
    intro acc ha h
    rw [List.all_cons, Bool.and_eq_true] at ha
    obtain ⟨h0, h3⟩ := ha
    simp only [isDig, Bool.and_eq_true, decide_eq_true_eq] at h0
    have hm := digV_mono r (acc * 10 + (c.toNat - 48))
    rw [uintM_cons, if_pos h0, digV_cons]
    by_cases h5 : 1844674407370955162 ≤ acc
    · rw [if_pos h5, if_neg (by omega)]
    · rw [if_neg h5]
      by_cases h6 : M < acc * 10 + (c.toNat - 48)
      · rw [if_pos h6, if_neg (by omega)]
      · rw [if_neg h6]
        exact ih _ h3 (by omega)
theorem unsign_ne {l : List UInt8} (h : isNumL l = true) : unsign l ≠ [] := by
  intro h0
  simp [isNumL, h0] at h
theorem parseInt_num (B : Nat) (hB : B = 16 ∨ B = 32 ∨ B = 64) (l : List UInt8) (h : isNumL l = true) :
    Lib.parseIntB B l = if -(2 ^ (B - 1) : Int) ≤ numV l ∧ numV l < 2 ^ (B - 1) then .ok (numV l) else .range := by
  have hne := unsign_ne h
  simp only [isNumL, Bool.and_eq_true] at h
  have hd := h.2
  cases l with
  | nil => exact absurd rfl hne
  | cons c r =>
    have hu : (if c.toNat = 43 ∨ c.toNat = 45 then r else c :: r) = unsign (c :: r) := rfl
    simp only [Lib.parseIntB, hu, Lib.parseUintB, if_neg hne]
    rw [uintM_digs _ (by rcases hB with rfl | rfl | rfl <;> decide) _ _ hd (Nat.zero_le _)]
    have hm : isMinus (c :: r) = decide (c.toNat = 45) := by simp [isMinus]; rfl
    unfold numV
    rw [hm]
    generalize digV 0 (unsign (c :: r)) = D at *
    have key : ∀ P Q : Nat, P = 2 * Q → 0 < Q → (match (if D ≤ P - 1 then Lib.NumEnd.ok D else Lib.NumEnd.range : Lib.NumEnd Nat) with
      | .syntax => Lib.NumEnd.syntax
      | .range => .range
      | .ok u => if ¬ c.toNat = 45 ∧ Q ≤ u then .range else if c.toNat = 45 ∧ Q < u then .range else .ok (if c.toNat = 45 then -(u : Int) else u)) =
      if -(Q : Int) ≤ (if decide (c.toNat = 45) = true then -(D : Int) else D) ∧ (if decide (c.toNat = 45) = true then -(D : Int) else D) < Q then .ok (if decide (c.toNat = 45) = true then -(D : Int) else D) else .range := by
      intro P Q hPQ hQ0
      by_cases h45 : c.toNat = 45
      · simp only [h45, decide_true, if_true, not_true, false_and, if_false, true_and]
        by_cases hD : D ≤ P - 1
        · rw [if_pos hD]
          dsimp only
          by_cases hq : Q < D
          · rw [if_pos hq, if_neg (by omega)]
          · rw [if_neg hq]
            rw [if_pos (by omega)]
        · rw [if_neg hD]
          dsimp only
          rw [if_neg (by omega)]
      · simp only [h45, decide_false, if_false, not_false_eq_true, true_and, false_and, Bool.false_eq_true]
        by_cases hD : D ≤ P - 1
        · rw [if_pos hD]
          dsimp only
          by_cases hq : Q ≤ D
          · rw [if_pos hq, if_neg (by omega)]
          · rw [if_neg hq, if_pos (by omega)]
        · rw [if_neg hD]
          dsimp only
          rw [if_neg (by omega)]
    have hp : (2 : Nat) ^ B = 2 * 2 ^ (B - 1) := by rcases hB with rfl | rfl | rfl <;> decide
    have hc : ((2 ^ (B - 1) : Nat) : Int) = (2 : Int) ^ (B - 1) := by simp
    have := key (2 ^ B) (2 ^ (B - 1)) hp (Nat.pow_pos (by decide))
    rw [hc] at this
    exact this
end Go.Proofs.YtfmnlgepllgpnaaGreatDoor

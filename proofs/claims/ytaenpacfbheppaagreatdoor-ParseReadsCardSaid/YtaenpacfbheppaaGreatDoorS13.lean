/- Tokens of a text: what stands at a place, all of them, two texts one behind the other, what is read again, and where tokens stand; pure. The document's letter, digit, blank. A ground for any layer: rows of things of several cells, what a copy leaves of them, what a call may turn (out of B9A). The program's scanner as it lies: its end, what kind a byte is of, what stands at its place, what is taken. The program's scanner: what stands at its place, what is taken. All tokens from a place on; what is skipped. What a world holds of the program's signs and of Go's library; the program's word and number. Bytes that a call made: appends, and what they say as a text. The program's number. The program's text. The program's sign. The program's next. The program's Scan. Which words are reserved: the program's. -/
import Derived.Test.YtaenpacfbheppaaGreatDoorRows
import Derived.WalkKit
import Derived.WalkSpells
import Derived.WalkLawsBesides
import Derived.Deep.QuietTactic
import Derived.BigQuiet
import Derived.Deep.DeepCutAuto
import Derived.Deep.CutBlock
import Derived.Lib.Strings
import Derived.BigRegion
import Derived.Deep.RegionHeld3
import Derived.Deep.AppendLies
import Derived.Deep.RegionHeldLaw
import Derived.Deep.RegionWith
import Derived.Deep.MidRow
import Derived.Deep.LoopGhost
import Derived.Laws.CopyOwn
import Derived.Laws.EntriesVeiled
import Derived.Lib.SliceRun
import Derived.Lib.Overlaps
import Derived.Lib.AppendZerosOnto
import Derived.Great.BuildSlice
import Derived.Lib.QuietBelow
import Derived.Test.YtaenpacfbheppaaGreatDoorShelf
import Derived.Lib.LaidTab
import Derived.Lib.SmallJoins
import Derived.Lib.ParseIntBCases
import Derived.Lib.AppendStr
set_option maxHeartbeats 16000000
set_option maxRecDepth 100000
set_option linter.unusedVariables false
set_option linter.unusedSimpArgs false
namespace Go.Proofs.YtaenpacfbheppaaGreatDoor
theorem hidk {p : Prop} (h : p) : Go.RowKit.Hid p := h

def isBl (c : UInt8) : Bool := c == 9 || c == 10 || c == 13 || c == 32
def isLt (c : UInt8) : Bool := (decide (97 ≤ c) && decide (c ≤ 122)) || (decide (65 ≤ c) && decide (c ≤ 90)) || c == 95
def isDg (c : UInt8) : Bool := decide (48 ≤ c) && decide (c ≤ 57)
def isWd (c : UInt8) : Bool := isLt c || isDg c
def lowc (c : UInt8) : UInt8 := if decide (65 ≤ c) && decide (c ≤ 90) then c + 32 else c
def isTx (c : UInt8) : Bool := decide (32 ≤ c) && decide (c ≤ 126)
structure Tok where
  k : Int
  s : List UInt8
  n : Int
  at_ : Nat
deriving DecidableEq
inductive Stp where
  | bl (n : Nat)
  | tk (k : Int) (s : List UInt8) (v : Int) (n : Nat)
  | no (e : Nat)
def blN : List UInt8 → Nat
  | [] => 0
  | c :: r => if isBl c then 1 else match r with
    | [] => 0
    | d :: r => if c == 45 && d == 45 then 2 + (r.takeWhile (· != 10)).length else 0
def wdS (r : List UInt8) : Stp := if 32 < (r.takeWhile isWd).length then .no 1 else .tk 0 ((r.takeWhile isWd).map lowc) 0 (r.takeWhile isWd).length
def val (d : List UInt8) : Nat := d.foldl (fun v c => 10 * v + (c.toNat - 48)) 0
def nmS (r : List UInt8) : Stp :=
  if 9223372036854775807 < val (r.takeWhile isDg) then .no 2
  else if ((r.dropWhile isDg).head?.map isLt).getD false then .no 1
  else .tk 1 [] (val (r.takeWhile isDg)) (r.takeWhile isDg).length
def txN : List UInt8 → Option (List UInt8 × Nat)
  | [] => none
  | c :: r => if c == 39 then match r with
      | [] => some ([], 1)
      | d :: r => if d == 39 then (txN r).map fun p => (39 :: p.1, p.2 + 2) else some ([], 1)
    else (txN r).map fun p => (c :: p.1, p.2 + 1)
def txS (r : List UInt8) : Stp := match txN r with
  | none => .no 1
  | some (b, n) => if b.all isTx then if 400 < b.length then .no 3 else .tk 2 b 0 (n + 1) else .no 1
def signs : List (List UInt8) := [[60, 61], [62, 61], [60, 62], [124, 124], [40], [41], [44], [46], [59], [61], [60], [62], [43], [45], [42], [47]]
def sgS (r : List UInt8) : Stp := match signs.find? (fun g => g.isPrefixOf r) with
  | none => .no 1
  | some g => .tk 3 g 0 g.length
def stp (r : List UInt8) : Stp :=
  if 0 < blN r then .bl (blN r) else match r with
    | [] => .no 1
    | c :: q => if isLt c then wdS r else if isDg c then nmS r else if c == 39 then txS q else sgS r
def scN : Nat → Nat → Nat → List UInt8 → Except Nat (List Tok)
  | 0, _, _, _ => .ok []
  | f + 1, p, c, r => if r = [] then .ok [] else match stp r with
    | .no e => .error e
    | .bl n => scN f (p + n) c (r.drop n)
    | .tk k s v n => if 600 ≤ c then .error 4 else match scN f (p + n) (c + 1) (r.drop n) with
      | .error e => .error e
      | .ok l => .ok (⟨k, s, v, p⟩ :: l)
def scF (s : List UInt8) : Except Nat (List Tok) := if 2000 < s.length then .error 4 else scN s.length 0 0 s

theorem tw_len {α : Type} (p : α → Bool) (l : List α) : (l.takeWhile p).length ≤ l.length := by
  induction l with
  | nil => simp
  | cons a l ih =>
    rw [List.takeWhile_cons]
    split
    · simp only [List.length_cons]; omega
    · simp
theorem blN_le (r : List UInt8) : blN r ≤ r.length := by
  match r with
  | [] => simp [blN]
  | c :: [] => simp only [blN]; split <;> simp
  | c :: d :: r =>
    simp only [blN]
    have := tw_len (fun x : UInt8 => x != 10) r
    split
    · simp
    · split
      · simp only [List.length_cons]; omega
      · omega
theorem txN_le : ∀ (m : Nat) (r : List UInt8), r.length ≤ m → ∀ (b : List UInt8) (n : Nat), txN r = some (b, n) → 1 ≤ n ∧ n ≤ r.length := by
  intro m
  induction m with
  | zero =>
    intro r hr b n h
    have : r = [] := List.eq_nil_of_length_eq_zero (by omega)
    subst this
    simp [txN] at h
  | succ m ih =>
    intro r hr b n h
    match r with
    | [] => simp [txN] at h
    | c :: [] =>
      simp only [txN] at h
      split at h
      · simp at h; simp; omega
      · simp at h
    | c :: d :: r =>
      unfold txN at h
      split at h
      · simp only at h
        split at h
        · obtain ⟨⟨b', n'⟩, h1, h2⟩ := Option.map_eq_some_iff.1 h
          have := ih r (by simp at hr; omega) b' n' h1
          simp at h2
          simp only [List.length_cons]; omega
        · simp at h; simp only [List.length_cons]; omega
      · obtain ⟨⟨b', n'⟩, h1, h2⟩ := Option.map_eq_some_iff.1 h
        have := ih (d :: r) (by simp at hr ⊢; omega) b' n' h1
        simp at h2
        simp only [List.length_cons] at this ⊢; omega
theorem wd_pos {c : UInt8} {q : List UInt8} (h : isLt c = true) : 1 ≤ ((c :: q).takeWhile isWd).length := by
  rw [List.takeWhile_cons, if_pos (by simp [isWd, h])]; simp
theorem dg_pos {c : UInt8} {q : List UInt8} (h : isDg c = true) : 1 ≤ ((c :: q).takeWhile isDg).length := by
  rw [List.takeWhile_cons, if_pos h]; simp
theorem sg_len {g : List UInt8} (h : g ∈ signs) : 1 ≤ g.length := by
  have : signs.all (fun g => decide (1 ≤ g.length)) = true := by decide
  have := List.all_eq_true.1 this g h
  simpa using this
theorem stp_bl {r : List UInt8} {n : Nat} (h : stp r = .bl n) : 1 ≤ n ∧ n ≤ r.length := by
  unfold stp at h
  split at h
  · rename_i h0
    simp at h
    have := blN_le r
    omega
  · exfalso
    split at h
    · cases h
    · rename_i c q
      split at h
      · unfold wdS at h; split at h <;> cases h
      · split at h
        · unfold nmS at h; repeat' split at h
          all_goals cases h
        · split at h
          · unfold txS at h; repeat' split at h
            all_goals cases h
          · unfold sgS at h; split at h <;> cases h
theorem stp_tk {r : List UInt8} {k : Int} {s : List UInt8} {v : Int} {n : Nat} (h : stp r = .tk k s v n) : 1 ≤ n ∧ n ≤ r.length := by
  cases r with
  | nil => simp [stp, blN] at h
  | cons c q =>
    unfold stp at h
    split at h
    · cases h
    · simp only at h
      split at h
      · rename_i hl
        unfold wdS at h
        split at h
        · cases h
        · injection h with _ _ _ h
          have h1 := wd_pos (q := q) hl
          have h2 := tw_len isWd (c :: q)
          omega
      · split at h
        · rename_i hd
          unfold nmS at h
          split at h
          · cases h
          · split at h
            · cases h
            · injection h with _ _ _ h
              have h1 := dg_pos (q := q) hd
              have h2 := tw_len isDg (c :: q)
              omega
        · split at h
          · unfold txS at h
            split at h
            · cases h
            · rename_i b m hm
              have := txN_le q.length q (Nat.le_refl _) b m hm
              split at h
              · split at h
                · cases h
                · injection h with _ _ _ h
                  simp only [List.length_cons]; omega
              · cases h
          · unfold sgS at h
            split at h
            · cases h
            · rename_i g hg
              injection h with _ h1 _ h
              have h2 := sg_len (List.mem_of_find?_eq_some hg)
              have h3 := List.find?_some hg
              have h4 := (List.isPrefixOf_iff_prefix.1 h3).length_le
              omega
theorem scN_fuel : ∀ (m f g p c : Nat) (r : List UInt8), r.length ≤ m → r.length ≤ f → r.length ≤ g → scN f p c r = scN g p c r := by
  intro m
  induction m with
  | zero =>
    intro f g p c r hm _ _
    have : r = [] := List.eq_nil_of_length_eq_zero (by omega)
    subst this
    cases f <;> cases g <;> simp [scN]
  | succ m ih =>
    intro f g p c r hm hf hg
    cases hr : r with
    | nil => cases f <;> cases g <;> simp [scN]
    | cons x q =>
      rw [← hr]
      have hl : r.length = q.length + 1 := by rw [hr]; simp
      obtain ⟨f', rfl⟩ : ∃ f', f = f' + 1 := ⟨f - 1, by omega⟩
      obtain ⟨g', rfl⟩ : ∃ g', g = g' + 1 := ⟨g - 1, by omega⟩
      have hne : ¬ r = [] := by rw [hr]; simp
      simp only [scN]
      rw [if_neg hne, if_neg hne]
      cases hs : stp r with
      | no e => rfl
      | bl n =>
        have := stp_bl hs
        simp only
        exact ih f' g' _ _ _ (by rw [List.length_drop]; omega) (by rw [List.length_drop]; omega) (by rw [List.length_drop]; omega)
      | tk k s v n =>
        have := stp_tk hs
        simp only
        rw [ih f' g' (p + n) (c + 1) (r.drop n) (by rw [List.length_drop]; omega) (by rw [List.length_drop]; omega) (by rw [List.length_drop]; omega)]
def tkN : Nat → Nat → List UInt8 → Except Nat (List Tok)
  | 0, _, _ => .ok []
  | f + 1, p, r => if r = [] then .ok [] else match stp r with
    | .no e => .error e
    | .bl n => tkN f (p + n) (r.drop n)
    | .tk k s v n => match tkN f (p + n) (r.drop n) with
      | .error e => .error e
      | .ok l => .ok (⟨k, s, v, p⟩ :: l)
theorem scN_tk : ∀ (f p c : Nat) (r : List UInt8) (l : List Tok), scN f p c r = .ok l ↔ tkN f p r = .ok l ∧ (l = [] ∨ c + l.length ≤ 600) := by
  intro f
  induction f with
  | zero => intro p c r l; simp only [scN, tkN]; constructor <;> intro h
            · cases h; exact ⟨rfl, Or.inl rfl⟩
            · exact h.1
  | succ f ih =>
    intro p c r l
    simp only [scN, tkN]
    split
    · constructor
      · intro h; cases h; exact ⟨rfl, Or.inl rfl⟩
      · intro h; exact h.1
    · cases hs : stp r with
      | no e => simp
      | bl n => simp only; exact ih _ _ _ _
      | tk k s v n =>
        simp only
        have ih' := fun l' => ih (p + n) (c + 1) (r.drop n) l'
        by_cases hc : 600 ≤ c
        · rw [if_pos hc]
          constructor
          · intro h; cases h
          · rintro ⟨h, hl⟩
            exfalso
            split at h
            · cases h
            · cases h
              rcases hl with hl | hl
              · cases hl
              · simp only [List.length_cons] at hl; omega
        · rw [if_neg hc]
          constructor
          · intro h
            split at h
            · cases h
            · rename_i l' hl'
              cases h
              obtain ⟨h1, h2⟩ := (ih' l').1 hl'
              rw [h1]
              refine ⟨rfl, Or.inr ?_⟩
              simp only [List.length_cons]
              rcases h2 with h2 | h2
              · rw [h2]; simp only [List.length_nil]; omega
              · omega
          · rintro ⟨h, hl⟩
            split at h
            · cases h
            · rename_i l' hl'
              cases h
              have : scN f (p + n) (c + 1) (r.drop n) = .ok l' := (ih' l').2 ⟨hl', by
                rcases hl with hl | hl
                · cases hl
                · simp only [List.length_cons] at hl
                  exact Or.inr (by omega)⟩
              rw [this]
def Stp.bad : Stp → Bool
  | .no _ => true
  | _ => false
theorem lowc_lt {c : UInt8} (h : isLt c = true) : isLt (lowc c) = true := by
  have : ∀ n : Fin 256, isLt (UInt8.ofNat n.val) = true → isLt (lowc (UInt8.ofNat n.val)) = true := by decide +kernel
  have h2 := this ⟨c.toNat, c.toNat_lt⟩
  simp only [UInt8.ofNat_toNat] at h2
  exact h2 h
theorem blN_no {c : UInt8} {q : List UInt8} (h : isBl c = false) (h2 : (c == 45) = false) : blN (c :: q) = 0 := by
  cases q with
  | nil => simp [blN, h]
  | cons d q => simp [blN, h, h2]
theorem tw_mem {p : UInt8 → Bool} : ∀ (r : List UInt8) (c : UInt8), c ∈ r.takeWhile p → p c = true := by
  intro r
  induction r with
  | nil => intro c h; simp at h
  | cons x q ih =>
    intro c h
    rw [List.takeWhile_cons] at h
    split at h
    · rename_i hx
      rcases List.mem_cons.1 h with rfl | h
      · exact hx
      · exact ih c h
    · cases h
def dbl : List UInt8 → List UInt8
  | [] => []
  | c :: q => if c == 39 then 39 :: 39 :: dbl q else c :: dbl q
def Good (k : Int) (s : List UInt8) (v : Int) : Prop := ∃ r n, stp r = .tk k s v n
theorem tkN_good : ∀ (f p : Nat) (r : List UInt8) (l : List Tok), tkN f p r = .ok l → ∀ t ∈ l, Good t.k t.s t.n := by
  intro f
  induction f with
  | zero => intro p r l h t ht; simp [tkN] at h; subst h; cases ht
  | succ f ih =>
    intro p r l h t ht
    simp only [tkN] at h
    split at h
    · cases h; cases ht
    · cases hs : stp r with
      | no e => rw [hs] at h; cases h
      | bl n => rw [hs] at h; exact ih _ _ _ h t ht
      | tk k s v n =>
        rw [hs] at h
        simp only at h
        split at h
        · cases h
        · rename_i l' hl'
          cases h
          rcases List.mem_cons.1 ht with rfl | ht
          · exact ⟨r, n, hs⟩
          · exact ih _ _ _ hl' t ht
structure Digs (dg : Int → List UInt8) : Prop where
  all : ∀ v, 0 ≤ v → v ≤ 9223372036854775807 → ∀ c ∈ dg v, isDg c = true
  ne : ∀ v, 0 ≤ v → v ≤ 9223372036854775807 → dg v ≠ []
  val : ∀ v, 0 ≤ v → v ≤ 9223372036854775807 → val (dg v) = v.toNat
inductive Ends (r : List UInt8) (k : Int) (s : List UInt8) (n : Nat) : Prop where
  | ws (hk : k = 0 ∨ k = 3) (hn : n = s.length) (hb : (r.take n).map lowc = s)
  | nm (hk : k = 1) (hn : n = (r.takeWhile isDg).length) (h0 : 1 ≤ n)
  | tx (hk : k = 2) (hn : n = (dbl s).length + 2)
theorem tw_pre {p : UInt8 → Bool} : ∀ r : List UInt8, r.take (r.takeWhile p).length = r.takeWhile p := by
  intro r
  induction r with
  | nil => simp
  | cons c q ih =>
    rw [List.takeWhile_cons]
    split
    · simp only [List.length_cons, List.take_succ_cons, ih]
    · simp
end Go.Proofs.YtaenpacfbheppaaGreatDoor

namespace Go.Proofs.YtaenpacfbheppaaGreatDoor
open Go.RowKit

def ltI (x : Int) : Bool := (decide (97 ≤ x) && decide (x ≤ 122)) || (decide (65 ≤ x) && decide (x ≤ 90)) || decide (x = 95)
def dgI (x : Int) : Bool := decide (48 ≤ x) && decide (x ≤ 57)
def blI (x : Int) : Bool := decide (x = 9) || decide (x = 10) || decide (x = 13) || decide (x = 32)
theorem ltI_of (c : UInt8) : ltI c.toNat = isLt c := by
  have : ∀ n : Fin 256, ltI (UInt8.ofNat n.val).toNat = isLt (UInt8.ofNat n.val) := by decide +kernel
  have h := this ⟨c.toNat, c.toNat_lt⟩
  simpa only [UInt8.ofNat_toNat] using h
theorem dgI_of (c : UInt8) : dgI c.toNat = isDg c := by
  have : ∀ n : Fin 256, dgI (UInt8.ofNat n.val).toNat = isDg (UInt8.ofNat n.val) := by decide +kernel
  have h := this ⟨c.toNat, c.toNat_lt⟩
  simpa only [UInt8.ofNat_toNat] using h
theorem blI_of (c : UInt8) : blI c.toNat = isBl c := by
  have : ∀ n : Fin 256, blI (UInt8.ofNat n.val).toNat = isBl (UInt8.ofNat n.val) := by decide +kernel
  have h := this ⟨c.toNat, c.toNat_lt⟩
  simpa only [UInt8.ofNat_toNat] using h
theorem letter_ref (x : Int) (w : World) : Calls Tryz.prog 23 #[.int .u8 x] w fun e w' => e = .returned (.bool (ltI x)) ∧ w' = w := by
  by_cases h1 : 97 ≤ x <;> by_cases h2 : x ≤ 122 <;> by_cases h3 : 65 ≤ x <;> by_cases h4 : x ≤ 90 <;> by_cases h5 : x = 95
  all_goals first
    | omega
    | (have e5 : (x == 95) = decide (x = 95) := by by_cases h : x = 95 <;> simp [h]
       simp only [ltI, h1, h2, h3, h4, h5]
       go_enter Tryz.func23, Tryz.ntmps23
       go_wp2
       go_ret
       exact ⟨rfl, rfl⟩)
theorem digit_ref (x : Int) (w : World) : Calls Tryz.prog 24 #[.int .u8 x] w fun e w' => e = .returned (.bool (dgI x)) ∧ w' = w := by
  by_cases h1 : 48 ≤ x <;> by_cases h2 : x ≤ 57
  all_goals first
    | omega
    | (simp only [dgI, h1, h2]
       go_enter Tryz.func24, Tryz.ntmps24
       go_wp2
       go_ret
       exact ⟨rfl, rfl⟩)
def rest (s : ByteArray) (i : Nat) : List UInt8 := s.data.toList.drop i
theorem rest_len (s : ByteArray) (i : Nat) : (rest s i).length = s.size - i := by simp [rest]
theorem rest_at (s : ByteArray) {i : Nat} (h : i < s.size) : rest s i = s[i] :: rest s (i + 1) := by
  unfold rest
  rw [List.drop_eq_getElem_cons (by simpa using h)]
  congr 1
theorem rest_end (s : ByteArray) {i : Nat} (h : s.size ≤ i) : rest s i = [] := by
  unfold rest
  exact List.drop_eq_nil_of_le (by simpa using h)
theorem tw_stop {p : UInt8 → Bool} (s : ByteArray) : ∀ (m i n : Nat), s.size - i ≤ m → i + n ≤ s.size → (∀ j, j < n → ∀ h : i + j < s.size, p s[i + j] = true) → (∀ h : i + n < s.size, p s[i + n] = false) → ((rest s i).takeWhile p).length = n := by
  intro m
  induction m with
  | zero =>
    intro i n hm hn _ _
    rw [rest_end s (by omega)]
    simp; omega
  | succ m ih =>
    intro i n hm hn h1 h2
    by_cases hi : i < s.size
    · rw [rest_at s hi, List.takeWhile_cons]
      cases n with
      | zero =>
        have := h2 (by simpa using hi)
        simp only [Nat.add_zero] at this
        rw [if_neg (by rw [this]; simp)]
        rfl
      | succ n =>
        have := h1 0 (by omega) (by simpa using hi)
        simp only [Nat.add_zero] at this
        rw [if_pos this, List.length_cons]
        congr 1
        refine ih (i + 1) n (by omega) (by omega) (fun j hj h => ?_) (fun h => ?_)
        · have := h1 (j + 1) (by omega) (by omega)
          simpa only [show i + (j + 1) = i + 1 + j by omega] using this
        · have := h2 (by omega)
          simpa only [show i + (n + 1) = i + 1 + n by omega] using this
    · rw [rest_end s (by omega)]
      simp; omega
theorem u8_eq {c : UInt8} {n : Nat} (hn : n < 256) : ((c.toNat : Int) = (n : Int)) ↔ c = UInt8.ofNat n := by
  constructor
  · intro h
    have h' : c.toNat = n := by omega
    rw [← h']; simp
  · rintro rfl
    simp; omega
theorem blank_ref (s : ByteArray) (hs : s.size ≤ 10000) {i : Nat} (hi : i < s.size) (w : World) : Calls Tryz.prog 22 #[.string s, .int .i64 i] w fun e w' => e = .returned (.int .i64 (blN (rest s i) : Nat)) ∧ w' = w := by
  have hi2 : (i : Int) < (s.size : Int) := by omega
  have hb := blI_of s[i]
  cases hbl : isBl s[i] with
  | true =>
    rw [hbl] at hb
    have hv : blN (rest s i) = 1 := by rw [rest_at s hi]; simp only [blN, hbl, if_true]
    rw [hv]
    generalize hx : (s[i].toNat : Int) = x at *
    have hc : x = 9 ∨ x = 10 ∨ x = 13 ∨ x = 32 := by
      simp only [blI, Bool.or_eq_true, decide_eq_true_eq] at hb
      omega
    rcases hc with rfl | rfl | rfl | rfl
    all_goals
      go_enter Tryz.func22, Tryz.ntmps22
      go_wp2
      go_ret
      exact ⟨rfl, rfl⟩
  | false =>
    rw [hbl] at hb
    have hx9 : ((s[i].toNat : Int) == 9) = false ∧ ((s[i].toNat : Int) == 10) = false ∧ ((s[i].toNat : Int) == 13) = false ∧ ((s[i].toNat : Int) == 32) = false := by
      simp only [blI, Bool.or_eq_false_iff, decide_eq_false_iff_not] at hb
      simp only [beq_eq_false_iff_ne]
      exact ⟨hb.1.1.1, hb.1.1.2, hb.1.2, hb.2⟩
    obtain ⟨x1, x2, x3, x4⟩ := hx9
    clear hb
    by_cases h45 : (s[i].toNat : Int) = 45
    · have e45 : s[i] = 45 := (u8_eq (n := 45) (by omega)).1 h45
      by_cases hi1 : i + 1 < s.size
      · have hi3 : ¬ (i : Int) + 1 ≥ (s.size : Int) := by omega
        have hi4 : (i : Int) + 1 < (s.size : Int) := by omega
        by_cases hj45 : (s[i + 1].toNat : Int) = 45
        · have f45 : s[i + 1] = 45 := (u8_eq (n := 45) (by omega)).1 hj45
          have hv : blN (rest s i) = 2 + ((rest s (i + 2)).takeWhile (· != 10)).length := by
            rw [rest_at s hi, rest_at s hi1]
            simp only [blN, hbl, e45, f45]
            rfl
          rw [hv]
          clear x1 x2 x3 x4 hbl
          have HT : Hid (∀ n : Nat, 2 ≤ n → i + n ≤ s.size → (∀ j, 2 ≤ j → j < n → ∀ h : i + j < s.size, ¬ (s[i + j].toNat : Int) = 10) → (∀ h : i + n < s.size, (s[i + n].toNat : Int) = 10) → 2 + ((rest s (i + 2)).takeWhile (· != 10)).length = n) := fun n h2 hn ha hz => by
            have hne : ∀ c : UInt8, ¬ (c.toNat : Int) = 10 → (c != 10) = true := fun c hc => by
              rw [bne_iff_ne]
              intro e
              exact hc (by rw [e]; rfl)
            have heq : ∀ c : UInt8, (c.toNat : Int) = 10 → (c != 10) = false := fun c hc => by
              have : c = 10 := (u8_eq (n := 10) (by omega)).1 hc
              rw [this]; rfl
            have := tw_stop (p := fun c => c != 10) s s.size (i + 2) (n - 2) (by omega) (by omega) (fun j hj h => by
              have := ha (j + 2) (by omega) (by omega) (by omega)
              refine hne _ ?_
              simpa only [show i + (j + 2) = i + 2 + j by omega] using this) (fun h => by
              have := hz (by omega)
              refine heq _ ?_
              simpa only [show i + n = i + 2 + (n - 2) by omega] using this)
            omega
          generalize 2 + ((rest s (i + 2)).takeWhile (· != 10)).length = N at *
          have HS1 : Hid (∀ k : Nat, i + k < s.size → True) := fun _ _ => trivial
          go_enter Tryz.func22, Tryz.ntmps22
          go_wp2
          go_loopw [6] (fun x wr => ∃ n : Nat, x = .int .i64 n ∧ 2 ≤ n ∧ i + n ≤ s.size ∧ Hid (∀ j, 2 ≤ j → j < n → ∀ h : i + j < s.size, ¬ (s[i + j].toNat : Int) = 10) ∧ wr = w) (fun x _ => s.size - (intOf x).toNat)
          case atStart => exact ⟨2, rfl, by omega, by omega, fun j h1 h2 => by omega, rfl⟩
          case round =>
            obtain ⟨n, rfl, hn2, hns, HA, rfl⟩ := hrel
            by_cases hlt : i + n < s.size
            · have tl : (i : Int) + (n : Int) < (s.size : Int) := by omega
              by_cases h10 : (s[i + n].toNat : Int) = 10
              · have HE := hidk (HT.out n hn2 hns HA.out (fun h => h10))
                obtain rfl := HE.out
                clear HT HE HA
                go_wp2
                go_ret
                exact ⟨rfl, rfl⟩
              · have HN : Hid (∀ j, 2 ≤ j → j < n + 1 → ∀ h : i + j < s.size, ¬ (s[i + j].toNat : Int) = 10) := fun j h1 h2 h => by
                  by_cases e : j = n
                  · subst e; exact h10
                  · exact HA.out j h1 (by omega) h
                have h10' : ((s[i + n].toNat : Int) == 10) = false := by simpa using h10
                clear HT HA
                go_wp2
                go_roundw
                case rel => exact ⟨n + 1, by go_num, by omega, by omega, HN, by first | rfl | trivial⟩
                case measure => simp [intOf]; omega
            · have tl : ¬ (i : Int) + (n : Int) < (s.size : Int) := by omega
              have HE := hidk (HT.out n hn2 hns HA.out (fun h => absurd h hlt))
              obtain rfl := HE.out
              clear HT HE HA
              go_wp2
              go_ret
              exact ⟨rfl, rfl⟩
        · have hj45' : ((s[i + 1].toNat : Int) == 45) = false := by simpa using hj45
          have hv : blN (rest s i) = 0 := by
            rw [rest_at s hi, rest_at s hi1]
            have : (s[i + 1] == 45) = false := by
              rw [beq_eq_false_iff_ne]
              intro e
              exact hj45 (by rw [e]; rfl)
            simp only [blN, hbl, this]
            simp
          rw [hv]
          generalize (s[i].toNat : Int) = x at *
          subst h45
          go_enter Tryz.func22, Tryz.ntmps22
          go_wp2
          go_ret
          exact ⟨rfl, rfl⟩
      · have hi3 : (i : Int) + 1 ≥ (s.size : Int) := by omega
        have hv : blN (rest s i) = 0 := by
          rw [rest_at s hi, rest_end s (i := i + 1) (by omega)]
          simp only [blN, hbl]
          simp
        rw [hv]
        generalize (s[i].toNat : Int) = x at *
        subst h45
        go_enter Tryz.func22, Tryz.ntmps22
        go_wp2
        go_ret
        exact ⟨rfl, rfl⟩
    · have h45' : ((s[i].toNat : Int) == 45) = false := by simpa using h45
      have hv : blN (rest s i) = 0 := by
        rw [rest_at s hi]
        refine blN_no hbl ?_
        rw [beq_eq_false_iff_ne]
        intro e
        exact h45 (by rw [e]; rfl)
      rw [hv]
      have n1 : ¬ (s[i].toNat : Int) = 9 := by rw [beq_eq_false_iff_ne] at x1; exact x1
      have n2 : ¬ (s[i].toNat : Int) = 10 := by rw [beq_eq_false_iff_ne] at x2; exact x2
      have n3 : ¬ (s[i].toNat : Int) = 13 := by rw [beq_eq_false_iff_ne] at x3; exact x3
      have n4 : ¬ (s[i].toNat : Int) = 32 := by rw [beq_eq_false_iff_ne] at x4; exact x4
      clear hv
      go_enter Tryz.func22, Tryz.ntmps22
      go_wp2
      go_ret
      exact ⟨rfl, rfl⟩
end Go.Proofs.YtaenpacfbheppaaGreatDoor

namespace Go.Proofs.YtaenpacfbheppaaGreatDoor
open Go.RowKit

theorem flat_at {α β : Type} (c : α → List β) (n : Nat) (l : List α) (hl : ∀ x ∈ l, (c x).length = n) (k : Nat) (h : k < l.length) (j : Nat) (hj : j < n) : (l.flatMap c)[k * n + j]? = (c l[k])[j]? := by
  induction l generalizing k with
  | nil => simp at h
  | cons x l ih =>
    rw [List.flatMap_cons]
    have hx : (c x).length = n := hl x (by simp)
    cases k with
    | zero =>
      rw [List.getElem?_append_left (by rw [hx]; omega)]
      simp
    | succ k =>
      have e : (k + 1) * n + j = n + (k * n + j) := by rw [Nat.succ_mul]; omega
      rw [e, List.getElem?_append_right (by rw [hx]; omega), hx, Nat.add_sub_cancel_left]
      simpa using ih (fun y hy => hl y (by simp [hy])) k (by simpa using h)
structure Fr (w w' : World) (F : Nat → Prop) : Prop where
  os : w'.os = w.os
  tape : w'.tape = w.tape
  output : w'.output = w.output
  size : w.heap.size ≤ w'.heap.size
  block : ∀ k, k < w.heap.size → ¬ F k → w'.heap[k]? = w.heap[k]?
theorem Fr.refl (w : World) (F : Nat → Prop) : Fr w w F := ⟨rfl, rfl, rfl, Nat.le_refl _, fun _ _ _ => rfl⟩
theorem Fr.of_below {w w' : World} {F : Nat → Prop} (h : Below w.heap.size w w') : Fr w w' F := ⟨h.os, h.tape, h.output, h.size, fun k hk _ => h.block k hk⟩
theorem Fr.mono {w w' : World} {F G : Nat → Prop} (h : Fr w w' F) (hg : ∀ k, F k → G k) : Fr w w' G := ⟨h.os, h.tape, h.output, h.size, fun k hk hn => h.block k hk (fun x => hn (hg k x))⟩
theorem Fr.trans {a b c : World} {F G : Nat → Prop} (h : Fr a b F) (k : Fr b c G) (hg : ∀ i, G i → F i ∨ a.heap.size ≤ i) : Fr a c F :=
  ⟨k.os.trans h.os, k.tape.trans h.tape, k.output.trans h.output, Nat.le_trans h.size k.size, fun i hi hn => (k.block i (Nat.lt_of_lt_of_le hi h.size) (fun x => by rcases hg i x with x | x; exact hn x; omega)).trans (h.block i hi hn)⟩
theorem Fr.below {w w' : World} {F : Nat → Prop} (h : Fr w w' F) {B : Nat} (hB : B ≤ w.heap.size) (hF : ∀ k, F k → B ≤ k) : Below B w w' :=
  ⟨h.os, h.tape, h.output, h.size, fun k hk => h.block k (by omega) (fun x => by have := hF k x; omega)⟩
theorem Fr.drew (w : World) (F : Nat → Prop) : Fr w w.drew F := ⟨rfl, rfl, rfl, Nat.le_refl _, fun _ _ _ => rfl⟩
theorem Fr.alloc (w : World) (o : Obj) (F : Nat → Prop) : Fr w (w.alloc o) F := Fr.of_below ((Below.refl _ _).alloc (Nat.le_refl _) o)
theorem own_of_block {base : Nat} {w w' : World} {e n k : Nat} {v : Value} {xs : List Value} (h : w.ownsRow base e n v k xs) (hb : ∀ b, v.ownBlock = some b → w'.heap[b]? = w.heap[b]?) : w'.ownsRow base e n v k xs := by
  obtain ⟨h1, h2⟩ := h
  refine ⟨h1, ?_⟩
  rcases h2 with h | ⟨g, cap, cur, hv, hg, hh, hr⟩
  · exact Or.inl h
  · exact Or.inr ⟨g, cap, cur, hv, hg, (hb g (by rw [hv]; rfl)).trans hh, hr⟩
theorem own_base {base b2 : Nat} {w : World} {e n k : Nat} {v : Value} {xs : List Value} (h : w.ownsRow base e n v k xs) (hb : b2 ≤ base) : w.ownsRow b2 e n v k xs := by
  obtain ⟨h1, h2⟩ := h
  refine ⟨h1, ?_⟩
  rcases h2 with h | ⟨g, cap, cur, hv, hg, hr⟩
  · exact Or.inl h
  · exact Or.inr ⟨g, cap, cur, hv, Nat.le_trans hb hg, hr⟩
theorem frozen_row {w : World} {g : Nat} {cs : Array Value} {t : TypeId} (h : w.heap[g]? = some (.cells cs t (0, 0))) (o : Nat) : w.frozen? ⟨g, o, none⟩ = false := by
  simp [World.frozen?, h]
theorem fr_set (w : World) (g o : Nat) (u : Value) : Fr w (w.setCell ⟨g, o, none⟩ u) (fun k => k = g) :=
  ⟨rfl, rfl, rfl, by simp [World.setCell], fun k _ hk => Below.heap_setCell _ _ _ _ (fun e => hk e)⟩
structure GrowB (w : World) (v : Value) (w' : World) (v' : Value) : Prop where
  grown : w.grownBy w' v.ownBlock
  own : v'.ownBlock = v.ownBlock ∨ ∀ k, v'.ownBlock = some k → w.heap.size ≤ k
theorem GrowB.refl (w : World) (v : Value) : GrowB w v w v := ⟨World.grownBy.refl _ _, Or.inl rfl⟩

def Row {α : Type} (e z : Nat) (c : α → List Value) (base : Nat) (w : World) (v : Value) (l : List α) : Prop := w.ownsRow base e z v l.length (l.flatMap c)
theorem Row.form {α : Type} {e z : Nat} {c : α → List Value} {base : Nat} {w : World} {v : Value} {l : List α} (h : Row e z c base w v l) : ∃ ao cap, v = .slice ao l.length cap ∧ l.length ≤ cap ∧ cap ≤ maxLen := by
  rcases id h with ⟨_, ⟨hv, hn⟩ | ⟨g, cap, cur, hv, hg, hh, hc, hm, _⟩⟩
  · exact ⟨none, 0, by rw [hv, hn], by omega, by unfold maxLen; omega⟩
  · exact ⟨_, cap, hv, hc, hm⟩
theorem Row.at_ {α : Type} {e z : Nat} {c : α → List Value} {base : Nat} {w : World} {v : Value} {l : List α} (h : Row e z c base w v l) (hl : 0 < l.length) : ∃ g cap, v = .slice (some ⟨g, 0, none⟩) l.length cap ∧ l.length ≤ cap ∧ base ≤ g ∧ g < w.heap.size := by
  rcases id h with ⟨_, ⟨hv, hn⟩ | ⟨g, cap, cur, hv, hg, hh, hc, hm, _⟩⟩
  · omega
  · exact ⟨g, cap, hv, hc, hg, (Array.getElem?_eq_some_iff.1 hh).1⟩
theorem Row.cell {α : Type} {e z : Nat} {c : α → List Value} {base : Nat} {w : World} {g n cap : Nat} {l : List α} (h : Row e z c base w (.slice (some ⟨g, 0, none⟩) n cap) l) (hz : ∀ x ∈ l, (c x).length = z) (k : Nat) (hk : k < l.length) (j : Nat) (hj : j < z) : w.cell? ⟨g, k * z + j, none⟩ = (c l[k])[j]? := by
  have h2 := World.ownsRow.cells h (g := g) rfl
  have h3 := flat_at c z l hz k hk j hj
  have hz1 := hz l[k] (List.getElem_mem hk)
  obtain ⟨u, hu⟩ : ∃ u, (c l[k])[j]? = some u := ⟨(c l[k])[j], List.getElem?_eq_getElem (by omega)⟩
  rw [hu] at h3 ⊢
  have := h2 _ _ h3
  rwa [Addr.add_mid, Nat.zero_add] at this
theorem Row.frozen {α : Type} {e z : Nat} {c : α → List Value} {base : Nat} {w : World} {g n cap : Nat} {l : List α} (h : Row e z c base w (.slice (some ⟨g, 0, none⟩) n cap) l) (o : Nat) : w.frozen? ⟨g, o, none⟩ = false := by
  rcases id h with ⟨_, ⟨hv, hn⟩ | ⟨g', cap', cur, hv, hg, hh, _⟩⟩
  · cases hv
  · cases hv; exact frozen_row hh o
theorem Row.len {α : Type} {e z : Nat} {c : α → List Value} {base : Nat} {w : World} {ao : Option Addr} {n cap : Nat} {l : List α} (h : Row e z c base w (.slice ao n cap) l) : n = l.length := by
  obtain ⟨_, _, hv, _⟩ := h.form; cases hv; rfl
theorem Row.of_block {α : Type} {e z : Nat} {c : α → List Value} {base : Nat} {w w' : World} {v : Value} {l : List α} (h : Row e z c base w v l) (hb : ∀ b, v.ownBlock = some b → w'.heap[b]? = w.heap[b]?) : Row e z c base w' v l := own_of_block h hb
theorem Row.nil_ {α : Type} (e z : Nat) (c : α → List Value) (base : Nat) (w : World) : Row e z c base w (.slice none 0 0) ([] : List α) := ⟨by simp, Or.inl ⟨rfl, rfl⟩⟩
theorem Row.lo {α : Type} {e z : Nat} {c : α → List Value} {base : Nat} {w : World} {v : Value} {l : List α} (h : Row e z c base w v l) : ∀ k, v.ownBlock = some k → base ≤ k ∧ k < w.heap.size := World.ownsRow.lt h

variable (P : Program) in
variable {P : Program} in
variable {P : Program} in
variable {P : Program} in
variable (P : Program) in
variable {P : Program} in
theorem Below.undrew {B : Nat} {w w' : World} (h : Below B w.drew w') : Below B w w' := ⟨h.os, h.tape, h.output, h.size, h.block⟩
end Go.Proofs.YtaenpacfbheppaaGreatDoor

namespace Go.Proofs.YtaenpacfbheppaaGreatDoor
open Go.RowKit

structure Sc (w : World) (b : Nat) (s : ByteArray) (p : Nat) : Prop where
  hh : w.heap[b]? = some (.cells #[.string s, .int .i64 p] 49 (0, 0))
  le : p ≤ s.size
theorem Sc.lt {w : World} {b : Nat} {s : ByteArray} {p : Nat} (h : Sc w b s p) : b < w.heap.size := (Array.getElem?_eq_some_iff.1 h.hh).1
theorem Sc.keep {w w' : World} {b : Nat} {s : ByteArray} {p : Nat} {F : Nat → Prop} (h : Sc w b s p) (hf : Fr w w' F) (hb : ¬ F b) : Sc w' b s p := ⟨(hf.block b h.lt hb).trans h.hh, h.le⟩
theorem Sc.keepB {w w' : World} {b : Nat} {s : ByteArray} {p : Nat} (h : Sc w b s p) (hb : Below w.heap.size w w') : Sc w' b s p := h.keep (Fr.of_below (F := fun _ => False) hb) (fun h => h)
theorem Sc.c0 {w : World} {b : Nat} {s : ByteArray} {p : Nat} (h : Sc w b s p) : w.cell? ⟨b, 0, none⟩ = some (.string s) := by rw [cell_of_row w b 0 _ _ _ h.hh]; rfl
theorem Sc.c1 {w : World} {b : Nat} {s : ByteArray} {p : Nat} (h : Sc w b s p) : w.cell? ⟨b, 1, none⟩ = some (.int .i64 p) := by rw [cell_of_row w b 1 _ _ _ h.hh]; rfl
theorem Sc.fz {w : World} {b : Nat} {s : ByteArray} {p : Nat} (h : Sc w b s p) : w.frozen? ⟨b, 1, none⟩ = false := frozen_row h.hh 1
theorem Sc.to_ {w : World} {b : Nat} {s : ByteArray} {p q : Nat} (h : Sc w b s p) (hq : q ≤ s.size) : Sc (w.setCell ⟨b, 1, none⟩ (.int .i64 q)) b s q := by
  refine ⟨?_, hq⟩
  rw [heap_setCell_same w b 1 _ _ _ h.hh]
  rfl
theorem atEnd_any {w : World} {b : Nat} {s : ByteArray} {p : Nat} (h : Sc w b s p) (hs : s.size ≤ 10000) : Calls Tryz.prog 18 #[.pointer (some ⟨b, 0, none⟩)] w fun e w' => e = .returned (.bool (decide (p = s.size))) ∧ Below w.heap.size w w' := by
  have c0 := h.c0
  have c1 := h.c1
  have he : ((p : Int) == (s.size : Int)) = decide (p = s.size) := by
    by_cases e : p = s.size
    · simp [e]
    · rw [decide_eq_false e, beq_eq_false_iff_ne]; omega
  clear h
  go_enter Tryz.func18, Tryz.ntmps18
  go_wp2_with fail
  go_quiet (fail)
  go_wp2_with fail
  go_ret
  exact ⟨rfl, ⟨rfl, rfl, rfl, Nat.le_refl _, fun _ _ => rfl⟩⟩
theorem isBlank_any (x : Int) (w : World) : Calls Tryz.prog 41 #[.int .u8 x] w fun e w' => e = .returned (.bool (blI x)) ∧ w' = w := by
  by_cases h1 : x = 9
  · subst h1; go_enter Tryz.func41, Tryz.ntmps41; go_wp2; go_ret; exact ⟨rfl, rfl⟩
  by_cases h2 : x = 10
  · subst h2; go_enter Tryz.func41, Tryz.ntmps41; go_wp2; go_ret; exact ⟨rfl, rfl⟩
  by_cases h3 : x = 13
  · subst h3; go_enter Tryz.func41, Tryz.ntmps41; go_wp2; go_ret; exact ⟨rfl, rfl⟩
  by_cases h4 : x = 32
  · subst h4; go_enter Tryz.func41, Tryz.ntmps41; go_wp2; go_ret; exact ⟨rfl, rfl⟩
  have e1 : (x == 9) = false := by simpa using h1
  have e2 : (x == 10) = false := by simpa using h2
  have e3 : (x == 13) = false := by simpa using h3
  have e4 : (x == 32) = false := by simpa using h4
  simp only [blI, h1, h2, h3, h4]
  go_enter Tryz.func41, Tryz.ntmps41
  go_wp2
  go_ret
  exact ⟨rfl, rfl⟩
theorem isLetter_any (x : Int) (w : World) : Calls Tryz.prog 44 #[.int .u8 x] w fun e w' => e = .returned (.bool (ltI x)) ∧ w' = w := by
  by_cases h1 : 97 ≤ x <;> by_cases h2 : x ≤ 122 <;> by_cases h3 : 65 ≤ x <;> by_cases h4 : x ≤ 90 <;> by_cases h5 : x = 95
  all_goals first
    | omega
    | (have e5 : (x == 95) = decide (x = 95) := by by_cases h : x = 95 <;> simp [h]
       simp only [ltI, h1, h2, h3, h4, h5]
       go_enter Tryz.func44, Tryz.ntmps44
       go_wp2
       go_ret
       exact ⟨rfl, rfl⟩)
theorem isDigit_any (x : Int) (w : World) : Calls Tryz.prog 46 #[.int .u8 x] w fun e w' => e = .returned (.bool (dgI x)) ∧ w' = w := by
  by_cases h1 : 48 ≤ x <;> by_cases h2 : x ≤ 57
  all_goals first
    | omega
    | (simp only [dgI, h1, h2]
       go_enter Tryz.func46, Tryz.ntmps46
       go_wp2
       go_ret
       exact ⟨rfl, rfl⟩)
theorem wordKind_any (c : UInt8) (w : World) : Calls Tryz.prog 75 #[.int .u8 c.toNat] w fun e w' => e = .returned (.bool (isWd c)) ∧ w' = w := by
  have hl := isLetter_any (c.toNat : Int) w
  have hd := isDigit_any (c.toNat : Int) w
  rw [ltI_of] at hl
  rw [dgI_of] at hd
  unfold isWd
  generalize (c.toNat : Int) = x at *
  generalize isLt c = B1 at *
  generalize isDg c = B2 at *
  cases B1 with
  | true =>
    go_enter Tryz.func75, Tryz.ntmps75
    go_wp2_with fail
    refine hl.mono ?_
    rintro e w1 ⟨rfl, rfl⟩
    go_wp2_with fail
    go_ret
    exact ⟨rfl, rfl⟩
  | false =>
    go_enter Tryz.func75, Tryz.ntmps75
    go_wp2_with fail
    refine hl.mono ?_
    rintro e w1 ⟨rfl, rfl⟩
    go_wp2_with fail
    refine hd.mono ?_
    rintro e w1 ⟨rfl, rfl⟩
    go_wp2_with fail
    go_ret
    exact ⟨by simp, rfl⟩
theorem lineKind_any (c : UInt8) (w : World) : Calls Tryz.prog 43 #[.int .u8 c.toNat] w fun e w' => e = .returned (.bool (c != 10)) ∧ w' = w := by
  have hc : ((c.toNat : Int) != 10) = (c != 10) := by
    by_cases h : c = 10
    · subst h; rfl
    · have : ¬ (c.toNat : Int) = 10 := fun e => h ((u8_eq (n := 10) (by omega)).1 e)
      have h1 : ((c.toNat : Int) != 10) = true := by simpa using this
      have h2 : (c != 10) = true := by simpa using h
      rw [h1, h2]
  go_enter Tryz.func43, Tryz.ntmps43
  go_wp2
  go_ret
  first | exact ⟨rfl, rfl⟩ | exact ⟨by rw [← hc], rfl⟩ | (simp; done) | trace_state
end Go.Proofs.YtaenpacfbheppaaGreatDoor

namespace Go.Proofs.YtaenpacfbheppaaGreatDoor
open Go.RowKit

theorem ext_rest (s : ByteArray) (p : Nat) : (s.extract p s.size).data.toList = rest s p := by
  unfold rest
  rw [ByteArray.data_extract, Array.toList_extract]
  simp [List.extract]
  exact List.take_of_length_le (by simp)
theorem ext_take (s : ByteArray) (p n : Nat) : (s.extract p (p + n)).data.toList = (rest s p).take n := by
  unfold rest
  rw [ByteArray.data_extract, Array.toList_extract]
  simp [List.extract]
theorem stands_any {w : World} {b : Nat} {s : ByteArray} {p : Nat} (h : Sc w b s p) (hs : s.size ≤ 10000) (v : ByteArray) : Calls Tryz.prog 42 #[.pointer (some ⟨b, 0, none⟩), .string v] w fun e w' => e = .returned (.bool (v.data.toList.isPrefixOf (rest s p))) ∧ Below w.heap.size w w' := by
  have c0 := h.c0
  have c1 := h.c1
  have hp := h.le
  have hp1 : (p : Int) ≤ (s.size : Int) := by omega
  have hc : ∀ W : World, Calls Tryz.prog 74 #[.string (s.extract p s.size), .string v] W fun e w' => e = .returned (.bool (v.data.toList.isPrefixOf (rest s p))) ∧ w' = W := fun W => by
    have := Tryz.strings_HasPrefix (s.extract p s.size) v W
    rw [ext_rest] at this
    exact this
  generalize v.data.toList.isPrefixOf (rest s p) = R at *
  clear h
  go_enter Tryz.func42, Tryz.ntmps42
  go_wp2_with fail
  go_quiet ((go_at_call 74; exact Calls.quiet_of_same (hc _)))
  go_wp2_with fail
  go_ret
  exact ⟨rfl, ⟨rfl, rfl, rfl, Nat.le_refl _, fun _ _ => rfl⟩⟩
structure TkTo (w : World) (b : Nat) (s : ByteArray) (p : Nat) (k : UInt8 → Bool) (F : Nat → Prop) (J : List UInt8 → World → Prop) (e : Ending) (w' : World) : Prop where
  e : e = .returned (.string (s.extract p (p + ((rest s p).takeWhile k).length)))
  sc : Sc w' b s (p + ((rest s p).takeWhile k).length)
  fr : Fr w w' (fun i => i = b ∨ F i)
  j : J ((rest s p).takeWhile k) w'
theorem rest_tk (s : ByteArray) {p n : Nat} (h : p + n < s.size) : (rest s p).take (n + 1) = (rest s p).take n ++ [s[p + n]] := by
  rw [List.take_add_one]
  have : (rest s p)[n]? = some s[p + n] := by
    unfold rest
    rw [List.getElem?_drop]
    have : p + n < s.data.toList.length := by simpa using h
    rw [List.getElem?_eq_getElem this]
    rfl
  rw [this]
  rfl
theorem tk_end (s : ByteArray) {p n : Nat} (k : UInt8 → Bool) (hn : p + n ≤ s.size) (h1 : ∀ j, j < n → ∀ h : p + j < s.size, k s[p + j] = true) (h2 : ∀ h : p + n < s.size, k s[p + n] = false) : ((rest s p).takeWhile k).length = n ∧ (rest s p).takeWhile k = (rest s p).take n := by
  have := tw_stop (p := k) s s.size p n (by omega) hn h1 h2
  exact ⟨this, by rw [← this, tw_pre]⟩
theorem take_any {w : World} {b : Nat} {s : ByteArray} {p : Nat} (h : Sc w b s p) (hs : s.size ≤ 10000) (k : UInt8 → Bool) (g : Nat) (lb : Array Value) (eg : Enters Tryz.prog g) (F : Nat → Prop) (hFb : ¬ F b) (J : List UInt8 → World → Prop) (hJ0 : J [] w) (hJ : ∀ l W W', J l W → Fr W W' (fun i => i = b) → J l W')
    (hg : ∀ l c W, J l W → Fr w W (fun i => i = b ∨ F i) → Calls Tryz.prog g (#[.int .u8 c.toNat] ++ lb) W fun e W' => e = .returned (.bool (k c)) ∧ Fr W W' F ∧ J (if k c then l ++ [c] else l) W') :
    Calls Tryz.prog 40 #[.pointer (some ⟨b, 0, none⟩), .func (.func g) #[] lb] w fun e w' => TkTo w b s p k F J e w' := by
  have HC : Hid (Sc w b s p) := h
  have c1 := h.c1
  have hp := h.le
  unfold Enters at eg
  clear h
  have HJ0 : Hid (J [] w) := hJ0
  clear hJ0
  go_enter Tryz.func40, Tryz.ntmps40
  go_wp2_with fail
  clear c1
  go_loopg [] s.size (fun kx wr => ∃ n : Nat, s.size - (p + n) ≤ kx ∧ p + n ≤ s.size ∧ Hid (Sc wr b s (p + n)) ∧ Hid (Fr w wr (fun i => i = b ∨ F i)) ∧ Hid (J ((rest s p).take n) wr) ∧ Hid (∀ j, j < n → ∀ h : p + j < s.size, k s[p + j] = true))
  case atStart => exact ⟨0, by omega, hp, HC, Fr.refl _ _, (by have := HJ0.out; simpa only [List.take_zero] using this : J ((rest s p).take 0) w), fun j hj => by omega⟩
  case round =>
    rename World => wr
    obtain ⟨n, hkx, hn, HS, HF, HJ, HA⟩ := hrel
    clear HC HJ0
    have hle : ((p + n : Nat) : Int) = (p : Int) + (n : Int) := by omega
    by_cases he : p + n = s.size
    · have hat : ∀ d os, Calls Tryz.prog 18 #[.pointer (some ⟨b, 0, none⟩)] (Go.Sort.grow (redrawn wr d) os) fun e w' => e = .returned (.bool true) ∧ Below (Go.Sort.grow (redrawn wr d) os).heap.size (Go.Sort.grow (redrawn wr d) os) w' := fun d os => by
        have := atEnd_any (HS.out.keepB (below_regrown wr d os)) hs
        rw [decide_eq_true he] at this
        exact this
      obtain ⟨e1, e2⟩ := tk_end s k hn HA.out (fun h => by omega)
      have HT : Hid (∀ W, Below wr.heap.size wr W → ∀ v, v = .string (s.extract p (p + n)) → TkTo w b s p k F J (.returned v) W) := fun W hW v hv => by
        refine ⟨by rw [hv, e1], by rw [e1]; exact HS.out.keepB hW, HF.out.trans (Fr.of_below (F := fun _ => False) hW) (fun i hi => hi.elim), ?_⟩
        rw [e2]
        exact hJ _ _ _ HJ.out (Fr.of_below hW)
      have c0 := fun (d : Nat) (os : Array Obj) => HS.out.keepB (below_regrown wr d os) |>.c0
      have c1 := fun (d : Nat) (os : Array Obj) => HS.out.keepB (below_regrown wr d os) |>.c1
      clear HS HF HJ HA e1 e2 hle
      go_wp2_with fail
      refine wp_region_quiet_below (by kernel_rfl) (by kernel_rfl) ?_
      repeat (go_big_quiet_step (with_reducible exact Calls.regrown_of (hat _ _)))
      refine wpQuiet_nil ?_
      intro _ hw'
      obtain ⟨⟨dq, osq⟩, hw''⟩ := hw'
      subst hw''
      have hb := below_regrown wr dq osq
      have d0 := c0 dq osq
      have d1 := c1 dq osq
      clear c0 c1 hat
      generalize Go.Sort.grow (redrawn wr dq) osq = wz at *
      go_wp2_with fail
      have hpn : (p : Int) ≤ ((p + n : Nat) : Int) := by omega
      have hns : ((p + n : Nat) : Int) ≤ (s.size : Int) := by omega
      go_quiet (fail)
      rename Nat => nq
      go_wp2_with fail
      go_ret
      exact HT.out (wz.drewN nq) (hb.trans ⟨rfl, rfl, rfl, Nat.le_refl _, fun _ _ => rfl⟩) _ (by rw [he]; rfl)
    · have hlt : p + n < s.size := by omega
      have tl : ((p + n : Nat) : Int) < (s.size : Int) := by omega
      have hat := atEnd_any (HS.out.keepB (Below.refl _ _).drew) hs
      rw [decide_eq_false he] at hat
      have c0 := HS.out.c0
      have c1 := HS.out.c1
      have hc := fun W hJ' hF' => hg ((rest s p).take n) s[p + n] W hJ' hF'
      go_wp2_with fail
      go_region_held_law (fun w' => w'.cell? ⟨b, 0, none⟩ = some (.string s) ∧ w'.cell? ⟨b, 1, none⟩ = some (.int .i64 (p + n : Nat))) (first | exact ⟨c0, c1⟩ | exact ⟨S1.c0, S1.c1⟩ | exact ⟨S2.c0, S2.c1⟩) (first
      | (go_at_call 18; refine hat.mono ?_; rintro e w1 ⟨rfl, hb1⟩; have hb1 := Below.undrew hb1; have S1 := HS.out.keepB hb1)
      | (refine (hc w1 (hJ _ _ _ HJ.out (Fr.of_below hb1)) (HF.out.trans (Fr.of_below (F := fun _ => False) hb1) (fun i hi => hi.elim))).mono ?_; rintro e w2 ⟨rfl, hf2, hj2⟩; have S2 := S1.keep hf2 hFb))
      have HF2 : Hid (Fr w w2 (fun i => i = b ∨ F i)) := (HF.out.trans (Fr.of_below (F := fun _ => False) hb1) (fun i hi => hi.elim)).trans hf2 (fun i hi => Or.inl (Or.inr hi))
      have HS2 : Hid (Sc w2 b s (p + n)) := S2
      have HJ2 := hidk hj2
      have f1 := S2.fz
      clear hat hc hb1 hf2 hj2 S1 S2 c0 c1 HS HF HJ
      have d0 := HS2.out.c0
      have d1 := HS2.out.c1
      cases hkv : k s[p + n] with
      | true =>
        rw [hkv] at HJ2
        have HA2 : Hid (∀ j, j < n + 1 → ∀ h : p + j < s.size, k s[p + j] = true) := fun j hj h => by
          by_cases e : j = n
          · subst e; exact hkv
          · exact HA.out j (by omega) h
        have HS3 : Hid (Sc (w2.setCell ⟨b, 1, none⟩ (.int .i64 ((p : Int) + (n : Int) + 1))) b s (p + (n + 1))) := by
          have := HS2.out.to_ (q := p + (n + 1)) (by omega)
          rw [show ((p + (n + 1) : Nat) : Int) = (p : Int) + (n : Int) + 1 by omega] at this
          exact this
        have hfs := fr_set w2 b 1 (.int .i64 ((p : Int) + (n : Int) + 1))
        have HF3 : Hid (Fr w (w2.setCell ⟨b, 1, none⟩ (.int .i64 ((p : Int) + (n : Int) + 1))) (fun i => i = b ∨ F i)) := HF2.out.trans hfs (fun i hi => Or.inl (Or.inl hi))
        have HJ3 : Hid (J ((rest s p).take (n + 1)) (w2.setCell ⟨b, 1, none⟩ (.int .i64 ((p : Int) + (n : Int) + 1)))) := hJ _ _ _ (by rw [rest_tk s hlt]; exact HJ2.out) hfs
        clear HS2 HF2 HJ2 HA hfs hkv
        go_wp2_with fail
        go_roundg (s.size - (p + (n + 1)))
        case measure => omega
        case rel => exact ⟨n + 1, Nat.le_refl _, by omega, HS3, HF3, HJ3, HA2⟩
      | false =>
        rw [hkv] at HJ2
        obtain ⟨e1, e2⟩ := tk_end s k hn HA.out (fun h => hkv)
        have HT : Hid (∀ W, Below w2.heap.size w2 W → ∀ v, v = .string (s.extract p (p + n)) → TkTo w b s p k F J (.returned v) W) := fun W hW v hv => by
          refine ⟨by rw [hv, e1], by rw [e1]; exact HS2.out.keepB hW, HF2.out.trans (Fr.of_below (F := fun _ => False) hW) (fun i hi => hi.elim), ?_⟩
          rw [e2]
          exact hJ _ _ _ HJ2.out (Fr.of_below hW)
        clear HS2 HF2 HJ2 HA e1 e2 hle hkv
        go_wp2_with fail
        have hpn : (p : Int) ≤ ((p + n : Nat) : Int) := by omega
        have hns : ((p + n : Nat) : Int) ≤ (s.size : Int) := by omega
        go_quiet (fail)
        rename Nat => nq
        go_wp2_with fail
        go_ret
        exact HT.out (w2.drewN nq) ⟨rfl, rfl, rfl, Nat.le_refl _, fun _ _ => rfl⟩ _ rfl
end Go.Proofs.YtaenpacfbheppaaGreatDoor

namespace Go.Proofs.YtaenpacfbheppaaGreatDoor
open Go.RowKit

def scA (s : ByteArray) (p c : Nat) : Except Nat (List Tok) := scN (s.size - p) p c (rest s p)
theorem rest_add (s : ByteArray) (p n : Nat) : (rest s p).drop n = rest s (p + n) := by
  unfold rest
  rw [List.drop_drop]
theorem scA_fuel (s : ByteArray) (p c f : Nat) (h : s.size - p ≤ f) : scN f p c (rest s p) = scA s p c :=
  scN_fuel (s.size - p) _ _ _ _ _ (by rw [rest_len]; omega) (by rw [rest_len]; omega) (by rw [rest_len]; omega)
theorem scA_all (s : ByteArray) : scN s.data.toList.length 0 0 s.data.toList = scA s 0 0 := by
  have := scA_fuel s 0 0 s.data.toList.length (by simp)
  rw [← this]
  rfl
theorem scA_end (s : ByteArray) {p : Nat} (c : Nat) (h : s.size ≤ p) : scA s p c = .ok [] := by
  unfold scA
  rw [show s.size - p = 0 by omega]
  rfl
theorem scA_bl (s : ByteArray) {p n : Nat} (c : Nat) (h : blN (rest s p) = n) (hn : 0 < n) : scA s p c = scA s (p + n) c := by
  have hl := blN_le (rest s p)
  rw [rest_len, h] at hl
  unfold scA
  obtain ⟨m, hm⟩ : ∃ m, s.size - p = m + 1 := ⟨s.size - p - 1, by omega⟩
  have hne : ¬ rest s p = [] := fun e => by
    have := rest_len s p
    rw [e] at this
    simp at this
    omega
  have hst : stp (rest s p) = .bl n := by
    unfold stp
    rw [h, if_pos hn]
  rw [hm]
  simp only [scN]
  rw [if_neg hne, hst]
  simp only
  rw [rest_add, scA_fuel s (p + n) c m (by omega)]
  rfl
theorem scA_no (s : ByteArray) {p e : Nat} (c : Nat) (hp : p < s.size) (h : stp (rest s p) = .no e) : scA s p c = .error e := by
  unfold scA
  obtain ⟨m, hm⟩ : ∃ m, s.size - p = m + 1 := ⟨s.size - p - 1, by omega⟩
  have hne : ¬ rest s p = [] := fun e => by
    have := rest_len s p
    rw [e] at this
    simp at this
    omega
  rw [hm]
  simp only [scN]
  rw [if_neg hne, h]
theorem scA_tk (s : ByteArray) {p : Nat} (c : Nat) (hp : p < s.size) {k : Int} {t : List UInt8} {v : Int} {n : Nat} (h : stp (rest s p) = .tk k t v n) : scA s p c = if 600 ≤ c then .error 4 else match scA s (p + n) (c + 1) with
    | .error e => .error e
    | .ok l => .ok (⟨k, t, v, p⟩ :: l) := by
  have hl := stp_tk h
  rw [rest_len] at hl
  unfold scA
  obtain ⟨m, hm⟩ : ∃ m, s.size - p = m + 1 := ⟨s.size - p - 1, by omega⟩
  have hne : ¬ rest s p = [] := fun e => by
    have := rest_len s p
    rw [e] at this
    simp at this
    omega
  rw [hm]
  simp only [scN]
  rw [if_neg hne, h]
  simp only
  rw [rest_add, scA_fuel s (p + n) (c + 1) m (by omega)]
  rfl
structure Skp (s : ByteArray) (p q : Nat) : Prop where
  ge : p ≤ q
  le : q ≤ s.size
  sc : ∀ c, scA s p c = scA s q c
theorem Skp.refl {s : ByteArray} {p : Nat} (h : p ≤ s.size) : Skp s p p := ⟨Nat.le_refl _, h, fun _ => rfl⟩
theorem Skp.trans {s : ByteArray} {p q r : Nat} (h : Skp s p q) (k : Skp s q r) : Skp s p r := ⟨Nat.le_trans h.ge k.ge, k.le, fun c => (h.sc c).trans (k.sc c)⟩
theorem tw_le (s : ByteArray) (k : UInt8 → Bool) {p : Nat} (hp : p ≤ s.size) : p + ((rest s p).takeWhile k).length ≤ s.size := by
  have := tw_len k (rest s p)
  rw [rest_len] at this
  omega
theorem skp_blanks (s : ByteArray) : ∀ (m p : Nat), s.size - p ≤ m → p ≤ s.size → Skp s p (p + ((rest s p).takeWhile isBl).length) := by
  intro m
  induction m with
  | zero =>
    intro p hm hp
    rw [rest_end s (by omega)]
    exact Skp.refl hp
  | succ m ih =>
    intro p hm hp
    by_cases hlt : p < s.size
    · rw [rest_at s hlt, List.takeWhile_cons]
      split
      · rename_i hb
        have h1 : blN (rest s p) = 1 := by rw [rest_at s hlt]; simp [blN, hb]
        have := ih (p + 1) (by omega) (by omega)
        rw [List.length_cons, show p + (((rest s (p + 1)).takeWhile isBl).length + 1) = p + 1 + ((rest s (p + 1)).takeWhile isBl).length by omega]
        exact Skp.trans ⟨by omega, by omega, fun c => scA_bl s c h1 (by omega)⟩ this
      · exact Skp.refl hp
    · rw [rest_end s (by omega)]
      exact Skp.refl hp
theorem tw_stopped (s : ByteArray) (k : UInt8 → Bool) (p : Nat) (h : p + ((rest s p).takeWhile k).length < s.size) : k (s[p + ((rest s p).takeWhile k).length]) = false := by
  generalize hn : ((rest s p).takeWhile k).length = n at *
  have e : rest s (p + n) = s[p + n] :: rest s (p + n + 1) := rest_at s h
  rw [← rest_add] at e
  have hd : (rest s p).drop n = (rest s p).dropWhile k := by
    rw [← hn]
    have : ∀ l : List UInt8, l.drop (l.takeWhile k).length = l.dropWhile k := fun l => by
      induction l with
      | nil => rfl
      | cons a l ih =>
        rw [List.takeWhile_cons, List.dropWhile_cons]
        split
        · simpa using ih
        · rfl
    exact this _
  rw [hd] at e
  have hne : (rest s p).dropWhile k ≠ [] := by rw [e]; simp
  have := List.head_dropWhile_not k hne
  have h2 : ((rest s p).dropWhile k).head hne = s[p + n] := by
    have : ∀ (l : List UInt8) (h : l ≠ []) (x : UInt8) (t : List UInt8), l = x :: t → l.head h = x := fun l h x t e => by subst e; rfl
    exact this _ _ _ _ e
  rw [h2] at this
  simpa using this
theorem skp_line (s : ByteArray) {p : Nat} (h : ([45, 45] : List UInt8).isPrefixOf (rest s p) = true) : Skp s p (p + ((rest s p).takeWhile (fun c => c != 10)).length) ∧ 0 < ((rest s p).takeWhile (fun c => c != 10)).length := by
  obtain ⟨t, ht⟩ := List.isPrefixOf_iff_prefix.1 h
  have hl := rest_len s p
  rw [← ht] at hl
  simp at hl
  have hb : blN (rest s p) = ((rest s p).takeWhile (fun c => c != 10)).length := by
    rw [← ht]
    have h45 : ((45 : UInt8) != 10) = true := by decide
    simp only [List.cons_append, List.nil_append, blN, List.takeWhile_cons, h45, if_true]
    rw [if_neg (by decide), if_pos (by decide)]
    simp only [List.length_cons]
    omega
  have h0 : 0 < ((rest s p).takeWhile (fun c => c != 10)).length := by
    rw [← ht]
    have h45 : ((45 : UInt8) != 10) = true := by decide
    simp only [List.cons_append, List.takeWhile_cons, h45, if_true, List.length_cons]
    omega
  exact ⟨⟨by omega, tw_le s _ (by omega), fun c => scA_bl s c hb h0⟩, h0⟩
theorem still_of {s : ByteArray} {q : Nat} (h1 : ∀ h : q < s.size, isBl s[q] = false) (h2 : ([45, 45] : List UInt8).isPrefixOf (rest s q) = false) : blN (rest s q) = 0 := by
  by_cases hq : q < s.size
  · rw [rest_at s hq]
    rw [rest_at s hq] at h2
    have hb := h1 hq
    cases hr : rest s (q + 1) with
    | nil => simp [blN, hb]
    | cons d r =>
      rw [hr] at h2
      simp only [List.isPrefixOf] at h2
      simp only [blN, hb]
      rw [if_neg (by simp), if_neg]
      intro e
      simp only [Bool.and_eq_true, beq_iff_eq] at e
      rw [e.1, e.2] at h2
      simp at h2
  · rw [rest_end s (by omega)]
    rfl
structure SkTo (w : World) (b : Nat) (s : ByteArray) (p : Nat) (e : Ending) (w' : World) (q : Nat) : Prop where
  e : e = .returned (.tuple #[])
  sc : Sc w' b s q
  fr : Fr w w' (fun i => i = b)
  sk : Skp s p q
  no : blN (rest s q) = 0
theorem enters_bl : Enters Tryz.prog 41 := enters_of Tryz.func41 (by kernel_rfl) rfl
theorem enters_dg : Enters Tryz.prog 46 := enters_of Tryz.func46 (by kernel_rfl) rfl
theorem enters_wd : Enters Tryz.prog 75 := enters_of Tryz.func75 (by kernel_rfl) rfl
theorem enters_ln : Enters Tryz.prog 43 := enters_of Tryz.func43 (by kernel_rfl) rfl
structure TkP (w : World) (b : Nat) (s : ByteArray) (p : Nat) (k : UInt8 → Bool) (e : Ending) (w' : World) : Prop where
  e : e = .returned (.string (s.extract p (p + ((rest s p).takeWhile k).length)))
  sc : Sc w' b s (p + ((rest s p).takeWhile k).length)
  fr : Fr w w' (fun i => i = b)
theorem take_pure {w : World} {b : Nat} {s : ByteArray} {p : Nat} (h : Sc w b s p) (hs : s.size ≤ 10000) (k : UInt8 → Bool) (g : Nat) (eg : Enters Tryz.prog g) (hg : ∀ (c : UInt8) W, Calls Tryz.prog g #[.int .u8 c.toNat] W fun e W' => e = .returned (.bool (k c)) ∧ W' = W) :
    Calls Tryz.prog 40 #[.pointer (some ⟨b, 0, none⟩), .func (.func g) #[] #[]] w fun e w' => TkP w b s p k e w' := by
  refine (take_any h hs k g #[] eg (fun _ => False) (fun h => h) (fun _ _ => True) trivial (fun _ _ _ _ _ => trivial) (fun l c W _ _ => ?_)).mono ?_
  · refine (hg c W).mono ?_
    rintro e W' ⟨rfl, rfl⟩
    exact ⟨rfl, Fr.refl _ _, trivial⟩
  · rintro e w' ⟨h1, h2, h3, _⟩
    exact ⟨h1, h2, h3.mono (fun i hi => hi.elim id False.elim)⟩
theorem take_bl {w : World} {b : Nat} {s : ByteArray} {p : Nat} (h : Sc w b s p) (hs : s.size ≤ 10000) : Calls Tryz.prog 40 #[.pointer (some ⟨b, 0, none⟩), .func (.func 41) #[] #[]] w fun e w' => TkP w b s p isBl e w' :=
  take_pure h hs isBl _ enters_bl (fun c W => by have := isBlank_any (c.toNat : Int) W; rw [blI_of] at this; exact this)
theorem take_dg {w : World} {b : Nat} {s : ByteArray} {p : Nat} (h : Sc w b s p) (hs : s.size ≤ 10000) : Calls Tryz.prog 40 #[.pointer (some ⟨b, 0, none⟩), .func (.func 46) #[] #[]] w fun e w' => TkP w b s p isDg e w' :=
  take_pure h hs isDg _ enters_dg (fun c W => by have := isDigit_any (c.toNat : Int) W; rw [dgI_of] at this; exact this)
theorem take_wd {w : World} {b : Nat} {s : ByteArray} {p : Nat} (h : Sc w b s p) (hs : s.size ≤ 10000) : Calls Tryz.prog 40 #[.pointer (some ⟨b, 0, none⟩), .func (.func 75) #[] #[]] w fun e w' => TkP w b s p isWd e w' :=
  take_pure h hs isWd _ enters_wd (fun c W => wordKind_any c W)
theorem take_ln {w : World} {b : Nat} {s : ByteArray} {p : Nat} (h : Sc w b s p) (hs : s.size ≤ 10000) : Calls Tryz.prog 40 #[.pointer (some ⟨b, 0, none⟩), .func (.func 43) #[] #[]] w fun e w' => TkP w b s p (fun c => c != 10) e w' :=
  take_pure h hs (fun c => c != 10) _ enters_ln (fun c W => lineKind_any c W)
theorem skip_any {w : World} {b : Nat} {s : ByteArray} {p : Nat} (h : Sc w b s p) (hs : s.size ≤ 10000) : Calls Tryz.prog 17 #[.pointer (some ⟨b, 0, none⟩)] w fun e w' => ∃ q, SkTo w b s p e w' q := by
  have hp := h.le
  have hbl := take_bl h hs
  clear h
  go_enter Tryz.func17, Tryz.ntmps17
  go_wp2_with fail
  refine hbl.mono ?_
  rintro e w1 ⟨rfl, hS1, hF1⟩
  have HS0 := hidk hS1
  have HF0 := hidk hF1
  have HK0 := hidk (skp_blanks s s.size p (by omega) hp)
  have HB0 := hidk (tw_stopped s isBl p)
  generalize p + ((rest s p).takeWhile isBl).length = q0 at *
  clear hbl hS1 hF1
  go_wp2_with fail
  go_loopg [] s.size (fun kx wr => ∃ q : Nat, s.size - q ≤ kx ∧ Hid (Sc wr b s q) ∧ Hid (Fr w wr (fun i => i = b)) ∧ Hid (Skp s p q) ∧ Hid (∀ h : q < s.size, isBl s[q] = false))
  case atStart => exact ⟨q0, by omega, HS0, HF0, HK0, HB0⟩
  case round =>
    rename World => wr
    obtain ⟨q, hkx, HS, HF, HK, HB⟩ := hrel
    clear HS0 HF0 HK0 HB0
    have hst := stands_any HS.out hs ⟨#[45, 45]⟩
    simp only at hst
    cases hpre : ([45, 45] : List UInt8).isPrefixOf (rest s q) with
    | false =>
      have HN := hidk (still_of HB.out hpre)
      rw [hpre] at hst
      clear hpre
      go_wp2_with fail
      refine hst.mono ?_
      rintro e w2 ⟨rfl, hb2⟩
      clear hst
      go_wp2_with fail
      refine bodyPost_end (v := .tuple #[]) (by simp [results, Tryz.results17, go_sem]) rfl ?_
      exact ⟨q, rfl, HS.out.keepB hb2, HF.out.trans (Fr.of_below (F := fun _ => False) hb2) (fun i hi => hi.elim), HK.out, HN.out⟩
    | true =>
      obtain ⟨hk1, h0⟩ := skp_line s hpre
      rw [hpre] at hst
      have HK1 := hidk (HK.out.trans hk1)
      clear hpre HK HB
      go_wp2_with fail
      refine hst.mono ?_
      rintro e w2 ⟨rfl, hb2⟩
      clear hst
      have hS2 := HS.out.keepB hb2
      have HF2 := hidk (HF.out.trans (Fr.of_below (F := fun _ => False) hb2) (fun i hi => hi.elim))
      have ht := take_ln hS2 hs
      clear hS2 hb2 HS HF
      go_wp2_with fail
      refine ht.mono ?_
      rintro e w3 ⟨rfl, hS3, hF3⟩
      clear ht
      have HF3 := hidk (HF2.out.trans hF3 (fun i hi => Or.inl hi))
      have hle3 := hk1.le
      have hge3 := hk1.ge
      clear hk1 hF3 HF2
      generalize hq3 : q + ((rest s q).takeWhile (fun c => c != 10)).length = q3 at *
      have hq3' : q < q3 := by omega
      clear hq3 h0
      have ht := take_bl hS3 hs
      have HK4 := hidk (HK1.out.trans (skp_blanks s s.size q3 (by omega) hle3))
      have HB4 := hidk (tw_stopped s isBl q3)
      clear hS3 HK1
      go_wp2_with fail
      refine ht.mono ?_
      rintro e w4 ⟨rfl, hS4, hF4⟩
      clear ht
      have HS4 := hidk hS4
      have HF4 := hidk (HF3.out.trans hF4 (fun i hi => Or.inl hi))
      have hge4 : q3 ≤ q3 + ((rest s q3).takeWhile isBl).length := by omega
      generalize q3 + ((rest s q3).takeWhile isBl).length = q4 at *
      clear hS4 hF4 HF3
      go_wp2_with fail
      go_roundg (s.size - q4)
      case measure => omega
      case rel => exact ⟨q4, Nat.le_refl _, HS4, HF4, HK4, HB4⟩
end Go.Proofs.YtaenpacfbheppaaGreatDoor

namespace Go.Proofs.YtaenpacfbheppaaGreatDoor
open Go.RowKit Go.Joins

abbrev signsV : Array Value := #[.string ⟨#[60, 61]⟩, .string ⟨#[62, 61]⟩, .string ⟨#[60, 62]⟩, .string ⟨#[124, 124]⟩, .string ⟨#[40]⟩, .string ⟨#[41]⟩, .string ⟨#[44]⟩, .string ⟨#[46]⟩, .string ⟨#[59]⟩, .string ⟨#[61]⟩, .string ⟨#[60]⟩, .string ⟨#[62]⟩, .string ⟨#[43]⟩, .string ⟨#[45]⟩, .string ⟨#[42]⟩, .string ⟨#[47]⟩]
theorem gSigns : Tryz.prog.globalNamed "stile/lex.signs" = some 0 := by kernel_rfl
theorem gErr : Tryz.prog.globalNamed "strconv.ErrRange" = some 4 := by kernel_rfl
structure LibW (a : Addr) (w : World) : Prop where
  signs : w.var? Tryz.prog "stile/lex.signs" = some signsV
  err : w.var? Tryz.prog "strconv.ErrRange" = some #[.iface 144 (.pointer (some a))]
theorem LibW.keep {a : Addr} {w w' : World} (h : LibW a w) (hb : Below w.heap.size w w') : LibW a w' :=
  ⟨var_stays gSigns h.signs hb (Nat.le_refl _), var_stays gErr h.err hb (Nat.le_refl _)⟩
theorem var_lt {w : World} {n : String} {g : Nat} {cs : Array Value} (hg : Tryz.prog.globalNamed n = some g) (h : w.var? Tryz.prog n = some cs) : g < w.heap.size ∧ ∀ w' : World, w'.heap[g]? = w.heap[g]? → w'.var? Tryz.prog n = some cs := by
  unfold World.var? at h
  rw [hg] at h
  simp only [Option.bind_some] at h
  refine ⟨?_, fun w' hw => ?_⟩
  · rcases Nat.lt_or_ge g w.heap.size with h' | h'
    · exact h'
    · simp [Array.getElem?_eq_none h'] at h
  · unfold World.var?
    rw [hg]
    simp only [Option.bind_some]
    rw [hw]
    exact h
theorem LibW.keepF {a : Addr} {w w' : World} {F : Nat → Prop} (h : LibW a w) (hf : Fr w w' F) (h1 : ¬ F 0) (h2 : ¬ F 4) : LibW a w' := by
  obtain ⟨l1, k1⟩ := var_lt gSigns h.signs
  obtain ⟨l2, k2⟩ := var_lt gErr h.err
  exact ⟨k1 w' (hf.block _ l1 h1), k2 w' (hf.block _ l2 h2)⟩
theorem LibW.sgCell {a : Addr} {w : World} (h : LibW a w) (i : Nat) : w.cell? ⟨0, i, none⟩ = signsV[i]? := World.var?_cell gSigns h.signs i
theorem LibW.ne {a : Addr} {w : World} {b : Nat} {s : ByteArray} {p : Nat} (h : LibW a w) (hs : Sc w b s p) : b ≠ 0 ∧ b ≠ 4 := by
  constructor
  · intro e
    have h1 := h.sgCell 1
    have h2 := hs.c1
    rw [e] at h2
    rw [h1] at h2
    cases h2
  · intro e
    have h1 := World.var?_cell gErr h.err 0
    have h2 := hs.c0
    rw [e] at h2
    rw [h1] at h2
    cases h2
theorem LibW.keepS {a : Addr} {w w' : World} {b : Nat} {s : ByteArray} {p : Nat} (h : LibW a w) (hs : Sc w b s p) (hf : Fr w w' (fun i => i = b)) : LibW a w' :=
  h.keepF hf (fun e => (h.ne hs).1 e.symm) (fun e => (h.ne hs).2 e.symm)
def stB : Nat → ByteArray
  | 1 => ⟨#[52, 50, 54, 48, 49]⟩
  | 2 => ⟨#[50, 50, 48, 48, 51]⟩
  | 3 => ⟨#[50, 50, 48, 48, 49]⟩
  | _ => ⟨#[53, 52, 48, 48, 48]⟩
def st0 : ByteArray := ⟨#[48, 48, 48, 48, 48]⟩
inductive StTo (w : World) (b : Nat) (s : ByteArray) (p : Nat) (o : Stp) (e : Ending) (w' : World) : Prop
  | tk (k : Int) (t : List UInt8) (v : Int) (n : Nat) (ho : o = .tk k t v n) (he : e = .returned (.tuple #[.string ⟨t.toArray⟩, .string ⟨#[48, 48, 48, 48, 48]⟩])) (sc : Sc w' b s (p + n)) (fr : Fr w w' (fun i => i = b))
  | no (er : Nat) (ho : o = .no er) (he : e = .returned (.tuple #[.string ⟨#[]⟩, .string (stB er)])) (q : Nat) (sc : Sc w' b s q) (fr : Fr w w' (fun i => i = b))
inductive NuTo (w : World) (b : Nat) (s : ByteArray) (p : Nat) (o : Stp) (e : Ending) (w' : World) : Prop
  | tk (k : Int) (t : List UInt8) (v : Int) (n : Nat) (ho : o = .tk k t v n) (ht : t = []) (he : e = .returned (.tuple #[.int .i64 v, .string ⟨#[48, 48, 48, 48, 48]⟩])) (sc : Sc w' b s (p + n)) (fr : Fr w w' (fun i => i = b))
  | no (er : Nat) (ho : o = .no er) (he : e = .returned (.tuple #[.int .i64 0, .string (stB er)])) (q : Nat) (sc : Sc w' b s q) (fr : Fr w w' (fun i => i = b))
theorem ext_tw (s : ByteArray) (p : Nat) (k : UInt8 → Bool) : (s.extract p (p + ((rest s p).takeWhile k).length)).data.toList = (rest s p).takeWhile k := by
  rw [ext_take, tw_pre]
theorem size_of_list (x : ByteArray) : x.size = x.data.toList.length := by simp
theorem fresh_back {B : Nat} {w : World} {v : Value} {l : List UInt8} (h : Lib.FreshBytes B w v l) : (convert 80 9 v).run Tryz.prog w = .ok (.string ⟨l.toArray⟩) w := by
  obtain ⟨g, cap, zs, rfl, _, hlc, _, hz, hr, hb, hc, _⟩ := h
  refine run_convert_bytes_back w 80 9 5 ⟨g, 0, none⟩ cap l Tryz.underlying80 Tryz.underlying5 Tryz.underlying9 (fun j hj => ?_)
  rw [Addr.add_mid, Nat.zero_add, hc j (by omega)]
  have hjz : j < zs.length := by omega
  have h1 : l[j]? = (Lib.bytesOf (zs.take l.length))[j]? := by rw [hb]
  rw [List.getElem?_eq_getElem hj] at h1
  simp only [Lib.bytesOf, List.getElem?_map, List.getElem?_take, if_pos hj, List.getElem?_eq_getElem hjz, Option.map_some, Option.some.injEq] at h1
  have h2 := hr zs[j] (List.getElem_mem hjz)
  rw [h1]
  simp only [List.getD, List.getElem?_eq_getElem hjz, Option.getD_some, Option.some.injEq, Value.int.injEq, true_and]
  rw [UInt8.toNat_ofNat']
  omega
theorem wd_small {c : UInt8} (h : isWd c = true) : c.toNat < 128 := by
  have : ∀ n : Fin 256, isWd (UInt8.ofNat n.val) = true → (UInt8.ofNat n.val).toNat < 128 := by decide +kernel
  have h2 := this ⟨c.toNat, c.toNat_lt⟩
  simp only [UInt8.ofNat_toNat] at h2
  exact h2 h
theorem bytesOf_nat (l : List UInt8) : Lib.bytesOf (l.map fun c => (c.toNat : Int)) = l := by
  unfold Lib.bytesOf
  rw [List.map_map]
  conv => rhs; rw [← List.map_id l]
  refine List.map_congr_left (fun c _ => ?_)
  simp
theorem below_bytesW (w : World) (e : TypeId) (t : ByteArray) : Below w.heap.size w (Lib.bytesWorld w e t) :=
  ⟨rfl, rfl, rfl, by rw [Lib.bytesWorld_size]; omega, fun k hk => Lib.bytesWorld_at_old w e t k hk⟩
theorem low_any (x : ByteArray) (w : World) (h0 : 0 < x.size) (hx : x.size ≤ 10000) (hw : ∀ c ∈ x.data.toList, isWd c = true) (cap : Nat) : Calls Tryz.prog 76 #[.slice (some ⟨w.heap.size, 0, none⟩) x.size cap] (Lib.bytesWorld w 5 x) fun e w' => ∃ v', e = .returned v' ∧ Lib.FreshBytes (Lib.bytesWorld w 5 x).heap.size w' v' (x.data.toList.map lowc) ∧ Below (Lib.bytesWorld w 5 x).heap.size (Lib.bytesWorld w 5 x) w' := by
  have := Tryz.bytes_ToLower_at ⟨w.heap.size, 0, none⟩ x.size cap (x.data.toList.map fun c => (c.toNat : Int)) (Lib.bytesWorld w 5 x) (by simp) (fun y hy => by
    obtain ⟨c, hc, rfl⟩ := List.mem_map.1 hy
    have := wd_small (hw c hc)
    omega) (fun i hi => by
    rw [Addr.add_mid, Nat.zero_add, Lib.bytesWorld_cell w _ x i hi]
    have hi' : i < x.data.toList.length := by simpa using hi
    simp [List.getD, List.getElem?_eq_getElem hi', List.getElem?_map]) h0 (by omega)
  rw [bytesOf_nat] at this
  exact this
theorem word_any {w : World} {b : Nat} {s : ByteArray} {p : Nat} (h : Sc w b s p) (hs : s.size ≤ 10000) (hp : p < s.size) (hl : isLt s[p] = true) : Calls Tryz.prog 45 #[.pointer (some ⟨b, 0, none⟩)] w fun e w' => StTo w b s p (wdS (rest s p)) e w' := by
  have ht := take_wd h hs
  have hpos : 1 ≤ ((rest s p).takeWhile isWd).length := by rw [rest_at s hp]; exact wd_pos hl
  have hlist := ext_tw s p isWd
  have hmem : ∀ c ∈ (rest s p).takeWhile isWd, isWd c = true := fun c hc => tw_mem _ c hc
  have hle := tw_le s isWd h.le
  obtain ⟨o, ho⟩ : ∃ o, o = wdS (rest s p) := ⟨_, rfl⟩
  rw [← ho]
  unfold wdS at ho
  have HOO := hidk ho
  clear ho
  have hT : ∀ e w', TkP w b s p isWd e w' → ∃ (x : ByteArray) (n : Nat), x.data.toList = (rest s p).takeWhile isWd ∧ x.size = n ∧ n = ((rest s p).takeWhile isWd).length ∧ e = .returned (.string x) ∧ Sc w' b s (p + n) ∧ Fr w w' (fun i => i = b) := fun e w' ⟨h1, h2, h3⟩ => ⟨_, _, hlist, by rw [size_of_list, hlist], rfl, h1, h2, h3⟩
  generalize (rest s p).takeWhile isWd = L at *
  clear hlist h hl hp
  go_enter Tryz.func45, Tryz.ntmps45
  go_wp2_with fail
  refine ht.mono ?_
  intro e w1 hTk
  obtain ⟨x, n, hx, hxn, hn, rfl, hS, hF⟩ := hT e w1 hTk
  clear ht hT hTk
  have HS := hidk hS
  have HF := hidk hF
  have HX := hidk hx
  have HN := hidk hn
  have hn1 : n ≤ 10000 := by omega
  clear hS hF hx
  by_cases h32 : 32 < n
  · have h32' : (n : Int) > 32 := by omega
    have hgo : ∀ e', e' = .returned (.tuple #[.string ⟨#[]⟩, .string ⟨#[52, 50, 54, 48, 49]⟩]) → StTo w b s p o e' w1 := fun e' he' => .no 1 (by rw [HOO.out, if_pos (by omega)]) he' _ HS.out HF.out
    clear hn
    subst hxn
    go_wp2_with fail
    go_ret2
    exact hgo _ rfl
  · have h32' : ¬ (n : Int) > 32 := by omega
    have hlow := fun cap => low_any x w1 (by omega) (by omega) (by rw [HX.out]; exact hmem) cap
    have hcv := Lib.run_convert_string_bytes (P := Tryz.prog) w1 9 80 5 x Tryz.underlying9 Tryz.underlying80 Tryz.underlying5
    have HW := hidk (below_bytesW w1 5 x)
    have HO : Hid (∀ w', Below w1.heap.size w1 w' → StTo w b s p o (.returned (.tuple #[.string ⟨(L.map lowc).toArray⟩, .string ⟨#[48, 48, 48, 48, 48]⟩])) w') := fun w' hb => by
      have e0 := HOO.out
      rw [if_neg (by omega)] at e0
      refine .tk _ _ _ _ e0 rfl ?_ (HF.out.trans (Fr.of_below (F := fun _ => False) hb) (fun i hi => hi.elim))
      rw [← HN.out]
      exact HS.out.keepB hb
    rw [HX.out] at hlow
    clear hn hmem hle hpos HX HN HS HF HOO
    subst hxn
    generalize grownCap w1 x.size 0 5 = cap at *
    generalize Lib.bytesWorld w1 5 x = w2 at *
    go_wp2_with fail
    refine (hlow cap).mono ?_
    rintro e w3 ⟨v', rfl, hfb, hb3⟩
    have hcb := fresh_back hfb
    have HW3 := hidk (HW.out.trans (hb3.mono HW.out.size))
    clear hlow hcv hfb hb3 HW
    go_wp2_with fail
    go_ret2
    exact HO.out _ HW3.out
end Go.Proofs.YtaenpacfbheppaaGreatDoor

namespace Go.Proofs.YtaenpacfbheppaaGreatDoor
open Go.RowKit

def bv (c : UInt8) : Value := .int .u8 c.toNat
theorem one_bv (ys : List UInt8) : ∀ u ∈ ys.map bv, u.oneCell' = true := by
  intro u hu
  obtain ⟨c, _, rfl⟩ := List.mem_map.1 hu
  rfl
theorem infoB : (Tryz.prog.info? 5).map (fun i => (i.zero, i.size, i.bytes)) = some (some (.int .u8 0), 1, 1) := by kernel_rfl
def OwnB (base : Nat) (w : World) (v : Value) (xs : List UInt8) : Prop := w.ownsRow base 5 1 v xs.length (xs.map bv)
theorem OwnB.alloc {base : Nat} {w : World} {v : Value} {xs : List UInt8} (h : OwnB base w v xs) (o : Obj) : OwnB base (w.alloc o) v xs := World.ownsRow.alloc h o
theorem OwnB.nil_ (base : Nat) (w : World) : OwnB base w (.slice none 0 0) [] := ⟨by simp, Or.inl ⟨rfl, rfl⟩⟩
theorem own_ge {base : Nat} {w : World} {v : Value} {xs : List UInt8} (h : OwnB base w v xs) : ∀ k, v.ownBlock = some k → base ≤ k := fun k hk => (World.ownsRow.lt h k hk).1
theorem OwnB.keepF {base : Nat} {w w' : World} {v : Value} {xs : List UInt8} {F : Nat → Prop} (h : OwnB base w v xs) (hf : Fr w w' F) (hF : ∀ i, F i → i < base) : OwnB base w' v xs :=
  own_of_block h (fun c hc => hf.block c (World.ownsRow.lt h c hc).2 (fun e => by have := (World.ownsRow.lt h c hc).1; have := hF c e; omega))
theorem OwnB.form {base : Nat} {w : World} {v : Value} {xs : List UInt8} (h : OwnB base w v xs) : ∃ ao cap, v = .slice ao xs.length cap := by
  rcases id h with ⟨_, ⟨hv, hn⟩ | ⟨g, cap, cur, hv, _⟩⟩
  · exact ⟨none, 0, by rw [hv, hn]⟩
  · exact ⟨_, cap, hv⟩
theorem wp_appS (w : World) {ops : Array Oper} {rest : List Oper} {o : Oper} {a : Act} {Q : Exit → Act → World → Prop} (hgd : o.guard = none) (s x : Operand)
    (ho : o.op = .call { callee := .builtin .append, args := #[s, x], argTypes := #[80, 9] })
    (base : Nat) (v : Value) (xs : List UInt8) (hs : a.eval s = v) (hown : OwnB base w v xs)
    (t : ByteArray) (hx : a.eval x = .string t) (hl : xs.length + t.size ≤ 140737488355328) (hbase : base ≤ w.heap.size)
    (h : ∀ v' w', OwnB base w' v' (xs ++ t.data.toList) → Below base w w' → wpList Tryz.prog ops Q rest (a.put o.dst v') w') : wpList Tryz.prog ops Q (o :: rest) a w := by
  obtain ⟨i0, hi, hz0, hz1, hz2⟩ := info_parts infoB
  refine Lib.wpList_append_own_string w hgd s x 80 9 ho base 5 i0 Tryz.underlying80 Tryz.underlying9 hi hz0 hz1 hz2 v xs.length (xs.map bv) hs hown t hx (by unfold maxLen; omega) hl hbase ?_
  intro v' w' h1 h2 _
  refine h v' w' ?_ ((Below.refl _ _).grown h2 hbase (own_ge hown))
  unfold OwnB
  rw [List.length_append, List.map_append, show t.data.toList.length = t.size by simp]
  exact h1
theorem wp_app1 (w : World) {ops : Array Oper} {rest : List Oper} {o : Oper} {a : Act} {Q : Exit → Act → World → Prop} (hgd : o.guard = none) (s x : Operand)
    (ho : o.op = .call { callee := .builtin .append, args := #[s, x], argTypes := #[80, 80] })
    (base : Nat) (v : Value) (xs : List UInt8) (hs : a.eval s = v) (hown : OwnB base w v xs)
    (B : Nat) (c : UInt8) (n : Int) (hn : n = (c.toNat : Int)) (hx : a.eval x = .slice (some ⟨B, 0, none⟩) 1 1) (hB : w.heap[B]? = some (.cells #[.int .u8 n] 5 (0, 0)))
    (hl : xs.length + 1 ≤ 140737488355328) (hbase : base ≤ w.heap.size)
    (h : ∀ v' w', OwnB base w' v' (xs ++ [c]) → Below base w w' → wpList Tryz.prog ops Q rest (a.put o.dst v') w') : wpList Tryz.prog ops Q (o :: rest) a w := by
  subst hn
  obtain ⟨i0, hi, hz0, hz1, hz2⟩ := info_parts infoB
  refine wpList_append_lies w hgd s x 80 ho base 5 i0 (.int .u8 0) 1 1 Tryz.underlying80 hi hz0 hz1 hz2 rfl (by decide) v xs.length (xs.map bv) hs hown ⟨B, 0, none⟩ 1 1 [bv c] hx rfl ?_ (one_bv [c]) (by decide) (by unfold maxLen; omega) (by omega) hbase w.heap.size rfl ?_
  · exact World.news_of_block hB
  · intro g cap w' h1 h2 h3 _
    refine h _ w' ?_ ((Below.refl _ _).grown h2 hbase (own_ge hown))
    unfold OwnB
    rw [List.length_append, List.map_append]
    exact h1
theorem own_back {base : Nat} {w : World} {v : Value} {xs : List UInt8} (h : OwnB base w v xs) : (convert 80 9 v).run Tryz.prog w = .ok (.string ⟨xs.toArray⟩) w := by
  rcases id h with ⟨_, ⟨hv, hn⟩ | ⟨g, cap, cur, hv, hg, hh, hc, _⟩⟩
  · obtain rfl := List.eq_nil_of_length_eq_zero hn
    rw [hv, run_convert_bytes_string w _ _ _ none 0 0 Tryz.underlying80 Tryz.underlying5 Tryz.underlying9]; rfl
  · subst hv
    refine run_convert_bytes_back w 80 9 5 ⟨g, 0, none⟩ cap xs Tryz.underlying80 Tryz.underlying5 Tryz.underlying9 (fun j hj => ?_)
    exact World.ownsRow.cells h (g := g) rfl j (bv xs[j]) (by simp [hj])
theorem txN_part : ∀ (t r : List UInt8), (∀ c ∈ t, (c != 39) = true) → txN (t ++ r) = (txN r).map fun x => (t ++ x.1, x.2 + t.length) := by
  intro t
  induction t with
  | nil => intro r _; rw [List.nil_append]; cases txN r <;> simp
  | cons c t ih =>
    intro r h
    have hc := h c (by simp)
    have hc' : (c == 39) = false := by
      rw [beq_eq_false_iff_ne]
      intro e
      rw [e] at hc
      simp at hc
    rw [List.cons_append, txN.eq_def]
    simp only [hc', Bool.false_eq_true, if_false]
    rw [ih r (fun x hx => h x (by simp [hx]))]
    cases txN r with
    | none => rfl
    | some x => simp; omega
theorem txN_two (r : List UInt8) : txN (39 :: 39 :: r) = (txN r).map fun x => (39 :: x.1, x.2 + 2) := by
  rw [txN.eq_def]
  simp
theorem txN_last {r : List UInt8} (h : ([39] : List UInt8).isPrefixOf r = false) : txN (39 :: r) = some ([], 1) := by
  rw [txN.eq_def]
  simp only [beq_self_eq_true, if_true]
  cases r with
  | nil => rfl
  | cons d r =>
    simp only [List.isPrefixOf] at h
    have : (d == 39) = false := by
      cases hd : d == 39 with
      | false => rfl
      | true => rw [beq_iff_eq] at hd; subst hd; simp at h
    simp [this]
theorem txN_open {t : List UInt8} (h : ∀ c ∈ t, (c != 39) = true) : txN t = none := by
  have := txN_part t [] h
  rw [List.append_nil] at this
  rw [this]
  rfl
end Go.Proofs.YtaenpacfbheppaaGreatDoor

namespace Go.Proofs.YtaenpacfbheppaaGreatDoor
open Go.RowKit Go.Joins

def valA (a : Nat) (d : List UInt8) : Nat := d.foldl (fun v c => 10 * v + (c.toNat - 48)) a
theorem valA_cons (a : Nat) (c : UInt8) (d : List UInt8) : valA a (c :: d) = valA (10 * a + (c.toNat - 48)) d := by
  unfold valA
  rw [List.foldl_cons]
theorem valA_ge (d : List UInt8) : ∀ a, a ≤ valA a d := by
  induction d with
  | nil => intro a; exact Nat.le_refl _
  | cons c d ih =>
    intro a
    rw [valA_cons]
    have := ih (10 * a + (c.toNat - 48))
    omega
theorem dg_bounds {c : UInt8} (h : isDg c = true) : 48 ≤ c.toNat ∧ c.toNat ≤ 57 := by
  simp only [isDg, Bool.and_eq_true, decide_eq_true_eq] at h
  exact ⟨UInt8.le_iff_toNat_le.1 h.1, UInt8.le_iff_toNat_le.1 h.2⟩
theorem parseM_digits : ∀ (d : List UInt8) (a : Nat), (∀ c ∈ d, isDg c = true) → a ≤ 18446744073709551615 → Lib.parseUintM 18446744073709551615 a d = if 18446744073709551615 < valA a d then .range else .ok (valA a d) := by
  intro d
  induction d with
  | nil =>
    intro a _ ha
    rw [show valA a [] = a from rfl, if_neg (by omega)]
    rfl
  | cons c d ih =>
    intro a hd ha
    have hc := dg_bounds (hd c (by simp))
    rw [valA_cons]
    have hge := valA_ge d (10 * a + (c.toNat - 48))
    simp only [Lib.parseUintM]
    rw [if_pos hc]
    by_cases h1 : 1844674407370955162 ≤ a
    · rw [if_pos h1, if_pos (by omega)]
    · rw [if_neg h1]
      by_cases h2 : 18446744073709551615 < a * 10 + (c.toNat - 48)
      · rw [if_pos h2, if_pos (by omega)]
      · rw [if_neg h2, show a * 10 + (c.toNat - 48) = 10 * a + (c.toNat - 48) by omega]
        exact ih _ (fun x hx => hd x (by simp [hx])) (by omega)
theorem parse_digits {d : List UInt8} (hd : ∀ c ∈ d, isDg c = true) (hne : d ≠ []) : Lib.parseIntB 64 d = if 9223372036854775807 < val d then .range else .ok (val d : Int) := by
  cases d with
  | nil => exact absurd rfl hne
  | cons c r =>
    have hc := dg_bounds (hd c (by simp))
    rw [Lib.parseIntB_plain 64 c r (by omega) (by omega)]
    unfold Lib.parseUintB
    rw [if_neg (by simp), show 2 ^ 64 - 1 = 18446744073709551615 by decide, parseM_digits (c :: r) 0 hd (by omega)]
    have hv : valA 0 (c :: r) = val (c :: r) := rfl
    rw [hv]
    generalize val (c :: r) = V
    by_cases h1 : 18446744073709551615 < V
    · rw [if_pos h1, if_pos (by omega)]
      rfl
    · rw [if_neg h1]
      by_cases h2 : 9223372036854775807 < V
      · rw [if_pos h2]
        show (if 2 ^ 63 ≤ V then _ else _) = _
        rw [if_pos (by omega)]
      · rw [if_neg h2]
        show (if 2 ^ 63 ≤ V then _ else _) = _
        rw [if_neg (by omega)]
theorem below_bytesE {w w' : World} (h : w' = w ∨ ∃ t, w' = Lib.bytesWorld w 5 t) : Below w.heap.size w w' := by
  rcases h with rfl | ⟨t, rfl⟩
  · exact Below.refl _ _
  · exact below_bytesW _ _ _
theorem snumber_any {a : Addr} {w : World} {b : Nat} {s : ByteArray} {p : Nat} (h : Sc w b s p) (hL : LibW a w) (hs : s.size ≤ 10000) (hp : p < s.size) (hl : isDg s[p] = true) : Calls Tryz.prog 47 #[.pointer (some ⟨b, 0, none⟩)] w fun e w' => NuTo w b s p (nmS (rest s p)) e w' := by
  have ht := take_dg h hs
  have hpos : 1 ≤ ((rest s p).takeWhile isDg).length := by rw [rest_at s hp]; exact dg_pos hl
  have hlist := ext_tw s p isDg
  have hmem : ∀ c ∈ (rest s p).takeWhile isDg, isDg c = true := fun c hc => tw_mem _ c hc
  have hle := tw_le s isDg h.le
  have hdrop : (rest s p).dropWhile isDg = rest s (p + ((rest s p).takeWhile isDg).length) := by
    rw [← rest_add]
    have : ∀ l : List UInt8, l.dropWhile isDg = l.drop (l.takeWhile isDg).length := fun l => by
      induction l with
      | nil => rfl
      | cons a l ih =>
        rw [List.takeWhile_cons, List.dropWhile_cons]
        split
        · simpa using ih
        · rfl
    exact this _
  obtain ⟨o, ho⟩ : ∃ o, o = nmS (rest s p) := ⟨_, rfl⟩
  rw [← ho]
  unfold nmS at ho
  rw [hdrop] at ho
  have hT : ∀ e w', TkP w b s p isDg e w' → ∃ (x : ByteArray) (n : Nat), x.data.toList = (rest s p).takeWhile isDg ∧ x.size = n ∧ n = ((rest s p).takeWhile isDg).length ∧ e = .returned (.string x) ∧ Sc w' b s (p + n) ∧ Fr w w' (fun i => i = b) := fun e w' ⟨h1, h2, h3⟩ => ⟨_, _, hlist, by rw [size_of_list, hlist], rfl, h1, h2, h3⟩
  have HLS := hidk (And.intro hL h)
  generalize (rest s p).takeWhile isDg = L at *
  clear hlist h hl hp hL hdrop
  have HOO := hidk ho
  clear ho
  go_enter Tryz.func47, Tryz.ntmps47
  go_wp2_with fail
  refine ht.mono ?_
  intro e w1 hTk
  obtain ⟨x, n, hx, hxn, hn, rfl, hS, hF⟩ := hT e w1 hTk
  clear ht hT hTk
  have hL1 := HLS.out.1.keepS HLS.out.2 hF
  have HS := hidk hS
  have HF := hidk hF
  have hpd := parse_digits hmem (by intro e; rw [e] at hpos; simp at hpos)
  rw [← hx] at hpd
  have hx10 : x.size ≤ 10000 := by omega
  rw [hx] at hpd
  clear HLS hS hF
  by_cases hv : 9223372036854775807 < val L
  · rw [if_pos hv, ← hx] at hpd
    have hpi := Tryz.strconv_ParseInt_10_at64_range_var x (by omega) hpd _ _ w1 hL1.err
    have HGO : Hid (∀ w', Below w1.heap.size w1 w' → NuTo w b s p o (.returned (.tuple #[.int .i64 0, .string ⟨#[50, 50, 48, 48, 51]⟩])) w') := fun w' hb => .no 2 (by rw [HOO.out, if_pos hv]) rfl _ (HS.out.keepB hb) (HF.out.trans (Fr.of_below (F := fun _ => False) hb) (fun i hi => hi.elim))
    generalize Lib.intSat 64 x.data.toList = V at *
    clear hpd hmem hle hpos hx hn hv HOO HS HF hL1 hxn hx10
    go_wp2_with fail
    refine hpi.mono ?_
    rintro e w2 ⟨N, rfl, _, _, hb2⟩
    clear hpi
    go_wp2_with fail
    go_ret2
    exact HGO.out _ hb2
  · rw [if_neg hv] at hpd
    have hpd : Lib.parseIntB 64 x.data.toList = .ok (val L : Int) := by rw [hx]; exact hpd
    have hpi := Tryz.strconv_ParseInt_10_at64_ok x (by omega) _ hpd w1
    have hS1 : Sc w1 b s (p + n) := HS.out
    by_cases hend : p + n = s.size
    · have HGO : Hid (∀ w', Below w1.heap.size w1 w' → NuTo w b s p o (.returned (.tuple #[.int .i64 (val L : Int), .string ⟨#[48, 48, 48, 48, 48]⟩])) w') := fun w' hb => by
        have e0 := HOO.out
        rw [if_neg hv, ← hn, rest_end s (by omega), if_neg (by simp)] at e0
        exact .tk _ _ _ _ e0 rfl rfl (HS.out.keepB hb) (HF.out.trans (Fr.of_below (F := fun _ => False) hb) (fun i hi => hi.elim))
      generalize (val L : Int) = V at *
      clear hpd hmem hle hpos hx hn hv HOO HS HF hL1 hxn hx10
      go_wp2_with fail
      refine hpi.mono ?_
      rintro e w2 ⟨rfl, hw2⟩
      have hb2 := below_bytesE hw2
      clear hpi hw2
      have hat : ∀ d os, Calls Tryz.prog 18 #[.pointer (some ⟨b, 0, none⟩)] (Go.Sort.grow (redrawn w2 d) os) fun e w' => e = .returned (.bool true) ∧ Below (Go.Sort.grow (redrawn w2 d) os).heap.size (Go.Sort.grow (redrawn w2 d) os) w' := fun d os => by
        have := atEnd_any ((hS1.keepB hb2).keepB (below_regrown w2 d os)) hs
        rw [decide_eq_true hend] at this
        exact this
      clear hS1 hend
      go_wp2_with fail
      refine wp_region_quiet_below (by kernel_rfl) (by kernel_rfl) ?_
      repeat (go_big_quiet_step (with_reducible exact Calls.regrown_of (hat _ _)))
      refine wpQuiet_nil ?_
      intro _ hw'
      obtain ⟨⟨dq, osq⟩, hw''⟩ := hw'
      subst hw''
      have hb3 := hb2.trans ((below_regrown w2 dq osq).mono hb2.size)
      clear hat hb2
      generalize Go.Sort.grow (redrawn w2 dq) osq = wz at *
      go_wp2_with fail
      go_ret2
      exact HGO.out _ hb3
    · have hlt : p + n < s.size := by omega
      have tl : ((p + n : Nat) : Int) < (s.size : Int) := by omega
      have hle1 := isLetter_any (s[p + n].toNat : Int)
      rw [ltI_of] at hle1
      have HGO : Hid (∀ w', Below w1.heap.size w1 w' → NuTo w b s p o (if isLt s[p + n] then .returned (.tuple #[.int .i64 0, .string ⟨#[52, 50, 54, 48, 49]⟩]) else .returned (.tuple #[.int .i64 (val L : Int), .string ⟨#[48, 48, 48, 48, 48]⟩])) w') := fun w' hb => by
        have e0 := HOO.out
        rw [if_neg hv, ← hn, rest_at s hlt] at e0
        cases hi : isLt s[p + n] with
        | true =>
          rw [if_pos (by simpa using hi)] at e0
          exact .no 1 e0 rfl _ (HS.out.keepB hb) (HF.out.trans (Fr.of_below (F := fun _ => False) hb) (fun i hi => hi.elim))
        | false =>
          rw [if_neg (by simp [hi])] at e0
          exact .tk _ _ _ _ e0 rfl rfl (HS.out.keepB hb) (HF.out.trans (Fr.of_below (F := fun _ => False) hb) (fun i hi => hi.elim))
      generalize hV : (val L : Int) = V at *
      generalize hLT : isLt s[p + n] = lt at *
      clear hpd hmem hle hpos hx hn hv HOO HS HF hL1 hxn hx10 hV hLT
      generalize p + n = q at *
      go_wp2_with fail
      refine hpi.mono ?_
      rintro e w2 ⟨rfl, hw2⟩
      have hb2 := below_bytesE hw2
      clear hpi hw2
      have hat : ∀ d os, Calls Tryz.prog 18 #[.pointer (some ⟨b, 0, none⟩)] (Go.Sort.grow (redrawn w2 d) os) fun e w' => e = .returned (.bool false) ∧ Below (Go.Sort.grow (redrawn w2 d) os).heap.size (Go.Sort.grow (redrawn w2 d) os) w' := fun d os => by
        have := atEnd_any ((hS1.keepB hb2).keepB (below_regrown w2 d os)) hs
        rw [decide_eq_false hend] at this
        exact this
      have hlb : ∀ W, Calls Tryz.prog 44 #[.int .u8 s[q].toNat] W fun e w' => e = .returned (.bool lt) ∧ Below W.heap.size W w' := fun W => (hle1 W).mono fun e w' ⟨he, hw⟩ => ⟨he, by rw [hw]; exact Below.refl _ _⟩
      have c0 := fun (d : Nat) (os : Array Obj) => (hS1.keepB hb2).keepB (below_regrown w2 d os) |>.c0
      have c1 := fun (d : Nat) (os : Array Obj) => (hS1.keepB hb2).keepB (below_regrown w2 d os) |>.c1
      clear hS1 hend hle1
      go_wp2_with fail
      refine wp_region_quiet_below (by kernel_rfl) (by kernel_rfl) ?_
      repeat (go_big_quiet_step (first | (with_reducible exact Calls.regrown_of (hat _ _)) | (exact Calls.regrown_of (hlb _))))
      refine wpQuiet_nil ?_
      intro _ hw'
      obtain ⟨⟨dq, osq⟩, hw''⟩ := hw'
      subst hw''
      have hb3 := hb2.trans ((below_regrown w2 dq osq).mono hb2.size)
      clear hat hb2 c0 c1 hlb
      generalize Go.Sort.grow (redrawn w2 dq) osq = wz at *
      have HG := hidk (HGO.out _ hb3)
      clear HGO
      cases lt with
      | true =>
        go_wp2_with fail
        go_ret2
        exact HG.out
      | false =>
        go_wp2_with fail
        go_ret2
        exact HG.out
end Go.Proofs.YtaenpacfbheppaaGreatDoor

namespace Go.Proofs.YtaenpacfbheppaaGreatDoor
open Go.RowKit

def BoxT (w : World) (q : Nat) (pl : Bool) : Prop := w.heap[q]? = some (.cells #[.bool pl] 4 (0, 0))
theorem BoxT.cell {w : World} {q : Nat} {pl : Bool} (h : BoxT w q pl) : w.cell? ⟨q, 0, none⟩ = some (.bool pl) := by rw [cell_of_row w q 0 _ _ _ h]; rfl
theorem BoxT.fz {w : World} {q : Nat} {pl : Bool} (h : BoxT w q pl) : w.frozen? ⟨q, 0, none⟩ = false := frozen_row h 0
theorem BoxT.set {w : World} {q : Nat} {pl : Bool} (h : BoxT w q pl) (u : Bool) : BoxT (w.setCell ⟨q, 0, none⟩ (.bool u)) q u := by
  unfold BoxT
  rw [heap_setCell_same w q 0 _ _ _ h]
  rfl
theorem BoxT.lt {w : World} {q : Nat} {pl : Bool} (h : BoxT w q pl) : q < w.heap.size := (Array.getElem?_eq_some_iff.1 h).1
theorem isTx_of (c : UInt8) : isTx c = (decide ((32 : Int) ≤ c.toNat) && decide ((c.toNat : Int) ≤ 126)) := by
  have : ∀ n : Fin 256, isTx (UInt8.ofNat n.val) = (decide ((32 : Int) ≤ (UInt8.ofNat n.val).toNat) && decide (((UInt8.ofNat n.val).toNat : Int) ≤ 126)) := by decide +kernel
  have h := this ⟨c.toNat, c.toNat_lt⟩
  simpa only [UInt8.ofNat_toNat] using h
theorem until_any {w : World} {q : Nat} {pl : Bool} (h : BoxT w q pl) (c : UInt8) : Calls Tryz.prog 78 #[.int .u8 c.toNat, .pointer (some ⟨q, 0, none⟩)] w fun e w' => e = .returned (.bool (c != 39)) ∧ Fr w w' (fun i => i = q) ∧ BoxT w' q (if (c != 39) then pl && isTx c else pl) := by
  have c0 := h.cell
  have f0 := h.fz
  by_cases hc : c = 39
  · subst hc
    have HB := hidk h
    clear h
    show Calls _ _ #[.int .u8 39, _] _ _
    go_enter Tryz.func78, Tryz.ntmps78
    go_wp2
    go_ret
    exact ⟨rfl, Fr.refl _ _, HB.out⟩
  · have hne : (c != 39) = true := by simpa using hc
    have hx : ¬ (c.toNat : Int) = 39 := fun e => hc ((u8_eq (n := 39) (by omega)).1 e)
    have hx' : ((c.toNat : Int) == 39) = false := by simpa using hx
    have hi := isTx_of c
    rw [hne]
    simp only [if_true]
    have HB : Hid (∀ u, BoxT (w.setCell ⟨q, 0, none⟩ (.bool u)) q u) := fun u => h.set u
    have HF : Hid (∀ u, Fr w (w.setCell ⟨q, 0, none⟩ (.bool u)) (fun i => i = q)) := fun u => fr_set w q 0 (.bool u)
    rw [hi]
    clear h hc hne hi
    generalize (c.toNat : Int) = x at *
    by_cases h1 : 32 ≤ x <;> by_cases h2 : x ≤ 126
    · rw [decide_eq_true h1, decide_eq_true h2]
      cases pl
      all_goals
        simp only [Bool.and_true, Bool.and_false, Bool.true_and, Bool.false_and]
        go_enter Tryz.func78, Tryz.ntmps78
        go_wp2
        go_ret
        exact ⟨rfl, HF.out _, HB.out _⟩
    · rw [decide_eq_true h1, decide_eq_false h2]
      cases pl
      all_goals
        simp only [Bool.and_true, Bool.and_false, Bool.true_and, Bool.false_and]
        go_enter Tryz.func78, Tryz.ntmps78
        go_wp2
        go_ret
        exact ⟨rfl, HF.out _, HB.out _⟩
    · rw [decide_eq_false h1, decide_eq_true h2]
      cases pl
      all_goals
        simp only [Bool.and_true, Bool.and_false, Bool.true_and, Bool.false_and]
        go_enter Tryz.func78, Tryz.ntmps78
        go_wp2
        go_ret
        exact ⟨rfl, HF.out _, HB.out _⟩
    · omega
theorem enters_un : Enters Tryz.prog 78 := enters_of Tryz.func78 (by kernel_rfl) rfl
structure QB (w0 w : World) (b : Nat) (s : ByteArray) (c : Nat) (v : Value) (S : List UInt8) : Prop where
  sc : Sc w b s c
  bx : BoxT w w0.heap.size (S.all isTx)
  own : OwnB (w0.heap.size + 1) w v S
  fr : Fr w0 w (fun i => i = b)
  sz : w0.heap.size + 1 ≤ w.heap.size
  lb : b < w0.heap.size
theorem QB.keepB {w0 w w' : World} {b : Nat} {s : ByteArray} {c : Nat} {v : Value} {S : List UInt8} (h : QB w0 w b s c v S) (hb : Below w.heap.size w w') : QB w0 w' b s c v S :=
  ⟨h.sc.keepB hb, (hb.block _ h.bx.lt).trans h.bx, own_of_block h.own (fun k hk => hb.block k (World.ownsRow.lt h.own k hk).2), h.fr.trans (Fr.of_below (F := fun _ => False) hb) (fun i hi => hi.elim), Nat.le_trans h.sz hb.size, h.lb⟩
theorem QB.app {w0 w w' : World} {b : Nat} {s : ByteArray} {c : Nat} {v v' : Value} {S S' : List UInt8} (h : QB w0 w b s c v S) (hb : Below (w0.heap.size + 1) w w') (ho : OwnB (w0.heap.size + 1) w' v' S') (ha : S'.all isTx = S.all isTx) : QB w0 w' b s c v' S' := by
  have hlb := h.lb
  refine ⟨⟨(hb.block b (by omega)).trans h.sc.hh, h.sc.le⟩, ?_, ho, ?_, Nat.le_trans h.sz hb.size, h.lb⟩
  · rw [ha]
    exact (hb.block _ (by omega)).trans h.bx
  · exact ⟨hb.os.trans h.fr.os, hb.tape.trans h.fr.tape, hb.output.trans h.fr.output, Nat.le_trans h.fr.size hb.size, fun k hk hn => (hb.block k (by omega)).trans (h.fr.block k hk hn)⟩
theorem QB.at_ {w0 w : World} {b : Nat} {s : ByteArray} {c c' : Nat} {v : Value} {S : List UInt8} (h : QB w0 w b s c v S) (hc : c' ≤ s.size) : QB w0 (w.setCell ⟨b, 1, none⟩ (.int .i64 c')) b s c' v S := by
  have hlb := h.lb
  have hf := fr_set w b 1 (.int .i64 c')
  exact ⟨h.sc.to_ hc, (hf.block _ h.bx.lt (by omega)).trans h.bx, h.own.keepF hf (fun i hi => by omega), h.fr.trans hf (fun i hi => Or.inl hi), Nat.le_trans h.sz hf.size, h.lb⟩
theorem QB.take {w0 w : World} {b : Nat} {s : ByteArray} {c : Nat} {v : Value} {S : List UInt8} (h : QB w0 w b s c v S) (hs : s.size ≤ 10000) :
    Calls Tryz.prog 40 #[.pointer (some ⟨b, 0, none⟩), .func (.func 78) #[] #[.pointer (some ⟨w0.heap.size, 0, none⟩)]] w fun e w' => TkTo w b s c (fun c => c != 39) (fun i => i = w0.heap.size) (fun l W => BoxT W w0.heap.size ((S ++ l).all isTx)) e w' := by
  have hlb := h.lb
  refine take_any h.sc hs _ _ _ enters_un _ (by omega) _ (by rw [List.append_nil]; exact h.bx) (fun l W W' hJ hF => (hF.block _ (BoxT.lt hJ) (by omega)).trans hJ) (fun l c W hJ hF => ?_)
  refine (until_any hJ c).mono ?_
  rintro e W' ⟨rfl, hf', hb'⟩
  refine ⟨rfl, hf', ?_⟩
  cases hc : (c != 39) with
  | true =>
    rw [hc] at hb'
    simp only [if_true] at hb' ⊢
    rw [← List.append_assoc, List.all_append]
    simpa using hb'
  | false =>
    rw [hc] at hb'
    exact hb'
theorem QB.taken {w0 w w2 w3 : World} {b : Nat} {s : ByteArray} {c : Nat} {v v' : Value} {S : List UInt8} {e : Ending} (h : QB w0 w b s c v S) (ht : TkTo w b s c (fun c => c != 39) (fun i => i = w0.heap.size) (fun l W => BoxT W w0.heap.size ((S ++ l).all isTx)) e w2)
    (hb : Below (w0.heap.size + 1) w2 w3) (ho : OwnB (w0.heap.size + 1) w3 v' (S ++ (rest s c).takeWhile (fun c => c != 39))) : QB w0 w3 b s (c + ((rest s c).takeWhile (fun c => c != 39)).length) v' (S ++ (rest s c).takeWhile (fun c => c != 39)) := by
  have hlb := h.lb
  refine ⟨⟨(hb.block b (by omega)).trans ht.sc.hh, ht.sc.le⟩, (hb.block _ (by omega)).trans ht.j, ho, ?_, Nat.le_trans (Nat.le_trans h.sz ht.fr.size) hb.size, h.lb⟩
  have h1 := h.fr.trans ht.fr (fun i hi => hi.imp id (fun e => Nat.le_of_eq e.symm))
  exact ⟨hb.os.trans h1.os, hb.tape.trans h1.tape, hb.output.trans h1.output, Nat.le_trans h1.size hb.size, fun k hk hn => (hb.block k (by omega)).trans (h1.block k hk hn)⟩
theorem QB.own2 {w0 w w2 : World} {b : Nat} {s : ByteArray} {c : Nat} {v : Value} {S : List UInt8} {e : Ending} (h : QB w0 w b s c v S) (ht : TkTo w b s c (fun c => c != 39) (fun i => i = w0.heap.size) (fun l W => BoxT W w0.heap.size ((S ++ l).all isTx)) e w2) : OwnB (w0.heap.size + 1) w2 v S := by
  have hlb := h.lb
  exact h.own.keepF ht.fr (fun i hi => by rcases hi with hi | hi <;> omega)
theorem tw_split (s : ByteArray) (k : UInt8 → Bool) (p : Nat) : rest s p = (rest s p).takeWhile k ++ rest s (p + ((rest s p).takeWhile k).length) := by
  rw [← rest_add]
  have : ∀ l : List UInt8, l = l.takeWhile k ++ l.drop (l.takeWhile k).length := fun l => by
    conv => lhs; rw [← List.take_append_drop (l.takeWhile k).length l]
    rw [tw_pre]
  exact this _
theorem tx_parts {s : ByteArray} {a : Nat} {t : List UInt8} {n : Nat} (ht : t = (rest s (a + 1)).takeWhile (fun c => c != 39)) (hn : n = t.length) (hle : a + 1 + n ≤ s.size) :
    (a + 1 + n = s.size → txN (rest s (a + 1)) = none) ∧ (a + 1 + n < s.size → ([39] : List UInt8).isPrefixOf (rest s (a + 1 + n + 1)) = false → txN (rest s (a + 1)) = some (t, n + 1)) ∧
    (a + 1 + n < s.size → ([39] : List UInt8).isPrefixOf (rest s (a + 1 + n + 1)) = true → a + 1 + n + 1 < s.size ∧ txN (rest s (a + 1)) = (txN (rest s (a + 1 + n + 1 + 1))).map fun x => (t ++ [39] ++ x.1, x.2 + (n + 2))) := by
  have hall : ∀ c ∈ t, (c != 39) = true := fun c hc => by rw [ht] at hc; exact tw_mem (p := fun c => c != 39) _ c hc
  have hsp := tw_split s (fun c => c != 39) (a + 1)
  rw [← ht, ← hn] at hsp
  have hq : ∀ h : a + 1 + n < s.size, s[a + 1 + n] = 39 := fun h => by
    have := tw_stopped s (fun c => c != 39) (a + 1)
    rw [← ht, ← hn] at this
    have := this h
    simpa using this
  refine ⟨fun he => ?_, fun hlt hpre => ?_, fun hlt hpre => ?_⟩
  · rw [hsp, rest_end s (by omega), List.append_nil]
    exact txN_open hall
  · rw [hsp, txN_part t _ hall, rest_at s hlt, hq hlt, txN_last hpre]
    simp [hn]; omega
  · have hl2 : a + 1 + n + 1 < s.size := by
      rcases Nat.lt_or_ge (a + 1 + n + 1) s.size with h' | h'
      · exact h'
      · rw [rest_end s h'] at hpre; simp at hpre
    refine ⟨hl2, ?_⟩
    rw [rest_at s hl2] at hpre
    have h39 : s[a + 1 + n + 1] = 39 := by
      simp only [List.isPrefixOf] at hpre
      simp at hpre
      exact hpre.symm
    rw [hsp, txN_part t _ hall, rest_at s hlt, hq hlt, rest_at s hl2, h39, txN_two]
    cases txN (rest s (a + 1 + n + 1 + 1)) with
    | none => rfl
    | some x => simp [hn]; omega
theorem isTx39 : isTx 39 = true := by decide
theorem quoted_any {w : World} {b : Nat} {s : ByteArray} {p : Nat} (h : Sc w b s p) (hs : s.size ≤ 10000) (hp : p < s.size) : Calls Tryz.prog 48 #[.pointer (some ⟨b, 0, none⟩)] w fun e w' => StTo w b s p (txS (rest s (p + 1))) e w' := by
  have HS0 := hidk h
  clear h
  obtain ⟨o, ho⟩ : ∃ o, o = txS (rest s (p + 1)) := ⟨_, rfl⟩
  rw [← ho]
  unfold txS at ho
  have HOO := hidk ho
  clear ho
  go_enter Tryz.func48, Tryz.ntmps48
  go_wp2_with fail
  have HZ : Hid (QB w (w.alloc (.cells #[.bool true] 4)) b s p (.slice none 0 0) []) := by
    have hb : Below w.heap.size w (w.alloc (.cells #[.bool true] 4)) := (Below.refl _ _).alloc (Nat.le_refl _) _
    exact ⟨HS0.out.keepB hb, heap_alloc_new w _, OwnB.nil_ _ _, Fr.of_below hb, by simp, HS0.out.lt⟩
  have HT0 : Hid (txN (rest s (p + 1)) = (txN (rest s (p + 1))).map fun x => (([] : List UInt8) ++ x.1, x.2 + (p - p))) := by
    show txN (rest s (p + 1)) = (txN (rest s (p + 1))).map fun x => (([] : List UInt8) ++ x.1, x.2 + (p - p))
    cases txN (rest s (p + 1)) <;> simp
  clear HS0
  go_loopg [4] s.size (fun kx sv wr => ∃ (c : Nat) (ao : Option Addr) (cap : Nat) (S : List UInt8), sv = .slice ao S.length cap ∧ s.size - c ≤ kx ∧ p ≤ c ∧ c < s.size ∧ S.length ≤ c ∧ Hid (QB w wr b s c (.slice ao S.length cap) S) ∧ Hid (txN (rest s (p + 1)) = (txN (rest s (c + 1))).map fun x => (S ++ x.1, x.2 + (c - p))))
  case atStart => exact ⟨p, none, 0, [], rfl, by omega, Nat.le_refl _, hp, Nat.zero_le _, HZ, HT0⟩
  case round =>
    rename World => wr
    obtain ⟨c, ao, cap, S, rfl, hkx, hpc, hcs, hSc, HQ, HT⟩ := hrel
    clear HZ HT0
    have c1 := HQ.out.sc.c1
    have f1 := HQ.out.sc.fz
    have HQ1 : Hid (QB w (wr.setCell ⟨b, 1, none⟩ (.int .i64 ((c : Int) + 1))) b s (c + 1) (.slice ao S.length cap) S) := HQ.out.at_ (c' := c + 1) (by omega)
    clear HQ
    go_wp2_with fail
    generalize wr.setCell ⟨b, 1, none⟩ (.int .i64 ((c : Int) + 1)) = w1 at *
    refine (HQ1.out.take hs).mono ?_
    intro e w2 hTk
    have HTk := hidk hTk
    obtain ⟨rfl, hS2, -, -⟩ := hTk
    have hown2 := HQ1.out.own2 HTk.out
    have hlist := ext_tw s (c + 1) (fun c => c != 39)
    have hsz2 : w.heap.size + 1 ≤ w2.heap.size := Nat.le_trans HQ1.out.sz HTk.out.fr.size
    have hle2 := hS2.le
    obtain ⟨hp1, hp2, hp3⟩ := tx_parts (s := s) (a := c) rfl rfl hle2
    have HP1 := hidk hp1
    have HP2 := hidk hp2
    have HP3 := hidk hp3
    have HQT : Hid (∀ v' w3, OwnB (w.heap.size + 1) w3 v' (S ++ (rest s (c + 1)).takeWhile (fun c => c != 39)) → Below (w.heap.size + 1) w2 w3 → QB w w3 b s (c + 1 + ((rest s (c + 1)).takeWhile (fun c => c != 39)).length) v' (S ++ (rest s (c + 1)).takeWhile (fun c => c != 39))) := fun v' w3 ho hb => HQ1.out.taken HTk.out hb ho
    have hxs : (s.extract (c + 1) (c + 1 + ((rest s (c + 1)).takeWhile (fun c => c != 39)).length)).size = ((rest s (c + 1)).takeWhile (fun c => c != 39)).length := by rw [size_of_list, hlist]
    generalize s.extract (c + 1) (c + 1 + ((rest s (c + 1)).takeWhile (fun c => c != 39)).length) = x at *
    generalize (rest s (c + 1)).takeWhile (fun c => c != 39) = t at *
    clear hp1 hp2 hp3 hS2 HQ1 HTk c1 f1
    have hxl : S.length + x.size ≤ 140737488355328 := by omega
    go_wp2_with (at_builtin; refine wp_appS _ rfl _ _ rfl (w.heap.size + 1) _ S rfl hown2 x rfl hxl hsz2 ?_)
    intro v' w3 hown3 hb3
    try rw [hlist] at hown3
    have HQ3 := hidk (HQT.out v' w3 hown3 hb3)
    obtain ⟨U, hU⟩ : ∃ U, U = S ++ t := ⟨_, rfl⟩
    rw [← hU] at hown3 HQ3
    have hUl : U.length ≤ S.length + t.length := by rw [hU]; simp
    have HU := hidk hU
    clear hU
    obtain ⟨ao3, cap3, hv3⟩ := hown3.form
    subst hv3
    have hat := atEnd_any HQ3.out.sc hs
    clear hown3 hown2 HQT hb3 hlist hxl
    generalize hn : t.length = n at *
    by_cases hend : c + 1 + n = s.size
    · have HGO : Hid (∀ w', Below w3.heap.size w3 w' → StTo w b s p o (.returned (.tuple #[.string ⟨#[]⟩, .string ⟨#[52, 50, 54, 48, 49]⟩])) w') := fun w' hb => by
        have e0 := HOO.out
        rw [HT.out, HP1.out hend] at e0
        exact .no 1 e0 rfl _ (HQ3.out.keepB hb).sc (HQ3.out.keepB hb).fr
      rw [decide_eq_true hend] at hat
      clear HP1 HP2 HP3 HT HQ3 HOO
      go_wp2_with fail
      refine hat.mono ?_
      rintro e w4 ⟨rfl, hb4⟩
      clear hat
      go_wp2_with fail
      go_ret2
      exact HGO.out _ hb4
    · have hlt : c + 1 + n < s.size := by omega
      rw [decide_eq_false hend] at hat
      go_wp2_with fail
      refine hat.mono ?_
      rintro e w4 ⟨rfl, hb4⟩
      clear hat
      have HQ4 := hidk (HQ3.out.keepB hb4)
      clear HQ3 hb4 HP1
      have c1 := HQ4.out.sc.c1
      have f1 := HQ4.out.sc.fz
      have HQ5 : Hid (QB w (w4.setCell ⟨b, 1, none⟩ (.int .i64 ((c : Int) + 1 + (n : Int) + 1))) b s (c + 1 + n + 1) (.slice ao3 U.length cap3) U) := by
        have := HQ4.out.at_ (c' := c + 1 + n + 1) (by omega)
        rw [show ((c + 1 + n + 1 : Nat) : Int) = (c : Int) + 1 + (n : Int) + 1 by omega] at this
        exact this
      have hst := stands_any HQ5.out.sc hs ⟨#[39]⟩
      simp only at hst
      clear HQ4
      cases hpre : ([39] : List UInt8).isPrefixOf (rest s (c + 1 + n + 1)) with
      | true =>
        obtain ⟨hl2, hp3⟩ := HP3.out hlt hpre
        rw [hpre] at hst
        have HT2 : Hid (txN (rest s (p + 1)) = (txN (rest s (c + 1 + n + 1 + 1))).map fun x => (U ++ [39] ++ x.1, x.2 + (c + 1 + n + 1 - p))) := by
          show txN (rest s (p + 1)) = (txN (rest s (c + 1 + n + 1 + 1))).map fun x => (U ++ [39] ++ x.1, x.2 + (c + 1 + n + 1 - p))
          rw [HT.out, hp3, HU.out]
          cases txN (rest s (c + 1 + n + 1 + 1)) with
          | none => rfl
          | some x => simp; omega
        clear HP2 HP3 hp3 hpre HT
        go_wp2_with fail
        generalize w4.setCell ⟨b, 1, none⟩ (.int .i64 ((c : Int) + 1 + (n : Int) + 1)) = w5 at *
        refine hst.mono ?_
        rintro e w6 ⟨rfl, hb6⟩
        have HQ6 := hidk (HQ5.out.keepB hb6)
        clear hst HQ5 hb6 c1 f1
        have hown6 := HQ6.out.own
        have hsz6 := HQ6.out.sz
        have hl6 : U.length + 1 ≤ 140737488355328 := by omega
        go_wp2_with (at_builtin; refine wp_app1 _ rfl _ _ rfl (w.heap.size + 1) _ U rfl (hown6.alloc _) w6.heap.size 39 39 rfl rfl (heap_alloc_new w6 _) hl6 (by simp; omega) ?_)
        intro v7 w7 hown7 hb7
        have HQ7 : Hid (QB w w7 b s (c + 1 + n + 1) v7 (U ++ [39])) := (HQ6.out.keepB ((Below.refl _ _).alloc (Nat.le_refl _) _)).app hb7 hown7 (by rw [List.all_append]; simp [isTx39])
        obtain ⟨ao7, cap7, hv7⟩ := hown7.form
        subst hv7
        clear HQ6 hown6 hown7 hb7
        have hS7 : (U ++ [39]).length ≤ c + 1 + n + 1 := by rw [List.length_append, List.length_singleton]; omega
        generalize U ++ [39] = U7 at *
        go_wp2_with fail
        go_roundg (s.size - (c + 1 + n + 1))
        case measure => omega
        case rel => exact ⟨c + 1 + n + 1, ao7, cap7, U7, rfl, Nat.le_refl _, by omega, hl2, by omega, HQ7, HT2⟩
      | false =>
        have hp2 := HP2.out hlt hpre
        rw [hpre] at hst
        have HE : Hid (o = if U.all isTx then if 400 < U.length then .no 3 else .tk 2 U 0 (c + 1 + n + 1 - p) else .no 1) := by
          show o = _
          rw [HOO.out, HT.out, hp2, HU.out]
          simp only [Option.map_some]
          rw [show n + 1 + (c - p) + 1 = c + 1 + n + 1 - p by omega]
        clear HP2 HP3 hp2 hpre HT HOO
        go_wp2_with fail
        generalize w4.setCell ⟨b, 1, none⟩ (.int .i64 ((c : Int) + 1 + (n : Int) + 1)) = w5 at *
        refine hst.mono ?_
        rintro e w6 ⟨rfl, hb6⟩
        have HQ6 := hidk (HQ5.out.keepB hb6)
        clear hst HQ5 hb6 c1 f1
        have d0 := HQ6.out.bx.cell
        cases hall : U.all isTx with
        | false =>
          rw [hall] at d0
          have HGO : Hid (StTo w b s p o (.returned (.tuple #[.string ⟨#[]⟩, .string ⟨#[52, 50, 54, 48, 49]⟩])) w6) := .no 1 (by rw [HE.out, hall]; rfl) rfl _ HQ6.out.sc HQ6.out.fr
          clear hall HE HQ6
          go_wp2_with fail
          go_ret2
          exact HGO.out
        | true =>
          rw [hall] at d0
          by_cases h400 : 400 < U.length
          · have h4 : (U.length : Int) > 400 := by omega
            have HGO : Hid (StTo w b s p o (.returned (.tuple #[.string ⟨#[]⟩, .string ⟨#[50, 50, 48, 48, 49]⟩])) w6) := .no 3 (by rw [HE.out, hall, if_pos rfl, if_pos h400]) rfl _ HQ6.out.sc HQ6.out.fr
            clear hall HE HQ6 h400
            go_wp2_with fail
            go_ret2
            exact HGO.out
          · have h4 : ¬ (U.length : Int) > 400 := by omega
            have HGO : Hid (StTo w b s p o (.returned (.tuple #[.string ⟨U.toArray⟩, .string ⟨#[48, 48, 48, 48, 48]⟩])) w6) := .tk 2 U 0 (c + 1 + n + 1 - p) (by rw [HE.out, hall, if_pos rfl, if_neg h400]) rfl (by rw [show p + (c + 1 + n + 1 - p) = c + 1 + n + 1 by omega]; exact HQ6.out.sc) HQ6.out.fr
            have hcb := own_back HQ6.out.own
            clear hall HE HQ6 h400
            go_wp2_with fail
            go_ret2
            exact HGO.out
end Go.Proofs.YtaenpacfbheppaaGreatDoor

namespace Go.Proofs.YtaenpacfbheppaaGreatDoor
open Go.RowKit

def sgA (i : Nat) : List UInt8 := signs.getD i []
theorem lt16 {P : Nat → Prop} (h0 : P 0) (h1 : P 1) (h2 : P 2) (h3 : P 3) (h4 : P 4) (h5 : P 5) (h6 : P 6) (h7 : P 7) (h8 : P 8) (h9 : P 9) (h10 : P 10) (h11 : P 11) (h12 : P 12) (h13 : P 13) (h14 : P 14) (h15 : P 15) (i : Nat) (h : i < 16) : P i := by
  have : i = 0 ∨ i = 1 ∨ i = 2 ∨ i = 3 ∨ i = 4 ∨ i = 5 ∨ i = 6 ∨ i = 7 ∨ i = 8 ∨ i = 9 ∨ i = 10 ∨ i = 11 ∨ i = 12 ∨ i = 13 ∨ i = 14 ∨ i = 15 := by omega
  rcases this with rfl | rfl | rfl | rfl | rfl | rfl | rfl | rfl | rfl | rfl | rfl | rfl | rfl | rfl | rfl | rfl <;> assumption
theorem sg_idx (i : Nat) (h : i < 16) (W : World) : (Instr.index 91 (.agg signsV) (.int .i64 i)).run Tryz.prog W = .ok (.string ⟨(sgA i).toArray⟩) W := by
  refine lt16 (P := fun i => (Instr.index 91 (.agg signsV) (.int .i64 i)).run Tryz.prog W = .ok (.string ⟨(sgA i).toArray⟩) W) ?_ ?_ ?_ ?_ ?_ ?_ ?_ ?_ ?_ ?_ ?_ ?_ ?_ ?_ ?_ ?_ i h <;> kernel_rfl
theorem sg_find {r : List UInt8} {i : Nat} (hi : i < 16) (h : ∀ j, j < i → (sgA j).isPrefixOf r = false) (hp : (sgA i).isPrefixOf r = true) : sgS r = .tk 3 (sgA i) 0 (sgA i).length := by
  have : signs.find? (fun g => g.isPrefixOf r) = some (sgA i) := by
    rw [List.find?_eq_some_iff_getElem]
    refine ⟨hp, i, hi, ?_, fun j hj => ?_⟩
    · simp only [sgA, List.getD, List.getElem?_eq_getElem (show i < signs.length from hi), Option.getD_some]
      rfl
    · have := h j hj
      simp only [sgA, List.getD, List.getElem?_eq_getElem (show j < signs.length from Nat.lt_trans hj hi), Option.getD_some] at this
      rw [this]
      rfl
  unfold sgS
  rw [this]
theorem sg_none {r : List UInt8} (h : ∀ j, j < 16 → (sgA j).isPrefixOf r = false) : sgS r = .no 1 := by
  have : signs.find? (fun g => g.isPrefixOf r) = none := by
    rw [List.find?_eq_none]
    intro g hg
    obtain ⟨j, hj, rfl⟩ := List.getElem_of_mem hg
    have := h j hj
    simp only [sgA, List.getD, List.getElem?_eq_getElem hj, Option.getD_some] at this
    rw [this]
    simp
  unfold sgS
  rw [this]
theorem ssign_any {a : Addr} {w : World} {b : Nat} {s : ByteArray} {p : Nat} (h : Sc w b s p) (hL : LibW a w) (hs : s.size ≤ 10000) (hp : p < s.size) : Calls Tryz.prog 49 #[.pointer (some ⟨b, 0, none⟩)] w fun e w' => StTo w b s p (sgS (rest s p)) e w' := by
  have g0 := hL.sgCell
  obtain ⟨o, ho⟩ : ∃ o, o = sgS (rest s p) := ⟨_, rfl⟩
  rw [← ho]
  have HOO := hidk ho
  have HS0 := hidk h
  have k0 := g0 0
  have k1 := g0 1
  have k2 := g0 2
  have k3 := g0 3
  have k4 := g0 4
  have k5 := g0 5
  have k6 := g0 6
  have k7 := g0 7
  have k8 := g0 8
  have k9 := g0 9
  have k10 := g0 10
  have k11 := g0 11
  have k12 := g0 12
  have k13 := g0 13
  have k14 := g0 14
  have k15 := g0 15
  clear ho h hL g0
  simp only [signsV, List.getElem?_toArray, List.getElem?_cons_zero, List.getElem?_cons_succ] at k0 k1 k2 k3 k4 k5 k6 k7 k8 k9 k10 k11 k12 k13 k14 k15
  go_enter Tryz.func49, Tryz.ntmps49
  go_wp2_with fail
  clear k0 k1 k2 k3 k4 k5 k6 k7 k8 k9 k10 k11 k12 k13 k14 k15
  have HI : Hid (∀ i : Nat, i < 16 → ∀ W : World, (Instr.index 91 (.agg signsV) (.int .i64 i)).run Tryz.prog W = .ok (.string ⟨(sgA i).toArray⟩) W) := sg_idx
  simp only [signsV] at HI
  generalize Value.agg #[.string ⟨#[60, 61]⟩, .string ⟨#[62, 61]⟩, .string ⟨#[60, 62]⟩, .string ⟨#[124, 124]⟩, .string ⟨#[40]⟩, .string ⟨#[41]⟩, .string ⟨#[44]⟩, .string ⟨#[46]⟩, .string ⟨#[59]⟩, .string ⟨#[61]⟩, .string ⟨#[60]⟩, .string ⟨#[62]⟩, .string ⟨#[43]⟩, .string ⟨#[45]⟩, .string ⟨#[42]⟩, .string ⟨#[47]⟩] = SV at *
  go_loopw [7] (fun x wr => ∃ i : Nat, x = .int .i64 i ∧ i ≤ 16 ∧ Hid (∀ j, j < i → (sgA j).isPrefixOf (rest s p) = false) ∧ Hid (Below w.heap.size w wr)) (fun x _ => 16 - (intOf x).toNat)
  case atStart => exact ⟨0, rfl, by omega, fun j hj => by omega, Below.refl _ _⟩
  case round =>
    rename World => wr
    obtain ⟨i, rfl, hi, HN, HB⟩ := hrel
    by_cases hlt : i < 16
    · have tl : (i : Int) < 16 := by omega
      have hidx := HI.out i hlt wr
      have hS := HS0.out.keepB HB.out
      have hst := stands_any hS hs ⟨(sgA i).toArray⟩
      simp only at hst
      have hlen : (⟨(sgA i).toArray⟩ : ByteArray).size = (sgA i).length := by rw [size_of_list]
      cases hpre : (sgA i).isPrefixOf (rest s p) with
      | false =>
        rw [hpre] at hst
        have HN2 : Hid (∀ j, j < i + 1 → (sgA j).isPrefixOf (rest s p) = false) := fun j hj => by
          by_cases e : j = i
          · subst e; exact hpre
          · exact HN.out j (by omega)
        generalize (⟨(sgA i).toArray⟩ : ByteArray) = g at *
        clear hS HN hpre hlen
        go_wp2_with fail
        refine hst.mono ?_
        rintro e w2 ⟨rfl, hb2⟩
        have HB2 : Hid (Below w.heap.size w w2) := HB.out.trans (hb2.mono HB.out.size)
        clear hst hb2 HB hidx
        go_wp2_with fail
        go_roundw
        case rel => exact ⟨i + 1, by go_num, by omega, HN2, HB2⟩
        case measure => simp [intOf]; omega
      | true =>
        rw [hpre] at hst
        have hsg := sg_find hlt HN.out hpre
        have hle : p + (sgA i).length ≤ s.size := by
          have := (List.isPrefixOf_iff_prefix.1 hpre).length_le
          rw [rest_len] at this
          omega
        have HGO : Hid (∀ W, Below w.heap.size w W → StTo w b s p o (.returned (.tuple #[.string ⟨(sgA i).toArray⟩, .string ⟨#[48, 48, 48, 48, 48]⟩])) (W.setCell ⟨b, 1, none⟩ (.int .i64 ((p : Int) + ((⟨(sgA i).toArray⟩ : ByteArray).size : Int))))) := fun W hW => by
          refine .tk 3 (sgA i) 0 (sgA i).length (HOO.out.trans hsg) rfl ?_ ((Fr.of_below (F := fun i => i = b) hW).trans (fr_set W b 1 _) (fun j hj => Or.inl hj))
          rw [hlen]
          exact (HS0.out.keepB hW).to_ (q := p + (sgA i).length) hle
        generalize (⟨(sgA i).toArray⟩ : ByteArray) = g at *
        have hg1 : p + g.size ≤ s.size := by omega
        clear HN hpre hsg hle hlen
        go_wp2_with fail
        refine hst.mono ?_
        rintro e w2 ⟨rfl, hb2⟩
        have HB2 : Hid (Below w.heap.size w w2) := HB.out.trans (hb2.mono HB.out.size)
        have hS2 := HS0.out.keepB HB2.out
        have c1 := hS2.c1
        have f1 := hS2.fz
        clear hst hb2 HB hidx hS hS2
        go_wp2_with fail
        go_ret2
        exact HGO.out _ HB2.out
    · have tl : ¬ (i : Int) < 16 := by omega
      have hsg := sg_none (fun j hj => HN.out j (by omega))
      have HGO : Hid (StTo w b s p o (.returned (.tuple #[.string ⟨#[]⟩, .string ⟨#[52, 50, 54, 48, 49]⟩])) wr) := .no 1 (HOO.out.trans hsg) rfl _ (HS0.out.keepB HB.out) (Fr.of_below HB.out)
      clear hsg HN
      go_wp2_with fail
      go_ret2
      exact HGO.out
end Go.Proofs.YtaenpacfbheppaaGreatDoor

namespace Go.Proofs.YtaenpacfbheppaaGreatDoor
open Go.RowKit

theorem stp_parts {s : ByteArray} {p : Nat} (hp : p < s.size) (hb : blN (rest s p) = 0) : stp (rest s p) = if isLt s[p] then wdS (rest s p) else if isDg s[p] then nmS (rest s p) else if s[p] == 39 then txS (rest s (p + 1)) else sgS (rest s p) := by
  have e := rest_at s hp
  unfold stp
  rw [hb, if_neg (by omega)]
  generalize rest s p = L at *
  subst e
  rfl
theorem wd_kv {r : List UInt8} {k : Int} {t : List UInt8} {v : Int} {n : Nat} (h : wdS r = .tk k t v n) : k = 0 ∧ v = 0 := by
  unfold wdS at h
  split at h
  · cases h
  · injection h with h1 h2 h3 h4
    exact ⟨h1.symm, h3.symm⟩
theorem nm_kv {r : List UInt8} {k : Int} {t : List UInt8} {v : Int} {n : Nat} (h : nmS r = .tk k t v n) : k = 1 ∧ t = [] := by
  unfold nmS at h
  split at h
  · cases h
  · split at h
    · cases h
    · injection h with h1 h2 h3 h4
      exact ⟨h1.symm, h2.symm⟩
theorem tx_kv {r : List UInt8} {k : Int} {t : List UInt8} {v : Int} {n : Nat} (h : txS r = .tk k t v n) : k = 2 ∧ v = 0 := by
  unfold txS at h
  split at h
  · cases h
  · split at h
    · split at h
      · cases h
      · injection h with h1 h2 h3 h4
        exact ⟨h1.symm, h3.symm⟩
    · cases h
theorem sg_kv {r : List UInt8} {k : Int} {t : List UInt8} {v : Int} {n : Nat} (h : sgS r = .tk k t v n) : k = 3 ∧ v = 0 := by
  unfold sgS at h
  split at h
  · cases h
  · injection h with h1 h2 h3 h4
    exact ⟨h1.symm, h3.symm⟩
inductive NxTo (w : World) (b : Nat) (s : ByteArray) (p : Nat) (e : Ending) (w' : World) : Prop
  | tk (k : Int) (t : List UInt8) (v : Int) (n : Nat) (ho : stp (rest s p) = .tk k t v n) (he : e = .returned (.tuple #[.agg #[.int .i64 k, .string ⟨t.toArray⟩, .int .i64 v, .int .i64 p], .string ⟨#[48, 48, 48, 48, 48]⟩])) (sc : Sc w' b s (p + n)) (fr : Fr w w' (fun i => i = b))
  | no (er : Nat) (k : Int) (t : ByteArray) (v : Int) (ho : stp (rest s p) = .no er) (he : e = .returned (.tuple #[.agg #[.int .i64 k, .string t, .int .i64 v, .int .i64 p], .string (stB er)])) (q : Nat) (sc : Sc w' b s q) (fr : Fr w w' (fun i => i = b))
def Bx4 (w : World) (g : Nat) (c0 c1 c2 c3 : Value) : Prop := w.heap[g]? = some (.cells #[c0, c1, c2, c3] 52 (0, 0))
structure Bx4C (w : World) (g : Nat) (c0 c1 c2 c3 : Value) : Prop where
  d0 : w.cell? ⟨g, 0, none⟩ = some c0
  d1 : w.cell? ⟨g, 1, none⟩ = some c1
  d2 : w.cell? ⟨g, 2, none⟩ = some c2
  d3 : w.cell? ⟨g, 3, none⟩ = some c3
  f0 : w.frozen? ⟨g, 0, none⟩ = false
  f1 : w.frozen? ⟨g, 1, none⟩ = false
  f2 : w.frozen? ⟨g, 2, none⟩ = false
  f3 : w.frozen? ⟨g, 3, none⟩ = false
theorem Bx4.c {w : World} {g : Nat} {c0 c1 c2 c3 : Value} (h : Bx4 w g c0 c1 c2 c3) : Bx4C w g c0 c1 c2 c3 :=
  ⟨by rw [cell_of_row w g 0 _ _ _ h]; rfl, by rw [cell_of_row w g 1 _ _ _ h]; rfl, by rw [cell_of_row w g 2 _ _ _ h]; rfl, by rw [cell_of_row w g 3 _ _ _ h]; rfl, frozen_row h 0, frozen_row h 1, frozen_row h 2, frozen_row h 3⟩
theorem Bx4.keep {w w' : World} {g : Nat} {c0 c1 c2 c3 : Value} {F : Nat → Prop} (h : Bx4 w g c0 c1 c2 c3) (hf : Fr w w' F) (hF : ¬ F g) : Bx4 w' g c0 c1 c2 c3 := (hf.block g (Array.getElem?_eq_some_iff.1 h).1 hF).trans h
theorem fr_last {w W2 Wf : World} {b : Nat} (hf : Fr w W2 (fun i => i = b)) (hb : Below w.heap.size W2 Wf) : Fr w Wf (fun i => i = b) :=
  ⟨hb.os.trans hf.os, hb.tape.trans hf.tape, hb.output.trans hf.output, Nat.le_trans hf.size hb.size, fun k hk hn => (hb.block k hk).trans (hf.block k hk hn)⟩
theorem sc_last {w W2 Wf : World} {b : Nat} {s : ByteArray} {q : Nat} (hs : Sc W2 b s q) (hb : Below w.heap.size W2 Wf) (hlb : b < w.heap.size) : Sc Wf b s q := ⟨(hb.block b hlb).trans hs.hh, hs.le⟩
theorem five_sets {w W : World} {B T : Nat} (hB : w.heap.size ≤ B) (hT : w.heap.size ≤ T) (o : Nat) (x y0 y1 y2 y3 : Value) : Below w.heap.size W (((((W.setCell ⟨T, o, none⟩ x).setCell ⟨B, 0, none⟩ y0).setCell ⟨B, 1, none⟩ y1).setCell ⟨B, 2, none⟩ y2).setCell ⟨B, 3, none⟩ y3) :=
  (((((Below.refl _ _).setCell (p := ⟨T, o, none⟩) hT _).setCell (p := ⟨B, 0, none⟩) hB _).setCell (p := ⟨B, 1, none⟩) hB _).setCell (p := ⟨B, 2, none⟩) hB _).setCell (p := ⟨B, 3, none⟩) hB _

structure NxW (w W : World) (b : Nat) (s : ByteArray) (p : Nat) (k : Int) : Prop where
  sc : Sc W b s p
  bz : Bx4 W w.heap.size (.int .i64 0) (.string ⟨#[]⟩) (.int .i64 0) (.int .i64 0)
  bt : Bx4 W (w.heap.size + 1) (.int .i64 k) (.string ⟨#[]⟩) (.int .i64 0) (.int .i64 p)
  fr : Fr w W (fun i => i = b)
theorem NxW.first {w : World} {b : Nat} {s : ByteArray} {p : Nat} (h : Sc w b s p) : NxW w ((w.alloc (.cells #[.int .i64 0, .string ⟨#[]⟩, .int .i64 0, .int .i64 0] 52)).alloc (.cells #[.int .i64 0, .string ⟨#[]⟩, .int .i64 0, .int .i64 p] 52)) b s p 0 := by
  have hb1 : Below w.heap.size w (w.alloc (.cells #[.int .i64 0, .string ⟨#[]⟩, .int .i64 0, .int .i64 0] 52)) := (Below.refl _ _).alloc (Nat.le_refl _) _
  have hsz : (w.alloc (.cells #[.int .i64 0, .string ⟨#[]⟩, .int .i64 0, .int .i64 0] 52)).heap.size = w.heap.size + 1 := by simp
  have hn0 := heap_alloc_new w (.cells #[.int .i64 0, .string ⟨#[]⟩, .int .i64 0, .int .i64 0] 52)
  generalize w.alloc (.cells #[.int .i64 0, .string ⟨#[]⟩, .int .i64 0, .int .i64 0] 52) = w1 at *
  have hb2 : Below w1.heap.size w1 (w1.alloc (.cells #[.int .i64 0, .string ⟨#[]⟩, .int .i64 0, .int .i64 p] 52)) := (Below.refl _ _).alloc (Nat.le_refl _) _
  have hn1 := heap_alloc_new w1 (.cells #[.int .i64 0, .string ⟨#[]⟩, .int .i64 0, .int .i64 p] 52)
  rw [hsz] at hn1
  exact ⟨(h.keepB hb1).keepB hb2, (hb2.block _ (by omega)).trans hn0, hn1, Fr.of_below (hb1.trans (hb2.mono (by omega)))⟩
theorem NxW.keepB {w W W' : World} {b : Nat} {s : ByteArray} {p : Nat} {k : Int} (h : NxW w W b s p k) (hb : Below W.heap.size W W') : NxW w W' b s p k :=
  ⟨h.sc.keepB hb, h.bz.keep (Fr.of_below (F := fun _ => False) hb) (fun e => e), h.bt.keep (Fr.of_below (F := fun _ => False) hb) (fun e => e), h.fr.trans (Fr.of_below (F := fun _ => False) hb) (fun i hi => hi.elim)⟩
theorem NxW.kind {w W : World} {b : Nat} {s : ByteArray} {p : Nat} {k : Int} (h : NxW w W b s p k) (k' : Int) : NxW w (W.setCell ⟨w.heap.size + 1, 0, none⟩ (.int .i64 k')) b s p k' := by
  have hlb : b < W.heap.size := h.sc.lt
  have hf := fr_set W (w.heap.size + 1) 0 (.int .i64 k')
  have hbn : b ≠ w.heap.size + 1 := fun e => by
    have h1 := h.sc.hh
    have h2 := h.bt
    unfold Bx4 at h2
    rw [e] at h1
    rw [h1] at h2
    simp at h2
  refine ⟨h.sc.keep hf (fun e => hbn e), h.bz.keep hf (fun e => by omega), ?_, h.fr.trans hf (fun i hi => Or.inr (by omega))⟩
  unfold Bx4
  rw [heap_setCell_same W (w.heap.size + 1) 0 _ _ _ h.bt]
  rfl
theorem NxW.lib {w W : World} {b : Nat} {s : ByteArray} {p : Nat} {k : Int} {a : Addr} (h : NxW w W b s p k) (hs : Sc w b s p) (hL : LibW a w) : LibW a W := hL.keepS hs h.fr
theorem NxW.after {w W W' : World} {b : Nat} {s : ByteArray} {p : Nat} {k : Int} (h : NxW w W b s p k) (hf : Fr W W' (fun i => i = b)) (hlb : b < w.heap.size) : Bx4C W' w.heap.size (.int .i64 0) (.string ⟨#[]⟩) (.int .i64 0) (.int .i64 0) ∧ Bx4C W' (w.heap.size + 1) (.int .i64 k) (.string ⟨#[]⟩) (.int .i64 0) (.int .i64 p) ∧ Fr w W' (fun i => i = b) :=
  ⟨(h.bz.keep hf (fun e => by omega)).c, (h.bt.keep hf (fun e => by omega)).c, h.fr.trans hf (fun i hi => Or.inl hi)⟩
theorem next_any {a : Addr} {w : World} {b : Nat} {s : ByteArray} {p : Nat} (h : Sc w b s p) (hL : LibW a w) (hs : s.size ≤ 10000) (hp : p < s.size) (hb0 : blN (rest s p) = 0) : Calls Tryz.prog 19 #[.pointer (some ⟨b, 0, none⟩)] w fun e w' => NxTo w b s p e w' := by
  have HST := hidk (stp_parts hp hb0)
  have HS0 := hidk h
  have HL0 := hidk hL
  have HN0 := hidk (NxW.first h)
  have c1w := h.c1
  have hlb := h.lt
  have d1w : (w.alloc (.cells #[.int .i64 0, .string ⟨#[]⟩, .int .i64 0, .int .i64 0] 52)).cell? ⟨b, 1, none⟩ = some (.int .i64 p) := (((Below.refl _ _).alloc (Nat.le_refl _) _).cell (show b < w.heap.size from hlb)).trans c1w
  clear h hL hb0
  go_enter Tryz.func19, Tryz.ntmps19
  go_wp2_with fail
  clear c1w d1w
  generalize ((w.alloc (.cells #[.int .i64 0, .string ⟨#[]⟩, .int .i64 0, .int .i64 0] 52)).alloc (.cells #[.int .i64 0, .string ⟨#[]⟩, .int .i64 0, .int .i64 p] 52)) = w1 at *
  have c0 := HN0.out.sc.c0
  have c1 := HN0.out.sc.c1
  have hp1 : (p : Int) < (s.size : Int) := by omega
  go_quiet (fail)
  rename Nat => nq
  have HN1 : Hid (NxW w (w1.drewN nq) b s p 0) := HN0.out.keepB ⟨rfl, rfl, rfl, Nat.le_refl _, fun _ _ => rfl⟩
  generalize w1.drewN nq = w2 at *
  clear HN0 c0 c1
  have hle := isLetter_any (s[p].toNat : Int)
  rw [ltI_of] at hle
  have hdi := isDigit_any (s[p].toNat : Int)
  rw [dgI_of] at hdi
  cases h1 : isLt s[p] with
  | true =>
    rw [h1] at hle
    have HO : Hid (stp (rest s p) = wdS (rest s p)) := by show _ = _; rw [HST.out, h1]; rfl
    go_wp2_with fail
    refine (hle _).mono ?_
    rintro e wx ⟨rfl, hwx⟩
    obtain rfl := hwx.symm
    clear hle hdi
    have HN2 := hidk (HN1.out.kind 0)
    have tf := HN1.out.bt.c.f0
    have td := HN1.out.bt.c.d0
    clear HN1
    go_wp2_with fail
    have HN3 : Hid (NxW w (w2.setCell ⟨w.heap.size + 1, 0, none⟩ (.int .i64 0)) b s p 0) := HN2
    clear HN2 tf td
    generalize w2.setCell ⟨w.heap.size + 1, 0, none⟩ (.int .i64 0) = w3 at *
    refine (word_any HN3.out.sc hs hp h1).mono ?_
    intro e w4 hW
    rcases hW with ⟨k, t, v, n, ho, rfl, hsc, hfr⟩ | ⟨er, ho, rfl, q, hsc, hfr⟩
    · obtain ⟨rfl, rfl⟩ := wd_kv ho
      obtain ⟨⟨z0, z1, z2, z3, zf0, zf1, zf2, zf3⟩, ⟨t0, t1, t2, t3, tf0, tf1, tf2, tf3⟩, hF⟩ := HN3.out.after hfr hlb
      have HG : Hid (∀ Wf, Below w.heap.size w4 Wf → NxTo w b s p (.returned (.tuple #[.agg #[.int .i64 0, .string ⟨t.toArray⟩, .int .i64 0, .int .i64 p], .string ⟨#[48, 48, 48, 48, 48]⟩])) Wf) := fun Wf hb => .tk _ _ _ _ (HO.out.trans ho) rfl (sc_last hsc hb hlb) (fr_last hF hb)
      clear HN3 HO ho hsc hfr hF HST HS0 HL0
      go_wp2_with fail
      refine bodyPost_ret (v := .tuple #[.agg #[.int .i64 0, .string ⟨t.toArray⟩, .int .i64 0, .int .i64 p], .string ⟨#[48, 48, 48, 48, 48]⟩]) ?_ rfl (HG.out _ (five_sets (Nat.le_refl _) (Nat.le_succ _) _ _ _ _ _ _))
      simp [results, Tryz.results19, go_sem, z0, z1, z2, z3]
    · obtain ⟨⟨z0, z1, z2, z3, zf0, zf1, zf2, zf3⟩, ⟨t0, t1, t2, t3, tf0, tf1, tf2, tf3⟩, hF⟩ := HN3.out.after hfr hlb
      have HG : Hid (∀ Wf, Below w.heap.size w4 Wf → NxTo w b s p (.returned (.tuple #[.agg #[.int .i64 0, .string ⟨#[]⟩, .int .i64 0, .int .i64 p], .string (stB er)])) Wf) := fun Wf hb => .no er _ _ _ (HO.out.trans ho) rfl q (sc_last hsc hb hlb) (fr_last hF hb)
      clear HN3 HO ho hsc hfr hF HST HS0 HL0
      generalize stB er = sb at *
      go_wp2_with fail
      refine bodyPost_ret (v := .tuple #[.agg #[.int .i64 0, .string ⟨#[]⟩, .int .i64 0, .int .i64 p], .string sb]) ?_ rfl (HG.out _ (five_sets (Nat.le_refl _) (Nat.le_succ _) _ _ _ _ _ _))
      simp [results, Tryz.results19, go_sem, z0, z1, z2, z3]
  | false =>
    rw [h1] at hle
    cases h2 : isDg s[p] with
    | true =>
      rw [h2] at hdi
      have HO : Hid (stp (rest s p) = nmS (rest s p)) := by show _ = _; rw [HST.out, h1, h2]; rfl
      go_wp2_with fail
      refine (hle _).mono ?_
      rintro e wx ⟨rfl, hwx⟩
      obtain rfl := hwx.symm
      go_wp2_with fail
      refine (hdi _).mono ?_
      rintro e wx ⟨rfl, hwx⟩
      obtain rfl := hwx.symm
      clear hle hdi
      have HN2 := hidk (HN1.out.kind 1)
      have tf := HN1.out.bt.c.f0
      have td := HN1.out.bt.c.d0
      clear HN1
      go_wp2_with fail
      have HN3 : Hid (NxW w (w2.setCell ⟨w.heap.size + 1, 0, none⟩ (.int .i64 1)) b s p 1) := HN2
      clear HN2 tf td
      generalize w2.setCell ⟨w.heap.size + 1, 0, none⟩ (.int .i64 1) = w3 at *
      refine (snumber_any HN3.out.sc (HN3.out.lib HS0.out HL0.out) hs hp h2).mono ?_
      intro e w4 hW
      rcases hW with ⟨k, t, v, n, ho, ht, rfl, hsc, hfr⟩ | ⟨er, ho, rfl, q, hsc, hfr⟩
      · obtain ⟨rfl, rfl⟩ := nm_kv ho
        obtain ⟨⟨z0, z1, z2, z3, zf0, zf1, zf2, zf3⟩, ⟨t0, t1, t2, t3, tf0, tf1, tf2, tf3⟩, hF⟩ := HN3.out.after hfr hlb
        have HG : Hid (∀ Wf, Below w.heap.size w4 Wf → NxTo w b s p (.returned (.tuple #[.agg #[.int .i64 1, .string ⟨#[]⟩, .int .i64 v, .int .i64 p], .string ⟨#[48, 48, 48, 48, 48]⟩])) Wf) := fun Wf hb => .tk _ _ _ _ (HO.out.trans ho) rfl (sc_last hsc hb hlb) (fr_last hF hb)
        clear HN3 HO ho hsc hfr hF HST HS0 HL0 ht
        go_wp2_with fail
        refine bodyPost_ret (v := .tuple #[.agg #[.int .i64 1, .string ⟨#[]⟩, .int .i64 v, .int .i64 p], .string ⟨#[48, 48, 48, 48, 48]⟩]) ?_ rfl (HG.out _ (five_sets (Nat.le_refl _) (Nat.le_succ _) _ _ _ _ _ _))
        simp [results, Tryz.results19, go_sem, z0, z1, z2, z3]
      · obtain ⟨⟨z0, z1, z2, z3, zf0, zf1, zf2, zf3⟩, ⟨t0, t1, t2, t3, tf0, tf1, tf2, tf3⟩, hF⟩ := HN3.out.after hfr hlb
        have HG : Hid (∀ Wf, Below w.heap.size w4 Wf → NxTo w b s p (.returned (.tuple #[.agg #[.int .i64 1, .string ⟨#[]⟩, .int .i64 0, .int .i64 p], .string (stB er)])) Wf) := fun Wf hb => .no er _ _ _ (HO.out.trans ho) rfl q (sc_last hsc hb hlb) (fr_last hF hb)
        clear HN3 HO ho hsc hfr hF HST HS0 HL0
        generalize stB er = sb at *
        go_wp2_with fail
        refine bodyPost_ret (v := .tuple #[.agg #[.int .i64 1, .string ⟨#[]⟩, .int .i64 0, .int .i64 p], .string sb]) ?_ rfl (HG.out _ (five_sets (Nat.le_refl _) (Nat.le_succ _) _ _ _ _ _ _))
        simp [results, Tryz.results19, go_sem, z0, z1, z2, z3]
    | false =>
      rw [h2] at hdi
      by_cases h3 : s[p] = 39
      · have H3 : Hid ((s[p].toNat : Int) = 39) := by show _ = _; rw [h3]; rfl
        have HO : Hid (stp (rest s p) = txS (rest s (p + 1))) := by show _ = _; rw [HST.out, h1, h2, h3]; rfl
        clear h3
        go_wp2_with fail
        refine (hle _).mono ?_
        rintro e wx ⟨rfl, hwx⟩
        obtain rfl := hwx.symm
        go_wp2_with fail
        refine (hdi _).mono ?_
        rintro e wx ⟨rfl, hwx⟩
        obtain rfl := hwx.symm
        clear hle hdi
        have h3' := H3.out
        clear H3
        have HN2 := hidk (HN1.out.kind 2)
        have tf := HN1.out.bt.c.f0
        have td := HN1.out.bt.c.d0
        clear HN1
        go_wp2_with fail
        have HN3 : Hid (NxW w (w2.setCell ⟨w.heap.size + 1, 0, none⟩ (.int .i64 2)) b s p 2) := HN2
        clear HN2 tf td
        generalize w2.setCell ⟨w.heap.size + 1, 0, none⟩ (.int .i64 2) = w3 at *
        refine (quoted_any HN3.out.sc hs hp).mono ?_
        intro e w4 hW
        rcases hW with ⟨k, t, v, n, ho, rfl, hsc, hfr⟩ | ⟨er, ho, rfl, q, hsc, hfr⟩
        · obtain ⟨rfl, rfl⟩ := tx_kv ho
          obtain ⟨⟨z0, z1, z2, z3, zf0, zf1, zf2, zf3⟩, ⟨t0, t1, t2, t3, tf0, tf1, tf2, tf3⟩, hF⟩ := HN3.out.after hfr hlb
          have HG : Hid (∀ Wf, Below w.heap.size w4 Wf → NxTo w b s p (.returned (.tuple #[.agg #[.int .i64 2, .string ⟨t.toArray⟩, .int .i64 0, .int .i64 p], .string ⟨#[48, 48, 48, 48, 48]⟩])) Wf) := fun Wf hb => .tk _ _ _ _ (HO.out.trans ho) rfl (sc_last hsc hb hlb) (fr_last hF hb)
          clear HN3 HO ho hsc hfr hF HST HS0 HL0
          go_wp2_with fail
          refine bodyPost_ret (v := .tuple #[.agg #[.int .i64 2, .string ⟨t.toArray⟩, .int .i64 0, .int .i64 p], .string ⟨#[48, 48, 48, 48, 48]⟩]) ?_ rfl (HG.out _ (five_sets (Nat.le_refl _) (Nat.le_succ _) _ _ _ _ _ _))
          simp [results, Tryz.results19, go_sem, z0, z1, z2, z3]
        · obtain ⟨⟨z0, z1, z2, z3, zf0, zf1, zf2, zf3⟩, ⟨t0, t1, t2, t3, tf0, tf1, tf2, tf3⟩, hF⟩ := HN3.out.after hfr hlb
          have HG : Hid (∀ Wf, Below w.heap.size w4 Wf → NxTo w b s p (.returned (.tuple #[.agg #[.int .i64 2, .string ⟨#[]⟩, .int .i64 0, .int .i64 p], .string (stB er)])) Wf) := fun Wf hb => .no er _ _ _ (HO.out.trans ho) rfl q (sc_last hsc hb hlb) (fr_last hF hb)
          clear HN3 HO ho hsc hfr hF HST HS0 HL0
          generalize stB er = sb at *
          go_wp2_with fail
          refine bodyPost_ret (v := .tuple #[.agg #[.int .i64 2, .string ⟨#[]⟩, .int .i64 0, .int .i64 p], .string sb]) ?_ rfl (HG.out _ (five_sets (Nat.le_refl _) (Nat.le_succ _) _ _ _ _ _ _))
          simp [results, Tryz.results19, go_sem, z0, z1, z2, z3]
      · have H3 : Hid (¬ (s[p].toNat : Int) = 39) := fun e => h3 ((u8_eq (n := 39) (by omega)).1 e)
        have HO : Hid (stp (rest s p) = sgS (rest s p)) := by show _ = _; rw [HST.out, h1, h2, if_neg (by simp), if_neg (by simp), if_neg (by simpa using h3)]
        clear h3
        go_wp2_with fail
        refine (hle _).mono ?_
        rintro e wx ⟨rfl, hwx⟩
        obtain rfl := hwx.symm
        go_wp2_with fail
        refine (hdi _).mono ?_
        rintro e wx ⟨rfl, hwx⟩
        obtain rfl := hwx.symm
        clear hle hdi
        have h3' := H3.out
        have h3b : ((s[p].toNat : Int) == 39) = false := by simpa using h3'
        clear H3
        have HN2 := hidk (HN1.out.kind 3)
        have tf := HN1.out.bt.c.f0
        have td := HN1.out.bt.c.d0
        clear HN1
        go_wp2_with fail
        have HN3 : Hid (NxW w (w2.setCell ⟨w.heap.size + 1, 0, none⟩ (.int .i64 3)) b s p 3) := HN2
        clear HN2 tf td
        generalize w2.setCell ⟨w.heap.size + 1, 0, none⟩ (.int .i64 3) = w3 at *
        refine (ssign_any HN3.out.sc (HN3.out.lib HS0.out HL0.out) hs hp).mono ?_
        intro e w4 hW
        rcases hW with ⟨k, t, v, n, ho, rfl, hsc, hfr⟩ | ⟨er, ho, rfl, q, hsc, hfr⟩
        · obtain ⟨rfl, rfl⟩ := sg_kv ho
          obtain ⟨⟨z0, z1, z2, z3, zf0, zf1, zf2, zf3⟩, ⟨t0, t1, t2, t3, tf0, tf1, tf2, tf3⟩, hF⟩ := HN3.out.after hfr hlb
          have HG : Hid (∀ Wf, Below w.heap.size w4 Wf → NxTo w b s p (.returned (.tuple #[.agg #[.int .i64 3, .string ⟨t.toArray⟩, .int .i64 0, .int .i64 p], .string ⟨#[48, 48, 48, 48, 48]⟩])) Wf) := fun Wf hb => .tk _ _ _ _ (HO.out.trans ho) rfl (sc_last hsc hb hlb) (fr_last hF hb)
          clear HN3 HO ho hsc hfr hF HST HS0 HL0
          go_wp2_with fail
          refine bodyPost_ret (v := .tuple #[.agg #[.int .i64 3, .string ⟨t.toArray⟩, .int .i64 0, .int .i64 p], .string ⟨#[48, 48, 48, 48, 48]⟩]) ?_ rfl (HG.out _ (five_sets (Nat.le_refl _) (Nat.le_succ _) _ _ _ _ _ _))
          simp [results, Tryz.results19, go_sem, z0, z1, z2, z3]
        · obtain ⟨⟨z0, z1, z2, z3, zf0, zf1, zf2, zf3⟩, ⟨t0, t1, t2, t3, tf0, tf1, tf2, tf3⟩, hF⟩ := HN3.out.after hfr hlb
          have HG : Hid (∀ Wf, Below w.heap.size w4 Wf → NxTo w b s p (.returned (.tuple #[.agg #[.int .i64 3, .string ⟨#[]⟩, .int .i64 0, .int .i64 p], .string (stB er)])) Wf) := fun Wf hb => .no er _ _ _ (HO.out.trans ho) rfl q (sc_last hsc hb hlb) (fr_last hF hb)
          clear HN3 HO ho hsc hfr hF HST HS0 HL0
          generalize stB er = sb at *
          go_wp2_with fail
          refine bodyPost_ret (v := .tuple #[.agg #[.int .i64 3, .string ⟨#[]⟩, .int .i64 0, .int .i64 p], .string sb]) ?_ rfl (HG.out _ (five_sets (Nat.le_refl _) (Nat.le_succ _) _ _ _ _ _ _))
          simp [results, Tryz.results19, go_sem, z0, z1, z2, z3]
end Go.Proofs.YtaenpacfbheppaaGreatDoor

namespace Go.Proofs.YtaenpacfbheppaaGreatDoor
open Go.RowKit

def tokC (t : Tok) : List Value := [.int .i64 t.k, .string ⟨t.s.toArray⟩, .int .i64 t.n, .int .i64 t.at_]
theorem tokC_len (l : List Tok) : ∀ x ∈ l, (tokC x).length = 4 := fun _ _ => rfl
abbrev TRow (base : Nat) (w : World) (v : Value) (l : List Tok) : Prop := Row 52 4 tokC base w v l
theorem infoT : (Tryz.prog.info? 52).map (fun i => (i.zero, i.size, i.bytes)) = some (some (.agg #[.int .i64 0, .string ⟨#[]⟩, .int .i64 0, .int .i64 0]), 4, 40) := by kernel_rfl
theorem one_tokC (t : Tok) : ∀ u ∈ tokC t, u.oneCell' = true := by
  intro u hu
  simp only [tokC, List.mem_cons, List.not_mem_nil, or_false] at hu
  rcases hu with rfl | rfl | rfl | rfl <;> rfl
theorem wp_appT (w : World) {ops : Array Oper} {rest : List Oper} {o : Oper} {a : Act} {Q : Exit → Act → World → Prop} (hgd : o.guard = none) (s x : Operand)
    (ho : o.op = .call { callee := .builtin .append, args := #[s, x], argTypes := #[32, 32] })
    (base : Nat) (v : Value) (l : List Tok) (hs : a.eval s = v) (hown : TRow base w v l) (Bk : Nat) (t : Tok) (hx : a.eval x = .slice (some ⟨Bk, 0, none⟩) 1 1) (hB : w.heap[Bk]? = some (.cells (tokC t).toArray 52 (0, 0))) (hl : l.length ≤ 100000) (hbase : base ≤ w.heap.size)
    (h : ∀ g cap w', TRow base w' (.slice (some ⟨g, 0, none⟩) (l.length + 1) cap) (l ++ [t]) → Below base w w' → wpList Tryz.prog ops Q rest (a.put o.dst (.slice (some ⟨g, 0, none⟩) (l.length + 1) cap)) w') : wpList Tryz.prog ops Q (o :: rest) a w := by
  obtain ⟨i0, hi, hz0, hz1, hz2⟩ := info_parts infoT
  refine wpList_append_lies w hgd s x 32 ho base 52 i0 (.agg #[.int .i64 0, .string ⟨#[]⟩, .int .i64 0, .int .i64 0]) 4 40 Tryz.underlying32 hi hz0 hz1 hz2 rfl (by decide) v l.length (l.flatMap tokC) hs hown ⟨Bk, 0, none⟩ 1 1 (tokC t) hx rfl (World.news_of_block hB) (one_tokC t) (by decide) (by unfold maxLen; omega) (by omega) hbase w.heap.size rfl ?_
  intro g cap w' h1 h2 h3 _
  refine h g cap w' ?_ ((Below.refl _ _).grown h2 hbase (fun k hk => (hown.lo k hk).1))
  show World.ownsRow _ _ _ _ _ _ _
  rw [List.length_append, List.flatMap_append]
  simpa using h1
inductive ScTo (w : World) (s : ByteArray) (e : Ending) (w' : World) : Prop
  | ok (l : List Tok) (v : Value) (ho : scF s.data.toList = .ok l) (he : e = .returned (.tuple #[v, .string ⟨#[48, 48, 48, 48, 48]⟩])) (row : TRow w.heap.size w' v l) (hb : Below w.heap.size w w')
  | no (er : Nat) (ho : scF s.data.toList = .error er) (he : e = .returned (.tuple #[.slice none 0 0, .string (stB er)])) (hb : Below w.heap.size w w')
def Rst (s : ByteArray) (q : Nat) (L : List Tok) : Prop := scA s 0 0 = match scA s q L.length with
  | .error e => .error e
  | .ok l => .ok (L ++ l)
theorem Rst.tk {s : ByteArray} {q : Nat} {L : List Tok} (h : Rst s q L) (hq : q < s.size) {k : Int} {t : List UInt8} {v : Int} {n : Nat} (hst : stp (rest s q) = .tk k t v n) : (L.length = 600 → scA s 0 0 = .error 4) ∧ (L.length < 600 → Rst s (q + n) (L ++ [⟨k, t, v, q⟩])) := by
  unfold Rst at h ⊢
  rw [scA_tk s L.length hq hst] at h
  constructor
  · intro h6
    rw [if_pos (by omega)] at h
    exact h
  · intro h6
    rw [if_neg (by omega)] at h
    rw [List.length_append, List.length_singleton]
    rw [h]
    cases scA s (q + n) (L.length + 1) with
    | error e => rfl
    | ok l => simp
theorem Rst.sk {s : ByteArray} {p q : Nat} {L : List Tok} (h : Rst s p L) (hk : Skp s p q) : Rst s q L := by
  unfold Rst at h ⊢
  rw [← hk.sc]
  exact h
theorem Rst.no {s : ByteArray} {q : Nat} {L : List Tok} (h : Rst s q L) (hq : q < s.size) {er : Nat} (hst : stp (rest s q) = .no er) : scA s 0 0 = .error er := by
  unfold Rst at h
  rw [scA_no s L.length hq hst] at h
  exact h
theorem Rst.done {s : ByteArray} {q : Nat} {L : List Tok} (h : Rst s q L) (hq : s.size ≤ q) : scA s 0 0 = .ok L := by
  unfold Rst at h
  rw [scA_end s _ hq] at h
  simpa using h
theorem scF_A {s : ByteArray} (h : s.size ≤ 2000) : scF s.data.toList = scA s 0 0 := by
  unfold scF
  rw [if_neg (by simp; omega), scA_all]
theorem scF_big {s : ByteArray} (h : 2000 < s.size) : scF s.data.toList = .error 4 := by
  unfold scF
  rw [if_pos (by simp; omega)]
structure SS (w W : World) (s : ByteArray) (q : Nat) (v : Value) (L : List Tok) : Prop where
  sc : Sc W w.heap.size s q
  row : TRow (w.heap.size + 1) W v L
  bl : Below w.heap.size w W
  sz : w.heap.size + 1 ≤ W.heap.size
  rs : Rst s q L
  no : L.length ≤ 600
theorem SS.keepB {w W W' : World} {s : ByteArray} {q : Nat} {v : Value} {L : List Tok} (h : SS w W s q v L) (hb : Below W.heap.size W W') : SS w W' s q v L :=
  ⟨h.sc.keepB hb, h.row.of_block (fun c hc => hb.block c (h.row.lo c hc).2), h.bl.trans (hb.mono h.bl.size), Nat.le_trans h.sz hb.size, h.rs, h.no⟩
theorem SS.moved {w W W' : World} {s : ByteArray} {q q' : Nat} {v : Value} {L : List Tok} (h : SS w W s q v L) (hs : Sc W' w.heap.size s q') (hf : Fr W W' (fun i => i = w.heap.size)) (hr : Rst s q' L) : SS w W' s q' v L :=
  ⟨hs, h.row.of_block (fun c hc => hf.block c (h.row.lo c hc).2 (fun e => by have := (h.row.lo c hc).1; omega)), ⟨hf.os.trans h.bl.os, hf.tape.trans h.bl.tape, hf.output.trans h.bl.output, Nat.le_trans h.bl.size hf.size, fun k hk => (hf.block k (by have := h.bl.size; omega) (by omega)).trans (h.bl.block k hk)⟩, Nat.le_trans h.sz hf.size, hr, h.no⟩
theorem SS.bl2 {w W W' : World} {s : ByteArray} {q : Nat} {v : Value} {L : List Tok} (h : SS w W s q v L) (hf : Fr W W' (fun i => i = w.heap.size)) : Below w.heap.size w W' :=
  ⟨hf.os.trans h.bl.os, hf.tape.trans h.bl.tape, hf.output.trans h.bl.output, Nat.le_trans h.bl.size hf.size, fun k hk => (hf.block k (by have := h.bl.size; omega) (by omega)).trans (h.bl.block k hk)⟩
theorem SS.row2 {w W W' : World} {s : ByteArray} {q : Nat} {v : Value} {L : List Tok} (h : SS w W s q v L) (hf : Fr W W' (fun i => i = w.heap.size)) : TRow (w.heap.size + 1) W' v L :=
  h.row.of_block (fun c hc => hf.block c (h.row.lo c hc).2 (fun e => by have := (h.row.lo c hc).1; omega))
theorem SS.pushed {w W W' : World} {s : ByteArray} {q : Nat} {v' : Value} {L' : List Tok} (hs : Sc W w.heap.size s q) (hbl : Below w.heap.size w W) (hsz : w.heap.size + 1 ≤ W.heap.size) (hb : Below (w.heap.size + 1) W W') (row : TRow (w.heap.size + 1) W' v' L') (rs : Rst s q L') (no : L'.length ≤ 600) : SS w W' s q v' L' :=
  ⟨⟨(hb.block _ (by omega)).trans hs.hh, hs.le⟩, row, hbl.trans (hb.mono (by omega)), Nat.le_trans hsz hb.size, rs, no⟩
theorem new_atT (w : World) (o : Obj) {B : Nat} (h : B = w.heap.size) : (w.alloc o).heap[B]? = some o := by subst h; exact heap_alloc_new _ _
theorem st_ne (er : Nat) : stB er = ⟨#[52, 50, 54, 48, 49]⟩ ∨ stB er = ⟨#[50, 50, 48, 48, 51]⟩ ∨ stB er = ⟨#[50, 50, 48, 48, 49]⟩ ∨ stB er = ⟨#[53, 52, 48, 48, 48]⟩ := by
  unfold stB
  split <;> simp
theorem scan_any {a : Addr} (s : ByteArray) (w : World) (hL : LibW a w) : Calls Tryz.prog 10 #[.string s] w fun e w' => ScTo w s e w' := by
  by_cases hbig : 2000 < s.size
  · have hb' : (s.size : Int) > 2000 := by omega
    have HG : Hid (ScTo w s (.returned (.tuple #[.slice none 0 0, .string ⟨#[53, 52, 48, 48, 48]⟩])) w) := .no 4 (scF_big hbig) rfl (Below.refl _ _)
    clear hbig
    go_enter Tryz.func10, Tryz.ntmps10
    go_wp2_with fail
    go_ret2
    exact HG.out
  · have hb' : ¬ (s.size : Int) > 2000 := by omega
    have hs : s.size ≤ 10000 := by omega
    have HSF := hidk (scF_A (s := s) (by omega))
    have hbn : Below w.heap.size w (w.alloc (.cells #[.string s, .int .i64 0] 49)) := (Below.refl _ _).alloc (Nat.le_refl _) _
    have HZ : Hid (SS w (w.alloc (.cells #[.string s, .int .i64 0] 49)) s 0 (.slice none 0 0) []) := ⟨⟨heap_alloc_new w _, Nat.zero_le _⟩, Row.nil_ _ _ _ _ _, hbn, by simp, by unfold Rst; simp only [List.length_nil]; cases scA s 0 0 <;> simp, by simp⟩
    have HL := hidk hL
    clear hbig hbn hL
    go_enter Tryz.func10, Tryz.ntmps10
    go_wp2_with fail
    generalize w.alloc (.cells #[.string s, .int .i64 0] 49) = w0 at *
    refine (skip_any HZ.out.sc hs).mono ?_
    rintro e w1 ⟨q0, rfl, hsc, hfr, hsk, hno⟩
    have HS1 : Hid (SS w w1 s q0 (.slice none 0 0) []) := HZ.out.moved hsc hfr (HZ.out.rs.sk hsk)
    have HB1 := hidk hno
    clear HZ hsc hfr hsk hno
    go_wp2_with fail
    go_loopg [5] s.size (fun kx tv wr => ∃ (q : Nat) (ao : Option Addr) (cap : Nat) (L : List Tok), tv = .slice ao L.length cap ∧ s.size - q ≤ kx ∧ Hid (SS w wr s q (.slice ao L.length cap) L) ∧ Hid (blN (rest s q) = 0))
    case atStart => exact ⟨q0, none, 0, [], rfl, by omega, HS1, HB1⟩
    case round =>
      rename World => wr
      obtain ⟨q, ao, cap, L, rfl, hkx, HS, HB⟩ := hrel
      clear HS1 HB1
      have hat := atEnd_any HS.out.sc hs
      have hqle := HS.out.sc.le
      have hL6 := HS.out.no
      by_cases hend : q = s.size
      · rw [decide_eq_true hend] at hat
        have HG : Hid (∀ W, Below wr.heap.size wr W → ScTo w s (.returned (.tuple #[.slice ao L.length cap, .string ⟨#[48, 48, 48, 48, 48]⟩])) W) := fun W hb => .ok L _ (HSF.out.trans (HS.out.rs.done (by omega))) rfl (own_base (HS.out.keepB hb).row (by omega)) (HS.out.keepB hb).bl
        clear HS HB hend
        go_wp2_with fail
        refine hat.mono ?_
        rintro e w2 ⟨rfl, hb2⟩
        clear hat
        go_wp2_with fail
        go_ret2
        exact HG.out _ hb2
      · rw [decide_eq_false hend] at hat
        have hlt : q < s.size := by omega
        go_wp2_with fail
        refine hat.mono ?_
        rintro e w2 ⟨rfl, hb2⟩
        have HS2 := hidk (HS.out.keepB hb2)
        clear hat HS hb2
        have hnx := next_any HS2.out.sc (HL.out.keep HS2.out.bl) hs hlt HB.out
        go_wp2_with fail
        refine hnx.mono ?_
        intro e w3 hN
        clear hnx HB hend
        rcases hN with ⟨k, t, v, n, ho, rfl, hsc, hfr⟩ | ⟨er, k, t, v, ho, rfl, q3, hsc, hfr⟩
        · obtain ⟨h6, hrs⟩ := HS2.out.rs.tk hlt ho
          have hn1 := (stp_tk ho).1
          by_cases h600 : L.length = 600
          · have HG : Hid (∀ W, Below w.heap.size w W → ScTo w s (.returned (.tuple #[.slice none 0 0, .string ⟨#[53, 52, 48, 48, 48]⟩])) W) := fun W hb => .no 4 (HSF.out.trans (h6 h600)) rfl hb
            have HBL : Hid (∀ o, Below w.heap.size w (w3.alloc o)) := fun o => (HS2.out.bl2 hfr).alloc (by have := (HS2.out.bl2 hfr).size; omega) o
            have h6' : (L.length : Int) = 600 := by omega
            clear HS2 hsc hfr h6 hrs ho h600
            go_wp2_with fail
            go_ret2
            exact HG.out _ (HBL.out _)
          · have h6' : ¬ (L.length : Int) = 600 := by omega
            have h6b : ((L.length : Int) == 600) = false := by simpa using h6'
            have hL7 : L.length < 600 := by omega
            have HR := hidk (hrs hL7)
            have hrow3 := HS2.out.row2 hfr
            have hbl3 := HS2.out.bl2 hfr
            have hsz3 : w.heap.size + 1 ≤ w3.heap.size := Nat.le_trans HS2.out.sz hfr.size
            have HSC := hidk hsc
            have HBL := hidk hbl3
            have hl10 : L.length ≤ 100000 := by omega
            clear HS2 hsc hfr h6 hrs ho h600 hbl3
            go_wp2_with (at_builtin; refine wp_appT _ rfl _ _ rfl (w.heap.size + 1) _ L rfl (Row.of_block hrow3 (fun c hc => (((Below.refl _ _).alloc (Nat.le_refl _) _).alloc (by simp) _).block c (hrow3.lo c hc).2)) (w3.heap.size + 1) ⟨k, t, v, q⟩ rfl (new_atT _ _ (by simp)) hl10 (by simp; omega) ?_)
            intro g cap4 w4 hrow4 hb4
            have hba : ∀ (W : World) o, Below W.heap.size W (W.alloc o) := fun W o => (Below.refl _ _).alloc (Nat.le_refl _) o
            have HS4 : Hid (SS w w4 s (q + n) (.slice (some ⟨g, 0, none⟩) (L.length + 1) cap4) (L ++ [⟨k, t, v, q⟩])) := SS.pushed ((HSC.out.keepB (hba _ _)).keepB (hba _ _)) ((HBL.out.trans ((hba _ _).mono HBL.out.size)).trans ((hba _ _).mono (by have := HBL.out.size; simp; omega))) (by simp; omega) hb4 hrow4 HR.out (by simp; omega)
            clear HSC HBL HR hrow3 hrow4 hb4 hba
            have hlen : (L ++ [(⟨k, t, v, q⟩ : Tok)]).length = L.length + 1 := by simp
            have HLEN := hidk hlen
            generalize L ++ [(⟨k, t, v, q⟩ : Tok)] = L4 at *
            go_wp2_with fail
            refine (skip_any HS4.out.sc hs).mono ?_
            rintro e w5 ⟨q5, rfl, hsc, hfr, hsk, hno⟩
            have hq5 := hsk.ge
            have HS5 : Hid (SS w w5 s q5 (.slice (some ⟨g, 0, none⟩) L4.length cap4) L4) := by
              rw [hlen]
              exact HS4.out.moved hsc hfr (HS4.out.rs.sk hsk)
            have HB5 := hidk hno
            clear HS4 hsc hfr hsk hno
            clear hlen
            go_wp2_with fail
            go_roundg (s.size - q5)
            case measure => omega
            case rel => exact ⟨q5, _, cap4, L4, by rw [HLEN.out], Nat.le_refl _, HS5, HB5⟩
        · have hno := HS2.out.rs.no hlt ho
          have HG : Hid (∀ W, Below w.heap.size w W → ScTo w s (.returned (.tuple #[.slice none 0 0, .string (stB er)])) W) := fun W hb => .no er (HSF.out.trans hno) rfl hb
          have HBL : Hid (∀ o, Below w.heap.size w (w3.alloc o)) := fun o => (HS2.out.bl2 hfr).alloc (by have := (HS2.out.bl2 hfr).size; omega) o
          have hst := st_ne er
          generalize stB er = sb at *
          clear HS2 hsc hfr ho hno
          rcases hst with rfl | rfl | rfl | rfl
          all_goals
            go_wp2_with fail
            go_ret2
            exact HG.out _ (HBL.out _)
end Go.Proofs.YtaenpacfbheppaaGreatDoor

namespace Go.Proofs.YtaenpacfbheppaaGreatDoor
open Go.RowKit

structure RF (word : ByteArray) (a : Act) : Prop where
  d : a.defers = []
  z : a.tmps.size = 107
  t : a.tmps.getD 3 undef = .string word
theorem getD_set_same (ts : Array Value) (d : Nat) (v : Value) (h : d < ts.size) : (ts.setIfInBounds d v).getD d undef = v := by
  simp [Array.getD, h]
theorem getD_set_other (ts : Array Value) (d k : Nat) (v : Value) (h : d ≠ k) : (ts.setIfInBounds d v).getD k undef = ts.getD k undef := by
  by_cases hk : k < ts.size
  · simp [Array.getD, hk, Array.getElem_setIfInBounds, h]
  · simp [Array.getD, hk]
theorem RF.put {word : ByteArray} {a : Act} (h : RF word a) (d : Nat) (v : Value) (hd : d ≠ 3) : RF word (a.put (some d) v) := by
  refine ⟨h.d, ?_, ?_⟩
  · simp [Act.put, h.z]
  · show (a.tmps.setIfInBounds d v).getD 3 undef = _
    rw [getD_set_other _ _ _ _ hd]
    exact h.t
theorem RF.get {word : ByteArray} {a : Act} (h : RF word a) (d : Nat) (v : Value) (hd : d < 107) : (a.put (some d) v).eval (.tmp d) = v := by
  show (a.tmps.setIfInBounds d v).getD d undef = v
  exact getD_set_same _ _ _ (by rw [h.z]; exact hd)
theorem res_region {P : Program} {id d : Nat} {lit word : ByteArray} {p1 p2 : String} {Q : Exit → Act → World → Prop} {a : Act} {w : World} (hd3 : d ≠ 3) (hd : d < 107) (hF : RF word a)
    (h : ∀ a', RF word a' → a'.eval (.tmp 4) = .bool (word.data.toList == lit.data.toList) → Q .normal a' w) :
    (Code.region id #[{ dst := some d, op := .binOp .eql 9 (.tmp 3) (.const (.string lit)) 9, type := 4, pos := p1, after := #[], guard := none }, { dst := some 4, op := .assign (.tmp d), type := 4, pos := p2, after := #[{ on := 0, ground := Ground.data }], guard := none }] false).wp P Q a w := by
  refine wp_region_lit (l := [{ dst := some d, op := .binOp .eql 9 (.tmp 3) (.const (.string lit)) 9, type := 4, pos := p1, after := #[], guard := none }, { dst := some 4, op := .assign (.tmp d), type := 4, pos := p2, after := #[{ on := 0, ground := Ground.data }], guard := none }]) ?_
  have h3 : a.eval (.tmp 3) = .string word := hF.t
  have e : (word.data.toList == lit.data.toList) = (word.toList == lit.toList) := by rw [Lib.toList_data, Lib.toList_data]
  rw [e] at h
  refine wpList_plain rfl (fun K hK => ?_)
  unfold Oper.wp
  have h4 := hF.get d (.bool (word.toList == lit.toList)) hd
  have hF2 := hF.put d (.bool (word.toList == lit.toList)) hd3
  simp only [execOp, h3]
  simp [go_sem, Result.andThen]
  refine hK _ _ ?_
  refine wpList_plain rfl (fun K2 hK2 => ?_)
  unfold Oper.wp
  have hz : d < a.tmps.size := by rw [hF.z]; exact hd
  simp only [execOp, h4]
  simp [go_sem, Result.andThen, hz]
  refine hK2 _ _ (wpList_nil (h _ (hF2.put 4 _ (by decide)) (hF2.get 4 _ (by decide))))
theorem res_link {P : Program} {id d : Nat} {lit word : ByteArray} {p1 p2 : String} {C : Code} {Q : Exit → Act → World → Prop} {a : Act} {w : World} (hd3 : d ≠ 3) (hd : d < 107) (hF : RF word a)
    (hy : (word.data.toList == lit.data.toList) = true → ∀ a', RF word a' → a'.eval (.tmp 4) = .bool true → Q .normal a' w) (hn : (word.data.toList == lit.data.toList) = false → ∀ a', RF word a' → C.wp P Q a' w) :
    ((Code.region id #[{ dst := some d, op := .binOp .eql 9 (.tmp 3) (.const (.string lit)) 9, type := 4, pos := p1, after := #[], guard := none }, { dst := some 4, op := .assign (.tmp d), type := 4, pos := p2, after := #[{ on := 0, ground := Ground.data }], guard := none }] false).seq (Code.cond (.tmp 4) Code.skip C)).wp P Q a w := by
  refine wp_seq (res_region hd3 hd hF ?_)
  intro a' hF' h4
  cases hb : word.data.toList == lit.data.toList with
  | true =>
    rw [hb] at h4
    exact wp_cond_true h4 (wp_skip (hy hb a' hF' h4))
  | false =>
    rw [hb] at h4
    exact wp_cond_false h4 (hn hb a' hF')
theorem res_end {P : Program} {word : ByteArray} {R : Bool} {x y : Code} {Q : Exit → Act → World → Prop} {a : Act} {w : World} (hx : ∀ Q2 : Exit → Act → World → Prop, (∀ a', RF word a' → a'.eval (.tmp 4) = .bool R → Q2 .normal a' w) → x.wp P Q2 a w) (hend : ∀ a', RF word a' → a'.eval (.tmp 4) = .bool R → y.wp P Q a' w) : (x.seq y).wp P Q a w := wp_seq (hx _ hend)
def resL : List (List UInt8) := [[97, 108, 108], [97, 110, 100], [97, 110, 121], [97, 115], [97, 115, 99], [98, 101, 116, 119, 101, 101, 110], [98, 121], [99, 97, 115, 101], [99, 97, 115, 116], [99, 104, 101, 99, 107], [99, 108, 111, 115, 101], [99, 111, 97, 108, 101, 115, 99, 101], [99, 111, 109, 109, 105, 116], [99, 114, 101, 97, 116, 101], [99, 114, 111, 115, 115], [99, 117, 114, 114, 101, 110, 116], [99, 117, 114, 115, 111, 114], [100, 101, 99, 108, 97, 114, 101], [100, 101, 108, 101, 116, 101], [100, 101, 115, 99], [100, 105, 115, 116, 105, 110, 99, 116], [100, 114, 111, 112], [101, 108, 115, 101], [101, 110, 100], [101, 120, 99, 101, 112, 116], [101, 120, 105, 115, 116, 115], [102, 97, 108, 115, 101], [102, 101, 116, 99, 104], [102, 105, 114, 115, 116], [102, 111, 114], [102, 111, 114, 101, 105, 103, 110], [102, 114, 111, 109], [102, 117, 108, 108], [103, 114, 111, 117, 112], [104, 97, 118, 105, 110, 103], [105, 110], [105, 110, 100, 101, 120], [105, 110, 110, 101, 114], [105, 110, 115, 101, 114, 116], [105, 110, 116, 101, 114, 115, 101, 99, 116], [105, 110, 116, 111], [105, 115], [105, 115, 111, 108, 97, 116, 105, 111, 110], [106, 111, 105, 110], [107, 101, 121], [108, 97, 115, 116], [108, 101, 102, 116], [108, 101, 118, 101, 108], [108, 105, 107, 101], [110, 101, 120, 116], [110, 111, 116], [110, 117, 108, 108], [110, 117, 108, 108, 105, 102], [111, 102], [111, 110], [111, 110, 108, 121], [111, 112, 101, 110], [111, 114], [111, 114, 100, 101, 114], [111, 117, 116, 101, 114], [112, 114, 105, 109, 97, 114, 121], [112, 114, 105, 111, 114], [114, 101, 97, 100], [114, 101, 102, 101, 114, 101, 110, 99, 101, 115], [114, 101, 108, 97, 116, 105, 118, 101], [114, 101, 108, 101, 97, 115, 101], [114, 105, 103, 104, 116], [114, 111, 108, 108, 98, 97, 99, 107], [115, 97, 118, 101, 112, 111, 105, 110, 116], [115, 99, 114, 111, 108, 108], [115, 101, 108, 101, 99, 116], [115, 101, 116], [115, 111, 109, 101], [116, 97, 98, 108, 101], [116, 104, 101, 110], [116, 111], [116, 114, 97, 110, 115, 97, 99, 116, 105, 111, 110], [116, 114, 117, 101], [117, 110, 105, 111, 110], [117, 110, 105, 113, 117, 101], [117, 110, 107, 110, 111, 119, 110], [117, 112, 100, 97, 116, 101], [118, 97, 108, 117, 101, 115], [119, 104, 101, 110], [119, 104, 101, 114, 101], [97, 98, 115, 111, 108, 117, 116, 101], [99, 111, 117, 110, 116], [115, 117, 109], [109, 105, 110], [109, 97, 120], [98, 105, 103, 105, 110, 116], [98, 111, 111, 108, 101, 97, 110], [99, 104, 97, 114], [99, 104, 97, 114, 97, 99, 116, 101, 114], [105, 110, 116], [105, 110, 116, 101, 103, 101, 114], [115, 109, 97, 108, 108, 105, 110, 116], [118, 97, 114, 99, 104, 97, 114], [117, 110, 99, 111, 109, 109, 105, 116, 116, 101, 100], [99, 111, 109, 109, 105, 116, 116, 101, 100], [114, 101, 112, 101, 97, 116, 97, 98, 108, 101], [115, 101, 114, 105, 97, 108, 105, 122, 97, 98, 108, 101]]
theorem reserved_any (word : ByteArray) (w : World) : Calls Tryz.prog 81 #[.string word] w fun e w' => e = .returned (.bool (resL.contains word.data.toList)) ∧ w' = w := by
  obtain ⟨R, hR⟩ : ∃ R, R = resL.contains word.data.toList := ⟨_, rfl⟩
  rw [← hR]
  have HY : Hid (∀ l, resL.contains l = true → (word.data.toList == l) = true → R = true) := fun l hl he => by rw [hR, eq_of_beq he]; exact hl
  go_enter Tryz.func81, Tryz.ntmps81
  go_upto_block 0 with fail
  rename_i Q0 K0 hK0
  refine wp_block (res_end (R := R) (word := word) ?_ ?_)
  · intro Q2 HQ
    refine res_link (by decide) (by decide) ⟨rfl, rfl, rfl⟩ (fun hy a' hA h4 => HQ a' hA (by rw [h4, HY.out _ (by decide) hy])) (fun n1 a1 g1 => ?_)
    refine res_link (by decide) (by decide) g1 (fun hy a' hA h4 => HQ a' hA (by rw [h4, HY.out _ (by decide) hy])) (fun n2 a2 g2 => ?_)
    refine res_link (by decide) (by decide) g2 (fun hy a' hA h4 => HQ a' hA (by rw [h4, HY.out _ (by decide) hy])) (fun n3 a3 g3 => ?_)
    refine res_link (by decide) (by decide) g3 (fun hy a' hA h4 => HQ a' hA (by rw [h4, HY.out _ (by decide) hy])) (fun n4 a4 g4 => ?_)
    refine res_link (by decide) (by decide) g4 (fun hy a' hA h4 => HQ a' hA (by rw [h4, HY.out _ (by decide) hy])) (fun n5 a5 g5 => ?_)
    refine res_link (by decide) (by decide) g5 (fun hy a' hA h4 => HQ a' hA (by rw [h4, HY.out _ (by decide) hy])) (fun n6 a6 g6 => ?_)
    refine res_link (by decide) (by decide) g6 (fun hy a' hA h4 => HQ a' hA (by rw [h4, HY.out _ (by decide) hy])) (fun n7 a7 g7 => ?_)
    refine res_link (by decide) (by decide) g7 (fun hy a' hA h4 => HQ a' hA (by rw [h4, HY.out _ (by decide) hy])) (fun n8 a8 g8 => ?_)
    refine res_link (by decide) (by decide) g8 (fun hy a' hA h4 => HQ a' hA (by rw [h4, HY.out _ (by decide) hy])) (fun n9 a9 g9 => ?_)
    refine res_link (by decide) (by decide) g9 (fun hy a' hA h4 => HQ a' hA (by rw [h4, HY.out _ (by decide) hy])) (fun n10 a10 g10 => ?_)
    refine res_link (by decide) (by decide) g10 (fun hy a' hA h4 => HQ a' hA (by rw [h4, HY.out _ (by decide) hy])) (fun n11 a11 g11 => ?_)
    refine res_link (by decide) (by decide) g11 (fun hy a' hA h4 => HQ a' hA (by rw [h4, HY.out _ (by decide) hy])) (fun n12 a12 g12 => ?_)
    refine res_link (by decide) (by decide) g12 (fun hy a' hA h4 => HQ a' hA (by rw [h4, HY.out _ (by decide) hy])) (fun n13 a13 g13 => ?_)
    refine res_link (by decide) (by decide) g13 (fun hy a' hA h4 => HQ a' hA (by rw [h4, HY.out _ (by decide) hy])) (fun n14 a14 g14 => ?_)
    refine res_link (by decide) (by decide) g14 (fun hy a' hA h4 => HQ a' hA (by rw [h4, HY.out _ (by decide) hy])) (fun n15 a15 g15 => ?_)
    refine res_link (by decide) (by decide) g15 (fun hy a' hA h4 => HQ a' hA (by rw [h4, HY.out _ (by decide) hy])) (fun n16 a16 g16 => ?_)
    refine res_link (by decide) (by decide) g16 (fun hy a' hA h4 => HQ a' hA (by rw [h4, HY.out _ (by decide) hy])) (fun n17 a17 g17 => ?_)
    refine res_link (by decide) (by decide) g17 (fun hy a' hA h4 => HQ a' hA (by rw [h4, HY.out _ (by decide) hy])) (fun n18 a18 g18 => ?_)
    refine res_link (by decide) (by decide) g18 (fun hy a' hA h4 => HQ a' hA (by rw [h4, HY.out _ (by decide) hy])) (fun n19 a19 g19 => ?_)
    refine res_link (by decide) (by decide) g19 (fun hy a' hA h4 => HQ a' hA (by rw [h4, HY.out _ (by decide) hy])) (fun n20 a20 g20 => ?_)
    refine res_link (by decide) (by decide) g20 (fun hy a' hA h4 => HQ a' hA (by rw [h4, HY.out _ (by decide) hy])) (fun n21 a21 g21 => ?_)
    refine res_link (by decide) (by decide) g21 (fun hy a' hA h4 => HQ a' hA (by rw [h4, HY.out _ (by decide) hy])) (fun n22 a22 g22 => ?_)
    refine res_link (by decide) (by decide) g22 (fun hy a' hA h4 => HQ a' hA (by rw [h4, HY.out _ (by decide) hy])) (fun n23 a23 g23 => ?_)
    refine res_link (by decide) (by decide) g23 (fun hy a' hA h4 => HQ a' hA (by rw [h4, HY.out _ (by decide) hy])) (fun n24 a24 g24 => ?_)
    refine res_link (by decide) (by decide) g24 (fun hy a' hA h4 => HQ a' hA (by rw [h4, HY.out _ (by decide) hy])) (fun n25 a25 g25 => ?_)
    refine res_link (by decide) (by decide) g25 (fun hy a' hA h4 => HQ a' hA (by rw [h4, HY.out _ (by decide) hy])) (fun n26 a26 g26 => ?_)
    refine res_link (by decide) (by decide) g26 (fun hy a' hA h4 => HQ a' hA (by rw [h4, HY.out _ (by decide) hy])) (fun n27 a27 g27 => ?_)
    refine res_link (by decide) (by decide) g27 (fun hy a' hA h4 => HQ a' hA (by rw [h4, HY.out _ (by decide) hy])) (fun n28 a28 g28 => ?_)
    refine res_link (by decide) (by decide) g28 (fun hy a' hA h4 => HQ a' hA (by rw [h4, HY.out _ (by decide) hy])) (fun n29 a29 g29 => ?_)
    refine res_link (by decide) (by decide) g29 (fun hy a' hA h4 => HQ a' hA (by rw [h4, HY.out _ (by decide) hy])) (fun n30 a30 g30 => ?_)
    refine res_link (by decide) (by decide) g30 (fun hy a' hA h4 => HQ a' hA (by rw [h4, HY.out _ (by decide) hy])) (fun n31 a31 g31 => ?_)
    refine res_link (by decide) (by decide) g31 (fun hy a' hA h4 => HQ a' hA (by rw [h4, HY.out _ (by decide) hy])) (fun n32 a32 g32 => ?_)
    refine res_link (by decide) (by decide) g32 (fun hy a' hA h4 => HQ a' hA (by rw [h4, HY.out _ (by decide) hy])) (fun n33 a33 g33 => ?_)
    refine res_link (by decide) (by decide) g33 (fun hy a' hA h4 => HQ a' hA (by rw [h4, HY.out _ (by decide) hy])) (fun n34 a34 g34 => ?_)
    refine res_link (by decide) (by decide) g34 (fun hy a' hA h4 => HQ a' hA (by rw [h4, HY.out _ (by decide) hy])) (fun n35 a35 g35 => ?_)
    refine res_link (by decide) (by decide) g35 (fun hy a' hA h4 => HQ a' hA (by rw [h4, HY.out _ (by decide) hy])) (fun n36 a36 g36 => ?_)
    refine res_link (by decide) (by decide) g36 (fun hy a' hA h4 => HQ a' hA (by rw [h4, HY.out _ (by decide) hy])) (fun n37 a37 g37 => ?_)
    refine res_link (by decide) (by decide) g37 (fun hy a' hA h4 => HQ a' hA (by rw [h4, HY.out _ (by decide) hy])) (fun n38 a38 g38 => ?_)
    refine res_link (by decide) (by decide) g38 (fun hy a' hA h4 => HQ a' hA (by rw [h4, HY.out _ (by decide) hy])) (fun n39 a39 g39 => ?_)
    refine res_link (by decide) (by decide) g39 (fun hy a' hA h4 => HQ a' hA (by rw [h4, HY.out _ (by decide) hy])) (fun n40 a40 g40 => ?_)
    refine res_link (by decide) (by decide) g40 (fun hy a' hA h4 => HQ a' hA (by rw [h4, HY.out _ (by decide) hy])) (fun n41 a41 g41 => ?_)
    refine res_link (by decide) (by decide) g41 (fun hy a' hA h4 => HQ a' hA (by rw [h4, HY.out _ (by decide) hy])) (fun n42 a42 g42 => ?_)
    refine res_link (by decide) (by decide) g42 (fun hy a' hA h4 => HQ a' hA (by rw [h4, HY.out _ (by decide) hy])) (fun n43 a43 g43 => ?_)
    refine res_link (by decide) (by decide) g43 (fun hy a' hA h4 => HQ a' hA (by rw [h4, HY.out _ (by decide) hy])) (fun n44 a44 g44 => ?_)
    refine res_link (by decide) (by decide) g44 (fun hy a' hA h4 => HQ a' hA (by rw [h4, HY.out _ (by decide) hy])) (fun n45 a45 g45 => ?_)
    refine res_link (by decide) (by decide) g45 (fun hy a' hA h4 => HQ a' hA (by rw [h4, HY.out _ (by decide) hy])) (fun n46 a46 g46 => ?_)
    refine res_link (by decide) (by decide) g46 (fun hy a' hA h4 => HQ a' hA (by rw [h4, HY.out _ (by decide) hy])) (fun n47 a47 g47 => ?_)
    refine res_link (by decide) (by decide) g47 (fun hy a' hA h4 => HQ a' hA (by rw [h4, HY.out _ (by decide) hy])) (fun n48 a48 g48 => ?_)
    refine res_link (by decide) (by decide) g48 (fun hy a' hA h4 => HQ a' hA (by rw [h4, HY.out _ (by decide) hy])) (fun n49 a49 g49 => ?_)
    refine res_link (by decide) (by decide) g49 (fun hy a' hA h4 => HQ a' hA (by rw [h4, HY.out _ (by decide) hy])) (fun n50 a50 g50 => ?_)
    refine res_link (by decide) (by decide) g50 (fun hy a' hA h4 => HQ a' hA (by rw [h4, HY.out _ (by decide) hy])) (fun n51 a51 g51 => ?_)
    refine res_link (by decide) (by decide) g51 (fun hy a' hA h4 => HQ a' hA (by rw [h4, HY.out _ (by decide) hy])) (fun n52 a52 g52 => ?_)
    refine res_link (by decide) (by decide) g52 (fun hy a' hA h4 => HQ a' hA (by rw [h4, HY.out _ (by decide) hy])) (fun n53 a53 g53 => ?_)
    refine res_link (by decide) (by decide) g53 (fun hy a' hA h4 => HQ a' hA (by rw [h4, HY.out _ (by decide) hy])) (fun n54 a54 g54 => ?_)
    refine res_link (by decide) (by decide) g54 (fun hy a' hA h4 => HQ a' hA (by rw [h4, HY.out _ (by decide) hy])) (fun n55 a55 g55 => ?_)
    refine res_link (by decide) (by decide) g55 (fun hy a' hA h4 => HQ a' hA (by rw [h4, HY.out _ (by decide) hy])) (fun n56 a56 g56 => ?_)
    refine res_link (by decide) (by decide) g56 (fun hy a' hA h4 => HQ a' hA (by rw [h4, HY.out _ (by decide) hy])) (fun n57 a57 g57 => ?_)
    refine res_link (by decide) (by decide) g57 (fun hy a' hA h4 => HQ a' hA (by rw [h4, HY.out _ (by decide) hy])) (fun n58 a58 g58 => ?_)
    refine res_link (by decide) (by decide) g58 (fun hy a' hA h4 => HQ a' hA (by rw [h4, HY.out _ (by decide) hy])) (fun n59 a59 g59 => ?_)
    refine res_link (by decide) (by decide) g59 (fun hy a' hA h4 => HQ a' hA (by rw [h4, HY.out _ (by decide) hy])) (fun n60 a60 g60 => ?_)
    refine res_link (by decide) (by decide) g60 (fun hy a' hA h4 => HQ a' hA (by rw [h4, HY.out _ (by decide) hy])) (fun n61 a61 g61 => ?_)
    refine res_link (by decide) (by decide) g61 (fun hy a' hA h4 => HQ a' hA (by rw [h4, HY.out _ (by decide) hy])) (fun n62 a62 g62 => ?_)
    refine res_link (by decide) (by decide) g62 (fun hy a' hA h4 => HQ a' hA (by rw [h4, HY.out _ (by decide) hy])) (fun n63 a63 g63 => ?_)
    refine res_link (by decide) (by decide) g63 (fun hy a' hA h4 => HQ a' hA (by rw [h4, HY.out _ (by decide) hy])) (fun n64 a64 g64 => ?_)
    refine res_link (by decide) (by decide) g64 (fun hy a' hA h4 => HQ a' hA (by rw [h4, HY.out _ (by decide) hy])) (fun n65 a65 g65 => ?_)
    refine res_link (by decide) (by decide) g65 (fun hy a' hA h4 => HQ a' hA (by rw [h4, HY.out _ (by decide) hy])) (fun n66 a66 g66 => ?_)
    refine res_link (by decide) (by decide) g66 (fun hy a' hA h4 => HQ a' hA (by rw [h4, HY.out _ (by decide) hy])) (fun n67 a67 g67 => ?_)
    refine res_link (by decide) (by decide) g67 (fun hy a' hA h4 => HQ a' hA (by rw [h4, HY.out _ (by decide) hy])) (fun n68 a68 g68 => ?_)
    refine res_link (by decide) (by decide) g68 (fun hy a' hA h4 => HQ a' hA (by rw [h4, HY.out _ (by decide) hy])) (fun n69 a69 g69 => ?_)
    refine res_link (by decide) (by decide) g69 (fun hy a' hA h4 => HQ a' hA (by rw [h4, HY.out _ (by decide) hy])) (fun n70 a70 g70 => ?_)
    refine res_link (by decide) (by decide) g70 (fun hy a' hA h4 => HQ a' hA (by rw [h4, HY.out _ (by decide) hy])) (fun n71 a71 g71 => ?_)
    refine res_link (by decide) (by decide) g71 (fun hy a' hA h4 => HQ a' hA (by rw [h4, HY.out _ (by decide) hy])) (fun n72 a72 g72 => ?_)
    refine res_link (by decide) (by decide) g72 (fun hy a' hA h4 => HQ a' hA (by rw [h4, HY.out _ (by decide) hy])) (fun n73 a73 g73 => ?_)
    refine res_link (by decide) (by decide) g73 (fun hy a' hA h4 => HQ a' hA (by rw [h4, HY.out _ (by decide) hy])) (fun n74 a74 g74 => ?_)
    refine res_link (by decide) (by decide) g74 (fun hy a' hA h4 => HQ a' hA (by rw [h4, HY.out _ (by decide) hy])) (fun n75 a75 g75 => ?_)
    refine res_link (by decide) (by decide) g75 (fun hy a' hA h4 => HQ a' hA (by rw [h4, HY.out _ (by decide) hy])) (fun n76 a76 g76 => ?_)
    refine res_link (by decide) (by decide) g76 (fun hy a' hA h4 => HQ a' hA (by rw [h4, HY.out _ (by decide) hy])) (fun n77 a77 g77 => ?_)
    refine res_link (by decide) (by decide) g77 (fun hy a' hA h4 => HQ a' hA (by rw [h4, HY.out _ (by decide) hy])) (fun n78 a78 g78 => ?_)
    refine res_link (by decide) (by decide) g78 (fun hy a' hA h4 => HQ a' hA (by rw [h4, HY.out _ (by decide) hy])) (fun n79 a79 g79 => ?_)
    refine res_link (by decide) (by decide) g79 (fun hy a' hA h4 => HQ a' hA (by rw [h4, HY.out _ (by decide) hy])) (fun n80 a80 g80 => ?_)
    refine res_link (by decide) (by decide) g80 (fun hy a' hA h4 => HQ a' hA (by rw [h4, HY.out _ (by decide) hy])) (fun n81 a81 g81 => ?_)
    refine res_link (by decide) (by decide) g81 (fun hy a' hA h4 => HQ a' hA (by rw [h4, HY.out _ (by decide) hy])) (fun n82 a82 g82 => ?_)
    refine res_link (by decide) (by decide) g82 (fun hy a' hA h4 => HQ a' hA (by rw [h4, HY.out _ (by decide) hy])) (fun n83 a83 g83 => ?_)
    refine res_link (by decide) (by decide) g83 (fun hy a' hA h4 => HQ a' hA (by rw [h4, HY.out _ (by decide) hy])) (fun n84 a84 g84 => ?_)
    refine res_link (by decide) (by decide) g84 (fun hy a' hA h4 => HQ a' hA (by rw [h4, HY.out _ (by decide) hy])) (fun n85 a85 g85 => ?_)
    refine res_link (by decide) (by decide) g85 (fun hy a' hA h4 => HQ a' hA (by rw [h4, HY.out _ (by decide) hy])) (fun n86 a86 g86 => ?_)
    refine res_link (by decide) (by decide) g86 (fun hy a' hA h4 => HQ a' hA (by rw [h4, HY.out _ (by decide) hy])) (fun n87 a87 g87 => ?_)
    refine res_link (by decide) (by decide) g87 (fun hy a' hA h4 => HQ a' hA (by rw [h4, HY.out _ (by decide) hy])) (fun n88 a88 g88 => ?_)
    refine res_link (by decide) (by decide) g88 (fun hy a' hA h4 => HQ a' hA (by rw [h4, HY.out _ (by decide) hy])) (fun n89 a89 g89 => ?_)
    refine res_link (by decide) (by decide) g89 (fun hy a' hA h4 => HQ a' hA (by rw [h4, HY.out _ (by decide) hy])) (fun n90 a90 g90 => ?_)
    refine res_link (by decide) (by decide) g90 (fun hy a' hA h4 => HQ a' hA (by rw [h4, HY.out _ (by decide) hy])) (fun n91 a91 g91 => ?_)
    refine res_link (by decide) (by decide) g91 (fun hy a' hA h4 => HQ a' hA (by rw [h4, HY.out _ (by decide) hy])) (fun n92 a92 g92 => ?_)
    refine res_link (by decide) (by decide) g92 (fun hy a' hA h4 => HQ a' hA (by rw [h4, HY.out _ (by decide) hy])) (fun n93 a93 g93 => ?_)
    refine res_link (by decide) (by decide) g93 (fun hy a' hA h4 => HQ a' hA (by rw [h4, HY.out _ (by decide) hy])) (fun n94 a94 g94 => ?_)
    refine res_link (by decide) (by decide) g94 (fun hy a' hA h4 => HQ a' hA (by rw [h4, HY.out _ (by decide) hy])) (fun n95 a95 g95 => ?_)
    refine res_link (by decide) (by decide) g95 (fun hy a' hA h4 => HQ a' hA (by rw [h4, HY.out _ (by decide) hy])) (fun n96 a96 g96 => ?_)
    refine res_link (by decide) (by decide) g96 (fun hy a' hA h4 => HQ a' hA (by rw [h4, HY.out _ (by decide) hy])) (fun n97 a97 g97 => ?_)
    refine res_link (by decide) (by decide) g97 (fun hy a' hA h4 => HQ a' hA (by rw [h4, HY.out _ (by decide) hy])) (fun n98 a98 g98 => ?_)
    refine res_link (by decide) (by decide) g98 (fun hy a' hA h4 => HQ a' hA (by rw [h4, HY.out _ (by decide) hy])) (fun n99 a99 g99 => ?_)
    refine res_link (by decide) (by decide) g99 (fun hy a' hA h4 => HQ a' hA (by rw [h4, HY.out _ (by decide) hy])) (fun n100 a100 g100 => ?_)
    refine res_link (by decide) (by decide) g100 (fun hy a' hA h4 => HQ a' hA (by rw [h4, HY.out _ (by decide) hy])) (fun n101 a101 g101 => ?_)
    refine res_region (by decide) (by decide) g101 ?_
    intro a' hA h4
    refine HQ a' hA ?_
    rw [h4, hR]
    simp only [resL, List.contains, List.elem, n1, n2, n3, n4, n5, n6, n7, n8, n9, n10, n11, n12, n13, n14, n15, n16, n17, n18, n19, n20, n21, n22, n23, n24, n25, n26, n27, n28, n29, n30, n31, n32, n33, n34, n35, n36, n37, n38, n39, n40, n41, n42, n43, n44, n45, n46, n47, n48, n49, n50, n51, n52, n53, n54, n55, n56, n57, n58, n59, n60, n61, n62, n63, n64, n65, n66, n67, n68, n69, n70, n71, n72, n73, n74, n75, n76, n77, n78, n79, n80, n81, n82, n83, n84, n85, n86, n87, n88, n89, n90, n91, n92, n93, n94, n95, n96, n97, n98, n99, n100, n101]
    cases hb : word.data.toList == _ <;> rfl
  · intro a' hA h4
    cases R with
    | true =>
      refine wp_cond_true h4 (wp_seq (wp_region_lit (l := [_]) (wpList_plain rfl (fun K hK => ?_))))
      have g2 := hA.get 2 (.bool true) (by decide)
      have gd := (hA.put 2 (.bool true) (by decide)).d
      unfold Oper.wp
      simp [execOp, go_sem, Result.andThen]
      refine hK _ _ (wpList_nil (wp_ret ?_))
      show bodyPost Tryz.prog Tryz.f81 (fun e w' => e = .returned (.bool true) ∧ w' = w) .ret _ _
      exact bodyPost_ret (v := .bool true) (by rw [results_tmp (t := 2) rfl]; exact congrArg (Result.ok · w) g2) gd ⟨rfl, rfl⟩
    | false =>
      refine wp_cond_false h4 (wp_skip ?_)
      refine hK0 a' w (wp_seq (wp_region_lit (l := [_]) (wpList_plain rfl (fun K hK => ?_))))
      have g2 := hA.get 2 (.bool false) (by decide)
      have gd := (hA.put 2 (.bool false) (by decide)).d
      unfold Oper.wp
      simp [execOp, go_sem, Result.andThen]
      refine hK _ _ (wpList_nil (wp_ret ?_))
      show bodyPost Tryz.prog Tryz.f81 (fun e w' => e = .returned (.bool false) ∧ w' = w) .ret _ _
      exact bodyPost_ret (v := .bool false) (by rw [results_tmp (t := 2) rfl]; exact congrArg (Result.ok · w) g2) gd ⟨rfl, rfl⟩
end Go.Proofs.YtaenpacfbheppaaGreatDoor

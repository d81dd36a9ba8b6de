/- How the document reads statements off their tokens; that it comes to what the program comes to (pure). -/
import Derived.Test.YtaenpacfbheppaaGreatDoorM14A
set_option maxHeartbeats 16000000
set_option maxRecDepth 100000
set_option linter.unusedVariables false
set_option linter.unusedSimpArgs false
namespace Go.Proofs.YtaenpacfbheppaaGreatDoor

def jnD (ts : List Tok) : Option (Option (List UInt8) × List Tok) :=
  if tkB [[99, 114, 111, 115, 115]] ts then match needF [[106, 111, 105, 110]] (tkR [[99, 114, 111, 115, 115]] ts) with
    | none => none
    | some r => some (some [99, 114, 111, 115, 115], r)
  else match oneF 0 [[108, 101, 102, 116], [114, 105, 103, 104, 116], [102, 117, 108, 108]] ts with
    | some (s, r) => (match needF [[106, 111, 105, 110]] (tkR [[111, 117, 116, 101, 114]] r) with
      | none => none
      | some r2 => some (some s, r2))
    | none => if tkB [[105, 110, 110, 101, 114]] ts then match needF [[106, 111, 105, 110]] (tkR [[105, 110, 110, 101, 114]] ts) with
        | none => none
        | some r => some (some [105, 110, 110, 101, 114], r)
      else if tkB [[106, 111, 105, 110]] ts then some (some [105, 110, 110, 101, 114], tkR [[106, 111, 105, 110]] ts)
      else some (none, ts)
variable (R : Rc)
def tbD : Nat → Tr → List Tok → Option (Tr × List Tok)
  | 0, _, _ => none
  | n + 1, a, ts => match jnD ts with
    | none => none
    | some (none, r) => some (a, r)
    | some (some op, r) => match jdF R r with
      | none => none
      | some (x, r2) => if op == [99, 114, 111, 115, 115] then tbD n (nd op [] [a, x]) r2
        else match needF [[111, 110]] r2 with
          | none => none
          | some r3 => match R.expr r3 with
            | none => none
            | some (e, r4) => tbD n (nd op [] [a, x, e]) r4
def tabD (ts : List Tok) : Option (Tr × List Tok) := match jdF R ts with
  | none => none
  | some (x, r) => tbD R (r.length + 1) x r
def groupD (ts : List Tok) : Option (Tr × List Tok) :=
  if tkB [[103, 114, 111, 117, 112]] ts then match needF [[98, 121]] (tkR [[103, 114, 111, 117, 112]] ts) with
    | none => none
    | some r => match lsF colF r with
      | none => none
      | some (l, r) => some (nd [103, 114, 111, 117, 112] [] l, r)
  else some (nd [103, 114, 111, 117, 112] [] [], ts)
def selD (ts : List Tok) : Option (Tr × List Tok) := match lsF (itmF R) (distF ts).2 with
  | none => none
  | some (items, r) => match needF [[102, 114, 111, 109]] r with
    | none => none
    | some r2 => match lsF (tabD R) r2 with
      | none => none
      | some (from_, r3) => match clsF R [119, 104, 101, 114, 101] r3 with
        | none => none
        | some (wh, r4) => match groupD r4 with
          | none => none
          | some (g, r5) => match clsF R [104, 97, 118, 105, 110, 103] r5 with
            | none => none
            | some (h, r6) => some (.mk [115, 101, 108, 101, 99, 116] [] (distF ts).1 [nd [105, 116, 101, 109, 115] [] items, nd [102, 114, 111, 109] [] from_, wh, g, h], r6)
def simD (ts : List Tok) : Option (Tr × List Tok) :=
  if sdB 0 3 [40] ts then parF R.body ts
  else match needF [[115, 101, 108, 101, 99, 116]] ts with
    | none => none
    | some r => selD R r
def trmD (ts : List Tok) : Option (Tr × List Tok) := chF (simD R) (setLk [[105, 110, 116, 101, 114, 115, 101, 99, 116]]) ts
def bodD (ts : List Tok) : Option (Tr × List Tok) := chF (trmD R) (setLk [[117, 110, 105, 111, 110], [101, 120, 99, 101, 112, 116]]) ts
def recsD : Nat → Rc
  | 0 => ⟨fun _ => none, fun _ => none, fun _ => none, fun _ => none, fun _ => none⟩
  | n + 1 => ⟨exprF (recsD n), bodD (recsD n), negF (recsD n), facF (recsD n), tabD (recsD n)⟩
def qryD (ts : List Tok) : Option (Tr × List Tok) := match R.body ts with
  | none => none
  | some (b, r) => if tkB [[111, 114, 100, 101, 114]] r then match needF [[98, 121]] (tkR [[111, 114, 100, 101, 114]] r) with
      | none => none
      | some r1 => match lsF keyF r1 with
        | none => none
        | some (l, r2) => some (nd [113, 117, 101, 114, 121] [] [b, nd [111, 114, 100, 101, 114] [] l], r2)
    else some (nd [113, 117, 101, 114, 121] [] [b, nd [111, 114, 100, 101, 114] [] []], r)
def optD (ts : List Tok) : Option (Option Tr × List Tok) :=
  if tkB [[110, 111, 116]] ts then match needF [[110, 117, 108, 108]] (tkR [[110, 111, 116]] ts) with
    | none => none
    | some r => some (some (nd [110, 111, 116, 110, 117, 108, 108] [] []), r)
  else if tkB [[112, 114, 105, 109, 97, 114, 121]] ts then match needF [[107, 101, 121]] (tkR [[112, 114, 105, 109, 97, 114, 121]] ts) with
    | none => none
    | some r => some (some (nd [112, 114, 105, 109, 97, 114, 121] [] []), r)
  else if tkB [[117, 110, 105, 113, 117, 101]] ts then some (some (nd [117, 110, 105, 113, 117, 101] [] []), tkR [[117, 110, 105, 113, 117, 101]] ts)
  else if tkB [[99, 104, 101, 99, 107]] ts then match chkF R (tkR [[99, 104, 101, 99, 107]] ts) with
    | none => none
    | some (t, r) => some (some t, r)
  else if tkB [[114, 101, 102, 101, 114, 101, 110, 99, 101, 115]] ts then match nameF (tkR [[114, 101, 102, 101, 114, 101, 110, 99, 101, 115]] ts) with
    | none => none
    | some (s, r) => some (some (nd [114, 101, 102, 101, 114, 101, 110, 99, 101, 115] s []), r)
  else some (none, ts)
def opD : Nat → List Tr → List Tok → Option (List Tr × List Tok)
  | 0, _, _ => none
  | n + 1, a, ts => match optD R ts with
    | none => none
    | some (none, r) => some (a, r)
    | some (some t, r) => opD n (a ++ [t]) r
def cofD (ts : List Tok) : Option (Tr × List Tok) := match nameF ts with
  | none => none
  | some (s, r) => match typF r with
    | none => none
    | some (t, r2) => match opD R (r2.length + 1) [t] r2 with
      | none => none
      | some (l, r3) => some (nd [99, 111, 108, 117, 109, 110] s l, r3)
def eleD (ts : List Tok) : Option (Tr × List Tok) :=
  if tkB [[112, 114, 105, 109, 97, 114, 121]] ts then match needF [[107, 101, 121]] (tkR [[112, 114, 105, 109, 97, 114, 121]] ts) with
    | none => none
    | some r1 => match namesF r1 with
      | none => none
      | some (l, r) => some (nd [112, 114, 105, 109, 97, 114, 121] [] l, r)
  else if tkB [[117, 110, 105, 113, 117, 101]] ts then match namesF (tkR [[117, 110, 105, 113, 117, 101]] ts) with
    | none => none
    | some (l, r) => some (nd [117, 110, 105, 113, 117, 101] [] l, r)
  else if tkB [[99, 104, 101, 99, 107]] ts then chkF R (tkR [[99, 104, 101, 99, 107]] ts)
  else if tkB [[102, 111, 114, 101, 105, 103, 110]] ts then match needF [[107, 101, 121]] (tkR [[102, 111, 114, 101, 105, 103, 110]] ts) with
    | none => none
    | some r1 => match namesF r1 with
      | none => none
      | some (l, r) => match needF [[114, 101, 102, 101, 114, 101, 110, 99, 101, 115]] r with
        | none => none
        | some r2 => match nameF r2 with
          | none => none
          | some (s, r3) => some (nd [102, 111, 114, 101, 105, 103, 110] s l, r3)
  else cofD R ts
def crtD (ts : List Tok) : Option (Tr × List Tok) := match nameF ts with
  | none => none
  | some (s, r) => match parF (lsF (eleD R)) r with
    | none => none
    | some (l, r2) => some (nd [99, 114, 101, 97, 116, 101, 32, 116, 97, 98, 108, 101] s l, r2)
def purD (ts : List Tok) : Option (Tr × List Tok) :=
  if tkB [[102, 111, 114]] ts then (if tkB [[114, 101, 97, 100]] (tkR [[102, 111, 114]] ts) then match needF [[111, 110, 108, 121]] (tkR [[114, 101, 97, 100]] (tkR [[102, 111, 114]] ts)) with
      | none => none
      | some r => some (nd [102, 111, 114] [114, 101, 97, 100, 32, 111, 110, 108, 121] [], r)
    else match needF [[117, 112, 100, 97, 116, 101]] (tkR [[102, 111, 114]] ts) with
      | none => none
      | some r => some (nd [102, 111, 114] [117, 112, 100, 97, 116, 101] [], r))
  else some (nd [102, 111, 114] [] [], ts)
def decD (ts : List Tok) : Option (Tr × List Tok) := match nameF ts with
  | none => none
  | some (s, r) => match needF [[99, 117, 114, 115, 111, 114]] (tkR [[115, 99, 114, 111, 108, 108]] r) with
    | none => none
    | some r1 => match needF [[102, 111, 114]] r1 with
      | none => none
      | some r2 => match qryD R r2 with
        | none => none
        | some (q, r3) => match purD r3 with
          | none => none
          | some (p, r4) => some (.mk [100, 101, 99, 108, 97, 114, 101] s (if tkB [[115, 99, 114, 111, 108, 108]] r then 1 else 0) [q, p], r4)
def Stk (ws : List (List UInt8)) (ts : List Tok) : Prop := ∃ t r, ts = t :: r ∧ t.k = 0 ∧ t.s ∈ ws
def Rl {α : Type} (ws : List (List UInt8)) (o o' : Option (α × List Tok)) : Prop := o = o' ∨ (o = none ∧ ∃ x r, o' = some (x, r) ∧ Stk ws r)
theorem Stk.mono {ws vs : List (List UInt8)} {ts : List Tok} (h : Stk ws ts) (hs : ∀ x ∈ ws, x ∈ vs) : Stk vs ts := by
  obtain ⟨t, r, e, hk, hm⟩ := h
  exact ⟨t, r, e, hk, hs _ hm⟩
theorem Rl.mono {α : Type} {ws vs : List (List UInt8)} {o o' : Option (α × List Tok)} (h : Rl ws o o') (hs : ∀ x ∈ ws, x ∈ vs) : Rl vs o o' := by
  rcases h with h | ⟨h, x, r, e, hr⟩
  · exact Or.inl h
  · exact Or.inr ⟨h, x, r, e, hr.mono hs⟩
theorem Stk.tkB {ws : List (List UInt8)} {ts : List Tok} (h : Stk ws ts) {v : List UInt8} (vs : List (List UInt8)) (hv : ws.contains v = false) : Go.Proofs.YtaenpacfbheppaaGreatDoor.tkB (v :: vs) ts = false := by
  obtain ⟨t, r, rfl, hk, hm⟩ := h
  have : (t.s == v) = false := by
    rw [beq_eq_false_iff_ne]
    rintro rfl
    rw [List.contains_iff_mem.2 hm] at hv
    cases hv
  simp [Go.Proofs.YtaenpacfbheppaaGreatDoor.tkB, this]
theorem Stk.tkR {ws : List (List UInt8)} {ts : List Tok} (h : Stk ws ts) {v : List UInt8} (vs : List (List UInt8)) (hv : ws.contains v = false) : Go.Proofs.YtaenpacfbheppaaGreatDoor.tkR (v :: vs) ts = ts := by
  unfold Go.Proofs.YtaenpacfbheppaaGreatDoor.tkR
  rw [h.tkB vs hv]; rfl
theorem Stk.sg {ws : List (List UInt8)} {ts : List Tok} (h : Stk ws ts) (s : List UInt8) : sgF s ts = none := by
  obtain ⟨t, r, rfl, hk, hm⟩ := h
  unfold sgF oneF
  simp [hk]
theorem Stk.one {ws : List (List UInt8)} {ts : List Tok} (h : Stk ws ts) {of : List (List UInt8)} (ho : (ws.all fun w => !of.contains w) = true) : oneF 0 of ts = none := by
  obtain ⟨t, r, rfl, hk, hm⟩ := h
  have := List.all_eq_true.1 ho _ hm
  unfold oneF
  simp only [Bool.not_eq_true'] at this
  simp only [hk, this, Bool.and_false, Bool.false_eq_true, if_false]
theorem parF_rl {ws : List (List UInt8)} {α : Type} {I I' : Ps α} (h : ∀ ts, Rl ws (I ts) (I' ts)) : parF I = parF I' := by
  funext ts
  unfold parF
  cases h1 : sgF [40] ts with
  | none => rfl
  | some p =>
    obtain ⟨_, r⟩ := p
    simp only
    rcases h r with e | ⟨e, x, r2, e', hs⟩
    · rw [e]
    · simp only [e, e', hs.sg]
theorem lsN_stop {ws : List (List UInt8)} {I : Ps Tr} {ts : List Tok} (hs : Stk ws ts) (n : Nat) (a : List Tr) : lsN I (n + 1) a ts = some (a, ts) := by unfold lsN; simp only [hs.sg]
theorem chN_stop {I : Ps Tr} {K : Lk} {ts : List Tok} (hs : K ts = none) (n : Nat) (a : Tr) : chN I K (n + 1) a ts = some (a, ts) := by unfold chN; simp only [hs]
theorem lsN_rl {ws : List (List UInt8)} {I I' : Ps Tr} (h : ∀ ts, Rl ws (I ts) (I' ts)) : ∀ (n : Nat) (a : List Tr) (ts : List Tok), Rl ws (lsN I n a ts) (lsN I' n a ts)
  | 0, a, ts => Or.inl rfl
  | n + 1, a, ts => by
    unfold lsN
    cases h1 : sgF [44] ts with
    | none => exact Or.inl rfl
    | some p =>
      obtain ⟨_, r⟩ := p
      simp only
      rcases h r with e | ⟨e, x, r2, e', hs⟩
      · rw [e]
        cases I' r with
        | none => exact Or.inl rfl
        | some q => exact lsN_rl h n _ _
      · simp only [e, e']
        cases n with
        | zero => exact Or.inl rfl
        | succ n => exact Or.inr ⟨rfl, _, r2, lsN_stop hs _ _, hs⟩
theorem lsF_rl {ws : List (List UInt8)} {I I' : Ps Tr} (h : ∀ ts, Rl ws (I ts) (I' ts)) (ts : List Tok) : Rl ws (lsF I ts) (lsF I' ts) := by
  unfold lsF
  rcases h ts with e | ⟨e, x, r2, e', hs⟩
  · rw [e]
    cases I' ts with
    | none => exact Or.inl rfl
    | some q => exact lsN_rl h _ _ _
  · simp only [e, e']
    exact Or.inr ⟨rfl, _, r2, lsN_stop hs _ _, hs⟩
theorem chN_rl {ws : List (List UInt8)} {I I' : Ps Tr} {K : Lk} (h : ∀ ts, Rl ws (I ts) (I' ts)) (hK : ∀ ts, Stk ws ts → K ts = none) : ∀ (n : Nat) (a : Tr) (ts : List Tok), Rl ws (chN I K n a ts) (chN I' K n a ts)
  | 0, a, ts => Or.inl rfl
  | n + 1, a, ts => by
    unfold chN
    cases h1 : K ts with
    | none => exact Or.inl rfl
    | some p =>
      obtain ⟨⟨op, m⟩, r⟩ := p
      simp only
      rcases h r with e | ⟨e, x, r2, e', hs⟩
      · rw [e]
        cases I' r with
        | none => exact Or.inl rfl
        | some q => exact chN_rl h hK n _ _
      · simp only [e, e']
        cases n with
        | zero => exact Or.inl rfl
        | succ n => exact Or.inr ⟨rfl, _, r2, chN_stop (hK _ hs) _ _, hs⟩
theorem chF_rl {ws : List (List UInt8)} {I I' : Ps Tr} {K : Lk} (h : ∀ ts, Rl ws (I ts) (I' ts)) (hK : ∀ ts, Stk ws ts → K ts = none) (ts : List Tok) : Rl ws (chF I K ts) (chF I' K ts) := by
  unfold chF
  rcases h ts with e | ⟨e, x, r2, e', hs⟩
  · rw [e]
    cases I' ts with
    | none => exact Or.inl rfl
    | some q => exact chN_rl h hK _ _ _
  · simp only [e, e']
    exact Or.inr ⟨rfl, _, r2, chN_stop (hK _ hs) _ _, hs⟩
theorem tk1 (w : List UInt8) (ts : List Tok) : tkB [w] ts = true ↔ ∃ t r, ts = t :: r ∧ t.k = 0 ∧ t.s = w := by
  cases ts with
  | nil => simp [tkB]
  | cons t r => simp [tkB]
theorem tk2 (w v : List UInt8) (t : Tok) (r : List Tok) : tkB [w, v] (t :: r) = (tkB [w] (t :: r) && tkB [v] r) := by simp [tkB]
theorem tkR1 {w : List UInt8} {t : Tok} {r : List Tok} (h : tkB [w] (t :: r) = true) : tkR [w] (t :: r) = r := by
  unfold tkR; rw [h]; rfl
theorem tkR2 {w v : List UInt8} {t : Tok} {r : List Tok} (h : tkB [w] (t :: r) = true) (h2 : tkB [v] r = true) : tkR [w, v] (t :: r) = tkR [v] r := by
  unfold tkR
  rw [tk2, h, h2]
  cases r with
  | nil => simp [tkB] at h2
  | cons t' r' => rfl
theorem need1 (v : List UInt8) (r : List Tok) : needF [v] r = if tkB [v] r then some (tkR [v] r) else none := rfl
theorem two_words (w v : List UInt8) (ts : List Tok) : (tkB [w] ts = false ∧ tkB [w, v] ts = false) ∨ (tkB [w] ts = true ∧ tkB [w, v] ts = true ∧ needF [v] (tkR [w] ts) = some (tkR [w, v] ts)) ∨ (tkB [w] ts = true ∧ tkB [w, v] ts = false ∧ needF [v] (tkR [w] ts) = none ∧ Stk [w] ts) := by
  cases ts with
  | nil => left; simp [tkB]
  | cons t r =>
    cases h1 : tkB [w] (t :: r) with
    | false => left; refine ⟨rfl, ?_⟩; rw [tk2, h1]; rfl
    | true =>
      cases h2 : tkB [v] r with
      | true =>
        right; left
        refine ⟨rfl, by rw [tk2, h1, h2]; rfl, ?_⟩
        rw [need1, tkR1 h1, h2, if_pos rfl, tkR2 h1 h2]
      | false =>
        right; right
        refine ⟨rfl, by rw [tk2, h1, h2]; rfl, by rw [need1, tkR1 h1, h2]; rfl, ?_⟩
        obtain ⟨t', r', e, hk, hs⟩ := (tk1 w _).1 h1
        exact ⟨t', r', e, hk, by simp [hs]⟩
theorem jn_rl (ts : List Tok) : jnD ts = jnF ts ∨ (jnD ts = none ∧ jnF ts = some (none, ts) ∧ Stk [[99, 114, 111, 115, 115], [105, 110, 110, 101, 114]] ts) := by
  unfold jnD jnF
  rcases two_words [99, 114, 111, 115, 115] [106, 111, 105, 110] ts with ⟨h1, h2⟩ | ⟨h1, h2, h3⟩ | ⟨h1, h2, h3, hs⟩
  · rw [h1, h2]
    simp only [Bool.false_eq_true, if_false]
    rcases two_words [105, 110, 110, 101, 114] [106, 111, 105, 110] ts with ⟨g1, g2⟩ | ⟨g1, g2, g3⟩ | ⟨g1, g2, g3, hs⟩
    · rw [g1, g2]
      simp only [Bool.false_eq_true, if_false]
      cases hj : tkB [[106, 111, 105, 110]] ts with
      | true =>
        obtain ⟨t, r, rfl, hk, hw⟩ := (tk1 _ _).1 hj
        have ho : oneF 0 [[108, 101, 102, 116], [114, 105, 103, 104, 116], [102, 117, 108, 108]] (t :: r) = none := by
          unfold oneF
          simp only [hk, hw]
          rfl
        rw [ho]; exact Or.inl rfl
      | false =>
        left
        simp only [Bool.false_eq_true, if_false]
        cases oneF 0 [[108, 101, 102, 116], [114, 105, 103, 104, 116], [102, 117, 108, 108]] ts with
        | none => rfl
        | some p => rfl
    · have hi : Stk [[105, 110, 110, 101, 114]] ts := by
        obtain ⟨t, r, e, hk, hw⟩ := (tk1 _ _).1 g1
        exact ⟨t, r, e, hk, by simp [hw]⟩
      rw [g1, g2, g3, hi.tkB [] (by decide), hi.one (by decide)]
      exact Or.inl rfl
    · rw [g1, g2, g3, hs.tkB [] (by decide), hs.one (by decide)]
      exact Or.inr ⟨rfl, rfl, hs.mono (by simp)⟩
  · rw [h1, h2, h3]
    exact Or.inl rfl
  · rw [h1, h2, h3, hs.tkB (v := [106, 111, 105, 110]) [] (by decide), hs.tkB (v := [105, 110, 110, 101, 114]) [[106, 111, 105, 110]] (by decide), hs.one (by decide)]
    exact Or.inr ⟨rfl, rfl, hs.mono (by simp)⟩
end Go.Proofs.YtaenpacfbheppaaGreatDoor
namespace Go.Proofs.YtaenpacfbheppaaGreatDoor

abbrev wA : List (List UInt8) := [[99, 114, 111, 115, 115], [105, 110, 110, 101, 114]]
abbrev wB : List (List UInt8) := [[99, 114, 111, 115, 115], [105, 110, 110, 101, 114], [103, 114, 111, 117, 112]]
abbrev wC : List (List UInt8) := [[99, 114, 111, 115, 115], [105, 110, 110, 101, 114], [103, 114, 111, 117, 112], [111, 114, 100, 101, 114]]
abbrev wD : List (List UInt8) := [[99, 114, 111, 115, 115], [105, 110, 110, 101, 114], [103, 114, 111, 117, 112], [111, 114, 100, 101, 114], [102, 111, 114]]
abbrev wO : List (List UInt8) := [[110, 111, 116], [112, 114, 105, 109, 97, 114, 121]]
structure RcRl (R R' : Rc) : Prop where
  expr : R.expr = R'.expr
  neg : R.neg = R'.neg
  fac : R.fac = R'.fac
  body : ∀ ts, Rl wB (R.body ts) (R'.body ts)
  tab : ∀ ts, Rl wA (R.tab ts) (R'.tab ts)
section
variable {R R' : Rc} (h : RcRl R R')
include h
theorem RcRl.pb : parF R.body = parF R'.body := parF_rl h.body
theorem RcRl.pt : parF R.tab = parF R'.tab := parF_rl h.tab
theorem whenF_c : whenF R = whenF R' := by funext of ts; unfold whenF; rw [h.expr]
theorem whN_c (of : Option Tr) : ∀ (n : Nat) (a : List Tr) (ts : List Tok), whN R of n a ts = whN R' of n a ts
  | 0, _, _ => rfl
  | n + 1, a, ts => by
    unfold whN
    rw [whenF_c h]
    split
    · cases whenF R' of ts with
      | none => rfl
      | some p => exact whN_c of n _ _
    · rfl
theorem caseWhF_c : caseWhF R = caseWhF R' := by
  funext of ts
  unfold caseWhF
  rw [whenF_c h, h.expr]
  cases whenF R' of ts with
  | none => rfl
  | some p => simp only [whN_c h]
theorem caseF_c : caseF R = caseF R' := by funext ts; unfold caseF; rw [caseWhF_c h, h.expr]
theorem castF_c : castF R = castF R' := by funext ts; unfold castF; rw [h.expr]
theorem nullifF_c : nullifF R = nullifF R' := by funext ts; unfold nullifF; rw [h.expr]
theorem totE_c : totE R = totE R' := by funext op ts; unfold totE; rw [h.expr]
theorem totF_c : totF R = totF R' := by funext op ts; unfold totF; rw [totE_c h]
theorem wopF_c : wopF R = wopF R' := by funext ts; unfold wopF; rw [h.pb, caseF_c h, castF_c h, nullifF_c h, totF_c h, h.expr]
theorem oprF_c : oprF R = oprF R' := by funext ts; unfold oprF; rw [h.pb, wopF_c h, h.expr]
theorem facF_c : facF R = facF R' := by funext ts; unfold facF; rw [h.fac, oprF_c h]
theorem proF_c : proF R = proF R' := by funext ts; unfold proF; rw [facF_c h]
theorem sumF_c : sumF R = sumF R' := by funext ts; unfold sumF; rw [proF_c h]
theorem anyF_c : cmpF.anyF R = cmpF.anyF R' := by funext s sg op ts; unfold cmpF.anyF; rw [h.pb]
theorem cmpF_c : cmpF R = cmpF R' := by funext s sg ts; unfold cmpF; rw [anyF_c h, sumF_c h]
theorem wtF_c : wtF R = wtF R' := by funext s ts; unfold wtF; rw [h.pb, sumF_c h, h.expr]
theorem tstF_c : tstF R = tstF R' := by funext ts; unfold tstF; rw [sumF_c h, cmpF_c h, wtF_c h]
theorem negF_c : negF R = negF R' := by funext ts; unfold negF; rw [h.neg, tstF_c h]
theorem conF_c : conF R = conF R' := by funext ts; unfold conF; rw [negF_c h]
theorem exprF_c : exprF R = exprF R' := by funext ts; unfold exprF; rw [conF_c h]
theorem clsF_c : clsF R = clsF R' := by funext w ts; unfold clsF; rw [h.expr]
theorem itmF_c : itmF R = itmF R' := by funext ts; unfold itmF; rw [h.expr]
theorem jdF_c : jdF R = jdF R' := by funext ts; unfold jdF; rw [h.pb, h.pt]
theorem chkF_c : chkF R = chkF R' := by funext ts; unfold chkF; rw [h.expr]
theorem rowF_c : rowF R = rowF R' := by funext ts; unfold rowF; rw [h.expr]
theorem setF_c : setF R = setF R' := by funext ts; unfold setF; rw [h.expr]
theorem whoF_c : whoF R = whoF R' := by funext ts; unfold whoF; rw [clsF_c h]
theorem updF_c : updF R = updF R' := by funext ts; unfold updF; rw [setF_c h, whoF_c h]
theorem delF_c : delF R = delF R' := by funext ts; unfold delF; rw [whoF_c h]
theorem tbD_rl : ∀ (n : Nat) (a : Tr) (ts : List Tok), Rl wA (tbD R n a ts) (tbN R' n a ts)
  | 0, _, _ => Or.inl rfl
  | n + 1, a, ts => by
    unfold tbD tbN
    rcases jn_rl ts with e | ⟨e, e', hs⟩
    · rw [e, jdF_c h, h.expr]
      cases jnF ts with
      | none => exact Or.inl rfl
      | some p =>
        obtain ⟨o, r⟩ := p
        cases o with
        | none => exact Or.inl rfl
        | some op =>
          simp only
          cases jdF R' r with
          | none => exact Or.inl rfl
          | some p =>
            obtain ⟨x, r2⟩ := p
            simp only
            split
            · exact tbD_rl n _ _
            · cases needF [[111, 110]] r2 with
              | none => exact Or.inl rfl
              | some r3 =>
                simp only
                cases R'.expr r3 with
                | none => exact Or.inl rfl
                | some p => exact tbD_rl n _ _
    · rw [e, e']
      exact Or.inr ⟨rfl, _, _, rfl, hs⟩
theorem tabD_rl (ts : List Tok) : Rl wA (tabD R ts) (tabF R' ts) := by
  unfold tabD tabF
  rw [jdF_c h]
  cases jdF R' ts with
  | none => exact Or.inl rfl
  | some p => exact tbD_rl h _ _ _
end
theorem group_rl (ts : List Tok) : Rl wB (groupD ts) (groupF ts) := by
  unfold groupD groupF
  rcases two_words [103, 114, 111, 117, 112] [98, 121] ts with ⟨h1, h2⟩ | ⟨h1, h2, h3⟩ | ⟨h1, h2, h3, hs⟩
  · rw [h1, h2]; exact Or.inl rfl
  · rw [h1, h2, h3]; exact Or.inl rfl
  · rw [h1, h2, h3]; exact Or.inr ⟨rfl, _, _, rfl, hs.mono (by simp)⟩
theorem groupF_stk {ws : List (List UInt8)} {ts : List Tok} (hs : Stk ws ts) (hw : ws.contains [103, 114, 111, 117, 112] = false) : groupF ts = some (nd [103, 114, 111, 117, 112] [] [], ts) := by
  unfold groupF
  rw [hs.tkB _ hw]; rfl
theorem clsF_stk (R : Rc) {ws : List (List UInt8)} {ts : List Tok} (hs : Stk ws ts) {w : List UInt8} (hw : ws.contains w = false) : clsF R w ts = some (nd w [] [], ts) := by
  unfold clsF
  rw [hs.tkB _ hw]; rfl
theorem setLk_stk {ws : List (List UInt8)} {of : List (List UInt8)} (ho : (ws.all fun w => !of.contains w) = true) (ts : List Tok) (hs : Stk ws ts) : setLk of ts = none := by
  unfold setLk
  rw [hs.one ho]
section
variable {R R' : Rc} (h : RcRl R R')
include h
theorem selD_rl (ts : List Tok) : Rl wB (selD R ts) (selF R' ts) := by
  unfold selD selF
  rw [itmF_c h, clsF_c h]
  cases lsF (itmF R') (distF ts).2 with
  | none => exact Or.inl rfl
  | some p =>
    obtain ⟨items, r⟩ := p
    simp only
    cases needF [[102, 114, 111, 109]] r with
    | none => exact Or.inl rfl
    | some r2 =>
      simp only
      rcases lsF_rl (tabD_rl h) r2 with e | ⟨e, x, r3, e', hs⟩
      · rw [e]
        cases lsF (tabF R') r2 with
        | none => exact Or.inl rfl
        | some p =>
          obtain ⟨f, r3⟩ := p
          simp only
          cases clsF R' [119, 104, 101, 114, 101] r3 with
          | none => exact Or.inl rfl
          | some p =>
            obtain ⟨wh, r4⟩ := p
            simp only
            rcases group_rl r4 with e | ⟨e, x, r5, e', hs⟩
            · rw [e]; exact Or.inl rfl
            · rw [e, e']
              simp only
              rw [clsF_stk R' hs (by decide)]
              exact Or.inr ⟨rfl, _, _, rfl, hs⟩
      · rw [e, e']
        simp only
        rw [clsF_stk R' hs (by decide)]
        simp only
        rw [groupF_stk hs (by decide)]
        simp only
        rw [clsF_stk R' hs (by decide)]
        exact Or.inr ⟨rfl, _, _, rfl, hs.mono (by simp)⟩
theorem simD_rl (ts : List Tok) : Rl wB (simD R ts) (simF R' ts) := by
  unfold simD simF
  rw [h.pb]
  split
  · exact Or.inl rfl
  · cases needF [[115, 101, 108, 101, 99, 116]] ts with
    | none => exact Or.inl rfl
    | some r => exact selD_rl h r
theorem trmD_rl (ts : List Tok) : Rl wB (trmD R ts) (trmF R' ts) := chF_rl (simD_rl h) (setLk_stk (by decide)) ts
theorem bodD_rl (ts : List Tok) : Rl wB (bodD R ts) (bodF R' ts) := chF_rl (trmD_rl h) (setLk_stk (by decide)) ts
end
theorem recs_rl : ∀ n, RcRl (recsD n) (recs n)
  | 0 => ⟨rfl, rfl, rfl, fun _ => Or.inl rfl, fun _ => Or.inl rfl⟩
  | n + 1 => by
    have h := recs_rl n
    exact ⟨exprF_c h, negF_c h, facF_c h, bodD_rl h, tabD_rl h⟩
section
variable {R R' : Rc} (h : RcRl R R')
include h
theorem qryD_rl (ts : List Tok) : Rl wC (qryD R ts) (qryF R' ts) := by
  unfold qryD qryF
  rcases h.body ts with e | ⟨e, x, r, e', hs⟩
  · rw [e]
    cases R'.body ts with
    | none => exact Or.inl rfl
    | some p =>
      obtain ⟨b, r⟩ := p
      simp only
      rcases two_words [111, 114, 100, 101, 114] [98, 121] r with ⟨h1, h2⟩ | ⟨h1, h2, h3⟩ | ⟨h1, h2, h3, hs⟩
      · rw [h1, h2]; exact Or.inl rfl
      · rw [h1, h2, h3]; exact Or.inl rfl
      · rw [h1, h2, h3]; exact Or.inr ⟨rfl, _, _, rfl, hs.mono (by simp)⟩
  · rw [e, e']
    simp only
    rw [hs.tkB [[98, 121]] (by decide)]
    exact Or.inr ⟨rfl, _, _, rfl, hs.mono (by simp)⟩
theorem optD_rl (ts : List Tok) : optD R ts = optF R' ts ∨ (optD R ts = none ∧ optF R' ts = some (none, ts) ∧ Stk wO ts) := by
  unfold optD optF
  rw [chkF_c h]
  rcases two_words [110, 111, 116] [110, 117, 108, 108] ts with ⟨h1, h2⟩ | ⟨h1, h2, h3⟩ | ⟨h1, h2, h3, hs⟩
  · rw [h1, h2]
    simp only [Bool.false_eq_true, if_false]
    rcases two_words [112, 114, 105, 109, 97, 114, 121] [107, 101, 121] ts with ⟨g1, g2⟩ | ⟨g1, g2, g3⟩ | ⟨g1, g2, g3, hs⟩
    · rw [g1, g2]; exact Or.inl rfl
    · rw [g1, g2, g3]; exact Or.inl rfl
    · rw [g1, g2, g3, hs.tkB [] (by decide), hs.tkB (v := [99, 104, 101, 99, 107]) [] (by decide), hs.tkB (v := [114, 101, 102, 101, 114, 101, 110, 99, 101, 115]) [] (by decide)]
      exact Or.inr ⟨rfl, rfl, hs.mono (by simp)⟩
  · rw [h1, h2, h3]; exact Or.inl rfl
  · rw [h1, h2, h3, hs.tkB (v := [112, 114, 105, 109, 97, 114, 121]) [[107, 101, 121]] (by decide), hs.tkB (v := [117, 110, 105, 113, 117, 101]) [] (by decide), hs.tkB (v := [99, 104, 101, 99, 107]) [] (by decide), hs.tkB (v := [114, 101, 102, 101, 114, 101, 110, 99, 101, 115]) [] (by decide)]
    exact Or.inr ⟨rfl, rfl, hs.mono (by simp)⟩
theorem opD_rl : ∀ (n : Nat) (a : List Tr) (ts : List Tok), Rl wO (opD R n a ts) (opN R' n a ts)
  | 0, _, _ => Or.inl rfl
  | n + 1, a, ts => by
    unfold opD opN
    rcases optD_rl h ts with e | ⟨e, e', hs⟩
    · rw [e]
      cases optF R' ts with
      | none => exact Or.inl rfl
      | some p =>
        obtain ⟨o, r⟩ := p
        cases o with
        | none => exact Or.inl rfl
        | some t => exact opD_rl n _ _
    · rw [e, e']
      exact Or.inr ⟨rfl, _, _, rfl, hs⟩
theorem cofD_rl (ts : List Tok) : Rl wO (cofD R ts) (cofF R' ts) := by
  unfold cofD cofF
  cases nameF ts with
  | none => exact Or.inl rfl
  | some p =>
    obtain ⟨s, r⟩ := p
    simp only
    cases typF r with
    | none => exact Or.inl rfl
    | some p =>
      obtain ⟨t, r2⟩ := p
      simp only
      rcases opD_rl h (r2.length + 1) [t] r2 with e | ⟨e, x, r3, e', hs⟩
      · rw [e]; exact Or.inl rfl
      · rw [e, e']; exact Or.inr ⟨rfl, _, _, rfl, hs⟩
omit h in
theorem cof_res {w : List UInt8} {ts : List Tok} (hs : Stk [w] ts) (hr : resL.contains w = true) : cofF R' ts = none := by
  obtain ⟨t, r, rfl, hk, hm⟩ := hs
  have hw : t.s = w := by simpa using hm
  have : nameF (t :: r) = none := by
    unfold nameF takF
    simp only [hk, hw, hr, beq_self_eq_true, if_true]
  unfold cofF
  rw [this]
theorem eleD_rl (ts : List Tok) : Rl wO (eleD R ts) (eleF R' ts) := by
  unfold eleD eleF
  rw [chkF_c h]
  rcases two_words [112, 114, 105, 109, 97, 114, 121] [107, 101, 121] ts with ⟨h1, h2⟩ | ⟨h1, h2, h3⟩ | ⟨h1, h2, h3, hs⟩
  · rw [h1, h2]
    simp only [Bool.false_eq_true, if_false]
    split
    · exact Or.inl rfl
    · split
      · exact Or.inl rfl
      · rcases two_words [102, 111, 114, 101, 105, 103, 110] [107, 101, 121] ts with ⟨g1, g2⟩ | ⟨g1, g2, g3⟩ | ⟨g1, g2, g3, hs⟩
        · rw [g1, g2]; exact cofD_rl h ts
        · rw [g1, g2, g3]; exact Or.inl rfl
        · rw [g1, g2, g3, cof_res hs (by decide)]; exact Or.inl rfl
  · rw [h1, h2, h3]; exact Or.inl rfl
  · rw [h1, h2, h3, hs.tkB (v := [117, 110, 105, 113, 117, 101]) [] (by decide), hs.tkB (v := [99, 104, 101, 99, 107]) [] (by decide), hs.tkB (v := [102, 111, 114, 101, 105, 103, 110]) [[107, 101, 121]] (by decide), cof_res hs (by decide)]
    exact Or.inl rfl
theorem crtD_c : crtD R = crtF R' := by
  funext ts
  unfold crtD crtF
  rw [parF_rl (lsF_rl (eleD_rl h))]
  rfl
end
end Go.Proofs.YtaenpacfbheppaaGreatDoor
namespace Go.Proofs.YtaenpacfbheppaaGreatDoor

section
variable (R : Rc)
def lvlD (ts : List Tok) : Option (Int × List Tok) :=
  if tkB [[114, 101, 97, 100]] ts then (if tkB [[117, 110, 99, 111, 109, 109, 105, 116, 116, 101, 100]] (tkR [[114, 101, 97, 100]] ts) then some (0, tkR [[117, 110, 99, 111, 109, 109, 105, 116, 116, 101, 100]] (tkR [[114, 101, 97, 100]] ts))
    else match needF [[99, 111, 109, 109, 105, 116, 116, 101, 100]] (tkR [[114, 101, 97, 100]] ts) with
      | none => none
      | some r => some (1, r))
  else if tkB [[114, 101, 112, 101, 97, 116, 97, 98, 108, 101]] ts then (match needF [[114, 101, 97, 100]] (tkR [[114, 101, 112, 101, 97, 116, 97, 98, 108, 101]] ts) with
    | none => none
    | some r => some (2, r))
  else match needF [[115, 101, 114, 105, 97, 108, 105, 122, 97, 98, 108, 101]] ts with
    | none => none
    | some r => some (3, r)
def creD (r : List Tok) : Option (Tr × List Tok) :=
  if tkB [[116, 97, 98, 108, 101]] r then crtD R (tkR [[116, 97, 98, 108, 101]] r)
  else match needF [[105, 110, 100, 101, 120]] (tkR [[117, 110, 105, 113, 117, 101]] r) with
    | none => none
    | some r2 => cixF (if tkB [[117, 110, 105, 113, 117, 101]] r then 1 else 0) r2
def drpD (r : List Tok) : Option (Tr × List Tok) :=
  if tkB [[116, 97, 98, 108, 101]] r then nmdF [100, 114, 111, 112, 32, 116, 97, 98, 108, 101] (tkR [[116, 97, 98, 108, 101]] r)
  else match needF [[105, 110, 100, 101, 120]] r with
    | none => none
    | some r2 => nmdF [100, 114, 111, 112, 32, 105, 110, 100, 101, 120] r2
def rolD (r : List Tok) : Option (Tr × List Tok) := if tkB [[116, 111]] r then savF [114, 111, 108, 108, 98, 97, 99, 107, 32, 116, 111] (tkR [[116, 111]] r) else some (nd [114, 111, 108, 108, 98, 97, 99, 107] [] [], r)
def isoD (r : List Tok) : Option (Tr × List Tok) := match needF [[116, 114, 97, 110, 115, 97, 99, 116, 105, 111, 110]] r with
  | none => none
  | some r1 => match needF [[105, 115, 111, 108, 97, 116, 105, 111, 110]] r1 with
    | none => none
    | some r2 => match needF [[108, 101, 118, 101, 108]] r2 with
      | none => none
      | some r3 => match lvlD r3 with
        | none => none
        | some (n, r4) => some (.mk [105, 115, 111, 108, 97, 116, 105, 111, 110] [] n [], r4)
def morD (w : List UInt8) (r : List Tok) : Option (Tr × List Tok) :=
  if w == [115, 101, 116] then isoD r
  else if w == [100, 101, 99, 108, 97, 114, 101] then decD R r
  else if w == [111, 112, 101, 110] then nmdF w r
  else if w == [99, 108, 111, 115, 101] then nmdF w r
  else if w == [102, 101, 116, 99, 104] then fetF r
  else none
def wrdD (w : List UInt8) (r : List Tok) : Option (Tr × List Tok) :=
  if w == [99, 114, 101, 97, 116, 101] then creD R r
  else if w == [100, 114, 111, 112] then drpD r
  else if w == [105, 110, 115, 101, 114, 116] then (match needF [[105, 110, 116, 111]] r with | none => none | some r2 => insF R r2)
  else if w == [117, 112, 100, 97, 116, 101] then updF R r
  else if w == [100, 101, 108, 101, 116, 101] then (match needF [[102, 114, 111, 109]] r with | none => none | some r2 => delF R r2)
  else if w == [99, 111, 109, 109, 105, 116] then some (nd [99, 111, 109, 109, 105, 116] [] [], r)
  else if w == [114, 111, 108, 108, 98, 97, 99, 107] then rolD r
  else if w == [115, 97, 118, 101, 112, 111, 105, 110, 116] then nmdF [115, 97, 118, 101, 112, 111, 105, 110, 116] r
  else if w == [114, 101, 108, 101, 97, 115, 101] then savF [114, 101, 108, 101, 97, 115, 101] r
  else morD R w r
def sttD (ts : List Tok) : Option (Tr × List Tok) :=
  if sdB 0 3 [40] ts || sdB 0 0 [115, 101, 108, 101, 99, 116] ts then qryD R ts
  else match takF 0 ts with
    | none => none
    | some (t, r) => wrdD R t.s r
def whlD (ts : List Tok) : Option Tr := match sttD R ts with
  | none => none
  | some (t, r) => if (match sgF [59] r with | none => r | some (_, r2) => r2) = [] then some t else none
end
theorem tkB_hd (w : List UInt8) (ws : List (List UInt8)) (t : Tok) (r : List Tok) : tkB (w :: ws) (t :: r) = (t.k == 0 && t.s == w && tkB ws r) := rfl
theorem lvl_eq (ts : List Tok) : lvlD ts = lvlF ts := by
  unfold lvlD lvlF
  rcases two_words [114, 101, 97, 100] [117, 110, 99, 111, 109, 109, 105, 116, 116, 101, 100] ts with ⟨h1, h2⟩ | ⟨h1, h2, h3⟩ | ⟨h1, h2, h3, hs⟩
  · rcases two_words [114, 101, 97, 100] [99, 111, 109, 109, 105, 116, 116, 101, 100] ts with ⟨g1, g2⟩ | ⟨g1, g2, g3⟩ | ⟨g1, g2, g3, gs⟩
    · rw [h1, h2, g2]
      simp only [Bool.false_eq_true, if_false]
      rcases two_words [114, 101, 112, 101, 97, 116, 97, 98, 108, 101] [114, 101, 97, 100] ts with ⟨k1, k2⟩ | ⟨k1, k2, k3⟩ | ⟨k1, k2, k3, ks⟩
      · rw [k1, k2]; rfl
      · rw [k1, k2, k3]; rfl
      · rw [k1, k2, k3]
        have : needF [[115, 101, 114, 105, 97, 108, 105, 122, 97, 98, 108, 101]] ts = none := by rw [need1, ks.tkB [] (by decide)]; rfl
        rw [this]; rfl
    · rw [h1] at g1; cases g1
    · rw [h1] at g1; cases g1
  · rw [h1, h2]
    have hu : tkB [[117, 110, 99, 111, 109, 109, 105, 116, 116, 101, 100]] (tkR [[114, 101, 97, 100]] ts) = true := by
      rw [need1] at h3
      split at h3
      · assumption
      · cases h3
    rw [need1, hu, if_pos rfl] at h3
    rw [hu, if_pos rfl, if_pos rfl, if_pos rfl, Option.some.inj h3]
  · have hu : tkB [[117, 110, 99, 111, 109, 109, 105, 116, 116, 101, 100]] (tkR [[114, 101, 97, 100]] ts) = false := by
      rw [need1] at h3
      split at h3
      · cases h3
      · rename_i hn; simpa using hn
    rcases two_words [114, 101, 97, 100] [99, 111, 109, 109, 105, 116, 116, 101, 100] ts with ⟨g1, g2⟩ | ⟨g1, g2, g3⟩ | ⟨g1, g2, g3, gs⟩
    · rw [h1] at g1; cases g1
    · rw [h1, h2, hu, g2, g3]; rfl
    · rw [h1, h2, hu, g2, g3, hs.tkB [[114, 101, 97, 100]] (by decide)]
      have : needF [[115, 101, 114, 105, 97, 108, 105, 122, 97, 98, 108, 101]] ts = none := by rw [need1, hs.tkB [] (by decide)]; rfl
      rw [this]; rfl
theorem pur_rl (ts : List Tok) : Rl wD (purD ts) (some (purF ts)) := by
  unfold purD purF
  cases ts with
  | nil => exact Or.inl rfl
  | cons t r =>
    cases h1 : tkB [[102, 111, 114]] (t :: r) with
    | false =>
      obtain ⟨e1, e2⟩ : tkB [[102, 111, 114], [114, 101, 97, 100], [111, 110, 108, 121]] (t :: r) = false ∧ tkB [[102, 111, 114], [117, 112, 100, 97, 116, 101]] (t :: r) = false := by
        rw [tkB_hd] at h1 ⊢
        rw [tkB_hd]
        have : (t.k == 0 && t.s == [102, 111, 114]) = false := by simpa [tkB] using h1
        rw [this]; exact ⟨rfl, rfl⟩
      rw [e1, e2]; exact Or.inl rfl
    | true =>
      have ht : (t.k == 0 && t.s == [102, 111, 114]) = true := by
        rw [tkB_hd] at h1
        simpa [tkB] using h1
      have hf : Stk wD (t :: r) := by
        obtain ⟨t', r', e, hk, hw⟩ := (tk1 _ _).1 h1
        exact ⟨t', r', e, hk, by simp [hw]⟩
      rw [tkR1 h1]
      have e1 : tkB [[102, 111, 114], [114, 101, 97, 100], [111, 110, 108, 121]] (t :: r) = tkB [[114, 101, 97, 100], [111, 110, 108, 121]] r := by rw [tkB_hd, ht]; rfl
      have e2 : tkB [[102, 111, 114], [117, 112, 100, 97, 116, 101]] (t :: r) = tkB [[117, 112, 100, 97, 116, 101]] r := by rw [tkB_hd, ht]; rfl
      have f1 : tkB [[114, 101, 97, 100], [111, 110, 108, 121]] r = true → tkR [[102, 111, 114], [114, 101, 97, 100], [111, 110, 108, 121]] (t :: r) = tkR [[114, 101, 97, 100], [111, 110, 108, 121]] r := fun h => by unfold tkR; rw [e1, h]; rfl
      have f2 : tkB [[117, 112, 100, 97, 116, 101]] r = true → tkR [[102, 111, 114], [117, 112, 100, 97, 116, 101]] (t :: r) = tkR [[117, 112, 100, 97, 116, 101]] r := fun h => by unfold tkR; rw [e2, h]; rfl
      rw [e1, e2]
      rcases two_words [114, 101, 97, 100] [111, 110, 108, 121] r with ⟨k1, k2⟩ | ⟨k1, k2, k3⟩ | ⟨k1, k2, k3, ks⟩
      · rw [k1, k2]
        cases hu : tkB [[117, 112, 100, 97, 116, 101]] r with
        | true =>
          rw [f2 hu, need1 [117, 112, 100, 97, 116, 101] r, hu]; exact Or.inl rfl
        | false =>
          rw [need1 [117, 112, 100, 97, 116, 101] r, hu]; exact Or.inr ⟨rfl, _, _, rfl, hf⟩
      · rw [k1, k2, k3, f1 k2]; exact Or.inl rfl
      · rw [k1, k2, k3, ks.tkB [] (by decide)]
        exact Or.inr ⟨rfl, _, _, rfl, hf⟩
theorem cfor (r : List Tok) : (match needF [[99, 117, 114, 115, 111, 114]] r with | none => none | some r1 => needF [[102, 111, 114]] r1) = needF [[99, 117, 114, 115, 111, 114], [102, 111, 114]] r := by
  rcases two_words [99, 117, 114, 115, 111, 114] [102, 111, 114] r with ⟨h1, h2⟩ | ⟨h1, h2, h3⟩ | ⟨h1, h2, h3, hs⟩
  · rw [need1, h1]; unfold needF; rw [h2]; rfl
  · rw [need1, h1]; simp only [if_true]; rw [h3]; unfold needF; rw [h2]; rfl
  · rw [need1, h1]; simp only [if_true]; rw [h3]; unfold needF; rw [h2]; rfl
section
variable {R R' : Rc} (h : RcRl R R')
include h
theorem insEnd_rl (s : List UInt8) (c : Tr) (ts : List Tok) : Rl wB (insEndF R s c ts) (insEndF R' s c ts) := by
  unfold insEndF
  rw [rowF_c h]
  split
  · exact Or.inl rfl
  · rcases h.body ts with e | ⟨e, x, r, e', hs⟩
    · rw [e]; exact Or.inl rfl
    · rw [e, e']; exact Or.inr ⟨rfl, _, _, rfl, hs⟩
theorem ins_rl (ts : List Tok) : Rl wB (insF R ts) (insF R' ts) := by
  unfold insF
  cases nameF ts with
  | none => exact Or.inl rfl
  | some p =>
    obtain ⟨s, r⟩ := p
    simp only
    split
    · cases namesF r with
      | none => exact Or.inl rfl
      | some p => exact insEnd_rl h _ _ _
    · exact insEnd_rl h _ _ _
theorem dec_rl (ts : List Tok) : Rl wD (decD R ts) (decF R' ts) := by
  unfold decD decF
  cases nameF ts with
  | none => exact Or.inl rfl
  | some p =>
    obtain ⟨s, r⟩ := p
    simp only
    rw [← cfor]
    cases needF [[99, 117, 114, 115, 111, 114]] (tkR [[115, 99, 114, 111, 108, 108]] r) with
    | none => exact Or.inl rfl
    | some r1 =>
      simp only
      cases needF [[102, 111, 114]] r1 with
      | none => exact Or.inl rfl
      | some r2 =>
        simp only
        rcases qryD_rl h r2 with e | ⟨e, x, r3, e', hs⟩
        · rw [e]
          cases qryF R' r2 with
          | none => exact Or.inl rfl
          | some p =>
            obtain ⟨q, r3⟩ := p
            simp only
            rcases pur_rl r3 with e | ⟨e, x, r4, e', hs⟩
            · rw [e]; exact Or.inl rfl
            · rw [e]
              simp only [Option.some.injEq] at e'
              rw [e']
              exact Or.inr ⟨rfl, _, _, rfl, hs⟩
        · rw [e, e']
          have hp : purF r3 = (nd [102, 111, 114] [] [], r3) := by
            unfold purF
            rw [hs.tkB [[114, 101, 97, 100], [111, 110, 108, 121]] (by decide), hs.tkB [[117, 112, 100, 97, 116, 101]] (by decide)]; rfl
          simp only
          rw [hp]
          exact Or.inr ⟨rfl, _, _, rfl, hs.mono (by simp)⟩
end
end Go.Proofs.YtaenpacfbheppaaGreatDoor
namespace Go.Proofs.YtaenpacfbheppaaGreatDoor

theorem hB {t : Tok} (hk : t.k = 0) (w : List UInt8) (ws : List (List UInt8)) (r : List Tok) : tkB (w :: ws) (t :: r) = (t.s == w && tkB ws r) := by simp [tkB, hk]
theorem hR {t : Tok} (hk : t.k = 0) {w : List UInt8} (hs : t.s = w) {ws : List (List UInt8)} {r : List Tok} (h : tkB ws r = true) : tkR (w :: ws) (t :: r) = tkR ws r := by
  unfold tkR
  rw [hB hk, hs, h]
  simp
theorem hR0 {t : Tok} (hk : t.k = 0) {w : List UInt8} (hs : t.s = w) {r : List Tok} : tkR [w] (t :: r) = r := by
  have : tkB [w] (t :: r) = true := by rw [hB hk, hs]; simp [tkB]
  exact tkR1 this
theorem body_no (n : Nat) {ts : List Tok} (h1 : sdB 0 3 [40] ts = false) (h2 : tkB [[115, 101, 108, 101, 99, 116]] ts = false) : (recs (n + 1)).body ts = none := by
  show bodF (recs n) ts = none
  unfold bodF chF trmF chF simF
  rw [h1]
  simp only [Bool.false_eq_true, if_false]
  rw [need1, h2]
  rfl
theorem qry_no (n : Nat) {ts : List Tok} (h1 : sdB 0 3 [40] ts = false) (h2 : tkB [[115, 101, 108, 101, 99, 116]] ts = false) : qryF (recs (n + 1)) ts = none := by
  unfold qryF
  rw [body_no n h1 h2]
theorem sd_tk (w : List UInt8) (ts : List Tok) : sdB 0 0 w ts = tkB [w] ts := by
  cases ts with
  | nil => rfl
  | cons t r => simp [sdB, tkB]
theorem stt_no (n : Nat) {ts : List Tok} (h : ∀ t r, ts = t :: r → t.k ≠ 0) : sttF (recs (n + 1)) ts = qryF (recs (n + 1)) ts := by
  have e : ∀ w ws, tkB (w :: ws) ts = false := fun w ws => by
    cases ts with
    | nil => rfl
    | cons t r => simp [tkB, h t r rfl]
  unfold sttF eoqF
  simp only [e, Bool.false_eq_true, if_false]
theorem beqN {a b : List UInt8} (h : a ≠ b) : (a == b) = false := by simpa using h
theorem need_cons (w v : List UInt8) (vs : List (List UInt8)) (r : List Tok) : needF (w :: v :: vs) r = match needF [w] r with | none => none | some r1 => needF (v :: vs) r1 := by
  cases r with
  | nil => rfl
  | cons t r =>
    rw [need1]
    cases h : tkB [w] (t :: r) with
    | false =>
      have : tkB (w :: v :: vs) (t :: r) = false := by
        have h2 : (t.k == 0 && t.s == w) = false := by simpa [tkB] using h
        rw [tkB, h2]; rfl
      unfold needF
      rw [this]; rfl
    | true =>
      have h2 : (t.k == 0 && t.s == w) = true := by simpa [tkB] using h
      have e : tkB (w :: v :: vs) (t :: r) = tkB (v :: vs) r := by rw [tkB, h2]; rfl
      rw [tkR1 h]
      unfold needF
      rw [e]
      cases h3 : tkB (v :: vs) r with
      | false => simp only [if_true, h3, Bool.false_eq_true, if_false]
      | true =>
        simp only [if_true]
        unfold tkR
        rw [e, h3]
        rfl
theorem iso_eq (r : List Tok) : isoD r = if tkB [[116, 114, 97, 110, 115, 97, 99, 116, 105, 111, 110], [105, 115, 111, 108, 97, 116, 105, 111, 110], [108, 101, 118, 101, 108]] r then (match lvlF (tkR [[116, 114, 97, 110, 115, 97, 99, 116, 105, 111, 110], [105, 115, 111, 108, 97, 116, 105, 111, 110], [108, 101, 118, 101, 108]] r) with | none => none | some (n, r4) => some (.mk [105, 115, 111, 108, 97, 116, 105, 111, 110] [] n [], r4)) else none := by
  have h := need_cons [116, 114, 97, 110, 115, 97, 99, 116, 105, 111, 110] [105, 115, 111, 108, 97, 116, 105, 111, 110] [[108, 101, 118, 101, 108]] r
  unfold isoD
  cases h1 : needF [[116, 114, 97, 110, 115, 97, 99, 116, 105, 111, 110]] r with
  | none =>
    rw [h1] at h
    have : tkB [[116, 114, 97, 110, 115, 97, 99, 116, 105, 111, 110], [105, 115, 111, 108, 97, 116, 105, 111, 110], [108, 101, 118, 101, 108]] r = false := by
      unfold needF at h
      split at h
      · cases h
      · rename_i hn; simpa using hn
    rw [this]; rfl
  | some r1 =>
    rw [h1] at h
    simp only at h ⊢
    rw [need_cons [105, 115, 111, 108, 97, 116, 105, 111, 110] [108, 101, 118, 101, 108] [] r1] at h
    cases h2 : needF [[105, 115, 111, 108, 97, 116, 105, 111, 110]] r1 with
    | none =>
      rw [h2] at h
      have : tkB [[116, 114, 97, 110, 115, 97, 99, 116, 105, 111, 110], [105, 115, 111, 108, 97, 116, 105, 111, 110], [108, 101, 118, 101, 108]] r = false := by
        unfold needF at h
        split at h
        · cases h
        · rename_i hn; simpa using hn
      rw [this]; rfl
    | some r2 =>
      rw [h2] at h
      simp only at h ⊢
      cases h3 : needF [[108, 101, 118, 101, 108]] r2 with
      | none =>
        rw [h3] at h
        have : tkB [[116, 114, 97, 110, 115, 97, 99, 116, 105, 111, 110], [105, 115, 111, 108, 97, 116, 105, 111, 110], [108, 101, 118, 101, 108]] r = false := by
          unfold needF at h
          split at h
          · cases h
          · rename_i hn; simpa using hn
        rw [this]; rfl
      | some r3 =>
        rw [h3] at h
        unfold needF at h
        split at h
        · rename_i hy
          rw [hy, if_pos rfl, Option.some.inj h]
          simp only
          rw [lvl_eq]
          all_goals rfl
        · cases h
theorem tkR_no1 {w : List UInt8} {ws : List (List UInt8)} {ts : List Tok} (h : tkB (w :: ws) ts = false) : tkR (w :: ws) ts = ts := by unfold tkR; rw [h]; rfl
theorem stt_rl (n : Nat) (ts : List Tok) : Rl wD (sttD (recsD (n + 1)) ts) (sttF (recs (n + 1)) ts) := by
  have hRc := recs_rl (n + 1)
  by_cases hq : (sdB 0 3 [40] ts || sdB 0 0 [115, 101, 108, 101, 99, 116] ts) = true
  · have : sttF (recs (n + 1)) ts = qryF (recs (n + 1)) ts := by
      cases ts with
      | nil => simp [sdB] at hq
      | cons t r =>
        by_cases hk : t.k = 0
        · have hs : t.s = [115, 101, 108, 101, 99, 116] := by simpa [sdB, hk] using hq
          unfold sttF eoqF
          simp only [hB hk, hs]
          rfl
        · exact stt_no n (fun t' r' e => by cases e; exact hk)
    unfold sttD
    rw [if_pos hq, this]
    exact (qryD_rl hRc ts).mono (by simp)
  · have hq1 : sdB 0 3 [40] ts = false := by cases h : sdB 0 3 [40] ts <;> simp_all
    have hq2 : tkB [[115, 101, 108, 101, 99, 116]] ts = false := by rw [← sd_tk]; cases h : sdB 0 0 [115, 101, 108, 101, 99, 116] ts <;> simp_all
    have hno := qry_no n hq1 hq2
    unfold sttD
    rw [if_neg hq]
    cases ts with
    | nil =>
      rw [stt_no n (fun t r e => by cases e), hno]
      exact Or.inl rfl
    | cons t r =>
      by_cases hk : t.k = 0
      · have ht : takF 0 (t :: r) = some (t, r) := by unfold takF; simp [hk]
        rw [ht]
        simp only
        unfold sttF eoqF wrdD morD
        simp only [hB hk, hno]
        by_cases w1 : t.s = [99, 114, 101, 97, 116, 101]
        · simp only [w1]
          unfold creD
          cases h1 : tkB [[116, 97, 98, 108, 101]] r with
          | true =>
            rw [hR hk w1 h1, crtD_c hRc]
            exact Or.inl rfl
          | false =>
            rcases two_words [117, 110, 105, 113, 117, 101] [105, 110, 100, 101, 120] r with ⟨k1, k2⟩ | ⟨k1, k2, k3⟩ | ⟨k1, k2, k3, ks⟩
            · rw [k1, k2, tkR_no1 k1, need1]
              cases h2 : tkB [[105, 110, 100, 101, 120]] r with
              | true => rw [hR hk w1 h2]; exact Or.inl rfl
              | false => exact Or.inl rfl
            · rw [k1, k2, k3, hR hk w1 k2]; exact Or.inl rfl
            · rw [k1, k2, k3, ks.tkB [] (by decide)]; exact Or.inl rfl
        by_cases w2 : t.s = [100, 114, 111, 112]
        · simp only [w2]
          unfold drpD
          cases h1 : tkB [[116, 97, 98, 108, 101]] r with
          | true =>
            rw [hR hk w2 h1]
            exact Or.inl rfl
          | false =>
            rw [need1]
            cases h2 : tkB [[105, 110, 100, 101, 120]] r with
            | true => rw [hR hk w2 h2]; exact Or.inl rfl
            | false => exact Or.inl rfl
        by_cases w3 : t.s = [105, 110, 115, 101, 114, 116]
        · simp only [w3]
          rw [need1]
          cases h1 : tkB [[105, 110, 116, 111]] r with
          | true =>
            rw [hR hk w3 h1]
            exact (ins_rl hRc (tkR [[105, 110, 116, 111]] r)).mono (by simp)
          | false => exact Or.inl rfl
        by_cases w4 : t.s = [117, 112, 100, 97, 116, 101]
        · simp only [w4]
          rw [hR0 hk w4, updF_c hRc]
          exact Or.inl rfl
        by_cases w5 : t.s = [100, 101, 108, 101, 116, 101]
        · simp only [w5]
          rw [need1 [102, 114, 111, 109] r]
          cases h1 : tkB [[102, 114, 111, 109]] r with
          | true =>
            rw [hR hk w5 h1, delF_c hRc]
            exact Or.inl rfl
          | false => exact Or.inl rfl
        by_cases w6 : t.s = [99, 111, 109, 109, 105, 116]
        · simp only [w6]
          rw [hR0 hk w6]
          exact Or.inl rfl
        by_cases w7 : t.s = [114, 111, 108, 108, 98, 97, 99, 107]
        · simp only [w7]
          unfold rolD
          cases h1 : tkB [[116, 111]] r with
          | true =>
            rw [hR hk w7 h1]
            exact Or.inl rfl
          | false =>
            rw [hR0 hk w7]
            exact Or.inl rfl
        by_cases w8 : t.s = [115, 97, 118, 101, 112, 111, 105, 110, 116]
        · simp only [w8]
          rw [hR0 hk w8]
          exact Or.inl rfl
        by_cases w9 : t.s = [114, 101, 108, 101, 97, 115, 101]
        · simp only [w9]
          rw [hR0 hk w9]
          exact Or.inl rfl
        by_cases w10 : t.s = [115, 101, 116]
        · simp only [w10]
          rw [iso_eq]
          cases h1 : tkB [[116, 114, 97, 110, 115, 97, 99, 116, 105, 111, 110], [105, 115, 111, 108, 97, 116, 105, 111, 110], [108, 101, 118, 101, 108]] r with
          | true =>
            rw [hR hk w10 h1]
            exact Or.inl rfl
          | false => exact Or.inl rfl
        by_cases w11 : t.s = [100, 101, 99, 108, 97, 114, 101]
        · simp only [w11]
          rw [hR0 hk w11]
          exact dec_rl hRc r
        by_cases w12 : t.s = [111, 112, 101, 110]
        · simp only [w12]
          rw [hR0 hk w12]
          exact Or.inl rfl
        by_cases w13 : t.s = [99, 108, 111, 115, 101]
        · simp only [w13]
          rw [hR0 hk w13]
          exact Or.inl rfl
        by_cases w14 : t.s = [102, 101, 116, 99, 104]
        · simp only [w14]
          rw [hR0 hk w14]
          exact Or.inl rfl
        simp only [beqN w1, beqN w2, beqN w3, beqN w4, beqN w5, beqN w6, beqN w7, beqN w8, beqN w9, beqN w10, beqN w11, beqN w12, beqN w13, beqN w14, Bool.false_and, Bool.false_eq_true, if_false]
        exact Or.inl rfl
      · rw [stt_no n (fun t' r' e => by cases e; exact hk), hno]
        have ht : takF 0 (t :: r) = none := by unfold takF; simp [hk]
        rw [ht]
        exact Or.inl rfl
theorem whl_eq (n : Nat) (ts : List Tok) : whlD (recsD (n + 1)) ts = whlF (recs (n + 1)) ts := by
  unfold whlD whlF
  rcases stt_rl n ts with e | ⟨e, x, r, e', hs⟩
  · rw [e]
    cases sttF (recs (n + 1)) ts with
    | none => rfl
    | some p => rfl
  · rw [e, e']
    simp only
    rw [hs.sg]
    obtain ⟨t, q, rfl, _⟩ := hs
    simp
end Go.Proofs.YtaenpacfbheppaaGreatDoor

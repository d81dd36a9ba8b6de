/- Other places of tokens, and one more token behind, change nothing that was read (pure). -/
import Derived.Test.YtbkeaajnhalekaaGreatDoorM14A
namespace Go.Proofs.YtbkeaajnhalekaaGreatDoor
set_option linter.unusedVariables false
set_option linter.unusedSimpArgs false

/-- A token without its place. -/
def Tok.st (t : Tok) : Tok := { t with at_ := 0 }
/-- The same tokens at other places, and e behind them. -/
structure Ex where
  l : List Tok
  Q : List Tok → Prop
  hQ : ∀ t q, Q (t :: q) → Q q
structure Sm (e : Ex) (ts ts' : List Tok) : Prop where
  eq : ts'.map Tok.st = ts.map Tok.st ++ e.l
  q : e.Q ts
/-- What stands behind: nothing, a sign that ends all, or one that ends what stands within. -/
structure Inert (b : Bool) (e : Ex) : Prop where
  h : e.l = [] ∨ e.l = [⟨3, [59], 0, 0⟩] ∨ (b = false ∧ e.l = [⟨3, [41], 0, 0⟩])
/-- Both fail (the second one at least where b is), or both read the same. -/
def RdS {α : Type} (e : Ex) (b : Bool) (k : Nat) (o o' : Option (α × List Tok)) : Prop := (o = none ∧ (b = true → o' = none)) ∨ ∃ x r r', o = some (x, r) ∧ o' = some (x, r') ∧ Sm e r r' ∧ r.length ≤ k
/-- Both fail, or both read the same. -/
def Rs {α : Type} (e : Ex) (k : Nat) (o o' : Option (α × List Tok)) : Prop := (o = none ∧ o' = none) ∨ ∃ x r r', o = some (x, r) ∧ o' = some (x, r') ∧ Sm e r r' ∧ r.length < k
def Bi {α : Type} (e : Ex) (b : Bool) (m : Nat) (F F' : Ps α) : Prop := ∀ ts ts', Sm e ts ts' → ts.length < m → RdS e b ts.length (F ts) (F' ts')
theorem Sm.cons {e : Ex} {q ts' : List Tok} {t : Tok} (h : Sm e (t :: q) ts') : ∃ t' q', ts' = t' :: q' ∧ t'.k = t.k ∧ t'.s = t.s ∧ t'.n = t.n ∧ Sm e q q' := by
  have hq := e.hQ _ _ h.q
  have h := h.eq
  cases ts' with
  | nil => simp at h
  | cons t' q' =>
    simp only [List.map_cons, List.cons_append, List.cons.injEq] at h
    refine ⟨t', q', rfl, ?_, ?_, ?_, h.2, hq⟩
    · have h1 : t'.st.k = t.st.k := congrArg Tok.k h.1
      exact h1
    · have h1 : t'.st.s = t.st.s := congrArg Tok.s h.1
      exact h1
    · have h1 : t'.st.n = t.st.n := congrArg Tok.n h.1
      exact h1
theorem Sm.len {e : Ex} {ts ts' : List Tok} (h : Sm e ts ts') : ts'.length = ts.length + e.l.length := by
  have := congrArg List.length h.eq
  simpa using this
theorem Sm.nilE {b : Bool} {e : Ex} {ts' : List Tok} (he : Inert b e) (h : Sm e [] ts') : ts' = [] ∨ ∃ t', ts' = [t'] ∧ t'.k = 3 ∧ (t'.s = [59] ∨ (b = false ∧ t'.s = [41])) := by
  have h9 := h.eq
  rcases he.h with hl | hl | ⟨hb, hl⟩ <;> rw [hl] at h9
  · left; simpa using h9
  all_goals
    right
    cases ts' with
    | nil => simp at h9
    | cons t' q' =>
      simp only [List.map_cons, List.map_nil, List.nil_append, List.cons.injEq, List.map_eq_nil_iff] at h9
      obtain ⟨h8, rfl⟩ := h9
      have h1 : t'.st.k = 3 := congrArg Tok.k h8
      have h2 := congrArg Tok.s h8
      first
        | exact ⟨t', rfl, h1, Or.inl h2⟩
        | exact ⟨t', rfl, h1, Or.inr ⟨hb, h2⟩⟩
theorem tkB_sm {b : Bool} {e : Ex} (he : Inert b e) : ∀ (ws : List (List UInt8)) {ts ts' : List Tok}, Sm e ts ts' → tkB ws ts' = tkB ws ts
  | [], _, _, _ => rfl
  | w :: ws, [], ts', h => by
    rcases h.nilE he with rfl | ⟨t', rfl, hk, _⟩
    · rfl
    · simp [tkB, hk]
  | w :: ws, t :: ts, ts', h => by
    obtain ⟨t', q', rfl, h1, h2, _, hq⟩ := h.cons
    simp only [tkB, h1, h2, tkB_sm he ws hq]
theorem drop_sm {e : Ex} : ∀ (n : Nat) {ts ts' : List Tok}, n ≤ ts.length → Sm e ts ts' → Sm e (ts.drop n) (ts'.drop n)
  | 0, _, _, _, h => h
  | n + 1, [], _, hn, h => by simp at hn
  | n + 1, t :: ts, ts', hn, h => by
    obtain ⟨t', q', rfl, _, _, _, hq⟩ := h.cons
    exact drop_sm n (by simpa using hn) hq
theorem tkR_sm {b : Bool} {e : Ex} (he : Inert b e) (ws : List (List UInt8)) {ts ts' : List Tok} (h : Sm e ts ts') : Sm e (tkR ws ts) (tkR ws ts') := by
  unfold tkR
  rw [tkB_sm he ws h]
  cases hb : tkB ws ts with
  | true => exact drop_sm _ (tkB_len _ _ hb) h
  | false => exact h
theorem needF_sm {b : Bool} {e : Ex} (he : Inert b e) (ws : List (List UInt8)) (hw : 0 < ws.length) {ts ts' : List Tok} (h : Sm e ts ts') : (needF ws ts = none ∧ needF ws ts' = none) ∨ ∃ r r', needF ws ts = some r ∧ needF ws ts' = some r' ∧ Sm e r r' ∧ r.length < ts.length := by
  unfold needF
  rw [tkB_sm he ws h]
  cases hb : tkB ws ts with
  | true => exact Or.inr ⟨_, _, rfl, rfl, tkR_sm he ws h, tkR_ls hb hw⟩
  | false => exact Or.inl ⟨rfl, rfl⟩
theorem sdB_sm {b : Bool} {e : Ex} (he : Inert b e) (kd : Int) (s : List UInt8) (hn : kd ≠ 3 ∨ (s ≠ [59] ∧ s ≠ [41])) : ∀ (k : Nat) {ts ts' : List Tok}, Sm e ts ts' → sdB k kd s ts' = sdB k kd s ts
  | 0, [], ts', h => by
    rcases h.nilE he with rfl | ⟨t', rfl, hk, hs⟩
    · rfl
    · unfold sdB
      simp only [List.drop_zero, hk]
      rcases hn with hn | ⟨h1, h2⟩
      · have : ((3 : Int) == kd) = false := by simpa using fun h : (3 : Int) = kd => hn h.symm
        simp [this]
      · rcases hs with hs | ⟨_, hs⟩ <;> rw [hs] <;> simp only [Bool.and_eq_false_iff, beq_eq_false_iff_ne] <;> exact Or.inr (fun h => by first | exact h1 h.symm | exact h2 h.symm)
  | k + 1, [], ts', h => by
    rcases h.nilE he with rfl | ⟨t', rfl, hk, hs⟩ <;> simp [sdB]
  | 0, t :: ts, ts', h => by
    obtain ⟨t', q', rfl, h1, h2, _, hq⟩ := h.cons
    simp [sdB, h1, h2]
  | k + 1, t :: ts, ts', h => by
    obtain ⟨t', q', rfl, h1, h2, _, hq⟩ := h.cons
    exact sdB_sm he kd s hn k hq
theorem opnN_sm {b : Bool} {e : Ex} (he : Inert b e) : ∀ {ts ts' : List Tok}, Sm e ts ts' → opnN ts' = opnN ts
  | [], ts', h => by
    rcases h.nilE he with rfl | ⟨t', rfl, hk, hs⟩
    · rfl
    · unfold opnN
      rcases hs with hs | ⟨_, hs⟩ <;> simp [hk, hs]
  | t :: ts, ts', h => by
    obtain ⟨t', q', rfl, h1, h2, _, hq⟩ := h.cons
    have ih := opnN_sm he hq
    unfold opnN at ih ⊢
    rw [List.takeWhile_cons, List.takeWhile_cons, h1, h2]
    split
    · rw [List.length_cons, List.length_cons, ih]
    · rfl
theorem opnB_sm {b : Bool} {e : Ex} (he : Inert b e) {ts ts' : List Tok} (h : Sm e ts ts') : opnB ts' = opnB ts := by
  unfold opnB
  rw [opnN_sm he h, sdB_sm he 0 _ (Or.inl (by decide)) _ h]
theorem atnB_sm {b : Bool} {e : Ex} (he : Inert b e) {ts ts' : List Tok} (h : Sm e ts ts') : atnB ts' = atnB ts := by
  cases ts with
  | nil =>
    rcases h.nilE he with rfl | ⟨t', rfl, hk, hs⟩
    · rfl
    · simp [atnB, hk]
  | cons t q =>
    obtain ⟨t', q', rfl, h1, h2, _, hq⟩ := h.cons
    simp [atnB, h1, h2]
theorem oneF_some {e : Ex} (kd : Int) (of : List (List UInt8)) {ts ts' r : List Tok} {x : List UInt8} (h : Sm e ts ts') (hF : oneF kd of ts = some (x, r)) : ∃ r', oneF kd of ts' = some (x, r') ∧ Sm e r r' := by
  cases ts with
  | nil => simp [oneF] at hF
  | cons t q =>
    obtain ⟨t', q', rfl, h1, h2, _, hq⟩ := h.cons
    unfold oneF at hF ⊢
    simp only [h1, h2]
    simp only at hF
    split at hF
    · rename_i hk
      cases hF
      rw [if_pos hk]
      exact ⟨q', rfl, hq⟩
    · cases hF
theorem oneF_none {b : Bool} {e : Ex} (he : Inert b e) (kd : Int) (of : List (List UInt8)) (h1 : kd ≠ 3 ∨ of.contains [59] = false) (h2 : kd ≠ 3 ∨ b = true ∨ of.contains [41] = false) {ts ts' : List Tok} (h : Sm e ts ts') (hF : oneF kd of ts = none) : oneF kd of ts' = none := by
  cases ts with
  | nil =>
    rcases h.nilE he with rfl | ⟨t', rfl, hk, hs⟩
    · rfl
    · unfold oneF
      by_cases hkd : kd = 3
      · have h1' := h1.resolve_left (fun h => h hkd)
        have h2' := h2.resolve_left (fun h => h hkd)
        rcases hs with hs | ⟨hb, hs⟩
        · simp only [hs, h1', Bool.and_false, Bool.false_eq_true, if_false]
        · simp only [hs, h2'.resolve_left (by rw [hb]; decide), Bool.and_false, Bool.false_eq_true, if_false]
      · have : ((3 : Int) == kd) = false := by simpa using fun h : (3 : Int) = kd => hkd h.symm
        simp [hk, this]
  | cons t q =>
    obtain ⟨t', q', rfl, g1, g2, _, hq⟩ := h.cons
    unfold oneF at hF ⊢
    simp only [g1, g2]
    simp only at hF
    split at hF
    · cases hF
    · rename_i hn; rw [if_neg hn]
theorem oneF_sm {b : Bool} {e : Ex} (he : Inert b e) (kd : Int) (of : List (List UInt8)) (hn : kd ≠ 3 ∨ (of.contains [59] = false ∧ of.contains [41] = false)) {ts ts' : List Tok} (h : Sm e ts ts') : Rs e ts.length (oneF kd of ts) (oneF kd of ts') := by
  cases hF : oneF kd of ts with
  | none => exact Or.inl ⟨rfl, oneF_none he kd of (hn.imp id fun h => h.1) (hn.imp id fun h => Or.inr h.2) h hF⟩
  | some p =>
    obtain ⟨x, r⟩ := p
    obtain ⟨r', h1, h2⟩ := oneF_some kd of h hF
    exact Or.inr ⟨x, r, r', rfl, h1, h2, by have := oneF_len hF; omega⟩
theorem sgF_sm {b : Bool} {e : Ex} (he : Inert b e) (s : List UInt8) (hn : (s == [59]) = false ∧ (s == [41]) = false) {ts ts' : List Tok} (h : Sm e ts ts') : Rs e ts.length (sgF s ts) (sgF s ts') :=
  oneF_sm he 3 [s] (Or.inr (by simpa using ⟨fun h => by simp [h] at hn, fun h => by simp [h] at hn⟩)) h
theorem shut_sm {b : Bool} {e : Ex} (he : Inert b e) {ts ts' : List Tok} (h : Sm e ts ts') : (sgF [41] ts = none ∧ (b = true → sgF [41] ts' = none)) ∨ ∃ x r r', sgF [41] ts = some (x, r) ∧ sgF [41] ts' = some (x, r') ∧ Sm e r r' ∧ r.length < ts.length := by
  cases hF : sgF [41] ts with
  | none => exact Or.inl ⟨rfl, fun hb => oneF_none he 3 _ (Or.inr (by decide)) (Or.inr (Or.inl hb)) h hF⟩
  | some p =>
    obtain ⟨x, r⟩ := p
    obtain ⟨r', h1, h2⟩ := oneF_some 3 _ h hF
    exact Or.inr ⟨x, r, r', rfl, h1, h2, by have := oneF_len hF; omega⟩
theorem numF_sm {b : Bool} {e : Ex} (he : Inert b e) {ts ts' : List Tok} (h : Sm e ts ts') : Rs e ts.length (numF ts) (numF ts') := by
  cases ts with
  | nil =>
    refine Or.inl ⟨rfl, ?_⟩
    rcases h.nilE he with rfl | ⟨t', rfl, hk, hs⟩
    · rfl
    · simp [numF, takF, hk]
  | cons t q =>
    obtain ⟨t', q', rfl, h1, h2, h3, hq⟩ := h.cons
    unfold numF takF Rs
    simp only [h1]
    by_cases hk : (t.k == 1) = true
    · simp only [hk, if_true]
      exact Or.inr ⟨_, _, _, rfl, by rw [h3], hq, by simp⟩
    · left; simp [hk]
theorem nameF_sm {b : Bool} {e : Ex} (he : Inert b e) {ts ts' : List Tok} (h : Sm e ts ts') : Rs e ts.length (nameF ts) (nameF ts') := by
  cases ts with
  | nil =>
    refine Or.inl ⟨rfl, ?_⟩
    rcases h.nilE he with rfl | ⟨t', rfl, hk, hs⟩
    · rfl
    · simp [nameF, takF, hk]
  | cons t q =>
    obtain ⟨t', q', rfl, h1, h2, h3, hq⟩ := h.cons
    unfold nameF takF Rs
    simp only [h1]
    by_cases hk : (t.k == 0) = true
    · simp only [hk, if_true, h2]
      by_cases hr : resL.contains t.s = true
      · simp only [hr, if_true]; simp
      · simp only [hr, if_false]
        exact Or.inr ⟨_, _, _, rfl, rfl, hq, by simp⟩
    · left; simp [hk]
end Go.Proofs.YtbkeaajnhalekaaGreatDoor

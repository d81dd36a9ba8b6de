/- The same of all that reads (pure; genmo.py writes it). -/
import Derived.Test.YtbkeaajnhalekaaGreatDoorP14MN
namespace Go.Proofs.YtbkeaajnhalekaaGreatDoor
set_option linter.unusedVariables false
set_option linter.unusedSimpArgs false
set_option maxHeartbeats 1000000

variable {b : Bool} {e : Ex}
theorem Bi.mono {α : Type} {m n : Nat} {F F' : Ps α} (h : Bi e b m F F') (hn : n ≤ m) : Bi e b n F F' := fun ts ts' hs hl => h ts ts' hs (by omega)
theorem RdS.ok {α : Type} {k : Nat} {x : α} {r r' : List Tok} (hs : Sm e r r') (hl : r.length ≤ k) : RdS e b k (some (x, r)) (some (x, r')) := Or.inr ⟨x, r, r', rfl, rfl, hs, hl⟩
theorem RdS.no {α : Type} {k : Nat} : RdS e b k (none : Option (α × List Tok)) none := Or.inl ⟨rfl, fun _ => rfl⟩
theorem RdS.mono {α : Type} {k k2 : Nat} {o o' : Option (α × List Tok)} (h : RdS e b k o o') (hk : k ≤ k2) : RdS e b k2 o o' := by
  rcases h with h | ⟨x, r, r', h1, h2, hs, hl⟩
  · exact Or.inl h
  · exact Or.inr ⟨x, r, r', h1, h2, hs, by omega⟩
variable (he : Inert b e)
include he
theorem parF_bi {α : Type} {m : Nat} {I I' : Ps α} (hI : Bi e b m I I') : Bi e b (m + 1) (parF I) (parF I') := by
  intro ts ts' h hl
  unfold parF
  rcases sgF_sm he [40] (by decide) h with ⟨g1, k1⟩ | ⟨x1, r1, q1, g1, k1, h1, l1⟩
  · simp only [g1, k1]; exact RdS.no
  simp only [g1, k1]
  rcases hI _ _ h1 (by omega) with ⟨g2, k2⟩ | ⟨x2, r2, q2, g2, k2, h2, l2⟩
  · exact Or.inl ⟨by simp only [g2], fun hb => by simp only [k2 hb]⟩
  simp only [g2, k2]
  rcases shut_sm he h2 with ⟨g3, k3⟩ | ⟨x3, r3, q3, g3, k3, h3, l3⟩
  · exact Or.inl ⟨by simp only [g3], fun hb => by simp only [k3 hb]⟩
  simp only [g3, k3]
  exact RdS.ok h3 (by omega)
theorem lsN_bi {m : Nat} {I I' : Ps Tr} (hI : Bi e b m I I') : ∀ (n n' : Nat) (a : List Tr) (ts ts' : List Tok), Sm e ts ts' → ts.length < m → ts.length < n → ts'.length < n' → RdS e b ts.length (lsN I n a ts) (lsN I' n' a ts')
  | 0, _, _, _, _, _, _, hn, _ => by omega
  | _ + 1, 0, _, _, _, _, _, _, hn => by omega
  | n + 1, n' + 1, a, ts, ts', h, hl, hn, hn' => by
    have E := h.len
    unfold lsN
    rcases sgF_sm he [44] (by decide) h with ⟨g1, k1⟩ | ⟨x1, r1, q1, g1, k1, h1, l1⟩
    · simp only [g1, k1]
      exact RdS.ok h (Nat.le_refl _)
    · simp only [g1, k1]
      rcases hI _ _ h1 (by omega) with ⟨g2, k2⟩ | ⟨x2, r2, q2, g2, k2, h2, l2⟩
      · exact Or.inl ⟨by simp only [g2], fun hb => by simp only [k2 hb]⟩
      simp only [g2, k2]
      exact (lsN_bi hI n n' _ _ _ h2 (by omega) (by omega) (by have := (h2).len; omega)).mono (by omega)
theorem lsF_bi {m : Nat} {I I' : Ps Tr} (hI : Bi e b m I I') : Bi e b m (lsF I) (lsF I') := by
  intro ts ts' h hl
  unfold lsF
  rcases hI _ _ h (by omega) with ⟨g1, k1⟩ | ⟨x1, r1, q1, g1, k1, h1, l1⟩
  · exact Or.inl ⟨by simp only [g1], fun hb => by simp only [k1 hb]⟩
  simp only [g1, k1]
  exact (lsN_bi he hI _ _ _ _ _ h1 (by omega) (by omega) (by omega)).mono (by omega)
omit he in
theorem bs_none {α : Type} {k : Nat} {o o' : Option (α × List Tok)} (h : Rs e k o o') : o = none → o' = none := by
  rcases h with ⟨h1, h2⟩ | ⟨x, r, r', h1, h2, hs, hl⟩
  · exact fun _ => h2
  · intro h0; rw [h0] at h1; cases h1
/-- A link that reads the same. -/
def Lks (e : Ex) (K : Lk) : Prop := ∀ ts ts', Sm e ts ts' → Rs e ts.length (K ts) (K ts')
theorem sgLk_lks (of : List (List UInt8)) (hn : of.contains [59] = false ∧ of.contains [41] = false) : Lks e (sgLk of) := by
  intro ts ts' h
  unfold sgLk
  rcases oneF_sm he 3 of (Or.inr hn) h with ⟨g, k⟩ | ⟨x, r, q, g, k, h1, l1⟩
  · simp only [g, k]; exact Or.inl ⟨rfl, rfl⟩
  · simp only [g, k]; exact Or.inr ⟨_, _, _, rfl, rfl, h1, l1⟩
theorem wdLk_lks (s : List UInt8) : Lks e (wdLk s) := by
  intro ts ts' h
  unfold wdLk
  simp only [tkB_sm he [s] h]
  by_cases c : tkB [s] ts = true
  · simp only [c, if_true]; exact Or.inr ⟨_, _, _, rfl, rfl, tkR_sm he [s] h, tkR_ls c (by simp)⟩
  · simp only [c, if_false, Bool.false_eq_true]; exact Or.inl ⟨rfl, rfl⟩
theorem setLk_lks (of : List (List UInt8)) : Lks e (setLk of) := by
  intro ts ts' h
  unfold setLk
  rcases oneF_sm he 0 of (Or.inl (by decide)) h with ⟨g, k⟩ | ⟨x, r, q, g, k, h1, l1⟩
  · simp only [g, k]; exact Or.inl ⟨rfl, rfl⟩
  · simp only [g, k, tkB_sm he [[97, 108, 108]] h1]
    have := tkR_len [[97, 108, 108]] r
    exact Or.inr ⟨_, _, _, rfl, rfl, tkR_sm he _ h1, by omega⟩
omit he in
theorem chN_bi {m : Nat} {I I' : Ps Tr} (hI : Bi e b m I I') {K : Lk} (hK : Lks e K) : ∀ (n n' : Nat) (a : Tr) (ts ts' : List Tok), Sm e ts ts' → ts.length ≤ m → ts.length < n → ts'.length < n' → RdS e b ts.length (chN I K n a ts) (chN I' K n' a ts')
  | 0, _, _, _, _, _, _, hn, _ => by omega
  | _ + 1, 0, _, _, _, _, _, _, hn => by omega
  | n + 1, n' + 1, a, ts, ts', h, hl, hn, hn' => by
    have E := h.len
    unfold chN
    rcases hK _ _ h with ⟨g1, k1⟩ | ⟨⟨op, mm⟩, r1, q1, g1, k1, h1, l1⟩
    · simp only [g1, k1]
      exact RdS.ok h (Nat.le_refl _)
    · simp only [g1, k1]
      rcases hI _ _ h1 (by omega) with ⟨g1, k1⟩ | ⟨x1, r1, q1, g1, k1, h1, l1⟩
      · exact Or.inl ⟨by simp only [g1], fun hb => by simp only [k1 hb]⟩
      simp only [g1, k1]
      exact (chN_bi hI hK n n' _ _ _ h1 (by omega) (by omega) (by have := (h1).len; have := h1.len; omega)).mono (by omega)
omit he in
theorem chF_bi {m : Nat} {I I' : Ps Tr} (hI : Bi e b m I I') {K : Lk} (hK : Lks e K) : Bi e b m (chF I K) (chF I' K) := by
  intro ts ts' h hl
  unfold chF
  rcases hI _ _ h (by omega) with ⟨g1, k1⟩ | ⟨x1, r1, q1, g1, k1, h1, l1⟩
  · exact Or.inl ⟨by simp only [g1], fun hb => by simp only [k1 hb]⟩
  simp only [g1, k1]
  exact (chN_bi hI hK _ _ _ _ _ h1 (by omega) (by omega) (by omega)).mono (by omega)
theorem namF_bi (m : Nat) : Bi e b m namF namF := by
  intro ts ts' h hl
  unfold namF
  rcases nameF_sm he h with ⟨g1, k1⟩ | ⟨x1, r1, q1, g1, k1, h1, l1⟩
  · simp only [g1, k1]; exact RdS.no
  simp only [g1, k1]
  exact RdS.ok h1 (by omega)
theorem namesF_bi (m : Nat) : Bi e b m namesF namesF := (parF_bi he (lsF_bi he (namF_bi he m))).mono (by omega)
theorem colF_bi (m : Nat) : Bi e b m colF colF := by
  intro ts ts' h hl
  unfold colF
  rcases nameF_sm he h with ⟨g1, k1⟩ | ⟨x1, r1, q1, g1, k1, h1, l1⟩
  · simp only [g1, k1]; exact RdS.no
  simp only [g1, k1]
  rcases sgF_sm he [46] (by decide) h1 with ⟨g2, k2⟩ | ⟨x2, r2, q2, g2, k2, h2, l2⟩
  · simp only [g2, k2]
    exact RdS.ok h1 (by omega)
  · simp only [g2, k2]
    rcases nameF_sm he h2 with ⟨g3, k3⟩ | ⟨x3, r3, q3, g3, k3, h3, l3⟩
    · simp only [g3, k3]; exact RdS.no
    simp only [g3, k3]
    exact RdS.ok h3 (by omega)
theorem numF_bi (m : Nat) : Bi e b m numF numF := fun ts ts' h _ => by
  rcases numF_sm he h with h | ⟨x, r, r', h1, h2, hs, hl⟩
  · exact Or.inl ⟨h.1, fun _ => h.2⟩
  · exact Or.inr ⟨x, r, r', h1, h2, hs, by omega⟩
theorem aliasF_bi (m : Nat) : Bi e b m aliasF aliasF := by
  intro ts ts' h hl
  unfold aliasF
  simp only [tkB_sm he [[97, 115]] h]
  by_cases c1 : tkB [[97, 115]] ts = true
  · simp only [c1, if_true]
    have h1 := tkR_sm he [[97, 115]] h
    have l1 := tkR_ls c1 (by decide)
    rcases nameF_sm he h1 with ⟨g2, k2⟩ | ⟨x2, r2, q2, g2, k2, h2, l2⟩
    · simp only [g2, k2]; exact RdS.no
    simp only [g2, k2]
    exact RdS.ok h2 (by omega)
  · simp only [c1, if_false, Bool.false_eq_true]
    simp only [atnB_sm he h]
    by_cases c3 : (atnB ts) = true
    · simp only [c3, if_true]
      rcases nameF_sm he h with ⟨g4, k4⟩ | ⟨x4, r4, q4, g4, k4, h4, l4⟩
      · simp only [g4, k4]; exact RdS.no
      simp only [g4, k4]
      exact RdS.ok h4 (by omega)
    · simp only [c3, if_false, Bool.false_eq_true]
      exact RdS.ok h (by omega)
theorem chrF_bi (m : Nat) : Bi e b m typF.chrF typF.chrF := by
  intro ts ts' h hl
  unfold typF.chrF
  simp only [sdB_sm he 3 [40] (by decide) 0 h]
  by_cases c1 : (sdB 0 3 [40] ts) = true
  · simp only [c1, if_true]
    rcases parF_bi he (numF_bi he m) _ _ h (by omega) with ⟨g2, k2⟩ | ⟨x2, r2, q2, g2, k2, h2, l2⟩
    · exact Or.inl ⟨by simp only [g2], fun hb => by simp only [k2 hb]⟩
    simp only [g2, k2]
    exact RdS.ok h2 (by omega)
  · simp only [c1, if_false, Bool.false_eq_true]
    exact RdS.ok h (by omega)
theorem typF_bi (m : Nat) : Bi e b m typF typF := by
  intro ts ts' h hl
  unfold typF
  simp only [tkB_sm he [[115, 109, 97, 108, 108, 105, 110, 116]] h]
  by_cases c1 : tkB [[115, 109, 97, 108, 108, 105, 110, 116]] ts = true
  · simp only [c1, if_true]
    have h1 := tkR_sm he [[115, 109, 97, 108, 108, 105, 110, 116]] h
    have l1 := tkR_ls c1 (by decide)
    exact RdS.ok h1 (by omega)
  · simp only [c1, if_false, Bool.false_eq_true]
    simp only [tkB_sm he [[105, 110, 116, 101, 103, 101, 114]] h]
    by_cases c2 : tkB [[105, 110, 116, 101, 103, 101, 114]] ts = true
    · simp only [c2, if_true]
      have h2 := tkR_sm he [[105, 110, 116, 101, 103, 101, 114]] h
      have l2 := tkR_ls c2 (by decide)
      exact RdS.ok h2 (by omega)
    · simp only [c2, if_false, Bool.false_eq_true]
      simp only [tkB_sm he [[105, 110, 116]] h]
      by_cases c3 : tkB [[105, 110, 116]] ts = true
      · simp only [c3, if_true]
        have h3 := tkR_sm he [[105, 110, 116]] h
        have l3 := tkR_ls c3 (by decide)
        exact RdS.ok h3 (by omega)
      · simp only [c3, if_false, Bool.false_eq_true]
        simp only [tkB_sm he [[98, 105, 103, 105, 110, 116]] h]
        by_cases c4 : tkB [[98, 105, 103, 105, 110, 116]] ts = true
        · simp only [c4, if_true]
          have h4 := tkR_sm he [[98, 105, 103, 105, 110, 116]] h
          have l4 := tkR_ls c4 (by decide)
          exact RdS.ok h4 (by omega)
        · simp only [c4, if_false, Bool.false_eq_true]
          simp only [tkB_sm he [[98, 111, 111, 108, 101, 97, 110]] h]
          by_cases c5 : tkB [[98, 111, 111, 108, 101, 97, 110]] ts = true
          · simp only [c5, if_true]
            have h5 := tkR_sm he [[98, 111, 111, 108, 101, 97, 110]] h
            have l5 := tkR_ls c5 (by decide)
            exact RdS.ok h5 (by omega)
          · simp only [c5, if_false, Bool.false_eq_true]
            simp only [tkB_sm he [[99, 104, 97, 114]] h]
            by_cases c6 : tkB [[99, 104, 97, 114]] ts = true
            · simp only [c6, if_true]
              have h6 := tkR_sm he [[99, 104, 97, 114]] h
              have l6 := tkR_ls c6 (by decide)
              exact (chrF_bi he m _ _ h6 (by omega)).mono (by omega)
            · simp only [c6, if_false, Bool.false_eq_true]
              simp only [tkB_sm he [[99, 104, 97, 114, 97, 99, 116, 101, 114]] h]
              by_cases c7 : tkB [[99, 104, 97, 114, 97, 99, 116, 101, 114]] ts = true
              · simp only [c7, if_true]
                have h7 := tkR_sm he [[99, 104, 97, 114, 97, 99, 116, 101, 114]] h
                have l7 := tkR_ls c7 (by decide)
                exact (chrF_bi he m _ _ h7 (by omega)).mono (by omega)
              · simp only [c7, if_false, Bool.false_eq_true]
                rcases needF_sm he [[118, 97, 114, 99, 104, 97, 114]] (by decide) h with ⟨g8, k8⟩ | ⟨r8, q8, g8, k8, h8, l8⟩
                · simp only [g8, k8]; exact RdS.no
                simp only [g8, k8]
                rcases parF_bi he (numF_bi he m) _ _ h8 (by omega) with ⟨g9, k9⟩ | ⟨x9, r9, q9, g9, k9, h9, l9⟩
                · exact Or.inl ⟨by simp only [g9], fun hb => by simp only [k9 hb]⟩
                simp only [g9, k9]
                exact RdS.ok h9 (by omega)
omit he in
/-- What calls itself reads the same, of texts of less than m tokens. -/
structure RcB (e : Ex) (b : Bool) (m : Nat) (R R' : Rc) : Prop where
  expr : Bi e b m R.expr R'.expr
  body : Bi e b m R.body R'.body
  neg : Bi e b m R.neg R'.neg
  fac : Bi e b m R.fac R'.fac
  tab : Bi e b m R.tab R'.tab
variable {m : Nat} {R R' : Rc} (hR : RcB e b m R R')
include hR
theorem castF_bi  : Bi e b m (castF R) (castF R') := by
  intro ts ts' h hl
  unfold castF
  rcases hR.expr _ _ h (by omega) with ⟨g1, k1⟩ | ⟨x1, r1, q1, g1, k1, h1, l1⟩
  · exact Or.inl ⟨by simp only [g1], fun hb => by simp only [k1 hb]⟩
  simp only [g1, k1]
  rcases needF_sm he [[97, 115]] (by decide) h1 with ⟨g2, k2⟩ | ⟨r2, q2, g2, k2, h2, l2⟩
  · simp only [g2, k2]; exact RdS.no
  simp only [g2, k2]
  rcases typF_bi he m _ _ h2 (by omega) with ⟨g3, k3⟩ | ⟨x3, r3, q3, g3, k3, h3, l3⟩
  · exact Or.inl ⟨by simp only [g3], fun hb => by simp only [k3 hb]⟩
  simp only [g3, k3]
  exact RdS.ok h3 (by omega)
theorem nullifF_bi  : Bi e b m (nullifF R) (nullifF R') := by
  intro ts ts' h hl
  unfold nullifF
  rcases hR.expr _ _ h (by omega) with ⟨g1, k1⟩ | ⟨x1, r1, q1, g1, k1, h1, l1⟩
  · exact Or.inl ⟨by simp only [g1], fun hb => by simp only [k1 hb]⟩
  simp only [g1, k1]
  rcases sgF_sm he [44] (by decide) h1 with ⟨g2, k2⟩ | ⟨x2, r2, q2, g2, k2, h2, l2⟩
  · simp only [g2, k2]; exact RdS.no
  simp only [g2, k2]
  rcases hR.expr _ _ h2 (by omega) with ⟨g3, k3⟩ | ⟨x3, r3, q3, g3, k3, h3, l3⟩
  · exact Or.inl ⟨by simp only [g3], fun hb => by simp only [k3 hb]⟩
  simp only [g3, k3]
  exact RdS.ok h3 (by omega)
omit hR in
theorem distF_sm {ts ts' : List Tok} (h : Sm e ts ts') : (distF ts').1 = (distF ts).1 ∧ Sm e (distF ts).2 (distF ts').2 := by
  unfold distF
  simp only [tkB_sm he [[100, 105, 115, 116, 105, 110, 99, 116]] h]
  by_cases c : tkB [[100, 105, 115, 116, 105, 110, 99, 116]] ts = true
  · simp only [c, if_true]; exact ⟨by first | rfl | trivial, tkR_sm he _ h⟩
  · simp only [c, if_false, Bool.false_eq_true]; exact ⟨by first | rfl | trivial, tkR_sm he _ h⟩
theorem totE_bi (op : List UInt8) : Bi e b m (totE R op) (totE R' op) := by
  intro ts ts' h hl
  unfold totE
  obtain ⟨hd, h0⟩ := distF_sm he h
  have l0 := distF_len ts
  rw [hd]
  rcases hR.expr _ _ h0 (by omega) with ⟨g1, k1⟩ | ⟨x1, r1, q1, g1, k1, h1, l1⟩
  · exact Or.inl ⟨by simp only [g1], fun hb => by simp only [k1 hb]⟩
  simp only [g1, k1]
  exact RdS.ok h1 (by omega)
theorem totF_bi (op : List UInt8) : Bi e b m (totF R op) (totF R' op) := by
  intro ts ts' h hl
  unfold totF
  by_cases c0 : (op == [99, 111, 117, 110, 116]) = true
  all_goals simp only [c0, if_true, if_false, Bool.false_eq_true]
  rotate_left
  · exact totE_bi he hR op _ _ h hl
  rcases sgF_sm he [42] (by decide) h with ⟨g1, k1⟩ | ⟨x1, r1, q1, g1, k1, h1, l1⟩
  · simp only [g1, k1]
    exact (totE_bi he hR op _ _ h (by omega)).mono (by omega)
  · simp only [g1, k1]
    exact RdS.ok h1 (by omega)
theorem whenF_sw (of : Option Tr) {ts ts' : List Tok} (h : Sm e ts ts') (hl : ts.length < m + 1) : RdS e b (ts.length - 1) (whenF R of ts) (whenF R' of ts') := by
  unfold whenF
  rcases needF_sm he [[119, 104, 101, 110]] (by decide) h with ⟨g1, k1⟩ | ⟨r1, q1, g1, k1, h1, l1⟩
  · simp only [g1, k1]; exact RdS.no
  simp only [g1, k1]
  rcases hR.expr _ _ h1 (by omega) with ⟨g2, k2⟩ | ⟨x2, r2, q2, g2, k2, h2, l2⟩
  · exact Or.inl ⟨by simp only [g2], fun hb => by simp only [k2 hb]⟩
  simp only [g2, k2]
  rcases needF_sm he [[116, 104, 101, 110]] (by decide) h2 with ⟨g3, k3⟩ | ⟨r3, q3, g3, k3, h3, l3⟩
  · simp only [g3, k3]; exact RdS.no
  simp only [g3, k3]
  rcases hR.expr _ _ h3 (by omega) with ⟨g4, k4⟩ | ⟨x4, r4, q4, g4, k4, h4, l4⟩
  · exact Or.inl ⟨by simp only [g4], fun hb => by simp only [k4 hb]⟩
  simp only [g4, k4]
  exact RdS.ok h4 (by omega)
theorem whenF_bi (of : Option Tr) : Bi e b (m + 1) (whenF R of) (whenF R' of) := fun ts ts' h hl => (whenF_sw he hR of h hl).mono (by omega)
omit he hR in
theorem sdB_pos {kd : Int} {s : List UInt8} {ts : List Tok} (h : sdB 0 kd s ts = true) : 0 < ts.length := by
  cases ts with
  | nil => simp [sdB] at h
  | cons t q => simp
theorem whN_bi (of : Option Tr) : ∀ (n n' : Nat) (a : List Tr) (ts ts' : List Tok), Sm e ts ts' → ts.length ≤ m → ts.length < n → ts'.length < n' → RdS e b ts.length (whN R of n a ts) (whN R' of n' a ts')
  | 0, _, _, _, _, _, _, hn, _ => by omega
  | _ + 1, 0, _, _, _, _, _, _, hn => by omega
  | n + 1, n' + 1, a, ts, ts', h, hl, hn, hn' => by
    have E := h.len
    unfold whN
    simp only [sdB_sm he 0 [119, 104, 101, 110] (by decide) 0 h]
    by_cases c : sdB 0 0 [119, 104, 101, 110] ts = true
    · simp only [c, if_true]
      rcases whenF_sw he hR of h (by omega) with ⟨g1, k1⟩ | ⟨x1, r1, q1, g1, k1, h1, l1⟩
      · exact Or.inl ⟨by simp only [g1], fun hb => by simp only [k1 hb]⟩
      · simp only [g1, k1]
        have E1 := h1.len
        have L1 := sdB_pos c
        exact (whN_bi of n n' _ _ _ h1 (by omega) (by omega) (by omega)).mono (by omega)
    · simp only [c, if_false, Bool.false_eq_true]
      exact RdS.ok h (Nat.le_refl _)
omit hR in
theorem caseEndF_bi (m : Nat) (a : List Tr) (last : Tr) : Bi e b m (caseEndF a last) (caseEndF a last) := by
  intro ts ts' h hl
  unfold caseEndF
  rcases needF_sm he [[101, 110, 100]] (by decide) h with ⟨g1, k1⟩ | ⟨r1, q1, g1, k1, h1, l1⟩
  · simp only [g1, k1]; exact RdS.no
  simp only [g1, k1]
  exact RdS.ok h1 (by omega)
theorem caseWhF_bi (of : Option Tr) : Bi e b (m + 1) (caseWhF R of) (caseWhF R' of) := by
  intro ts ts' h hl
  unfold caseWhF
  rcases whenF_bi he hR of _ _ h (by omega) with ⟨g1, k1⟩ | ⟨x1, r1, q1, g1, k1, h1, l1⟩
  · exact Or.inl ⟨by simp only [g1], fun hb => by simp only [k1 hb]⟩
  simp only [g1, k1]
  rcases whN_bi he hR of (r1.length + 1) (q1.length + 1) [x1] _ _ h1 (by omega) (by omega) (by omega) with ⟨g2, k2⟩ | ⟨x2, r2, q2, g2, k2, h2, l2⟩
  · exact Or.inl ⟨by simp only [g2], fun hb => by simp only [k2 hb]⟩
  simp only [g2, k2]
  simp only [tkB_sm he [[101, 108, 115, 101]] h2]
  by_cases c3 : tkB [[101, 108, 115, 101]] r2 = true
  · simp only [c3, if_true]
    have h3 := tkR_sm he [[101, 108, 115, 101]] h2
    have l3 := tkR_ls c3 (by decide)
    rcases hR.expr _ _ h3 (by omega) with ⟨g4, k4⟩ | ⟨x4, r4, q4, g4, k4, h4, l4⟩
    · exact Or.inl ⟨by simp only [g4], fun hb => by simp only [k4 hb]⟩
    simp only [g4, k4]
    exact (caseEndF_bi he m _ _ _ _ h4 (by omega)).mono (by omega)
  · simp only [c3, if_false, Bool.false_eq_true]
    exact (caseEndF_bi he (m + 1) _ _ _ _ h2 (by omega)).mono (by omega)
theorem caseF_bi  : Bi e b m (caseF R) (caseF R') := by
  intro ts ts' h hl
  unfold caseF
  simp only [sdB_sm he 0 [119, 104, 101, 110] (by decide) 0 h]
  by_cases c1 : (sdB 0 0 [119, 104, 101, 110] ts) = true
  · simp only [c1, if_true]
    exact (caseWhF_bi he hR none _ _ h (by omega)).mono (by omega)
  · simp only [c1, if_false, Bool.false_eq_true]
    rcases hR.expr _ _ h (by omega) with ⟨g2, k2⟩ | ⟨x2, r2, q2, g2, k2, h2, l2⟩
    · exact Or.inl ⟨by simp only [g2], fun hb => by simp only [k2 hb]⟩
    simp only [g2, k2]
    exact (caseWhF_bi he hR _ _ _ h2 (by omega)).mono (by omega)
theorem wopF_bi  : Bi e b (m + 1) (wopF R) (wopF R') := by
  intro ts ts' h hl
  unfold wopF
  simp only [tkB_sm he [[116, 114, 117, 101]] h]
  by_cases c1 : tkB [[116, 114, 117, 101]] ts = true
  · simp only [c1, if_true]
    have h1 := tkR_sm he [[116, 114, 117, 101]] h
    have l1 := tkR_ls c1 (by decide)
    exact RdS.ok h1 (by omega)
  · simp only [c1, if_false, Bool.false_eq_true]
    simp only [tkB_sm he [[102, 97, 108, 115, 101]] h]
    by_cases c2 : tkB [[102, 97, 108, 115, 101]] ts = true
    · simp only [c2, if_true]
      have h2 := tkR_sm he [[102, 97, 108, 115, 101]] h
      have l2 := tkR_ls c2 (by decide)
      exact RdS.ok h2 (by omega)
    · simp only [c2, if_false, Bool.false_eq_true]
      simp only [tkB_sm he [[110, 117, 108, 108]] h]
      by_cases c3 : tkB [[110, 117, 108, 108]] ts = true
      · simp only [c3, if_true]
        have h3 := tkR_sm he [[110, 117, 108, 108]] h
        have l3 := tkR_ls c3 (by decide)
        exact RdS.ok h3 (by omega)
      · simp only [c3, if_false, Bool.false_eq_true]
        simp only [tkB_sm he [[101, 120, 105, 115, 116, 115]] h]
        by_cases c4 : tkB [[101, 120, 105, 115, 116, 115]] ts = true
        · simp only [c4, if_true]
          have h4 := tkR_sm he [[101, 120, 105, 115, 116, 115]] h
          have l4 := tkR_ls c4 (by decide)
          rcases parF_bi he (hR.body) _ _ h4 (by omega) with ⟨g5, k5⟩ | ⟨x5, r5, q5, g5, k5, h5, l5⟩
          · exact Or.inl ⟨by simp only [g5], fun hb => by simp only [k5 hb]⟩
          simp only [g5, k5]
          exact RdS.ok h5 (by omega)
        · simp only [c4, if_false, Bool.false_eq_true]
          simp only [tkB_sm he [[99, 97, 115, 101]] h]
          by_cases c6 : tkB [[99, 97, 115, 101]] ts = true
          · simp only [c6, if_true]
            have h6 := tkR_sm he [[99, 97, 115, 101]] h
            have l6 := tkR_ls c6 (by decide)
            exact (caseF_bi he hR _ _ h6 (by omega)).mono (by omega)
          · simp only [c6, if_false, Bool.false_eq_true]
            simp only [tkB_sm he [[99, 97, 115, 116]] h]
            by_cases c7 : tkB [[99, 97, 115, 116]] ts = true
            · simp only [c7, if_true]
              have h7 := tkR_sm he [[99, 97, 115, 116]] h
              have l7 := tkR_ls c7 (by decide)
              exact (parF_bi he (castF_bi he hR) _ _ h7 (by omega)).mono (by omega)
            · simp only [c7, if_false, Bool.false_eq_true]
              simp only [tkB_sm he [[99, 111, 97, 108, 101, 115, 99, 101]] h]
              by_cases c8 : tkB [[99, 111, 97, 108, 101, 115, 99, 101]] ts = true
              · simp only [c8, if_true]
                have h8 := tkR_sm he [[99, 111, 97, 108, 101, 115, 99, 101]] h
                have l8 := tkR_ls c8 (by decide)
                rcases parF_bi he (lsF_bi he hR.expr) _ _ h8 (by omega) with ⟨g9, k9⟩ | ⟨x9, r9, q9, g9, k9, h9, l9⟩
                · exact Or.inl ⟨by simp only [g9], fun hb => by simp only [k9 hb]⟩
                simp only [g9, k9]
                exact RdS.ok h9 (by omega)
              · simp only [c8, if_false, Bool.false_eq_true]
                simp only [tkB_sm he [[110, 117, 108, 108, 105, 102]] h]
                by_cases c10 : tkB [[110, 117, 108, 108, 105, 102]] ts = true
                · simp only [c10, if_true]
                  have h10 := tkR_sm he [[110, 117, 108, 108, 105, 102]] h
                  have l10 := tkR_ls c10 (by decide)
                  exact (parF_bi he (nullifF_bi he hR) _ _ h10 (by omega)).mono (by omega)
                · simp only [c10, if_false, Bool.false_eq_true]
                  rcases oneF_sm he 0 [[99, 111, 117, 110, 116], [115, 117, 109], [109, 105, 110], [109, 97, 120]] (by decide) h with ⟨g11, k11⟩ | ⟨x11, r11, q11, g11, k11, h11, l11⟩
                  · simp only [g11, k11]
                    exact (colF_bi he (m + 1) _ _ h (by omega)).mono (by omega)
                  · simp only [g11, k11]
                    exact (parF_bi he (totF_bi he hR _) _ _ h11 (by omega)).mono (by omega)
theorem oprF_bi : Bi e b (m + 1) (oprF R) (oprF R') := by
  intro ts ts' h hl
  cases ts with
  | nil =>
    rcases h.nilE he with rfl | ⟨t', rfl, hk, hs⟩
    · exact RdS.no
    · refine Or.inl ⟨rfl, fun hb => ?_⟩
      have ho : opnB [t'] = false := by
        rcases hs with hs | ⟨_, hs⟩ <;> simp [opnB, opnN, hk, hs]
      have hg : sgF [40] [t'] = none := by
        rcases hs with hs | ⟨_, hs⟩ <;> simp [sgF, oneF, hk, hs]
      unfold oprF
      simp only [hk, ho, parF, hg]
      simp
  | cons t q =>
    obtain ⟨t', q', rfl, e1, e2, e3, hq⟩ := h.cons
    have ho := opnB_sm he h
    unfold oprF
    simp only [e1, e2, e3, ho]
    by_cases c1 : (t.k == 1) = true
    · simp only [c1, if_true]; exact RdS.ok hq (by simp)
    by_cases c2 : (t.k == 2) = true
    · simp only [c1, c2, if_true, if_false, Bool.false_eq_true]; exact RdS.ok hq (by simp)
    by_cases c3 : (t.k == 3) = true
    · simp only [c1, c2, c3, if_true, if_false, Bool.false_eq_true]
      by_cases c4 : opnB (t :: q) = true
      · simp only [c4, if_true]
        rcases parF_bi he hR.body _ _ h hl with ⟨g1, k1⟩ | ⟨x1, r1, q1, g1, k1, h1, l1⟩
        · exact Or.inl ⟨by simp only [g1], fun hb => by simp only [k1 hb]⟩
        · simp only [g1, k1]; exact RdS.ok h1 l1
      · simp only [c4, if_false, Bool.false_eq_true]
        exact parF_bi he hR.expr _ _ h hl
    · simp only [c1, c2, c3, if_false, Bool.false_eq_true]
      exact wopF_bi he hR _ _ h hl
theorem facF_bi  : Bi e b (m + 1) (facF R) (facF R') := by
  intro ts ts' h hl
  unfold facF
  rcases sgF_sm he [45] (by decide) h with ⟨g1, k1⟩ | ⟨x1, r1, q1, g1, k1, h1, l1⟩
  · simp only [g1, k1]
    exact (oprF_bi he hR _ _ h (by omega)).mono (by omega)
  · simp only [g1, k1]
    rcases hR.fac _ _ h1 (by omega) with ⟨g2, k2⟩ | ⟨x2, r2, q2, g2, k2, h2, l2⟩
    · exact Or.inl ⟨by simp only [g2], fun hb => by simp only [k2 hb]⟩
    simp only [g2, k2]
    exact RdS.ok h2 (by omega)
theorem proF_bi : Bi e b (m + 1) (proF R) (proF R') := chF_bi (facF_bi he hR) (sgLk_lks he _ (by decide))
theorem sumF_bi : Bi e b (m + 1) (sumF R) (sumF R') := chF_bi (proF_bi he hR) (sgLk_lks he _ (by decide))
theorem anyF_bi (s : Tr) (sg op : List UInt8) : Bi e b (m + 1) (cmpF.anyF R s sg op) (cmpF.anyF R' s sg op) := by
  intro ts ts' h hl
  unfold cmpF.anyF
  rcases parF_bi he (hR.body) _ _ h (by omega) with ⟨g1, k1⟩ | ⟨x1, r1, q1, g1, k1, h1, l1⟩
  · exact Or.inl ⟨by simp only [g1], fun hb => by simp only [k1 hb]⟩
  simp only [g1, k1]
  exact RdS.ok h1 (by omega)
theorem cmpF_bi (s : Tr) (sg : List UInt8) : Bi e b (m + 1) (cmpF R s sg) (cmpF R' s sg) := by
  intro ts ts' h hl
  unfold cmpF
  simp only [tkB_sm he [[97, 110, 121]] h]
  by_cases c1 : tkB [[97, 110, 121]] ts = true
  · simp only [c1, if_true]
    have h1 := tkR_sm he [[97, 110, 121]] h
    have l1 := tkR_ls c1 (by decide)
    exact (anyF_bi he hR s sg _ _ _ h1 (by omega)).mono (by omega)
  · simp only [c1, if_false, Bool.false_eq_true]
    simp only [tkB_sm he [[115, 111, 109, 101]] h]
    by_cases c2 : tkB [[115, 111, 109, 101]] ts = true
    · simp only [c2, if_true]
      have h2 := tkR_sm he [[115, 111, 109, 101]] h
      have l2 := tkR_ls c2 (by decide)
      exact (anyF_bi he hR s sg _ _ _ h2 (by omega)).mono (by omega)
    · simp only [c2, if_false, Bool.false_eq_true]
      simp only [tkB_sm he [[97, 108, 108]] h]
      by_cases c3 : tkB [[97, 108, 108]] ts = true
      · simp only [c3, if_true]
        have h3 := tkR_sm he [[97, 108, 108]] h
        have l3 := tkR_ls c3 (by decide)
        exact (anyF_bi he hR s sg _ _ _ h3 (by omega)).mono (by omega)
      · simp only [c3, if_false, Bool.false_eq_true]
        rcases sumF_bi he hR _ _ h (by omega) with ⟨g4, k4⟩ | ⟨x4, r4, q4, g4, k4, h4, l4⟩
        · exact Or.inl ⟨by simp only [g4], fun hb => by simp only [k4 hb]⟩
        simp only [g4, k4]
        exact RdS.ok h4 (by omega)
omit hR in
theorem istF_bi (m : Nat) (s : Tr) : Bi e b m (istF s) (istF s) := by
  intro ts ts' h hl
  unfold istF
  rcases oneF_sm he 0 [[110, 117, 108, 108], [116, 114, 117, 101], [102, 97, 108, 115, 101], [117, 110, 107, 110, 111, 119, 110]] (by decide) h with ⟨g1, k1⟩ | ⟨x1, r1, q1, g1, k1, h1, l1⟩
  · simp only [g1, k1]; exact RdS.no
  simp only [g1, k1]
  exact RdS.ok h1 (by omega)
theorem wtF_bi (s : Tr) : Bi e b (m + 1) (wtF R s) (wtF R' s) := by
  intro ts ts' h hl
  unfold wtF
  simp only [tkB_sm he [[98, 101, 116, 119, 101, 101, 110]] h]
  by_cases c1 : tkB [[98, 101, 116, 119, 101, 101, 110]] ts = true
  · simp only [c1, if_true]
    have h1 := tkR_sm he [[98, 101, 116, 119, 101, 101, 110]] h
    have l1 := tkR_ls c1 (by decide)
    rcases sumF_bi he hR _ _ h1 (by omega) with ⟨g2, k2⟩ | ⟨x2, r2, q2, g2, k2, h2, l2⟩
    · exact Or.inl ⟨by simp only [g2], fun hb => by simp only [k2 hb]⟩
    simp only [g2, k2]
    rcases needF_sm he [[97, 110, 100]] (by decide) h2 with ⟨g3, k3⟩ | ⟨r3, q3, g3, k3, h3, l3⟩
    · simp only [g3, k3]; exact RdS.no
    simp only [g3, k3]
    rcases sumF_bi he hR _ _ h3 (by omega) with ⟨g4, k4⟩ | ⟨x4, r4, q4, g4, k4, h4, l4⟩
    · exact Or.inl ⟨by simp only [g4], fun hb => by simp only [k4 hb]⟩
    simp only [g4, k4]
    exact RdS.ok h4 (by omega)
  · simp only [c1, if_false, Bool.false_eq_true]
    simp only [tkB_sm he [[108, 105, 107, 101]] h]
    by_cases c5 : tkB [[108, 105, 107, 101]] ts = true
    · simp only [c5, if_true]
      have h5 := tkR_sm he [[108, 105, 107, 101]] h
      have l5 := tkR_ls c5 (by decide)
      rcases sumF_bi he hR _ _ h5 (by omega) with ⟨g6, k6⟩ | ⟨x6, r6, q6, g6, k6, h6, l6⟩
      · exact Or.inl ⟨by simp only [g6], fun hb => by simp only [k6 hb]⟩
      simp only [g6, k6]
      exact RdS.ok h6 (by omega)
    · simp only [c5, if_false, Bool.false_eq_true]
      simp only [tkB_sm he [[105, 110]] h]
      by_cases c7 : tkB [[105, 110]] ts = true
      · simp only [c7, if_true]
        have h7 := tkR_sm he [[105, 110]] h
        have l7 := tkR_ls c7 (by decide)
        simp only [opnB_sm he h7]
        by_cases c8 : (opnB (tkR [[105, 110]] ts)) = true
        · simp only [c8, if_true]
          rcases parF_bi he (hR.body) _ _ h7 (by omega) with ⟨g9, k9⟩ | ⟨x9, r9, q9, g9, k9, h9, l9⟩
          · exact Or.inl ⟨by simp only [g9], fun hb => by simp only [k9 hb]⟩
          simp only [g9, k9]
          exact RdS.ok h9 (by omega)
        · simp only [c8, if_false, Bool.false_eq_true]
          rcases parF_bi he (lsF_bi he hR.expr) _ _ h7 (by omega) with ⟨g10, k10⟩ | ⟨x10, r10, q10, g10, k10, h10, l10⟩
          · exact Or.inl ⟨by simp only [g10], fun hb => by simp only [k10 hb]⟩
          simp only [g10, k10]
          exact RdS.ok h10 (by omega)
      · simp only [c7, if_false, Bool.false_eq_true]
        exact RdS.ok h (by omega)
theorem tstF_bi : Bi e b (m + 1) (tstF R) (tstF R') := by
  intro ts ts' h hl
  unfold tstF
  rcases sumF_bi he hR _ _ h (by omega) with ⟨g1, k1⟩ | ⟨x1, r1, q1, g1, k1, h1, l1⟩
  · exact Or.inl ⟨by simp only [g1], fun hb => by simp only [k1 hb]⟩
  simp only [g1, k1]
  rcases oneF_sm he 3 [[61], [60, 62], [60], [60, 61], [62], [62, 61]] (by decide) h1 with ⟨g2, k2⟩ | ⟨x2, r2, q2, g2, k2, h2, l2⟩
  · simp only [g2, k2]
    have hN := tkR_sm he [[105, 115]] h1
    have lN := tkR_len [[105, 115]] r1
    have hM := tkR_sm he [[110, 111, 116]] hN
    have lM := tkR_len [[110, 111, 116]] (tkR [[105, 115]] r1)
    have hO := tkR_sm he [[110, 111, 116]] h1
    have lO := tkR_len [[110, 111, 116]] r1
    simp only [tkB_sm he [[105, 115]] h1, tkB_sm he [[110, 111, 116]] hN, tkB_sm he [[110, 111, 116]] h1]
    by_cases c8 : tkB [[105, 115]] r1 = true
    · simp only [c8, if_true]
      rcases istF_bi he (m + 1) x1 _ _ hM (by omega) with ⟨g9, k9⟩ | ⟨x9, r9, q9, g9, k9, h9, l9⟩
      · exact Or.inl ⟨by simp only [g9], fun hb => by simp only [k9 hb]⟩
      · simp only [g9, k9]; exact RdS.ok h9 (by omega)
    · simp only [c8, if_false, Bool.false_eq_true]
      rcases wtF_bi he hR x1 _ _ hO (by omega) with ⟨g9, k9⟩ | ⟨x9, r9, q9, g9, k9, h9, l9⟩
      · exact Or.inl ⟨by simp only [g9], fun hb => by simp only [k9 hb]⟩
      · cases x9 with
        | some t9 => simp only [g9, k9]; exact RdS.ok h9 (by omega)
        | none =>
          simp only [g9, k9]
          by_cases c9 : tkB [[110, 111, 116]] r1 = true
          · simp only [c9, if_true]; exact RdS.no
          · simp only [c9, if_false, Bool.false_eq_true]; exact RdS.ok h9 (by omega)
  · simp only [g2, k2]
    exact (cmpF_bi he hR _ _ _ _ h2 (by omega)).mono (by omega)
theorem negF_bi  : Bi e b (m + 1) (negF R) (negF R') := by
  intro ts ts' h hl
  unfold negF
  simp only [tkB_sm he [[110, 111, 116]] h]
  by_cases c1 : tkB [[110, 111, 116]] ts = true
  · simp only [c1, if_true]
    have h1 := tkR_sm he [[110, 111, 116]] h
    have l1 := tkR_ls c1 (by decide)
    rcases hR.neg _ _ h1 (by omega) with ⟨g2, k2⟩ | ⟨x2, r2, q2, g2, k2, h2, l2⟩
    · exact Or.inl ⟨by simp only [g2], fun hb => by simp only [k2 hb]⟩
    simp only [g2, k2]
    exact RdS.ok h2 (by omega)
  · simp only [c1, if_false, Bool.false_eq_true]
    exact (tstF_bi he hR _ _ h (by omega)).mono (by omega)
theorem conF_bi : Bi e b (m + 1) (conF R) (conF R') := chF_bi (negF_bi he hR) (wdLk_lks he _)
theorem exprF_bi : Bi e b (m + 1) (exprF R) (exprF R') := chF_bi (conF_bi he hR) (wdLk_lks he _)
theorem clsF_bi (w : List UInt8) : Bi e b (m + 1) (clsF R w) (clsF R' w) := by
  intro ts ts' h hl
  unfold clsF
  simp only [tkB_sm he [w] h]
  by_cases c : tkB [w] ts = true
  · simp only [c, if_true]
    have h1 := tkR_sm he [w] h
    have l1 := tkR_ls c (by simp)
    rcases hR.expr _ _ h1 (by omega) with ⟨g2, k2⟩ | ⟨x2, r2, q2, g2, k2, h2, l2⟩
    · exact Or.inl ⟨by simp only [g2], fun hb => by simp only [k2 hb]⟩
    · simp only [g2, k2]; exact RdS.ok h2 (by omega)
  · simp only [c, if_false, Bool.false_eq_true]; exact RdS.ok h (by omega)
theorem itmF_bi  : Bi e b m (itmF R) (itmF R') := by
  intro ts ts' h hl
  unfold itmF
  rcases sgF_sm he [42] (by decide) h with ⟨g1, k1⟩ | ⟨x1, r1, q1, g1, k1, h1, l1⟩
  · simp only [g1, k1]
    simp only [atnB_sm he h, sdB_sm he 3 [46] (by decide) 1 h, sdB_sm he 3 [42] (by decide) 2 h]
    by_cases c7 : (atnB ts && sdB 1 3 [46] ts && sdB 2 3 [42] ts) = true
    all_goals simp only [c7, if_true, if_false, Bool.false_eq_true]
    rotate_left
    · rcases hR.expr _ _ h hl with ⟨g9, k9⟩ | ⟨x9, r9, q9, g9, k9, h9, l9⟩
      · exact Or.inl ⟨by simp only [g9], fun hb => by simp only [k9 hb]⟩
      simp only [g9, k9]
      rcases aliasF_bi he (m + 1) _ _ h9 (by omega) with ⟨g8, k8⟩ | ⟨x8, r8, q8, g8, k8, h8, l8⟩
      · exact Or.inl ⟨by simp only [g8], fun hb => by simp only [k8 hb]⟩
      simp only [g8, k8]
      exact RdS.ok h8 (by omega)
    rcases nameF_sm he h with ⟨g2, k2⟩ | ⟨x2, r2, q2, g2, k2, h2, l2⟩
    · simp only [g2, k2]; exact RdS.no
    simp only [g2, k2]
    rcases sgF_sm he [46] (by decide) h2 with ⟨g3, k3⟩ | ⟨x3, r3, q3, g3, k3, h3, l3⟩
    · simp only [g3, k3]; exact RdS.no
    simp only [g3, k3]
    rcases sgF_sm he [42] (by decide) h3 with ⟨g4, k4⟩ | ⟨x4, r4, q4, g4, k4, h4, l4⟩
    · simp only [g4, k4]; exact RdS.no
    simp only [g4, k4]
    exact RdS.ok h4 (by omega)
  · simp only [g1, k1]
    exact RdS.ok h1 (by omega)
theorem jdF_bi  : Bi e b (m + 1) (jdF R) (jdF R') := by
  intro ts ts' h hl
  unfold jdF
  simp only [opnB_sm he h]
  by_cases c1 : (opnB ts) = true
  · simp only [c1, if_true]
    rcases parF_bi he (hR.body) _ _ h (by omega) with ⟨g2, k2⟩ | ⟨x2, r2, q2, g2, k2, h2, l2⟩
    · exact Or.inl ⟨by simp only [g2], fun hb => by simp only [k2 hb]⟩
    simp only [g2, k2]
    have h3 := tkR_sm he [[97, 115]] h2
    have l3 := tkR_len [[97, 115]] r2
    rcases nameF_sm he h3 with ⟨g4, k4⟩ | ⟨x4, r4, q4, g4, k4, h4, l4⟩
    · simp only [g4, k4]; exact RdS.no
    simp only [g4, k4]
    exact RdS.ok h4 (by omega)
  · simp only [c1, if_false, Bool.false_eq_true]
    simp only [sdB_sm he 3 [40] (by decide) 0 h]
    by_cases c5 : (sdB 0 3 [40] ts) = true
    · simp only [c5, if_true]
      exact (parF_bi he hR.tab _ _ h (by omega)).mono (by omega)
    · simp only [c5, if_false, Bool.false_eq_true]
      rcases nameF_sm he h with ⟨g6, k6⟩ | ⟨x6, r6, q6, g6, k6, h6, l6⟩
      · simp only [g6, k6]; exact RdS.no
      simp only [g6, k6]
      rcases aliasF_bi he (m + 1) _ _ h6 (by omega) with ⟨g7, k7⟩ | ⟨x7, r7, q7, g7, k7, h7, l7⟩
      · exact Or.inl ⟨by simp only [g7], fun hb => by simp only [k7 hb]⟩
      simp only [g7, k7]
      exact RdS.ok h7 (by omega)
omit hR in
theorem jnF_sm {ts ts' : List Tok} (h : Sm e ts ts') : (jnF ts = none ∧ jnF ts' = none) ∨ (∃ r r', jnF ts = some (none, r) ∧ jnF ts' = some (none, r') ∧ Sm e r r' ∧ r.length ≤ ts.length) ∨ ∃ x r r', jnF ts = some (some x, r) ∧ jnF ts' = some (some x, r') ∧ Sm e r r' ∧ r.length < ts.length := by
  unfold jnF
  simp only [tkB_sm he [[99, 114, 111, 115, 115], [106, 111, 105, 110]] h, tkB_sm he [[106, 111, 105, 110]] h, tkB_sm he [[105, 110, 110, 101, 114], [106, 111, 105, 110]] h]
  by_cases c1 : tkB [[99, 114, 111, 115, 115], [106, 111, 105, 110]] ts = true
  · simp only [c1, if_true]; exact Or.inr (Or.inr ⟨_, _, _, rfl, rfl, tkR_sm he _ h, tkR_ls c1 (by decide)⟩)
  by_cases c2 : tkB [[106, 111, 105, 110]] ts = true
  · simp only [c1, c2, if_true, if_false, Bool.false_eq_true]; exact Or.inr (Or.inr ⟨_, _, _, rfl, rfl, tkR_sm he _ h, tkR_ls c2 (by decide)⟩)
  by_cases c3 : tkB [[105, 110, 110, 101, 114], [106, 111, 105, 110]] ts = true
  · simp only [c1, c2, c3, if_true, if_false, Bool.false_eq_true]; exact Or.inr (Or.inr ⟨_, _, _, rfl, rfl, tkR_sm he _ h, tkR_ls c3 (by decide)⟩)
  simp only [c1, c2, c3, if_false, Bool.false_eq_true]
  rcases oneF_sm he 0 [[108, 101, 102, 116], [114, 105, 103, 104, 116], [102, 117, 108, 108]] (by decide) h with ⟨g1, k1⟩ | ⟨x1, r1, q1, g1, k1, h1, l1⟩
  · simp only [g1, k1]; exact Or.inr (Or.inl ⟨_, _, rfl, rfl, h, Nat.le_refl _⟩)
  · simp only [g1, k1]
    have h2 := tkR_sm he [[111, 117, 116, 101, 114]] h1
    have l2 := tkR_len [[111, 117, 116, 101, 114]] r1
    rcases needF_sm he [[106, 111, 105, 110]] (by decide) h2 with ⟨g3, k3⟩ | ⟨r3, q3, g3, k3, h3, l3⟩
    · exact Or.inl ⟨by simp only [g3], by simp only [k3]⟩
    · simp only [g3, k3]; exact Or.inr (Or.inr ⟨_, _, _, rfl, rfl, h3, by omega⟩)
theorem tbN_bi : ∀ (n n' : Nat) (a : Tr) (ts ts' : List Tok), Sm e ts ts' → ts.length ≤ m → ts.length < n → ts'.length < n' → RdS e b ts.length (tbN R n a ts) (tbN R' n' a ts')
  | 0, _, _, _, _, _, _, hn, _ => by omega
  | _ + 1, 0, _, _, _, _, _, _, hn => by omega
  | n + 1, n' + 1, a, ts, ts', h, hl, hn, hn' => by
    have E := h.len
    unfold tbN
    rcases jnF_sm he h with ⟨g1, k1⟩ | ⟨r1, q1, g1, k1, h1, l1⟩ | ⟨x1, r1, q1, g1, k1, h1, l1⟩
    · simp only [g1, k1]; exact RdS.no
    · simp only [g1, k1]; exact RdS.ok h1 l1
    · simp only [g1, k1]
      have E1 := h1.len
      rcases jdF_bi he hR _ _ h1 (by omega) with ⟨g2, k2⟩ | ⟨x2, r2, q2, g2, k2, h2, l2⟩
      · exact Or.inl ⟨by simp only [g2], fun hb => by simp only [k2 hb]⟩
      simp only [g2, k2]
      have E2 := h2.len
      by_cases c : (x1 == [99, 114, 111, 115, 115]) = true
      · simp only [c, if_true]
        exact (tbN_bi n n' _ _ _ h2 (by omega) (by omega) (by omega)).mono (by omega)
      · simp only [c, if_false, Bool.false_eq_true]
        rcases needF_sm he [[111, 110]] (by decide) h2 with ⟨g3, k3⟩ | ⟨r3, q3, g3, k3, h3, l3⟩
        · simp only [g3, k3]; exact RdS.no
        simp only [g3, k3]
        have E3 := h3.len
        rcases hR.expr _ _ h3 (by omega) with ⟨g4, k4⟩ | ⟨x4, r4, q4, g4, k4, h4, l4⟩
        · exact Or.inl ⟨by simp only [g4], fun hb => by simp only [k4 hb]⟩
        simp only [g4, k4]
        have E4 := h4.len
        exact (tbN_bi n n' _ _ _ h4 (by omega) (by omega) (by omega)).mono (by omega)
theorem tabF_bi : Bi e b (m + 1) (tabF R) (tabF R') := by
  intro ts ts' h hl
  unfold tabF
  have E := h.len
  rcases jdF_bi he hR _ _ h (by omega) with ⟨g2, k2⟩ | ⟨x2, r2, q2, g2, k2, h2, l2⟩
  · exact Or.inl ⟨by simp only [g2], fun hb => by simp only [k2 hb]⟩
  simp only [g2, k2]
  exact (tbN_bi he hR _ _ _ _ _ h2 (by omega) (by omega) (by omega)).mono (by omega)
omit hR in
theorem groupF_bi (m : Nat) : Bi e b m groupF groupF := by
  intro ts ts' h hl
  unfold groupF
  simp only [tkB_sm he [[103, 114, 111, 117, 112], [98, 121]] h]
  by_cases c1 : tkB [[103, 114, 111, 117, 112], [98, 121]] ts = true
  · simp only [c1, if_true]
    have h1 := tkR_sm he [[103, 114, 111, 117, 112], [98, 121]] h
    have l1 := tkR_ls c1 (by decide)
    rcases lsF_bi he (colF_bi he m) _ _ h1 (by omega) with ⟨g2, k2⟩ | ⟨x2, r2, q2, g2, k2, h2, l2⟩
    · exact Or.inl ⟨by simp only [g2], fun hb => by simp only [k2 hb]⟩
    simp only [g2, k2]
    exact RdS.ok h2 (by omega)
  · simp only [c1, if_false, Bool.false_eq_true]
    exact RdS.ok h (by omega)
theorem selF_bi  : Bi e b m (selF R) (selF R') := by
  intro ts ts' h hl
  unfold selF
  obtain ⟨hd, h0⟩ := distF_sm he h
  have l0 := distF_len ts
  rw [hd]
  rcases lsF_bi he (itmF_bi he hR) _ _ h0 (by omega) with ⟨g1, k1⟩ | ⟨x1, r1, q1, g1, k1, h1, l1⟩
  · exact Or.inl ⟨by simp only [g1], fun hb => by simp only [k1 hb]⟩
  simp only [g1, k1]
  rcases needF_sm he [[102, 114, 111, 109]] (by decide) h1 with ⟨g2, k2⟩ | ⟨r2, q2, g2, k2, h2, l2⟩
  · simp only [g2, k2]; exact RdS.no
  simp only [g2, k2]
  rcases lsF_bi he (tabF_bi he hR) _ _ h2 (by omega) with ⟨g3, k3⟩ | ⟨x3, r3, q3, g3, k3, h3, l3⟩
  · exact Or.inl ⟨by simp only [g3], fun hb => by simp only [k3 hb]⟩
  simp only [g3, k3]
  rcases clsF_bi he hR [119, 104, 101, 114, 101] _ _ h3 (by omega) with ⟨g4, k4⟩ | ⟨x4, r4, q4, g4, k4, h4, l4⟩
  · exact Or.inl ⟨by simp only [g4], fun hb => by simp only [k4 hb]⟩
  simp only [g4, k4]
  rcases groupF_bi he m _ _ h4 (by omega) with ⟨g5, k5⟩ | ⟨x5, r5, q5, g5, k5, h5, l5⟩
  · exact Or.inl ⟨by simp only [g5], fun hb => by simp only [k5 hb]⟩
  simp only [g5, k5]
  rcases clsF_bi he hR [104, 97, 118, 105, 110, 103] _ _ h5 (by omega) with ⟨g6, k6⟩ | ⟨x6, r6, q6, g6, k6, h6, l6⟩
  · exact Or.inl ⟨by simp only [g6], fun hb => by simp only [k6 hb]⟩
  simp only [g6, k6]
  exact RdS.ok h6 (by omega)
theorem simF_bi  : Bi e b (m + 1) (simF R) (simF R') := by
  intro ts ts' h hl
  unfold simF
  simp only [sdB_sm he 3 [40] (by decide) 0 h]
  by_cases c1 : (sdB 0 3 [40] ts) = true
  · simp only [c1, if_true]
    exact (parF_bi he hR.body _ _ h (by omega)).mono (by omega)
  · simp only [c1, if_false, Bool.false_eq_true]
    rcases needF_sm he [[115, 101, 108, 101, 99, 116]] (by decide) h with ⟨g2, k2⟩ | ⟨r2, q2, g2, k2, h2, l2⟩
    · simp only [g2, k2]; exact RdS.no
    simp only [g2, k2]
    exact (selF_bi he hR _ _ h2 (by omega)).mono (by omega)
theorem trmF_bi : Bi e b (m + 1) (trmF R) (trmF R') := chF_bi (simF_bi he hR) (setLk_lks he _)
theorem bodF_bi : Bi e b (m + 1) (bodF R) (bodF R') := chF_bi (trmF_bi he hR) (setLk_lks he _)
omit hR in
theorem recs_bi : ∀ (m n n' : Nat), m ≤ n → m ≤ n' → RcB e b m (recs n) (recs n')
  | 0, _, _, _, _ => ⟨fun _ _ _ h => by omega, fun _ _ _ h => by omega, fun _ _ _ h => by omega, fun _ _ _ h => by omega, fun _ _ _ h => by omega⟩
  | m + 1, 0, _, h, _ => by omega
  | m + 1, _ + 1, 0, _, h => by omega
  | m + 1, n + 1, n' + 1, h, h' =>
    have ih := recs_bi m n n' (by omega) (by omega)
    ⟨exprF_bi he ih, bodF_bi he ih, negF_bi he ih, facF_bi he ih, tabF_bi he ih⟩
omit hR in
theorem kbyF_bi (m : Nat) : Bi e b m kbyF kbyF := by
  intro ts ts' h hl
  unfold kbyF
  simp only [atnB_sm he h]
  by_cases c1 : (atnB ts) = true
  · simp only [c1, if_true]
    exact (colF_bi he m _ _ h (by omega)).mono (by omega)
  · simp only [c1, if_false, Bool.false_eq_true]
    rcases numF_sm he h with ⟨g2, k2⟩ | ⟨x2, r2, q2, g2, k2, h2, l2⟩
    · simp only [g2, k2]; exact RdS.no
    simp only [g2, k2]
    exact RdS.ok h2 (by omega)
omit hR in
theorem keyF_bi (m : Nat) : Bi e b m keyF keyF := by
  intro ts ts' h hl
  unfold keyF
  rcases kbyF_bi he m _ _ h (by omega) with ⟨g1, k1⟩ | ⟨x1, r1, q1, g1, k1, h1, l1⟩
  · exact Or.inl ⟨by simp only [g1], fun hb => by simp only [k1 hb]⟩
  simp only [g1, k1]
  simp only [tkB_sm he [[100, 101, 115, 99]] h1]
  by_cases c2 : tkB [[100, 101, 115, 99]] r1 = true
  · simp only [c2, if_true]
    have h2 := tkR_sm he [[100, 101, 115, 99]] h1
    have l2 := tkR_ls c2 (by decide)
    exact RdS.ok h2 (by omega)
  · simp only [c2, if_false, Bool.false_eq_true]
    have h3 := tkR_sm he [[97, 115, 99]] h1
    have l3 := tkR_len [[97, 115, 99]] r1
    exact RdS.ok h3 (by omega)
theorem qryF_bi  : Bi e b m (qryF R) (qryF R') := by
  intro ts ts' h hl
  unfold qryF
  rcases hR.body _ _ h (by omega) with ⟨g1, k1⟩ | ⟨x1, r1, q1, g1, k1, h1, l1⟩
  · exact Or.inl ⟨by simp only [g1], fun hb => by simp only [k1 hb]⟩
  simp only [g1, k1]
  simp only [tkB_sm he [[111, 114, 100, 101, 114], [98, 121]] h1]
  by_cases c2 : tkB [[111, 114, 100, 101, 114], [98, 121]] r1 = true
  · simp only [c2, if_true]
    have h2 := tkR_sm he [[111, 114, 100, 101, 114], [98, 121]] h1
    have l2 := tkR_ls c2 (by decide)
    rcases lsF_bi he (keyF_bi he m) _ _ h2 (by omega) with ⟨g3, k3⟩ | ⟨x3, r3, q3, g3, k3, h3, l3⟩
    · exact Or.inl ⟨by simp only [g3], fun hb => by simp only [k3 hb]⟩
    simp only [g3, k3]
    exact RdS.ok h3 (by omega)
  · simp only [c2, if_false, Bool.false_eq_true]
    exact RdS.ok h1 (by omega)
theorem chkF_bi  : Bi e b (m + 1) (chkF R) (chkF R') := by
  intro ts ts' h hl
  unfold chkF
  rcases parF_bi he (hR.expr) _ _ h (by omega) with ⟨g1, k1⟩ | ⟨x1, r1, q1, g1, k1, h1, l1⟩
  · exact Or.inl ⟨by simp only [g1], fun hb => by simp only [k1 hb]⟩
  simp only [g1, k1]
  exact RdS.ok h1 (by omega)
theorem optF_sm {ts ts' : List Tok} (h : Sm e ts ts') (hl : ts.length < m + 1) : (optF R ts = none ∧ (b = true → optF R' ts' = none)) ∨ (∃ r r', optF R ts = some (none, r) ∧ optF R' ts' = some (none, r') ∧ Sm e r r' ∧ r.length ≤ ts.length) ∨ ∃ x r r', optF R ts = some (some x, r) ∧ optF R' ts' = some (some x, r') ∧ Sm e r r' ∧ r.length < ts.length := by
  unfold optF
  simp only [tkB_sm he [[110, 111, 116], [110, 117, 108, 108]] h, tkB_sm he [[112, 114, 105, 109, 97, 114, 121], [107, 101, 121]] h, tkB_sm he [[117, 110, 105, 113, 117, 101]] h, tkB_sm he [[99, 104, 101, 99, 107]] h, tkB_sm he [[114, 101, 102, 101, 114, 101, 110, 99, 101, 115]] h]
  by_cases c1 : tkB [[110, 111, 116], [110, 117, 108, 108]] ts = true
  · simp only [c1, if_true]; exact Or.inr (Or.inr ⟨_, _, _, rfl, rfl, tkR_sm he _ h, tkR_ls c1 (by decide)⟩)
  by_cases c2 : tkB [[112, 114, 105, 109, 97, 114, 121], [107, 101, 121]] ts = true
  · simp only [c1, c2, if_true, if_false, Bool.false_eq_true]; exact Or.inr (Or.inr ⟨_, _, _, rfl, rfl, tkR_sm he _ h, tkR_ls c2 (by decide)⟩)
  by_cases c3 : tkB [[117, 110, 105, 113, 117, 101]] ts = true
  · simp only [c1, c2, c3, if_true, if_false, Bool.false_eq_true]; exact Or.inr (Or.inr ⟨_, _, _, rfl, rfl, tkR_sm he _ h, tkR_ls c3 (by decide)⟩)
  by_cases c4 : tkB [[99, 104, 101, 99, 107]] ts = true
  · simp only [c1, c2, c3, c4, if_true, if_false, Bool.false_eq_true]
    have h1 := tkR_sm he [[99, 104, 101, 99, 107]] h
    have l1 := tkR_ls c4 (by decide)
    rcases chkF_bi he hR _ _ h1 (by omega) with ⟨g2, k2⟩ | ⟨x2, r2, q2, g2, k2, h2, l2⟩
    · exact Or.inl ⟨by simp only [g2], fun hb => by simp only [k2 hb]⟩
    · simp only [g2, k2]; exact Or.inr (Or.inr ⟨_, _, _, rfl, rfl, h2, by omega⟩)
  by_cases c5 : tkB [[114, 101, 102, 101, 114, 101, 110, 99, 101, 115]] ts = true
  · simp only [c1, c2, c3, c4, c5, if_true, if_false, Bool.false_eq_true]
    have h1 := tkR_sm he [[114, 101, 102, 101, 114, 101, 110, 99, 101, 115]] h
    have l1 := tkR_ls c5 (by decide)
    rcases nameF_sm he h1 with ⟨g2, k2⟩ | ⟨x2, r2, q2, g2, k2, h2, l2⟩
    · exact Or.inl ⟨by simp only [g2], fun _ => by simp only [k2]⟩
    · simp only [g2, k2]; exact Or.inr (Or.inr ⟨_, _, _, rfl, rfl, h2, by omega⟩)
  simp only [c1, c2, c3, c4, c5, if_false, Bool.false_eq_true]
  exact Or.inr (Or.inl ⟨_, _, rfl, rfl, h, Nat.le_refl _⟩)
theorem opN_bi : ∀ (n n' : Nat) (a : List Tr) (ts ts' : List Tok), Sm e ts ts' → ts.length < m + 1 → ts.length < n → ts'.length < n' → RdS e b ts.length (opN R n a ts) (opN R' n' a ts')
  | 0, _, _, _, _, _, _, hn, _ => by omega
  | _ + 1, 0, _, _, _, _, _, _, hn => by omega
  | n + 1, n' + 1, a, ts, ts', h, hl, hn, hn' => by
    have E := h.len
    unfold opN
    rcases optF_sm he hR h hl with ⟨g1, k1⟩ | ⟨r1, q1, g1, k1, h1, l1⟩ | ⟨x1, r1, q1, g1, k1, h1, l1⟩
    · exact Or.inl ⟨by simp only [g1], fun hb => by simp only [k1 hb]⟩
    · simp only [g1, k1]; exact RdS.ok h1 l1
    · simp only [g1, k1]
      have E1 := h1.len
      exact (opN_bi n n' _ _ _ h1 (by omega) (by omega) (by omega)).mono (by omega)
theorem cofF_bi  : Bi e b (m + 1) (cofF R) (cofF R') := by
  intro ts ts' h hl
  unfold cofF
  rcases nameF_sm he h with ⟨g1, k1⟩ | ⟨x1, r1, q1, g1, k1, h1, l1⟩
  · simp only [g1, k1]; exact RdS.no
  simp only [g1, k1]
  rcases typF_bi he (m + 1) _ _ h1 (by omega) with ⟨g2, k2⟩ | ⟨x2, r2, q2, g2, k2, h2, l2⟩
  · exact Or.inl ⟨by simp only [g2], fun hb => by simp only [k2 hb]⟩
  simp only [g2, k2]
  rcases opN_bi he hR (r2.length + 1) (q2.length + 1) [x2] _ _ h2 (by omega) (by omega) (by omega) with ⟨g3, k3⟩ | ⟨x3, r3, q3, g3, k3, h3, l3⟩
  · exact Or.inl ⟨by simp only [g3], fun hb => by simp only [k3 hb]⟩
  simp only [g3, k3]
  exact RdS.ok h3 (by omega)
theorem eleF_bi  : Bi e b (m + 1) (eleF R) (eleF R') := by
  intro ts ts' h hl
  unfold eleF
  simp only [tkB_sm he [[112, 114, 105, 109, 97, 114, 121], [107, 101, 121]] h]
  by_cases c1 : tkB [[112, 114, 105, 109, 97, 114, 121], [107, 101, 121]] ts = true
  · simp only [c1, if_true]
    have h1 := tkR_sm he [[112, 114, 105, 109, 97, 114, 121], [107, 101, 121]] h
    have l1 := tkR_ls c1 (by decide)
    rcases namesF_bi he (m + 1) _ _ h1 (by omega) with ⟨g2, k2⟩ | ⟨x2, r2, q2, g2, k2, h2, l2⟩
    · exact Or.inl ⟨by simp only [g2], fun hb => by simp only [k2 hb]⟩
    simp only [g2, k2]
    exact RdS.ok h2 (by omega)
  · simp only [c1, if_false, Bool.false_eq_true]
    simp only [tkB_sm he [[117, 110, 105, 113, 117, 101]] h]
    by_cases c3 : tkB [[117, 110, 105, 113, 117, 101]] ts = true
    · simp only [c3, if_true]
      have h3 := tkR_sm he [[117, 110, 105, 113, 117, 101]] h
      have l3 := tkR_ls c3 (by decide)
      rcases namesF_bi he (m + 1) _ _ h3 (by omega) with ⟨g4, k4⟩ | ⟨x4, r4, q4, g4, k4, h4, l4⟩
      · exact Or.inl ⟨by simp only [g4], fun hb => by simp only [k4 hb]⟩
      simp only [g4, k4]
      exact RdS.ok h4 (by omega)
    · simp only [c3, if_false, Bool.false_eq_true]
      simp only [tkB_sm he [[99, 104, 101, 99, 107]] h]
      by_cases c5 : tkB [[99, 104, 101, 99, 107]] ts = true
      · simp only [c5, if_true]
        have h5 := tkR_sm he [[99, 104, 101, 99, 107]] h
        have l5 := tkR_ls c5 (by decide)
        exact (chkF_bi he hR _ _ h5 (by omega)).mono (by omega)
      · simp only [c5, if_false, Bool.false_eq_true]
        simp only [tkB_sm he [[102, 111, 114, 101, 105, 103, 110], [107, 101, 121]] h]
        by_cases c6 : tkB [[102, 111, 114, 101, 105, 103, 110], [107, 101, 121]] ts = true
        · simp only [c6, if_true]
          have h6 := tkR_sm he [[102, 111, 114, 101, 105, 103, 110], [107, 101, 121]] h
          have l6 := tkR_ls c6 (by decide)
          rcases namesF_bi he (m + 1) _ _ h6 (by omega) with ⟨g7, k7⟩ | ⟨x7, r7, q7, g7, k7, h7, l7⟩
          · exact Or.inl ⟨by simp only [g7], fun hb => by simp only [k7 hb]⟩
          simp only [g7, k7]
          rcases needF_sm he [[114, 101, 102, 101, 114, 101, 110, 99, 101, 115]] (by decide) h7 with ⟨g8, k8⟩ | ⟨r8, q8, g8, k8, h8, l8⟩
          · simp only [g8, k8]; exact RdS.no
          simp only [g8, k8]
          rcases nameF_sm he h8 with ⟨g9, k9⟩ | ⟨x9, r9, q9, g9, k9, h9, l9⟩
          · simp only [g9, k9]; exact RdS.no
          simp only [g9, k9]
          exact RdS.ok h9 (by omega)
        · simp only [c6, if_false, Bool.false_eq_true]
          exact (cofF_bi he hR _ _ h (by omega)).mono (by omega)
omit hR in
theorem cixF_bi (m : Nat) (u : Int) : Bi e b m (cixF u) (cixF u) := by
  intro ts ts' h hl
  unfold cixF
  rcases nameF_sm he h with ⟨g1, k1⟩ | ⟨x1, r1, q1, g1, k1, h1, l1⟩
  · simp only [g1, k1]; exact RdS.no
  simp only [g1, k1]
  rcases needF_sm he [[111, 110]] (by decide) h1 with ⟨g2, k2⟩ | ⟨r2, q2, g2, k2, h2, l2⟩
  · simp only [g2, k2]; exact RdS.no
  simp only [g2, k2]
  rcases nameF_sm he h2 with ⟨g3, k3⟩ | ⟨x3, r3, q3, g3, k3, h3, l3⟩
  · simp only [g3, k3]; exact RdS.no
  simp only [g3, k3]
  rcases namesF_bi he m _ _ h3 (by omega) with ⟨g4, k4⟩ | ⟨x4, r4, q4, g4, k4, h4, l4⟩
  · exact Or.inl ⟨by simp only [g4], fun hb => by simp only [k4 hb]⟩
  simp only [g4, k4]
  exact RdS.ok h4 (by omega)
theorem rowF_bi  : Bi e b (m + 1) (rowF R) (rowF R') := by
  intro ts ts' h hl
  unfold rowF
  rcases parF_bi he (lsF_bi he hR.expr) _ _ h (by omega) with ⟨g1, k1⟩ | ⟨x1, r1, q1, g1, k1, h1, l1⟩
  · exact Or.inl ⟨by simp only [g1], fun hb => by simp only [k1 hb]⟩
  simp only [g1, k1]
  exact RdS.ok h1 (by omega)
theorem insEndF_bi (s : List UInt8) (c : Tr) : Bi e b m (insEndF R s c) (insEndF R' s c) := by
  intro ts ts' h hl
  unfold insEndF
  simp only [tkB_sm he [[118, 97, 108, 117, 101, 115]] h]
  by_cases c1 : tkB [[118, 97, 108, 117, 101, 115]] ts = true
  · simp only [c1, if_true]
    have h1 := tkR_sm he [[118, 97, 108, 117, 101, 115]] h
    have l1 := tkR_ls c1 (by decide)
    rcases lsF_bi he (rowF_bi he hR) _ _ h1 (by omega) with ⟨g2, k2⟩ | ⟨x2, r2, q2, g2, k2, h2, l2⟩
    · exact Or.inl ⟨by simp only [g2], fun hb => by simp only [k2 hb]⟩
    simp only [g2, k2]
    exact RdS.ok h2 (by omega)
  · simp only [c1, if_false, Bool.false_eq_true]
    rcases hR.body _ _ h (by omega) with ⟨g3, k3⟩ | ⟨x3, r3, q3, g3, k3, h3, l3⟩
    · exact Or.inl ⟨by simp only [g3], fun hb => by simp only [k3 hb]⟩
    simp only [g3, k3]
    exact RdS.ok h3 (by omega)
theorem insF_bi  : Bi e b m (insF R) (insF R') := by
  intro ts ts' h hl
  unfold insF
  rcases nameF_sm he h with ⟨g1, k1⟩ | ⟨x1, r1, q1, g1, k1, h1, l1⟩
  · simp only [g1, k1]; exact RdS.no
  simp only [g1, k1]
  simp only [sdB_sm he 3 [40] (by decide) 0 h1, opnB_sm he h1]
  by_cases c7 : (sdB 0 3 [40] r1 && !opnB r1) = true
  all_goals simp only [c7, if_true, if_false, Bool.false_eq_true]
  rotate_left
  · exact (insEndF_bi he hR _ _ _ _ h1 (by omega)).mono (by omega)
  rcases namesF_bi he (m + 1) _ _ h1 (by omega) with ⟨g2, k2⟩ | ⟨x2, r2, q2, g2, k2, h2, l2⟩
  · exact Or.inl ⟨by simp only [g2], fun hb => by simp only [k2 hb]⟩
  simp only [g2, k2]
  exact (insEndF_bi he hR _ _ _ _ h2 (by omega)).mono (by omega)
theorem setF_bi  : Bi e b m (setF R) (setF R') := by
  intro ts ts' h hl
  unfold setF
  rcases nameF_sm he h with ⟨g1, k1⟩ | ⟨x1, r1, q1, g1, k1, h1, l1⟩
  · simp only [g1, k1]; exact RdS.no
  simp only [g1, k1]
  rcases sgF_sm he [61] (by decide) h1 with ⟨g2, k2⟩ | ⟨x2, r2, q2, g2, k2, h2, l2⟩
  · simp only [g2, k2]; exact RdS.no
  simp only [g2, k2]
  rcases hR.expr _ _ h2 (by omega) with ⟨g3, k3⟩ | ⟨x3, r3, q3, g3, k3, h3, l3⟩
  · exact Or.inl ⟨by simp only [g3], fun hb => by simp only [k3 hb]⟩
  simp only [g3, k3]
  exact RdS.ok h3 (by omega)
theorem whoF_bi  : Bi e b (m + 1) (whoF R) (whoF R') := by
  intro ts ts' h hl
  unfold whoF
  simp only [tkB_sm he [[119, 104, 101, 114, 101], [99, 117, 114, 114, 101, 110, 116], [111, 102]] h]
  by_cases c1 : tkB [[119, 104, 101, 114, 101], [99, 117, 114, 114, 101, 110, 116], [111, 102]] ts = true
  · simp only [c1, if_true]
    have h1 := tkR_sm he [[119, 104, 101, 114, 101], [99, 117, 114, 114, 101, 110, 116], [111, 102]] h
    have l1 := tkR_ls c1 (by decide)
    rcases nameF_sm he h1 with ⟨g2, k2⟩ | ⟨x2, r2, q2, g2, k2, h2, l2⟩
    · simp only [g2, k2]; exact RdS.no
    simp only [g2, k2]
    exact RdS.ok h2 (by omega)
  · simp only [c1, if_false, Bool.false_eq_true]
    exact (clsF_bi he hR _ _ _ h (by omega)).mono (by omega)
theorem updF_bi  : Bi e b m (updF R) (updF R') := by
  intro ts ts' h hl
  unfold updF
  rcases nameF_sm he h with ⟨g1, k1⟩ | ⟨x1, r1, q1, g1, k1, h1, l1⟩
  · simp only [g1, k1]; exact RdS.no
  simp only [g1, k1]
  rcases needF_sm he [[115, 101, 116]] (by decide) h1 with ⟨g2, k2⟩ | ⟨r2, q2, g2, k2, h2, l2⟩
  · simp only [g2, k2]; exact RdS.no
  simp only [g2, k2]
  rcases lsF_bi he (setF_bi he hR) _ _ h2 (by omega) with ⟨g3, k3⟩ | ⟨x3, r3, q3, g3, k3, h3, l3⟩
  · exact Or.inl ⟨by simp only [g3], fun hb => by simp only [k3 hb]⟩
  simp only [g3, k3]
  rcases whoF_bi he hR _ _ h3 (by omega) with ⟨g4, k4⟩ | ⟨x4, r4, q4, g4, k4, h4, l4⟩
  · exact Or.inl ⟨by simp only [g4], fun hb => by simp only [k4 hb]⟩
  simp only [g4, k4]
  exact RdS.ok h4 (by omega)
omit hR in
theorem purF_sm {ts ts' : List Tok} (h : Sm e ts ts') : (purF ts').1 = (purF ts).1 ∧ Sm e (purF ts).2 (purF ts').2 ∧ (purF ts).2.length ≤ ts.length := by
  unfold purF
  simp only [tkB_sm he [[102, 111, 114], [114, 101, 97, 100], [111, 110, 108, 121]] h, tkB_sm he [[102, 111, 114], [117, 112, 100, 97, 116, 101]] h]
  by_cases c1 : tkB [[102, 111, 114], [114, 101, 97, 100], [111, 110, 108, 121]] ts = true
  · simp only [c1, if_true]; exact ⟨by first | rfl | trivial, tkR_sm he _ h, tkR_len _ _⟩
  by_cases c2 : tkB [[102, 111, 114], [117, 112, 100, 97, 116, 101]] ts = true
  · simp only [c1, c2, if_true, if_false, Bool.false_eq_true]; exact ⟨by first | rfl | trivial, tkR_sm he _ h, tkR_len _ _⟩
  simp only [c1, c2, if_false, Bool.false_eq_true]; exact ⟨by first | rfl | trivial, h, Nat.le_refl _⟩
theorem decF_bi  : Bi e b m (decF R) (decF R') := by
  intro ts ts' h hl
  unfold decF
  rcases nameF_sm he h with ⟨g1, k1⟩ | ⟨x1, r1, q1, g1, k1, h1, l1⟩
  · simp only [g1, k1]; exact RdS.no
  simp only [g1, k1]
  simp only [tkB_sm he [[115, 99, 114, 111, 108, 108]] h1]
  have h2 := tkR_sm he [[115, 99, 114, 111, 108, 108]] h1
  have l2 := tkR_len [[115, 99, 114, 111, 108, 108]] r1
  rcases needF_sm he [[99, 117, 114, 115, 111, 114], [102, 111, 114]] (by decide) h2 with ⟨g3, k3⟩ | ⟨r3, q3, g3, k3, h3, l3⟩
  · simp only [g3, k3]; exact RdS.no
  simp only [g3, k3]
  rcases qryF_bi he hR _ _ h3 (by omega) with ⟨g4, k4⟩ | ⟨x4, r4, q4, g4, k4, h4, l4⟩
  · exact Or.inl ⟨by simp only [g4], fun hb => by simp only [k4 hb]⟩
  simp only [g4, k4]
  obtain ⟨p1, p2, p3⟩ := purF_sm he h4
  rw [p1]
  exact RdS.ok p2 (by omega)
omit hR in
theorem sgnF_bi (m : Nat) : Bi e b m sgnF sgnF := by
  intro ts ts' h hl
  unfold sgnF
  rcases sgF_sm he [45] (by decide) h with ⟨g1, k1⟩ | ⟨x1, r1, q1, g1, k1, h1, l1⟩
  · simp only [g1, k1]
    exact (numF_bi he m _ _ h (by omega)).mono (by omega)
  · simp only [g1, k1]
    rcases numF_sm he h1 with ⟨g2, k2⟩ | ⟨x2, r2, q2, g2, k2, h2, l2⟩
    · simp only [g2, k2]; exact RdS.no
    simp only [g2, k2]
    exact RdS.ok h2 (by omega)
omit hR in
theorem wayF_bi (m : Nat) : Bi e b m wayF wayF := by
  intro ts ts' h hl
  unfold wayF
  rcases oneF_sm he 0 [[110, 101, 120, 116], [112, 114, 105, 111, 114], [102, 105, 114, 115, 116], [108, 97, 115, 116]] (by decide) h with ⟨g1, k1⟩ | ⟨x1, r1, q1, g1, k1, h1, l1⟩
  · simp only [g1, k1]
    rcases oneF_sm he 0 [[97, 98, 115, 111, 108, 117, 116, 101], [114, 101, 108, 97, 116, 105, 118, 101]] (by decide) h with ⟨g2, k2⟩ | ⟨x2, r2, q2, g2, k2, h2, l2⟩
    · simp only [g2, k2]
      exact RdS.ok h (by omega)
    · simp only [g2, k2]
      rcases sgnF_bi he m _ _ h2 (by omega) with ⟨g3, k3⟩ | ⟨x3, r3, q3, g3, k3, h3, l3⟩
      · exact Or.inl ⟨by simp only [g3], fun hb => by simp only [k3 hb]⟩
      simp only [g3, k3]
      exact RdS.ok h3 (by omega)
  · simp only [g1, k1]
    exact RdS.ok h1 (by omega)
omit hR in
theorem fetF_bi (m : Nat) : Bi e b m fetF fetF := by
  intro ts ts' h hl
  unfold fetF
  rcases wayF_bi he m _ _ h (by omega) with ⟨g1, k1⟩ | ⟨x1, r1, q1, g1, k1, h1, l1⟩
  · exact Or.inl ⟨by simp only [g1], fun hb => by simp only [k1 hb]⟩
  simp only [g1, k1]
  have h2 := tkR_sm he [[102, 114, 111, 109]] h1
  have l2 := tkR_len [[102, 114, 111, 109]] r1
  rcases nameF_sm he h2 with ⟨g3, k3⟩ | ⟨x3, r3, q3, g3, k3, h3, l3⟩
  · simp only [g3, k3]; exact RdS.no
  simp only [g3, k3]
  exact RdS.ok h3 (by omega)
omit hR in
theorem savF_bi (m : Nat) (op : List UInt8) : Bi e b m (savF op) (savF op) := by
  intro ts ts' h hl
  unfold savF
  have h1 := tkR_sm he [[115, 97, 118, 101, 112, 111, 105, 110, 116]] h
  have l1 := tkR_len [[115, 97, 118, 101, 112, 111, 105, 110, 116]] ts
  rcases nameF_sm he h1 with ⟨g2, k2⟩ | ⟨x2, r2, q2, g2, k2, h2, l2⟩
  · simp only [g2, k2]; exact RdS.no
  simp only [g2, k2]
  exact RdS.ok h2 (by omega)
omit hR in
theorem lvlF_bi (m : Nat) : Bi e b m lvlF lvlF := by
  intro ts ts' h hl
  unfold lvlF
  simp only [tkB_sm he [[114, 101, 97, 100], [117, 110, 99, 111, 109, 109, 105, 116, 116, 101, 100]] h]
  by_cases c1 : tkB [[114, 101, 97, 100], [117, 110, 99, 111, 109, 109, 105, 116, 116, 101, 100]] ts = true
  · simp only [c1, if_true]
    have h1 := tkR_sm he [[114, 101, 97, 100], [117, 110, 99, 111, 109, 109, 105, 116, 116, 101, 100]] h
    have l1 := tkR_ls c1 (by decide)
    exact RdS.ok h1 (by omega)
  · simp only [c1, if_false, Bool.false_eq_true]
    simp only [tkB_sm he [[114, 101, 97, 100], [99, 111, 109, 109, 105, 116, 116, 101, 100]] h]
    by_cases c2 : tkB [[114, 101, 97, 100], [99, 111, 109, 109, 105, 116, 116, 101, 100]] ts = true
    · simp only [c2, if_true]
      have h2 := tkR_sm he [[114, 101, 97, 100], [99, 111, 109, 109, 105, 116, 116, 101, 100]] h
      have l2 := tkR_ls c2 (by decide)
      exact RdS.ok h2 (by omega)
    · simp only [c2, if_false, Bool.false_eq_true]
      simp only [tkB_sm he [[114, 101, 112, 101, 97, 116, 97, 98, 108, 101], [114, 101, 97, 100]] h]
      by_cases c3 : tkB [[114, 101, 112, 101, 97, 116, 97, 98, 108, 101], [114, 101, 97, 100]] ts = true
      · simp only [c3, if_true]
        have h3 := tkR_sm he [[114, 101, 112, 101, 97, 116, 97, 98, 108, 101], [114, 101, 97, 100]] h
        have l3 := tkR_ls c3 (by decide)
        exact RdS.ok h3 (by omega)
      · simp only [c3, if_false, Bool.false_eq_true]
        rcases needF_sm he [[115, 101, 114, 105, 97, 108, 105, 122, 97, 98, 108, 101]] (by decide) h with ⟨g4, k4⟩ | ⟨r4, q4, g4, k4, h4, l4⟩
        · simp only [g4, k4]; exact RdS.no
        simp only [g4, k4]
        exact RdS.ok h4 (by omega)
omit hR in
theorem nmdF_bi (m : Nat) (op : List UInt8) : Bi e b m (nmdF op) (nmdF op) := by
  intro ts ts' h hl
  unfold nmdF
  rcases nameF_sm he h with ⟨g1, k1⟩ | ⟨x1, r1, q1, g1, k1, h1, l1⟩
  · simp only [g1, k1]; exact RdS.no
  simp only [g1, k1]
  exact RdS.ok h1 (by omega)
theorem eoqF_bi  : Bi e b m (eoqF R) (eoqF R') := by
  intro ts ts' h hl
  unfold eoqF
  simp only [tkB_sm he [[99, 111, 109, 109, 105, 116]] h]
  by_cases c1 : tkB [[99, 111, 109, 109, 105, 116]] ts = true
  · simp only [c1, if_true]
    have h1 := tkR_sm he [[99, 111, 109, 109, 105, 116]] h
    have l1 := tkR_ls c1 (by decide)
    exact RdS.ok h1 (by omega)
  · simp only [c1, if_false, Bool.false_eq_true]
    simp only [tkB_sm he [[114, 111, 108, 108, 98, 97, 99, 107], [116, 111]] h]
    by_cases c2 : tkB [[114, 111, 108, 108, 98, 97, 99, 107], [116, 111]] ts = true
    · simp only [c2, if_true]
      have h2 := tkR_sm he [[114, 111, 108, 108, 98, 97, 99, 107], [116, 111]] h
      have l2 := tkR_ls c2 (by decide)
      exact (savF_bi he m _ _ _ h2 (by omega)).mono (by omega)
    · simp only [c2, if_false, Bool.false_eq_true]
      simp only [tkB_sm he [[114, 111, 108, 108, 98, 97, 99, 107]] h]
      by_cases c3 : tkB [[114, 111, 108, 108, 98, 97, 99, 107]] ts = true
      · simp only [c3, if_true]
        have h3 := tkR_sm he [[114, 111, 108, 108, 98, 97, 99, 107]] h
        have l3 := tkR_ls c3 (by decide)
        exact RdS.ok h3 (by omega)
      · simp only [c3, if_false, Bool.false_eq_true]
        simp only [tkB_sm he [[115, 97, 118, 101, 112, 111, 105, 110, 116]] h]
        by_cases c4 : tkB [[115, 97, 118, 101, 112, 111, 105, 110, 116]] ts = true
        · simp only [c4, if_true]
          have h4 := tkR_sm he [[115, 97, 118, 101, 112, 111, 105, 110, 116]] h
          have l4 := tkR_ls c4 (by decide)
          exact (nmdF_bi he m _ _ _ h4 (by omega)).mono (by omega)
        · simp only [c4, if_false, Bool.false_eq_true]
          simp only [tkB_sm he [[114, 101, 108, 101, 97, 115, 101]] h]
          by_cases c5 : tkB [[114, 101, 108, 101, 97, 115, 101]] ts = true
          · simp only [c5, if_true]
            have h5 := tkR_sm he [[114, 101, 108, 101, 97, 115, 101]] h
            have l5 := tkR_ls c5 (by decide)
            exact (savF_bi he m _ _ _ h5 (by omega)).mono (by omega)
          · simp only [c5, if_false, Bool.false_eq_true]
            simp only [tkB_sm he [[115, 101, 116], [116, 114, 97, 110, 115, 97, 99, 116, 105, 111, 110], [105, 115, 111, 108, 97, 116, 105, 111, 110], [108, 101, 118, 101, 108]] h]
            by_cases c6 : tkB [[115, 101, 116], [116, 114, 97, 110, 115, 97, 99, 116, 105, 111, 110], [105, 115, 111, 108, 97, 116, 105, 111, 110], [108, 101, 118, 101, 108]] ts = true
            · simp only [c6, if_true]
              have h6 := tkR_sm he [[115, 101, 116], [116, 114, 97, 110, 115, 97, 99, 116, 105, 111, 110], [105, 115, 111, 108, 97, 116, 105, 111, 110], [108, 101, 118, 101, 108]] h
              have l6 := tkR_ls c6 (by decide)
              rcases lvlF_bi he m _ _ h6 (by omega) with ⟨g7, k7⟩ | ⟨x7, r7, q7, g7, k7, h7, l7⟩
              · exact Or.inl ⟨by simp only [g7], fun hb => by simp only [k7 hb]⟩
              simp only [g7, k7]
              exact RdS.ok h7 (by omega)
            · simp only [c6, if_false, Bool.false_eq_true]
              exact (qryF_bi he hR _ _ h (by omega)).mono (by omega)
theorem crtF_bi  : Bi e b m (crtF R) (crtF R') := by
  intro ts ts' h hl
  unfold crtF
  rcases nameF_sm he h with ⟨g1, k1⟩ | ⟨x1, r1, q1, g1, k1, h1, l1⟩
  · simp only [g1, k1]; exact RdS.no
  simp only [g1, k1]
  rcases parF_bi he (lsF_bi he (eleF_bi he hR)) _ _ h1 (by omega) with ⟨g2, k2⟩ | ⟨x2, r2, q2, g2, k2, h2, l2⟩
  · exact Or.inl ⟨by simp only [g2], fun hb => by simp only [k2 hb]⟩
  simp only [g2, k2]
  exact RdS.ok h2 (by omega)
theorem delF_bi  : Bi e b m (delF R) (delF R') := by
  intro ts ts' h hl
  unfold delF
  rcases nameF_sm he h with ⟨g1, k1⟩ | ⟨x1, r1, q1, g1, k1, h1, l1⟩
  · simp only [g1, k1]; exact RdS.no
  simp only [g1, k1]
  rcases whoF_bi he hR _ _ h1 (by omega) with ⟨g2, k2⟩ | ⟨x2, r2, q2, g2, k2, h2, l2⟩
  · exact Or.inl ⟨by simp only [g2], fun hb => by simp only [k2 hb]⟩
  simp only [g2, k2]
  exact RdS.ok h2 (by omega)
theorem sttF_bi  : Bi e b m (sttF R) (sttF R') := by
  intro ts ts' h hl
  unfold sttF
  simp only [tkB_sm he [[99, 114, 101, 97, 116, 101], [116, 97, 98, 108, 101]] h]
  by_cases c1 : tkB [[99, 114, 101, 97, 116, 101], [116, 97, 98, 108, 101]] ts = true
  · simp only [c1, if_true]
    have h1 := tkR_sm he [[99, 114, 101, 97, 116, 101], [116, 97, 98, 108, 101]] h
    have l1 := tkR_ls c1 (by decide)
    exact (crtF_bi he hR _ _ h1 (by omega)).mono (by omega)
  · simp only [c1, if_false, Bool.false_eq_true]
    simp only [tkB_sm he [[99, 114, 101, 97, 116, 101], [117, 110, 105, 113, 117, 101], [105, 110, 100, 101, 120]] h]
    by_cases c2 : tkB [[99, 114, 101, 97, 116, 101], [117, 110, 105, 113, 117, 101], [105, 110, 100, 101, 120]] ts = true
    · simp only [c2, if_true]
      have h2 := tkR_sm he [[99, 114, 101, 97, 116, 101], [117, 110, 105, 113, 117, 101], [105, 110, 100, 101, 120]] h
      have l2 := tkR_ls c2 (by decide)
      exact (cixF_bi he m 1 _ _ h2 (by omega)).mono (by omega)
    · simp only [c2, if_false, Bool.false_eq_true]
      simp only [tkB_sm he [[99, 114, 101, 97, 116, 101], [105, 110, 100, 101, 120]] h]
      by_cases c3 : tkB [[99, 114, 101, 97, 116, 101], [105, 110, 100, 101, 120]] ts = true
      · simp only [c3, if_true]
        have h3 := tkR_sm he [[99, 114, 101, 97, 116, 101], [105, 110, 100, 101, 120]] h
        have l3 := tkR_ls c3 (by decide)
        exact (cixF_bi he m 0 _ _ h3 (by omega)).mono (by omega)
      · simp only [c3, if_false, Bool.false_eq_true]
        simp only [tkB_sm he [[100, 114, 111, 112], [116, 97, 98, 108, 101]] h]
        by_cases c4 : tkB [[100, 114, 111, 112], [116, 97, 98, 108, 101]] ts = true
        · simp only [c4, if_true]
          have h4 := tkR_sm he [[100, 114, 111, 112], [116, 97, 98, 108, 101]] h
          have l4 := tkR_ls c4 (by decide)
          exact (nmdF_bi he m _ _ _ h4 (by omega)).mono (by omega)
        · simp only [c4, if_false, Bool.false_eq_true]
          simp only [tkB_sm he [[100, 114, 111, 112], [105, 110, 100, 101, 120]] h]
          by_cases c5 : tkB [[100, 114, 111, 112], [105, 110, 100, 101, 120]] ts = true
          · simp only [c5, if_true]
            have h5 := tkR_sm he [[100, 114, 111, 112], [105, 110, 100, 101, 120]] h
            have l5 := tkR_ls c5 (by decide)
            exact (nmdF_bi he m _ _ _ h5 (by omega)).mono (by omega)
          · simp only [c5, if_false, Bool.false_eq_true]
            simp only [tkB_sm he [[105, 110, 115, 101, 114, 116], [105, 110, 116, 111]] h]
            by_cases c6 : tkB [[105, 110, 115, 101, 114, 116], [105, 110, 116, 111]] ts = true
            · simp only [c6, if_true]
              have h6 := tkR_sm he [[105, 110, 115, 101, 114, 116], [105, 110, 116, 111]] h
              have l6 := tkR_ls c6 (by decide)
              exact (insF_bi he hR _ _ h6 (by omega)).mono (by omega)
            · simp only [c6, if_false, Bool.false_eq_true]
              simp only [tkB_sm he [[117, 112, 100, 97, 116, 101]] h]
              by_cases c7 : tkB [[117, 112, 100, 97, 116, 101]] ts = true
              · simp only [c7, if_true]
                have h7 := tkR_sm he [[117, 112, 100, 97, 116, 101]] h
                have l7 := tkR_ls c7 (by decide)
                exact (updF_bi he hR _ _ h7 (by omega)).mono (by omega)
              · simp only [c7, if_false, Bool.false_eq_true]
                simp only [tkB_sm he [[100, 101, 108, 101, 116, 101], [102, 114, 111, 109]] h]
                by_cases c8 : tkB [[100, 101, 108, 101, 116, 101], [102, 114, 111, 109]] ts = true
                · simp only [c8, if_true]
                  have h8 := tkR_sm he [[100, 101, 108, 101, 116, 101], [102, 114, 111, 109]] h
                  have l8 := tkR_ls c8 (by decide)
                  exact (delF_bi he hR _ _ h8 (by omega)).mono (by omega)
                · simp only [c8, if_false, Bool.false_eq_true]
                  simp only [tkB_sm he [[100, 101, 99, 108, 97, 114, 101]] h]
                  by_cases c9 : tkB [[100, 101, 99, 108, 97, 114, 101]] ts = true
                  · simp only [c9, if_true]
                    have h9 := tkR_sm he [[100, 101, 99, 108, 97, 114, 101]] h
                    have l9 := tkR_ls c9 (by decide)
                    exact (decF_bi he hR _ _ h9 (by omega)).mono (by omega)
                  · simp only [c9, if_false, Bool.false_eq_true]
                    simp only [tkB_sm he [[111, 112, 101, 110]] h]
                    by_cases c10 : tkB [[111, 112, 101, 110]] ts = true
                    · simp only [c10, if_true]
                      have h10 := tkR_sm he [[111, 112, 101, 110]] h
                      have l10 := tkR_ls c10 (by decide)
                      exact (nmdF_bi he m _ _ _ h10 (by omega)).mono (by omega)
                    · simp only [c10, if_false, Bool.false_eq_true]
                      simp only [tkB_sm he [[99, 108, 111, 115, 101]] h]
                      by_cases c11 : tkB [[99, 108, 111, 115, 101]] ts = true
                      · simp only [c11, if_true]
                        have h11 := tkR_sm he [[99, 108, 111, 115, 101]] h
                        have l11 := tkR_ls c11 (by decide)
                        exact (nmdF_bi he m _ _ _ h11 (by omega)).mono (by omega)
                      · simp only [c11, if_false, Bool.false_eq_true]
                        simp only [tkB_sm he [[102, 101, 116, 99, 104]] h]
                        by_cases c12 : tkB [[102, 101, 116, 99, 104]] ts = true
                        · simp only [c12, if_true]
                          have h12 := tkR_sm he [[102, 101, 116, 99, 104]] h
                          have l12 := tkR_ls c12 (by decide)
                          exact (fetF_bi he m _ _ h12 (by omega)).mono (by omega)
                        · simp only [c12, if_false, Bool.false_eq_true]
                          exact (eoqF_bi he hR _ _ h (by omega)).mono (by omega)
end Go.Proofs.YtbkeaajnhalekaaGreatDoor

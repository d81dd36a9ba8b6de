/- Two texts one behind the other; pure. -/
import Derived.Test.YtbkeaajnhalekaaGreatDoorS13
namespace Go.Proofs.YtbkeaajnhalekaaGreatDoor
set_option linter.unusedVariables false
set_option linter.unusedSimpArgs false

theorem scF_ok {s : List UInt8} {l : List Tok} : scF s = .ok l ↔ s.length ≤ 2000 ∧ tkN s.length 0 s = .ok l ∧ l.length ≤ 600 := by
  unfold scF
  by_cases h : 2000 < s.length
  · rw [if_pos h]
    constructor
    · intro e; cases e
    · intro e; omega
  · rw [if_neg h, scN_tk]
    constructor
    · rintro ⟨h1, h2⟩
      refine ⟨by omega, h1, ?_⟩
      rcases h2 with rfl | h2
      · simp
      · omega
    · rintro ⟨_, h1, h2⟩
      exact ⟨h1, Or.inr (by omega)⟩
theorem joined_ok {a b : List UInt8} {l m : List Tok} (ha : scF a = .ok l) (hb : scF b = .ok m) (h6 : l.length + m.length ≤ 600) (h2 : a.length + b.length + 1 ≤ 2000) : scF (a ++ 10 :: b) = .ok (l ++ m.map (Tok.sh (a.length + 1))) := by
  obtain ⟨_, ha1, _⟩ := scF_ok.1 ha
  obtain ⟨_, hb1, _⟩ := scF_ok.1 hb
  refine scF_ok.2 ⟨by simp; omega, ?_, by simp; omega⟩
  rw [tk_join ha1, hb1]
  rfl
theorem joined_fail {a b : List UInt8} {l : List Tok} {e : Nat} (ha : scF a = .ok l) (hb : scF b = .error e) : ∃ e', scF (a ++ 10 :: b) = .error e' := by
  cases hj : scF (a ++ 10 :: b) with
  | error e' => exact ⟨e', rfl⟩
  | ok n =>
    exfalso
    obtain ⟨h1, h2, h3⟩ := scF_ok.1 hj
    obtain ⟨_, ha1, _⟩ := scF_ok.1 ha
    rw [tk_join ha1] at h2
    cases ht : tkN b.length 0 b with
    | error e2 => rw [ht] at h2; cases h2
    | ok m =>
      rw [ht] at h2
      cases h2
      have : scF b = .ok m := scF_ok.2 ⟨by simp at h1; omega, ht, by simp at h3; omega⟩
      rw [this] at hb
      cases hb
theorem tkN_at : ∀ (f p : Nat) (r : List UInt8) (l : List Tok), tkN f p r = .ok l → ∀ t ∈ l, p ≤ t.at_ ∧ t.at_ < p + r.length := by
  intro f
  induction f with
  | zero => intro p r l h t ht; simp [tkN] at h; subst h; cases ht
  | succ f ih =>
    intro p r l h t ht
    simp only [tkN] at h
    split at h
    · cases h; cases ht
    · cases hs : stp r with
      | no e => rw [hs] at h; cases h
      | bl n =>
        rw [hs] at h
        have hn := stp_bl hs
        have := ih _ _ _ h t ht
        rw [List.length_drop] at this
        omega
      | tk k s v n =>
        rw [hs] at h
        have hn := stp_tk hs
        simp only at h
        split at h
        · cases h
        · rename_i l' hl'
          cases h
          rcases List.mem_cons.1 ht with rfl | ht
          · simp only
            omega
          · have := ih _ _ _ hl' t ht
            rw [List.length_drop] at this
            omega
theorem scF_at {s : List UInt8} {l : List Tok} (h : scF s = .ok l) : ∀ t ∈ l, t.at_ < s.length := fun t ht => by
  have := tkN_at _ _ _ _ (scF_ok.1 h).2.1 t ht
  omega
end Go.Proofs.YtbkeaajnhalekaaGreatDoor

/- Tokens stand where they say; pure. -/
import Derived.Test.YtifnmclidabkfaaDoorL13M
namespace Go.Proofs.YtifnmclidabkfaaDoor
open Go.RowKit
set_option linter.unusedVariables false
set_option linter.unusedSimpArgs false

/-- What is left to be read from a place on. -/
def Plc (s : ByteArray) (e : Nat) (L : List Tok) : Prop := e ≤ s.size ∧ ∃ f, (rest s e).length ≤ f ∧ tkN f e (rest s e) = .ok L
theorem Plc.start {s : ByteArray} {l : List Tok} (h : scF s.data.toList = .ok l) : Plc s 0 l := by
  obtain ⟨_, h1, _⟩ := scF_ok.1 h
  exact ⟨Nat.zero_le _, s.data.toList.length, by simp [rest], by simpa [rest] using h1⟩
theorem rest_drop (s : ByteArray) (e g : Nat) : (rest s e).drop g = rest s (e + g) := by
  unfold rest
  rw [List.drop_drop]
theorem Plc.next {s : ByteArray} {e : Nat} {t : Tok} {l' : List Tok} (h : Plc s e (t :: l')) (hs : s.size ≤ 2000) : e ≤ t.at_ ∧ t.at_ < s.size ∧ (∃ n, stp (rest s t.at_) = .tk t.k t.s t.n n ∧ Plc s (t.at_ + n) l') ∧ scF ((rest s e).take (t.at_ - e) ++ [10]) = .ok [] := by
  obtain ⟨he, f, hf, ht⟩ := h
  rcases tk_first f f e (rest s e) (t :: l') (by omega) hf ht with h0 | ⟨g, k, S, v, n, l2, hg, hl, hst, hr, hb⟩
  · cases h0
  · cases hl
    rw [rest_len] at hg
    rw [rest_drop] at hst
    have hn := stp_tk hst
    rw [rest_len] at hn
    refine ⟨by simp, by simp only; omega, ⟨n, hst, by simp only; omega, f, ?_, ?_⟩, ?_⟩
    · show (rest s (e + g + n)).length ≤ f
      rw [rest_len] at hf ⊢
      omega
    · rw [rest_drop] at hr
      rw [show e + g + n = e + (g + n) by omega] at hr ⊢
      exact hr
    · simp only
      rw [show e + g - e = g by omega]
      have hlen : ((rest s e).take g).length = g := by rw [List.length_take, rest_len]; omega
      have h0 : tkN ((rest s e).take g).length 0 ((rest s e).take g) = .ok [] := hb _ _ (by omega)
      refine scF_ok.2 ⟨by rw [List.length_append, hlen]; simp; omega, ?_, by simp⟩
      have := tk_join (b := []) h0
      rw [this]
      simp [tkN, Except.map]
theorem rest_gt (s : ByteArray) {i n : Nat} (h : i + n < s.size) : (rest s i)[n]? = some s[i + n] := by
  unfold rest
  rw [List.getElem?_drop]
  have : i + n < s.data.toList.length := by simpa using h
  rw [List.getElem?_eq_getElem this]
  rfl
theorem dg_bytes (s : ByteArray) (a : Nat) : ∀ j, j < ((rest s a).takeWhile isDg).length → ∃ h : a + j < s.size, isDg s[a + j] = true := by
  intro j hj
  have hl := tw_len isDg (rest s a)
  rw [rest_len] at hl
  have hlt : a + j < s.size := by omega
  refine ⟨hlt, ?_⟩
  have hm : s[a + j] ∈ (rest s a).takeWhile isDg := by
    have h1 := rest_gt s hlt
    rw [← tw_pre (p := isDg) (rest s a)]
    refine List.mem_iff_getElem?.2 ⟨j, ?_⟩
    rw [List.getElem?_take, if_pos hj, h1]
  exact tw_mem _ _ hm
theorem tw_next {p : UInt8 → Bool} : ∀ (r : List UInt8) (c : UInt8), r[(r.takeWhile p).length]? = some c → p c = false
  | [], c, h => by simp at h
  | d :: r, c, h => by
    rw [List.takeWhile_cons] at h
    split at h
    · rw [List.length_cons, List.getElem?_cons_succ] at h
      exact tw_next r c h
    · rename_i hd
      simp at h
      subst h
      simpa using hd
theorem dg_stop (s : ByteArray) (a : Nat) {n : Nat} (hn : n = ((rest s a).takeWhile isDg).length) (h : a + n < s.size) : isDg s[a + n] = false := by
  have h2 := rest_gt s h
  refine tw_next (rest s a) _ ?_
  rw [← hn]
  exact h2
end Go.Proofs.YtifnmclidabkfaaDoor

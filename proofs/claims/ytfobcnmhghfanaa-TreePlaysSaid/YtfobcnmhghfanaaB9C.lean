/- Nodes that are read: isLeaf, size, low, sort.Search, branchFor, entryFrom. -/
import Derived.Test.YtfobcnmhghfanaaB9B
import Derived.Shelf.Abstract
namespace Go.Proofs.Ytfobcnmhghfanaa
open Go.RowKit Go.Shelf
set_option linter.unusedVariables false
set_option linter.unusedSimpArgs false

/-- A pointer to a node. -/
abbrev pt (b : Nat) : Value := .pointer (some ⟨b, 0, none⟩)
theorem isLeaf_any {w : World} {b : Nat} {ve : Value} {ao : Option Addr} {n cap : Nat} (h : NodeC w b ve (.slice ao n cap)) (hn : n ≤ 100000) :
    Calls Try.prog 34 #[pt b] w fun e w' => e = .returned (.bool (decide (n = 0))) ∧ w' = w := by
  have c1 := h.c1
  have e1 : (((n : Int)) == 0) = decide (n = 0) := by
    by_cases e : n = 0
    · subst e; rfl
    · rw [decide_eq_false e]; simp; omega
  clear h
  go_enter Try.func34, Try.ntmps34
  go_wp2
  go_ret
  exact ⟨rfl, rfl⟩
theorem size_any {w : World} {b : Nat} {ao ao' : Option Addr} {n n' cap cap' : Nat} (h : NodeC w b (.slice ao n cap) (.slice ao' n' cap')) (hn : n ≤ 100000) (hn' : n' ≤ 100000) :
    Calls Try.prog 33 #[pt b] w fun e w' => e = .returned (.int .i64 ((n : Int) + n')) ∧ ∃ q, w' = w.drewN q := by
  have c0 := h.c0
  have c1 := h.c1
  have hw : IntKind.i64.wrap ((n : Int) + n') = (n : Int) + n' := by rw [IntKind.wrap_i64]; omega
  clear h
  go_enter Try.func33, Try.ntmps33
  go_wp2
  go_quiet (fail)
  go_wp2
  go_ret
  exact ⟨rfl, _, rfl⟩
theorem low_leaf {w : World} {b : Nat} {g n cap : Nat} {es : List E} {base : Nat} (h : NodeC w b (.slice (some ⟨g, 0, none⟩) n cap) (.slice none 0 0)) (hr : OwnE base w (.slice (some ⟨g, 0, none⟩) n cap) es) (hn : 0 < es.length) :
    Calls Try.prog 55 #[pt b] w fun e w' => e = .returned (.string es[0].key) ∧ w' = w := by
  obtain rfl := hr.len
  have hil := isLeaf_any h (by omega)
  have c0 := h.c0
  have c1 := h.c1
  have k0 : w.cell? ⟨g, 0, none⟩ = some (.string es[0].key) := by have := hr.cell (cE_len es) 0 hn 0 (by omega); simpa [cE] using this
  generalize es[0].key = key at *
  have hnz : (0 : Int) < (es.length : Int) := by omega
  clear h hr
  generalize es.length = n at *
  go_enter Try.func55, Try.ntmps55
  go_wp2_with (go_at_call 34; refine hil.mono ?_; clear hil; rintro e wx ⟨rfl, hwx⟩; rw [hwx]; clear hwx wx)
  go_ret
  exact ⟨rfl, rfl⟩
theorem low_inner {w : World} {b : Nat} {ve : Value} {g n cap : Nat} {bs : List Br} {base : Nat} (h : NodeC w b ve (.slice (some ⟨g, 0, none⟩) n cap)) (hr : OwnN base w (.slice (some ⟨g, 0, none⟩) n cap) bs) (hn : 0 < bs.length) (hn2 : bs.length ≤ 100000) :
    Calls Try.prog 55 #[pt b] w fun e w' => e = .returned (.string bs[0].1) ∧ w' = w := by
  obtain rfl := hr.len
  have hil := isLeaf_any h hn2
  rw [decide_eq_false (by omega)] at hil
  have c1 := h.c1
  have k0 : w.cell? ⟨g, 0, none⟩ = some (.string bs[0].1) := by have := hr.cell (cB_len bs) 0 hn 0 (by omega); simpa [cB] using this
  generalize bs[0].1 = key at *
  have hnz : (0 : Int) < (bs.length : Int) := by omega
  clear h hr
  generalize bs.length = n at *
  go_enter Try.func55, Try.ntmps55
  go_wp2_with (go_at_call 34; refine hil.mono ?_; clear hil; rintro e wx ⟨rfl, hwx⟩; rw [hwx]; clear hwx wx)
  go_ret
  exact ⟨rfl, rfl⟩
/-- What a search comes to. -/
structure Found (p : Nat → Bool) (n k : Nat) : Prop where
  le : k ≤ n
  lo : ∀ t, t < k → p t = false
  hi : ∀ t, k ≤ t → t < n → p t = true
set_option maxHeartbeats 2000000 in
set_option maxRecDepth 1000000 in
/-- sort.Search, of a function that only reads. -/
theorem search_any (g : Nat) (cb : Array Value) (n : Nat) (p : Nat → Bool) (w : World) (eg : Enters Try.prog g) (hsz : n ≤ 100000)
    (hf : ∀ (m : Nat) (i : Nat), i < n → Calls Try.prog g (#[.int .i64 i] ++ cb) (w.drewN m) fun e w' => e = .returned (.bool (p i)) ∧ ∃ q, w' = w.drewN q)
    (hmono : ∀ a b, a ≤ b → b < n → p a = true → p b = true) :
    Calls Try.prog 48 #[.int .i64 n, .func (.func g) #[] cb] w fun e w' => ∃ k q : Nat, e = .returned (.int .i64 k) ∧ w' = w.drewN q ∧ Found p n k := by
  have HF : Hid _ := hf
  have M : Hid _ := hmono
  unfold Enters at eg
  clear hf hmono
  go_enter Try.func48, Try.ntmps48
  go_wp2
  go_loopg [5, 6] n (fun kx s5 s6 wr => ∃ (lo hi q : Nat), s5 = .int .i64 lo ∧ s6 = .int .i64 hi ∧ lo ≤ hi ∧ hi ≤ n ∧ hi - lo ≤ kx ∧ wr = w.drewN q ∧
    Hid ((∀ t, t < lo → p t = false) ∧ (∀ t, hi ≤ t → t < n → p t = true)))
  case atStart => exact ⟨0, n, 0, rfl, rfl, Nat.zero_le _, Nat.le_refl _, by omega, rfl, ⟨fun t ht => absurd ht (Nat.not_lt_zero _), fun t h1 h2 => by omega⟩⟩
  case round =>
    obtain ⟨lo, hi, q, rfl, rfl, hlh, hin, hg, rfl, I⟩ := hrel
    by_cases hlt : lo < hi
    · have hc := HF.out q ((lo + hi) / 2) (by omega)
      rw [show (((lo + hi) / 2 : Nat) : Int) = ((lo : Int) + (hi : Int)) / 2 by omega] at hc
      cases hp : p ((lo + hi) / 2) <;> rw [hp] at hc
      · have HP : Hid (p ((lo + hi) / 2) = false) := hp
        clear hp
        go_wp2_with fail
        refine hc.mono ?_
        rintro e w' ⟨rfl, nq, rfl⟩
        go_wp2
        go_roundg (hi - ((lo + hi) / 2 + 1))
        case measure => omega
        case rel =>
          exact ⟨(lo + hi) / 2 + 1, hi, nq, by rw [show ((lo : Int) + (hi : Int)) / 2 + 1 = (((lo + hi) / 2 + 1 : Nat) : Int) by omega], rfl, by omega, hin, Nat.le_refl _, rfl, ⟨fun t ht => (by
            cases h : p t with
            | false => rfl
            | true => have := M.out t ((lo + hi) / 2) (by omega) (by omega) h; rw [HP.out] at this; cases this), I.out.2⟩⟩
      · have HP : Hid (p ((lo + hi) / 2) = true) := hp
        clear hp
        go_wp2_with fail
        refine hc.mono ?_
        rintro e w' ⟨rfl, nq, rfl⟩
        go_wp2
        go_roundg ((lo + hi) / 2 - lo)
        case measure => omega
        case rel =>
          exact ⟨lo, (lo + hi) / 2, nq, rfl, by rw [show ((lo : Int) + (hi : Int)) / 2 = (((lo + hi) / 2 : Nat) : Int) by omega], by omega, by omega, Nat.le_refl _, rfl, ⟨I.out.1, fun t ht htn => M.out ((lo + hi) / 2) t ht htn HP.out⟩⟩
    · obtain rfl : hi = lo := by omega
      have HI : Hid (Found p n hi) := ⟨hin, I.out.1, I.out.2⟩
      go_wp2
      go_ret
      exact ⟨hi, q, rfl, rfl, HI.out⟩
end Go.Proofs.Ytfobcnmhghfanaa
